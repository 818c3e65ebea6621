/-
  Our own text, in the proofs of the laws of package rope. Proved here: rows of nodes that the call owns; slices.Clone. Conditions: the nodes lie in memory as the slice says.
-/
import Derived.Test.YtgklmcinbaghmaaGreatDoorRt
import Derived.WalkSpells
namespace Go.Proofs.YtgklmcinbaghmaaGreatDoor
open Go Go.RowKit

abbrev ncells (x : Nd) : List Value := [.string x.word, .int .i64 x.l, .int .i64 x.r, .int .i64 x.t]
/-- The cells of a row of nodes. -/
def nodesC (r : List Nd) : List Value := r.flatMap ncells
theorem nodesC_append (r s : List Nd) : nodesC (r ++ s) = nodesC r ++ nodesC s := by simp [nodesC]
theorem nodesC_len (r : List Nd) : (nodesC r).length = r.length * 4 := by
  induction r with
  | nil => rfl
  | cons x t ih =>
    have : nodesC (x :: t) = ncells x ++ nodesC t := by simp [nodesC]
    rw [this, List.length_append, ih]; simp; omega
theorem nodesC_get (r : List Nd) : ∀ i (h : i < r.length), ∀ o, o < 4 → (nodesC r)[i * 4 + o]? = (ncells r[i])[o]? := by
  induction r with
  | nil => intro i h; simp at h
  | cons x t ih =>
    intro i h o ho
    have e : nodesC (x :: t) = ncells x ++ nodesC t := by simp [nodesC]
    rw [e]
    cases i with
    | zero =>
      rw [Nat.zero_mul, Nat.zero_add, List.getElem?_append_left (by simp; omega)]
      rfl
    | succ i =>
      rw [List.getElem?_append_right (by simp; omega)]
      have : (i + 1) * 4 + o - (ncells x).length = i * 4 + o := by simp; omega
      rw [this]
      exact ih i (by simpa using h) o ho
theorem nodesC_one (r : List Nd) : ∀ u ∈ nodesC r, u.oneCell' = true := by
  intro u hu
  simp only [nodesC, List.mem_flatMap] at hu
  obtain ⟨x, _, hx⟩ := hu
  simp only [ncells, List.mem_cons, List.mem_nil_iff, or_false] at hx
  rcases hx with rfl | rfl | rfl | rfl <;> rfl

theorem Tryz.info68 : (Tryz.prog.info? 68).map (fun i => (i.zero, i.size, i.bytes)) = some (some (.agg #[.string ⟨#[]⟩, .int .i64 0, .int .i64 0, .int .i64 0]), 4, 40) := by kernel_rfl

theorem add_zero_of (a : Addr) : a.add 0 = a := by simp [Addr.add]
theorem add_off (a : Addr) (i o : Nat) (ho : o ≠ 0) : a.add (i * 4 + o) = ⟨(a.add (i * 4)).block, (a.add (i * 4)).off + o, none⟩ := by
  unfold Addr.add
  rw [if_neg (by omega)]
  by_cases h : i * 4 = 0
  · rw [if_pos h, h, Nat.zero_add]
  · rw [if_neg h]; simp [Nat.add_assoc]

/-- The nodes' cells, one by one. -/
theorem ropeAt_cells {w : World} {a : Addr} {r : List Nd} (h : RopeAt w (some a) r) : ∀ j u, (nodesC r)[j]? = some u → w.cell? (a.add j) = some u := by
  intro j u hu
  have hj : j < r.length * 4 := by
    rcases Nat.lt_or_ge j (nodesC r).length with h | h
    · rw [nodesC_len] at h; exact h
    · rw [List.getElem?_eq_none h] at hu; cases hu
  obtain ⟨i, o, hi, ho, rfl⟩ : ∃ i o, i < r.length ∧ o < 4 ∧ j = i * 4 + o := ⟨j / 4, j % 4, by omega, Nat.mod_lt _ (by omega), by omega⟩
  rw [nodesC_get r i hi o ho] at hu
  obtain ⟨a', ha, ⟨g0, g1, g2, g3⟩, _⟩ := h i hi
  obtain rfl : a = a' := Option.some.inj ha
  rw [← hu]
  match o, ho with
  | 0, _ => exact g0
  | 1, _ => rw [add_off a i 1 (by omega)]; exact g1
  | 2, _ => rw [add_off a i 2 (by omega)]; exact g2
  | 3, _ => rw [add_off a i 3 (by omega)]; exact g3

theorem add_head (g j : Nat) : (⟨g, 0, none⟩ : Addr).add j = ⟨g, j, none⟩ := by unfold Addr.add; split <;> simp_all

theorem ropeAt_own {w : World} {B cap : Nat} {A : Option Addr} {r : List Nd} (h : w.ownsRow B 68 4 (.slice A r.length cap) r.length (nodesC r)) (hs : ∀ x ∈ r, x.word.size ≤ maxLen) : RopeAt w A r := by
  intro i hi
  rcases h.2 with ⟨h2, h3⟩ | ⟨g', c', cur, hv, hg, hh, hnc, hcm, hcs, ht⟩
  · omega
  · simp only [Value.slice.injEq, true_and] at hv
    obtain ⟨rfl, rfl⟩ := hv
    refine ⟨_, rfl, ?_, hs _ (List.getElem_mem _)⟩
    rw [add_head]
    have c := fun o (ho : o < 4) => (h.cellAt (i * 4 + o) (by omega)).trans (nodesC_get r i hi o ho)
    exact ⟨c 0 (by omega), c 1 (by omega), c 2 (by omega), c 3 (by omega)⟩

/-- append of nodes to an own row. -/
theorem append_nodes {ops : Array Oper} {rest : List Oper} {o : Oper} {a : Act} {Q : Exit → Act → World → Prop} (w : World) (hgd : o.guard = none) (s x : Operand)
    (ho : o.op = .call { callee := .builtin .append, args := #[s, x], argTypes := #[22, 22] })
    (B : Nat) (A : Option Addr) (n cap : Nat) (r t : List Nd) (hs : a.eval s = .slice A n cap) (hown : w.ownsRow B 68 4 (.slice A n cap) n (nodesC r))
    (ad : Addr) (m c : Nat) (hx : a.eval x = .slice (some ad) m c) (hm : t.length = m) (hcells : ∀ j u, (nodesC t)[j]? = some u → w.cell? (ad.add j) = some u) (hn : n + m ≤ 1000000000) (hB : B ≤ w.heap.size)
    (h : ∀ A' cap' w', w'.ownsRow B 68 4 (.slice A' (n + m) cap') (n + m) (nodesC (r ++ t)) → Below B w w' → wpList Tryz.prog ops Q rest (a.put o.dst (.slice A' (n + m) cap')) w') :
    wpList Tryz.prog ops Q (o :: rest) a w := by
  obtain ⟨i0, hi, hz0, hz1, hz2⟩ := info_parts Tryz.info68
  refine wpList_append_own _ hgd s x 22 ho B 68 i0 (.agg #[.string ⟨#[]⟩, .int .i64 0, .int .i64 0, .int .i64 0]) 4 40 Tryz.underlying22 hi hz0 hz1 hz2 rfl (by decide) _ n (nodesC r) hs hown ad m c (nodesC t) hx (by rw [nodesC_len, hm]) hcells (nodesC_one t) (by unfold maxLen; omega) (by omega) hB ?_
  intro v' w' hown' hgrow _
  have hlt := hown.lt
  have hb : Below B w w' := (Below.refl B w).grown hgrow hB (fun k hk => (hlt k hk).1)
  rw [← nodesC_append] at hown'
  rcases hown'.2 with ⟨hv, hz⟩ | ⟨g, c', cur, rfl, _⟩
  · subst hv
    have h0 : n + m = 0 := hz
    rw [h0] at hown' h
    exact h none 0 w' hown' hb
  · exact h _ _ _ hown' hb

theorem own_empty (w : World) : (w.alloc (.cells #[] 68)).ownsRow w.heap.size 68 4 (.slice (some ⟨w.heap.size, 0, none⟩) 0 0) 0 (nodesC []) :=
  ⟨rfl, .inr ⟨w.heap.size, 0, #[], rfl, Nat.le_refl _, heap_alloc_new w _, Nat.le_refl _, Nat.zero_le _, rfl, rfl⟩⟩
/-- How Clone ends. -/
def CloneP (w : World) (r : List Nd) (e : Ending) (w' : World) : Prop :=
  ∃ A' cap', e = .returned (.slice A' r.length cap') ∧ w'.ownsRow w.heap.size 68 4 (.slice A' r.length cap') r.length (nodesC r) ∧ Below w.heap.size w w'

set_option maxHeartbeats 1000000 in
theorem Clone_any (A : Option Addr) (r : List Nd) (cap : Nat) (w : World) (hr : RopeAt w A r) (hA : A = none → r = []) (hn : r.length ≤ 4000) :
    Calls Tryz.prog 44 #[.slice A r.length cap] w (CloneP w r) := by
  have he := Lib.run_eql_slice_nil (P := Tryz.prog) (h := Tryz.underlying22) (t := 22) (e := 68)
  cases A with
  | none =>
    obtain rfl := hA rfl
    have he2 := fun w => he w none 0 cap 0 0
    have HE := Lib.hid he
    clear he hr hA
    go_enter Tryz.func44, Tryz.ntmps44
    go_wp2
    go_ret
    exact ⟨none, 0, rfl, World.ownsRow_nil _ _ _ _, Below.refl _ _⟩
  | some a =>
    have he2 := fun w => he w (some a) r.length cap 0 0
    have HC := Lib.hid (ropeAt_cells hr)
    have HR := Lib.hid hr
    clear he hr hA
    have HC2 : Hid (∀ j u, (nodesC r)[j]? = some u → (w.alloc (.cells #[] 68)).cell? (a.add j) = some u) := Lib.hid (ropeAt_cells (HR.out.on ((Below.refl _ w).alloc (Nat.le_refl _) _)))
    go_enter Tryz.func44, Tryz.ntmps44
    go_wp2_with (at_builtin; refine append_nodes (w.alloc (.cells #[] 68)) rfl (.tmp 5) (.tmp 6) rfl w.heap.size _ 0 0 [] r rfl (own_empty w) a r.length cap rfl rfl HC2.out (by omega) (by simp) ?_; intro A' cap' w2 hown2 hb2; simp only [Nat.zero_add, List.nil_append] at hown2; have HO2 := Lib.hid hown2; have HB2 := Lib.hid hb2; clear hown2 hb2)
    go_ret
    exact ⟨A', cap', by simp, HO2.out, ((Below.refl w.heap.size w).alloc (Nat.le_refl _) _).trans HB2.out⟩
end Go.Proofs.YtgklmcinbaghmaaGreatDoor
