/-
  Our own text, in the proofs of the laws of package disk (cayleylaw04). Proved here: rows of cells in memory: read, append, store; slices.Clone and inverseCell. Conditions: none but bounds.
-/
import Derived.Test.YtbcckfggnlmhoaaEa
import Derived.Test.YtbcckfggnlmhoaaAn
namespace Go.Proofs.Ytbcckfggnlmhoaa
open Go Go.RowKit

theorem Try.info61 : (Try.prog.info? 61).map (fun i => (i.zero, i.size, i.bytes)) = some (some (.agg #[.string ⟨#[]⟩, .int .i64 0, .bool false]), 3, 32) := by kernel_rfl

def cel3 (c : Cel) : List Value := [.string ⟨c.conj.toArray⟩, .int .i64 c.rel, .bool c.inv]
def cs3 (d : List Cel) : List Value := d.flatMap cel3
theorem cs3_cons (c : Cel) (d : List Cel) : cs3 (c :: d) = cel3 c ++ cs3 d := List.flatMap_cons
theorem cs3_app (d e : List Cel) : cs3 (d ++ e) = cs3 d ++ cs3 e := List.flatMap_append
theorem cs3_len (d : List Cel) : (cs3 d).length = d.length * 3 := by
  induction d with
  | nil => rfl
  | cons c d ih => rw [cs3_cons, List.length_append, ih]; simp [cel3]; omega
theorem cs3_get (d : List Cel) (i : Nat) (h : i < d.length) (j : Nat) (hj : j < 3) : (cs3 d)[i * 3 + j]? = (cel3 d[i])[j]? := by
  induction d generalizing i with
  | nil => simp at h
  | cons c d ih =>
    rw [cs3_cons]
    cases i with
    | zero => rw [List.getElem?_append_left (by simp [cel3]; omega)]; simp
    | succ i =>
      rw [List.getElem?_append_right (by simp [cel3]; omega), show (i + 1) * 3 + j - (cel3 c).length = i * 3 + j by simp [cel3]; omega, ih i (by simpa using h)]
      simp
theorem cs3_one (d : List Cel) : ∀ u ∈ cs3 d, u.oneCell' = true := by
  intro u hu
  simp only [cs3, List.mem_flatMap, cel3, List.mem_cons, List.not_mem_nil, or_false] at hu
  obtain ⟨c, _, rfl | rfl | rfl⟩ := hu <;> rfl
theorem cs3_set (d : List Cel) (k : Nat) (c : Cel) (h : k < d.length) : cs3 (d.set k c) = (((cs3 d).set (k * 3) (.string ⟨c.conj.toArray⟩)).set (k * 3 + 1) (.int .i64 c.rel)).set (k * 3 + 2) (.bool c.inv) := by
  induction d generalizing k with
  | nil => simp at h
  | cons x d ih =>
    cases k with
    | zero => rw [List.set_cons_zero, cs3_cons, cs3_cons]; simp [cel3]
    | succ k =>
      rw [List.set_cons_succ, cs3_cons, cs3_cons, ih k (by simpa using h)]
      have e : (cel3 x).length = 3 := rfl
      rw [show (k + 1) * 3 = (k * 3) + (cel3 x).length by rw [e]; omega, show k * 3 + (cel3 x).length + 1 = (k * 3 + 1) + (cel3 x).length by omega, show k * 3 + (cel3 x).length + 2 = (k * 3 + 2) + (cel3 x).length by omega]
      rw [List.set_append_right _ _ (by omega), List.set_append_right _ _ (by omega), List.set_append_right _ _ (by omega)]
      simp
theorem cs3_set0 (d : List Cel) (k : Nat) (u : List UInt8) (h : k < d.length) : cs3 (d.set k ⟨u, (d[k]).rel, (d[k]).inv⟩) = (cs3 d).set (k * 3) (.string ⟨u.toArray⟩) := by
  rw [cs3_set d k _ h]
  have g1 := cs3_get d k h 1 (by omega)
  have g2 := cs3_get d k h 2 (by omega)
  simp only [cel3, List.getElem?_cons_succ, List.getElem?_cons_zero] at g1 g2
  have l := cs3_len d
  apply List.ext_getElem?
  intro i
  simp only [List.getElem?_set, List.length_set]
  by_cases e2 : k * 3 + 2 = i
  · subst e2; rw [if_pos rfl, if_pos (by omega), if_neg (by omega), g2]
  · rw [if_neg e2]
    by_cases e1 : k * 3 + 1 = i
    · subst e1; rw [if_pos rfl, if_pos (by omega), if_neg (by omega), g1]
    · rw [if_neg e1]

/-- Conjugators of a size that a machine has. -/
def Sized (d : List Cel) : Prop := ∀ c ∈ d, c.conj.length ≤ 140737488351232
theorem cells_own {w : World} {B n cap : Nat} {A : Option Addr} {d : List Cel} (h : w.ownsRow B 61 3 (.slice A n cap) n (cs3 d)) (hs : Sized d) : CellsAt w A d := by
  intro i hi
  have hl : d.length = n := by have := h.1; rw [cs3_len] at this; omega
  rcases h.2 with ⟨h2, h3⟩ | ⟨g, c', cur, hv, hg, hh, hnc, hcm, hcs, ht⟩
  · omega
  · simp only [Value.slice.injEq, true_and] at hv
    obtain ⟨rfl, rfl⟩ := hv
    have key : ∀ j, j < 3 → w.cell? ⟨g, 0 + i * 3 + j, none⟩ = (cel3 d[i])[j]? := by
      intro j hj
      rw [cell_of_row w g (0 + i * 3 + j) cur 61 (0, 0) hh]
      have : (cur.toList.take (n * 3))[i * 3 + j]? = (cs3 d)[i * 3 + j]? := by rw [ht]
      rw [List.getElem?_take, if_pos (by omega), cs3_get d i hi j hj] at this
      rw [Nat.zero_add]; simpa using this
    exact ⟨g, 0, rfl, key 0 (by omega), key 1 (by omega), key 2 (by omega), hs _ (List.getElem_mem _)⟩

theorem cells_news {w : World} {ad : Addr} {d : List Cel} (h : CellsAt w (some ad) d) : ∀ j u, (cs3 d)[j]? = some u → w.cell? (ad.add j) = some u := by
  intro j u hu
  have hj : j < d.length * 3 := by
    rcases Nat.lt_or_ge j (cs3 d).length with h | h
    · rwa [cs3_len] at h
    · rw [List.getElem?_eq_none h] at hu; cases hu
  obtain ⟨b, o, he, hc⟩ := h (j / 3) (by omega)
  simp only [Option.some.injEq] at he
  subst he
  have hd : j = j / 3 * 3 + j % 3 := by omega
  rw [add_lit]
  rw [hd, cs3_get d (j / 3) (by omega) (j % 3) (by omega)] at hu
  have h3 : j % 3 = 0 ∨ j % 3 = 1 ∨ j % 3 = 2 := by omega
  rcases h3 with h3 | h3 | h3 <;> rw [h3] at hu hd <;> simp only [cel3, List.getElem?_cons_succ, List.getElem?_cons_zero] at hu <;> cases hu
  · rw [show o + j = o + j / 3 * 3 by omega]; exact hc.conj
  · rw [show o + j = o + j / 3 * 3 + 1 by omega]; exact hc.rel
  · rw [show o + j = o + j / 3 * 3 + 2 by omega]; exact hc.inv

/-- append(x, y...), cells. -/
theorem append_cells {ops : Array Oper} {rest : List Oper} {o : Oper} {a : Act} {Q : Exit → Act → World → Prop} (w : World) (hgd : o.guard = none) (s x : Operand)
    (ho : o.op = .call { callee := .builtin .append, args := #[s, x], argTypes := #[25, 25] })
    (B : Nat) (A : Option Addr) (n cap : Nat) (d e : List Cel) (hs : a.eval s = .slice A n cap) (hown : w.ownsRow B 61 3 (.slice A n cap) n (cs3 d))
    (ad : Addr) (c : Nat) (m : Nat) (hme : m = e.length) (hx : a.eval x = .slice (some ad) m c) (hm : CellsAt w (some ad) e) (hn : n + m ≤ 1000000000000) (hB : B ≤ w.heap.size)
    (h : ∀ A' cap' w', w'.ownsRow B 61 3 (.slice A' (n + m) cap') (n + m) (cs3 (d ++ e)) → w.grownBy w' (blk A) → Moved w A A' → wpList Try.prog ops Q rest (a.put o.dst (.slice A' (n + m) cap')) w') :
    wpList Try.prog ops Q (o :: rest) a w := by
  subst hme
  obtain ⟨i0, hi, hz0, hz1, hz2⟩ := info_parts Try.info61
  refine append_gen _ hgd s x 25 ho 61 i0 (.agg #[.string ⟨#[]⟩, .int .i64 0, .bool false]) 3 32 Try.underlying25 hi hz0 hz1 hz2 rfl (by decide) B A n cap (cs3 d) hs hown ad e.length c (cs3 e) hx (by rw [cs3_len]) (cells_news hm) (cs3_one e) (by unfold maxLen; omega) (by omega) hB ?_
  intro A' cap' w' hown' hgrow hm
  exact h A' cap' w' (by rw [cs3_app]; exact hown') hgrow hm

def CloneC (w : World) (d : List Cel) (e : Ending) (w' : World) : Prop :=
  ∃ A' cap', e = .returned (.slice A' d.length cap') ∧ w'.ownsRow w.heap.size 61 3 (.slice A' d.length cap') d.length (cs3 d) ∧ Below w.heap.size w w'

set_option maxHeartbeats 1000000 in
theorem CloneC_any (A : Option Addr) (cap : Nat) (d : List Cel) (w : World) (hl : CellsAt w A d) (hA : A = none → d = []) (hn : d.length ≤ 1000000000) :
    Calls Try.prog 49 #[.slice A d.length cap] w (CloneC w d) := by
  have he : ∀ wx, (binOp .eql 25 (.slice A d.length cap) (.slice none 0 0)).run Try.prog wx = .ok (.bool A.isNone) wx := fun wx => Lib.run_eql_slice_nil wx 25 61 A _ _ _ _ Try.underlying25
  cases A with
  | none =>
    obtain rfl := hA rfl
    have he2 : ∀ wx, (binOp .eql 25 (.slice none 0 cap) (.slice none 0 0)).run Try.prog wx = .ok (.bool true) wx := fun wx => Lib.run_eql_slice_nil wx 25 61 none _ _ _ _ Try.underlying25
    show Calls Try.prog 49 #[.slice none 0 cap] w (CloneC w [])
    clear hl hA he hn
    go_enter Try.func49, Try.ntmps49
    go_wp2
    go_ret
    exact ⟨none, 0, rfl, World.ownsRow_nil _ _ _ _, Below.refl _ _⟩
  | some ad =>
    have HL := Lib.hid hl
    have HO := Lib.hid (own_empty w w.heap.size 61 3 (Nat.le_refl _))
    have HB : Hid (Below w.heap.size w (w.alloc (.cells #[] 61))) := Lib.hid ((Below.refl _ _).alloc (Nat.le_refl _) _)
    clear hl hA
    go_enter Try.func49, Try.ntmps49
    go_wp2_with (at_builtin; refine append_cells (w.alloc (.cells #[] 61)) rfl (.tmp 5) (.tmp 6) rfl w.heap.size (some ⟨w.heap.size, 0, none⟩) 0 0 [] d rfl HO.out ad cap _ rfl rfl (HL.out.below HB.out) (by omega) (by simp) ?_; intro A' cap' w1 hown1 hg1 hm1)
    have H1 := Lib.hid hown1
    have B1 := Lib.hid (below_of_grown HB.out hg1 (by simp) (fun a ha => by cases ha; exact Nat.le_refl _))
    clear hown1 hg1 hm1
    go_wp2
    go_ret
    have h1 := H1.out
    simp only [Nat.zero_add, List.nil_append] at h1
    exact ⟨A', cap', by simp, h1, B1.out⟩
end Go.Proofs.Ytbcckfggnlmhoaa
