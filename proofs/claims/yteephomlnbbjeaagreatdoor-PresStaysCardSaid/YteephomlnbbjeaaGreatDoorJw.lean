/-
  Our own text, in the proofs of the laws of package pres (cayleylaw03). Proved here: relation of the reader of package pres, also where it panics. Conditions: the arguments lie in memory as the slices say; bounds; the listed tables lie as the program lays them.
-/
import Derived.Test.YteephomlnbbjeaaGreatDoorJv
import Derived.RangeFuncBox
set_option linter.unusedVariables false
set_option linter.unusedSimpArgs false
set_option linter.unusedSectionVars false
namespace Go.Proofs.YteephomlnbbjeaaGreatDoor
open Go Go.RowKit Go.Shelf
attribute [local go_sem] Oper.semAt_some

theorem ownFrom_box {β : Type} (B' B : Nat) (t : TypeId) (v : Value) : OwnFrom B' (fun (_ : β) W => Boxed W B t v) := fun s X Y row hs hg hrow =>
  hs.kept hg (fun e' => by obtain ⟨_, o, ho, hc⟩ := hrow B e'.symm; rw [show X.heap[B]? = _ from hs] at ho; cases ho; cases hc)

theorem keeps_below {W W' : World} (h : Below W.heap.size W W') : KeepsOthers W W' := ⟨h.size, fun k o hk _ => (h.block k (Array.getElem?_eq_some_iff.1 hk).1).trans hk⟩
/-- A variable's box and the row that it holds, behind an append and the store. -/
theorem side_step {wA w2 : World} {n4 S n cap : Nat} {A : Option Addr} {xs ys : List Value} {v' : Value} {tmp : Obj} (hv : Boxed wA S 22 (.slice A n cap)) (hS : S < n4) (hrow : wA.ownsRow n4 9 1 (.slice A n cap) n xs) (hn : n4 ≤ wA.heap.size)
    (hown : w2.ownsRow n4 9 1 v' (n + 1) ys) (hg : (wA.alloc tmp).grownBy w2 (Value.slice A n cap).ownBlock) :
    Boxed w2 S 22 (.slice A n cap) ∧ Boxed (w2.setCell ⟨S, 0, none⟩ v') S 22 v' ∧ (w2.setCell ⟨S, 0, none⟩ v').ownsRow n4 9 1 v' (n + 1) ys ∧ KeepsOthers wA (w2.setCell ⟨S, 0, none⟩ v') ∧ Below S wA (w2.setCell ⟨S, 0, none⟩ v') ∧ ∀ k, k < n4 → k ≠ S → (w2.setCell ⟨S, 0, none⟩ v').heap[k]? = wA.heap[k]? := by
  obtain ⟨h1, h2, _, h4, h5⟩ := Boxed.appended hv (by decide) (own_base hrow (Nat.le_of_lt hS)) (by omega) (Nat.le_refl _) (own_base hown (Nat.le_of_lt hS)) hg
  refine ⟨h1, h2, hown.kept (grownBy_setCell' w2 S v') (.inr (h1.not_row (by decide) hown).symm), h4, h5, fun k hk hkS => ?_⟩
  rw [Below.heap_setCell w2 ⟨S, 0, none⟩ v' k (by simpa using hkS), hg.block k (by simp; omega) (fun e => ?_), Below.heap_alloc _ _ k (by omega)]
  have := (hrow.lt k e.symm).1
  omega

/-- An append of one string, as an operation of a region. -/
theorem stepIn_str {F : Fence} {n : Nat} {ops : Array Oper} {o : Oper} {a : Act} {K : Act → World → Prop} {Q : Exit → Act → World → Prop} {E : Prop} (w : World) (hgd : o.guard = none) (s x : Operand)
    (ho : o.op = .call { callee := .builtin .append, args := #[s, x], argTypes := #[22, 22] }) (B : Nat) (v : Value) (k : Nat) (xs : List Value) (hs : a.eval s = v) (hown : w.ownsRow B 9 1 v k xs) (ad : Addr) (u : List UInt8)
    (hx : a.eval x = .slice (some ad) 1 1) (hc : w.cell? ad = some (.string ⟨u.toArray⟩)) (hk : k + 1 ≤ 1000000) (hB : B ≤ w.heap.size)
    (hK : ∀ g cap w', w'.ownsRow B 9 1 (.slice (some ⟨g, 0, none⟩) (k + 1) cap) (k + 1) (xs ++ [.string ⟨u.toArray⟩]) → w.grownBy w' v.ownBlock → K (a.put o.dst (.slice (some ⟨g, 0, none⟩) (k + 1) cap)) w') :
    if Region.wanted o (yielded ops a.tmps) = true then Oper.wpIn F n Tryz.prog o a w K Q else E := by
  rw [if_pos (by simp [Region.wanted, hgd])]
  obtain ⟨i0, hi, hz0, hz1, hz2⟩ := info_parts Tryz.info9
  obtain ⟨v', w', hrun, r1, r2, _⟩ := run_append_own (P := Tryz.prog) w B 22 o.type 9 i0 (.string ⟨#[]⟩) 1 16 Tryz.underlying22 hi hz0 hz1 hz2 rfl (by decide) v k xs hown ad 1 1 [.string ⟨u.toArray⟩] rfl (fun j u' hu => by
    rcases j with _ | j
    · simp at hu; subst hu
      obtain ⟨b, o, sp⟩ := ad
      cases sp with
      | none => rw [add_lit]; exact hc
      | some p => unfold World.cell? at hc; split at hc <;> simp at hc
    · simp at hu) (by simp [Value.oneCell']) (by unfold maxLen; omega) (by omega) hB
  obtain ⟨g, cap, rfl⟩ := ownsRow_succ r1
  unfold Oper.wpIn
  refine ⟨by simp [Oper.about, ho, resolve, Target.leads, Sem.run_pure], ?_⟩
  rw [Oper.semAt_plain F _ _ (by rw [ho]; intro c hc'; cases hc')]
  simp [execOp, ho, resolve, invoke, builtin, hs, hx, hrun, Result.andThen]
  exact hK g cap w' r1 r2
/-- What the rounds of a relation keep. -/
def RelI (names : List UInt8) (V : List UInt8 → List UInt8) (w : World) (B : Nat) (pre : List (List UInt8)) (W : World) : Prop :=
  ((∃ v, Boxed W (w.heap.size + 1) 22 v ∧ W.ownsRow (w.heap.size + 4) 9 1 v pre.length (ss (pre.map V)) ∧ True) ∧ Boxed W w.heap.size 147 (.pointer (some ⟨B, 0, none⟩))) ∧ Below w.heap.size w W ∧ w.heap.size + 4 ≤ W.heap.size ∧ ∀ x ∈ pre, ExprIs names x (V x)
theorem RelI.own (names : List UInt8) (V : List UInt8 → List UInt8) (w : World) (B B' : Nat) (hB : w.heap.size ≤ B') : OwnFrom B' (RelI names V w B) :=
  (((holdsRow_own (w.heap.size + 4) (w.heap.size + 1) 22 9 1 List.length (fun pre => ss (pre.map V)) (fun _ _ => True)).from B').and (ownFrom_box B' _ _ _)).and ((ownFrom_below (Nat.le_refl _) hB).and (fun _ _ _ _ hs hg _ => ⟨Nat.le_trans hs.1 hg.size, hs.2⟩))
def RelP (names : List UInt8) (l : List UInt8) (w : World) (chain : List PanicEntry) (W : World) : Prop := chain = leaves 4 ∧ (∃ x ∈ sepL 61 l, renF names x = none) ∧ Below w.heap.size w W
theorem RelP.own (names l : List UInt8) (w : World) (B' : Nat) (hB : w.heap.size ≤ B') : OwnFrom B' (RelP names l w) := fun s X Y row hs hg hrow =>
  ⟨hs.1, hs.2.1, hs.2.2.grown hg hs.2.2.size (fun k e => Nat.le_trans hB (hrow k e).1)⟩

def relV (V : List UInt8 → List UInt8) (Q : List UInt8) : List (List UInt8) → List UInt8
  | [a] => V a
  | _ => Q

set_option maxHeartbeats 4000000 in
set_option maxRecDepth 100000 in
theorem relation_in (B : Nat) (names l : List UInt8) (V : List UInt8 → List UInt8) (Q : List UInt8) (w : World) (ht : Tabs w) (hn0 : 1 ≤ names.length) (hn : names.length ≤ 8) (hl : l.length ≤ 100000) (hc : w.cell? ⟨B, 0, none⟩ = some (.string ⟨names.toArray⟩))
    (h2 : w.cell? ⟨B, 2, none⟩ = some (.bool false)) (f2 : w.frozen? ⟨B, 2, none⟩ = false) (hV : ∀ x ∈ sepL 61 l, ExprIs names x (V x) ∨ renF names x = none) (hV2 : ∀ x ∈ sepL 61 l, (V x).length ≤ 100000) (h0 : sepL 61 l ≠ []) (hx2 : (sepL 61 l).length ≤ 2)
    (hQ : ∀ a b, sepL 61 l = [a, b] → ∀ X, Below w.heap.size w X → Calls Tryz.prog 149 #[.string ⟨(V a).toArray⟩, .string ⟨(V b).toArray⟩] X fun e w' => e = .returned (.string ⟨Q.toArray⟩) ∧ Below X.heap.size X w') :
    CallsIn Fence.wide 6 Tryz.prog 112 #[.pointer (some ⟨B, 0, none⟩), .string ⟨l.toArray⟩] w fun e w' => Below w.heap.size w w' ∧ ((e = .returned (.string ⟨(relV V Q (sepL 61 l)).toArray⟩) ∧ ∀ x ∈ sepL 61 l, ExprIs names x (V x)) ∨ (e = .panicked (leaves 4) ∧ ∃ x ∈ sepL 61 l, renF names x = none)) := by
  have hB : B < w.heap.size := lt_of_cell hc
  have HT := Lib.hid ht
  have HB := Lib.hid hB
  have HC := Lib.hid (And.intro hc (And.intro h2 f2))
  have HV := Lib.hid hV
  have HV2 := Lib.hid hV2
  have HQ := Lib.hid hQ
  have HX2 := Lib.hid (And.intro h0 hx2)
  have HL := Lib.hid (sepL_len 61 l)
  have HN := Lib.hid (And.intro hn0 (And.intro hn hl))
  have HW0 := Lib.hid (Boxed.new w 147 (.pointer (some ⟨B, 0, none⟩)))
  clear ht hc h2 f2 hV hV2 hQ h0 hx2 hn0 hn
  refine callsIn_of_on Tryz.func112 rfl ?_
  simp only [Tryz.ntmps112, List.size_toArray, List.length_cons, List.length_nil, Nat.reduceAdd, Nat.reduceSub, Array.replicate_succ, Array.replicate_zero, List.push_toArray, List.append_toArray, List.nil_append, List.cons_append]
  refine On.seq (On.of ?_)
  gi_wp2_with fail
  refine On.seq (On.of ?_)
  gi_wp2_with fail
  refine On.seq (On.seq (On.of ?_))
  gi_wp2_with fail
  refine ⟨trivial, ?_⟩
  gi_at_call 108
  refine (callsIn_wide.2 (separated_any ⟨l.toArray⟩ 61 _)).mono ?_
  rintro e1 w1 ⟨rfl, rfl⟩
  gi_wp2_with fail
  refine On.block ?_
  obtain ⟨W0, hW0⟩ : ∃ X, X = ((((w.alloc (.cells #[.pointer (some ⟨B, 0, none⟩)] 147)).alloc (.cells #[.slice none 0 0] 22)).alloc (.cells #[.string ⟨l.toArray⟩] 9)).alloc (.cells #[.int .u8 61] 5)) := ⟨_, rfl⟩
  rw [← hW0]
  have hs0 : W0.heap.size = w.heap.size + 4 := by rw [hW0]; simp
  have hbx0 : Boxed W0 w.heap.size 147 (.pointer (some ⟨B, 0, none⟩)) := by rw [hW0]; exact (((Boxed.new w 147 _).alloc _).alloc _).alloc _
  have hbs0 : Boxed W0 (w.heap.size + 1) 22 (.slice none 0 0) := by
    rw [hW0]
    have h := Boxed.new (w.alloc (.cells #[.pointer (some ⟨B, 0, none⟩)] 147)) 22 (.slice none 0 0)
    rw [World.size_alloc] at h
    exact (h.alloc _).alloc _
  have k1 : W0.cell? ⟨w.heap.size + 1 + 1, 0, none⟩ = some (.string ⟨l.toArray⟩) := by
    rw [hW0]
    have h := Boxed.new ((w.alloc (.cells #[.pointer (some ⟨B, 0, none⟩)] 147)).alloc (.cells #[.slice none 0 0] 22)) 9 (.string ⟨l.toArray⟩)
    rw [World.size_alloc, World.size_alloc] at h
    exact (h.alloc _).cell
  have k2 : W0.cell? ⟨w.heap.size + 1 + 1 + 1, 0, none⟩ = some (.int .u8 (61 : UInt8).toNat) := by
    rw [hW0]
    have h := Boxed.new (((w.alloc (.cells #[.pointer (some ⟨B, 0, none⟩)] 147)).alloc (.cells #[.slice none 0 0] 22)).alloc (.cells #[.string ⟨l.toArray⟩] 9)) 5 (.int .u8 61)
    rw [World.size_alloc, World.size_alloc, World.size_alloc] at h
    exact h.cell
  have hb0 : Below w.heap.size w W0 := by
    rw [hW0]
    exact ((((Below.refl _ w).alloc (Nat.le_refl _) _).alloc (by simp) _).alloc (by simp; omega) _).alloc (by simp; omega) _
  have HS0 := Lib.hid hs0
  have HI0 : Hid (RelI names V w B [] W0) := Lib.hid ⟨⟨⟨_, hbs0, World.ownsRow_nil _ _ _ _, trivial⟩, hbx0⟩, hb0, by omega, fun x hx => by cases hx⟩
  clear hW0 hbx0 hbs0 hb0
  refine On.range_panics (P := Tryz.prog) Tryz.func112 (gf := 146) (lb := #[.pointer (some ⟨w.heap.size + 1 + 1, 0, none⟩), .pointer (some ⟨w.heap.size + 1 + 1 + 1, 0, none⟩)]) rfl (enters_of Tryz.func146 (by kernel_rfl) rfl)
    (sep_seq 5 (by decide) ⟨l.toArray⟩ (by rw [size_mk]; omega) 61 (w.heap.size + 1 + 1) W0 k1 k2 (by omega))
    (fun h k => h.trans k) (fun W l o o' hl _ _ _ => KpB.putObj W l o o' (by omega)) (Below.refl _ _) (fun _ => rfl)
    (RelI names V w B) (RelP names l w) (RelI.own names V w B _ (by omega)) HI0.out
    (fun x => { tmps := #[.pointer (some ⟨B, 0, none⟩), .string ⟨l.toArray⟩, .pointer (some ⟨w.heap.size, 0, none⟩), undef, .string ⟨#[]⟩, .pointer (some ⟨w.heap.size + 1, 0, none⟩), .string ⟨x.toArray⟩, .string ⟨l.toArray⟩, .func (.func 146) #[] #[.pointer (some ⟨w.heap.size + 1 + 1, 0, none⟩), .pointer (some ⟨w.heap.size + 1 + 1 + 1, 0, none⟩)], .string ⟨x.toArray⟩, undef, undef, undef, undef, undef, undef, undef, undef, undef, undef, undef, undef, undef, undef, undef, undef, undef, undef, undef, undef, undef, undef, undef], defers := [] })
    ?hassign ?hbody ?hdone ?hpanic
  case hassign =>
    intro l' x W K hK
    have HK := Lib.hid hK
    clear hK
    unfold strA
    gi_wp2
    exact HK.out
  case hbody =>
    rintro l' pre x post W hx ⟨⟨⟨v, hv, hrow, -⟩, hbx⟩, hb, hbz, hall⟩
    have hxm : x ∈ sepL 61 l := by rw [hx]; simp
    have hpl : pre.length < 2 := by have h := HX2.out.2; rw [hx] at h; simp at h; omega
    have hxl := HL.out x hxm
    have hvl := HV2.out x hxm
    obtain ⟨A, cap, rfl⟩ : ∃ A cap, v = .slice A pre.length cap := by
      rcases hrow.2 with ⟨h1, h2⟩ | ⟨g, cap, cur, h1, _⟩
      · exact ⟨none, 0, by rw [h1, h2]⟩
      · exact ⟨_, cap, h1⟩
    have c1 := hv.cell
    have f1 := hv.frozen
    have c2 := hbx.cell
    have hd : decide ((pre.length : Int) < 2) = true := by simp; omega
    have HALL := Lib.hid hall
    have HBX := Lib.hid hbx
    have HBW := Lib.hid hb
    have HV1 := Lib.hid hv
    have HROW := Lib.hid hrow
    have HTW := Lib.hid (HT.out.on hb.drew)
    have HCW : Hid (W.cell? ⟨B, 0, none⟩ = some (.string ⟨names.toArray⟩) ∧ W.cell? ⟨B, 2, none⟩ = some (.bool false) ∧ W.frozen? ⟨B, 2, none⟩ = false) := Lib.hid ⟨(hb.cell (p := ⟨B, 0, none⟩) HB.out).trans HC.out.1, (hb.cell (p := ⟨B, 2, none⟩) HB.out).trans HC.out.2.1, (hb.frozen (p := ⟨B, 2, none⟩) HB.out).trans HC.out.2.2⟩
    have HN0 := HN.out
    rcases HV.out x hxm with hok | hbad
    · have HE := Lib.hid (expr_ok B names x (V x) W.drew HTW.out HN0.1 HN0.2.1 (by omega) HCW.out.1 HCW.out.2.1 HCW.out.2.2 hok)
      have hsz : w.heap.size + 4 ≤ W.heap.size := hbz
      have HCA : Hid (∀ wA, Below W.drew.heap.size W.drew wA → wA.cell? ⟨w.heap.size + 1, 0, none⟩ = some (.slice A pre.length cap) ∧ (wA.alloc (.cells #[.string ⟨(V x).toArray⟩] 9)).cell? ⟨w.heap.size + 1, 0, none⟩ = some (.slice A pre.length cap)) := Lib.hid (fun wA hbA => by
        have h1 : wA.cell? ⟨w.heap.size + 1, 0, none⟩ = some (.slice A pre.length cap) := (hbA.cell (p := ⟨w.heap.size + 1, 0, none⟩) (lt_of_cell c1)).trans c1
        exact ⟨h1, (((Below.refl _ wA).alloc (Nat.le_refl _) _).cell (p := ⟨w.heap.size + 1, 0, none⟩) (lt_of_cell h1)).trans h1⟩)
      have HFIN : Hid (∀ wA g2 cap2 w2, Below W.drew.heap.size W.drew wA → w2.ownsRow (w.heap.size + 4) 9 1 (.slice (some ⟨g2, 0, none⟩) (pre.length + 1) cap2) (pre.length + 1) (ss (pre.map V) ++ [.string ⟨(V x).toArray⟩]) →
          (wA.alloc (.cells #[.string ⟨(V x).toArray⟩] 9)).grownBy w2 (Value.slice A pre.length cap).ownBlock →
          w2.cell? ⟨w.heap.size + 1, 0, none⟩ = some (.slice A pre.length cap) ∧ w2.frozen? ⟨w.heap.size + 1, 0, none⟩ = false ∧
          (KeepsOthers W (w2.setCell ⟨w.heap.size + 1, 0, none⟩ (.slice (some ⟨g2, 0, none⟩) (pre.length + 1) cap2)) ∧ KpB (w.heap.size + 1 + 1) W (w2.setCell ⟨w.heap.size + 1, 0, none⟩ (.slice (some ⟨g2, 0, none⟩) (pre.length + 1) cap2)) ∧
            RelI names V w B (pre ++ [x]) (w2.setCell ⟨w.heap.size + 1, 0, none⟩ (.slice (some ⟨g2, 0, none⟩) (pre.length + 1) cap2)))) := Lib.hid (fun wA g2 cap2 w2 hbA hown2 hg2 => by
        have hbA' : Below W.heap.size W wA := ((Below.refl _ W).drew).trans hbA
        obtain ⟨z1, z2, z3, z4, z5, z6⟩ := side_step ((hbA'.block _ HV1.out.lt).trans HV1.out) (show w.heap.size + 1 < w.heap.size + 4 by omega) (own_on HROW.out hbA') (by have := hbA'.size; omega) hown2 hg2
        have hb5 : Below w.heap.size w (w2.setCell ⟨w.heap.size + 1, 0, none⟩ (.slice (some ⟨g2, 0, none⟩) (pre.length + 1) cap2)) := (HBW.out.trans (hbA'.mono (by omega))).trans (z5.mono (by omega))
        refine ⟨z1.cell, z1.frozen, (keeps_below hbA').trans z4, ⟨?_, ?_⟩, ⟨⟨⟨_, z2, ?_, trivial⟩, ?_⟩, hb5, ?_, ?_⟩⟩
        · exact (cell_blk (z6 _ (by omega) (by omega)) 0).trans (hbA'.cell (p := ⟨w.heap.size + 1 + 1, 0, none⟩) (by simp; omega))
        · exact (cell_blk (z6 _ (by omega) (by omega)) 0).trans (hbA'.cell (p := ⟨w.heap.size + 1 + 1 + 1, 0, none⟩) (by simp; omega))
        · rw [List.length_append, List.length_singleton, List.map_append, ss_append]; exact z3
        · exact (z6 w.heap.size (by omega) (by omega)).trans ((hbA'.block _ HBX.out.lt).trans HBX.out)
        · have h1 := z4.size; have h2 := hbA'.size; omega
        · intro y hy
          rcases List.mem_append.1 hy with h | h
          · exact HALL.out y h
          · simp at h; subst h; exact hok)
      clear hb hv hrow hbx hall
      gi_wp2_with fail
      refine ⟨trivial, ?_⟩
      gi_at_call 107
      refine (callsIn_wide.2 (must_yes _)).mono ?_
      rintro e w' ⟨rfl, rfl⟩
      gi_wp2_with fail
      refine wpIn_region_any (by kernel_rfl) ?_
      change wpAnyIn _ _ _ _ _ _ _ _ _ W.drew
      refine wpAnyIn_ready (rs := [0, 1, 2]) (by kernel_rfl) (by simp) ?_
      refine AllReadyIn.cons rfl (fun K hK => ?_) (AllReadyIn.cons rfl (fun K hK => ?_) (AllReadyIn.cons rfl (fun K hK => ?_) (AllReadyIn.nil)))
      · go_simp
        refine hK _ _ ?_
        clear hK K
        refine wpAnyIn_ready (rs := [1, 2]) (by kernel_rfl) (by simp) ?_
        refine AllReadyIn.cons rfl (fun K hK => ?_) (AllReadyIn.cons rfl (fun K hK => ?_) (AllReadyIn.nil))
        · go_simp
          refine hK _ _ ?_
          clear hK K
          refine wpAnyIn_ready (rs := [2]) (by kernel_rfl) (by simp) ?_
          refine AllReadyIn.cons rfl (fun K hK => ?_) (AllReadyIn.nil)
          · go_simp
            refine hK _ _ ?_
            clear hK K
            refine wpAnyIn_ready (rs := [3]) (by kernel_rfl) (by simp) ?_
            refine AllReadyIn.cons rfl (fun K hK => ?_) (AllReadyIn.nil)
            · go_simp
              gi_wp2_with fail
              refine ⟨trivial, ?_⟩
              gi_at_call 148
              refine (callsIn_wide.2 HE.out).mono ?_
              rintro e wA ⟨rfl, hbA⟩
              obtain ⟨c1A, c1B⟩ := HCA.out wA hbA
              have HBA := Lib.hid hbA
              clear hbA
              refine hK _ _ ?_
              clear hK K
              refine wpAnyIn_ready (rs := [4]) (by kernel_rfl) (by simp) ?_
              refine AllReadyIn.cons rfl (fun K hK => ?_) (AllReadyIn.nil)
              · go_simp
                refine hK _ _ ?_
                clear hK K
                refine wpAnyIn_ready (rs := [5]) (by kernel_rfl) (by simp) ?_
                refine AllReadyIn.cons rfl (fun K hK => ?_) (AllReadyIn.nil)
                · refine stepIn_str (wA.alloc (.cells #[.string ⟨(V x).toArray⟩] 9)) rfl (.tmp 14) (.tmp 18) rfl (w.heap.size + 4) (.slice A pre.length cap) pre.length (ss (pre.map V)) rfl ((own_on (w := W.drew) HROW.out HBA.out).alloc _) ⟨wA.heap.size, 0, none⟩ (V x) rfl (Boxed.new wA 9 (.string ⟨(V x).toArray⟩)).cell (by omega) (by have := HBA.out.size; simp at this ⊢; omega) ?_
                  intro g2 cap2 w2 hown2 hg2
                  obtain ⟨c1C, f1C, hz⟩ := HFIN.out wA g2 cap2 w2 HBA.out hown2 hg2
                  have HZ := Lib.hid hz
                  clear hz hown2 hg2
                  refine hK _ _ ?_
                  clear hK K
                  refine wpAnyIn_ready (rs := [6]) (by kernel_rfl) (by simp) ?_
                  refine AllReadyIn.cons rfl (fun K hK => ?_) (AllReadyIn.nil)
                  · go_simp
                    refine hK _ _ ?_
                    clear hK K
                    refine wpAnyIn_done (by kernel_rfl) ?_ _
                    exact HZ.out
        · go_simp
          refine hK _ _ ?_
          clear hK K
          refine wpAnyIn_ready (rs := [1]) (by kernel_rfl) (by simp) ?_
          refine AllReadyIn.cons rfl (fun K hK => ?_) (AllReadyIn.nil)
          · go_simp
            refine hK _ _ ?_
            clear hK K
            refine wpAnyIn_ready (rs := [3]) (by kernel_rfl) (by simp) ?_
            refine AllReadyIn.cons rfl (fun K hK => ?_) (AllReadyIn.nil)
            · go_simp
              gi_wp2_with fail
              refine ⟨trivial, ?_⟩
              gi_at_call 148
              refine (callsIn_wide.2 HE.out).mono ?_
              rintro e wA ⟨rfl, hbA⟩
              obtain ⟨c1A, c1B⟩ := HCA.out wA hbA
              have HBA := Lib.hid hbA
              clear hbA
              refine hK _ _ ?_
              clear hK K
              refine wpAnyIn_ready (rs := [4]) (by kernel_rfl) (by simp) ?_
              refine AllReadyIn.cons rfl (fun K hK => ?_) (AllReadyIn.nil)
              · go_simp
                refine hK _ _ ?_
                clear hK K
                refine wpAnyIn_ready (rs := [5]) (by kernel_rfl) (by simp) ?_
                refine AllReadyIn.cons rfl (fun K hK => ?_) (AllReadyIn.nil)
                · refine stepIn_str (wA.alloc (.cells #[.string ⟨(V x).toArray⟩] 9)) rfl (.tmp 14) (.tmp 18) rfl (w.heap.size + 4) (.slice A pre.length cap) pre.length (ss (pre.map V)) rfl ((own_on (w := W.drew) HROW.out HBA.out).alloc _) ⟨wA.heap.size, 0, none⟩ (V x) rfl (Boxed.new wA 9 (.string ⟨(V x).toArray⟩)).cell (by omega) (by have := HBA.out.size; simp at this ⊢; omega) ?_
                  intro g2 cap2 w2 hown2 hg2
                  obtain ⟨c1C, f1C, hz⟩ := HFIN.out wA g2 cap2 w2 HBA.out hown2 hg2
                  have HZ := Lib.hid hz
                  clear hz hown2 hg2
                  refine hK _ _ ?_
                  clear hK K
                  refine wpAnyIn_ready (rs := [6]) (by kernel_rfl) (by simp) ?_
                  refine AllReadyIn.cons rfl (fun K hK => ?_) (AllReadyIn.nil)
                  · go_simp
                    refine hK _ _ ?_
                    clear hK K
                    refine wpAnyIn_done (by kernel_rfl) ?_ _
                    exact HZ.out
      · go_simp
        refine hK _ _ ?_
        clear hK K
        refine wpAnyIn_ready (rs := [0, 2]) (by kernel_rfl) (by simp) ?_
        refine AllReadyIn.cons rfl (fun K hK => ?_) (AllReadyIn.cons rfl (fun K hK => ?_) (AllReadyIn.nil))
        · go_simp
          refine hK _ _ ?_
          clear hK K
          refine wpAnyIn_ready (rs := [2]) (by kernel_rfl) (by simp) ?_
          refine AllReadyIn.cons rfl (fun K hK => ?_) (AllReadyIn.nil)
          · go_simp
            refine hK _ _ ?_
            clear hK K
            refine wpAnyIn_ready (rs := [3]) (by kernel_rfl) (by simp) ?_
            refine AllReadyIn.cons rfl (fun K hK => ?_) (AllReadyIn.nil)
            · go_simp
              gi_wp2_with fail
              refine ⟨trivial, ?_⟩
              gi_at_call 148
              refine (callsIn_wide.2 HE.out).mono ?_
              rintro e wA ⟨rfl, hbA⟩
              obtain ⟨c1A, c1B⟩ := HCA.out wA hbA
              have HBA := Lib.hid hbA
              clear hbA
              refine hK _ _ ?_
              clear hK K
              refine wpAnyIn_ready (rs := [4]) (by kernel_rfl) (by simp) ?_
              refine AllReadyIn.cons rfl (fun K hK => ?_) (AllReadyIn.nil)
              · go_simp
                refine hK _ _ ?_
                clear hK K
                refine wpAnyIn_ready (rs := [5]) (by kernel_rfl) (by simp) ?_
                refine AllReadyIn.cons rfl (fun K hK => ?_) (AllReadyIn.nil)
                · refine stepIn_str (wA.alloc (.cells #[.string ⟨(V x).toArray⟩] 9)) rfl (.tmp 14) (.tmp 18) rfl (w.heap.size + 4) (.slice A pre.length cap) pre.length (ss (pre.map V)) rfl ((own_on (w := W.drew) HROW.out HBA.out).alloc _) ⟨wA.heap.size, 0, none⟩ (V x) rfl (Boxed.new wA 9 (.string ⟨(V x).toArray⟩)).cell (by omega) (by have := HBA.out.size; simp at this ⊢; omega) ?_
                  intro g2 cap2 w2 hown2 hg2
                  obtain ⟨c1C, f1C, hz⟩ := HFIN.out wA g2 cap2 w2 HBA.out hown2 hg2
                  have HZ := Lib.hid hz
                  clear hz hown2 hg2
                  refine hK _ _ ?_
                  clear hK K
                  refine wpAnyIn_ready (rs := [6]) (by kernel_rfl) (by simp) ?_
                  refine AllReadyIn.cons rfl (fun K hK => ?_) (AllReadyIn.nil)
                  · go_simp
                    refine hK _ _ ?_
                    clear hK K
                    refine wpAnyIn_done (by kernel_rfl) ?_ _
                    exact HZ.out
        · go_simp
          refine hK _ _ ?_
          clear hK K
          refine wpAnyIn_ready (rs := [0, 3]) (by kernel_rfl) (by simp) ?_
          refine AllReadyIn.cons rfl (fun K hK => ?_) (AllReadyIn.cons rfl (fun K hK => ?_) (AllReadyIn.nil))
          · go_simp
            refine hK _ _ ?_
            clear hK K
            refine wpAnyIn_ready (rs := [3]) (by kernel_rfl) (by simp) ?_
            refine AllReadyIn.cons rfl (fun K hK => ?_) (AllReadyIn.nil)
            · go_simp
              gi_wp2_with fail
              refine ⟨trivial, ?_⟩
              gi_at_call 148
              refine (callsIn_wide.2 HE.out).mono ?_
              rintro e wA ⟨rfl, hbA⟩
              obtain ⟨c1A, c1B⟩ := HCA.out wA hbA
              have HBA := Lib.hid hbA
              clear hbA
              refine hK _ _ ?_
              clear hK K
              refine wpAnyIn_ready (rs := [4]) (by kernel_rfl) (by simp) ?_
              refine AllReadyIn.cons rfl (fun K hK => ?_) (AllReadyIn.nil)
              · go_simp
                refine hK _ _ ?_
                clear hK K
                refine wpAnyIn_ready (rs := [5]) (by kernel_rfl) (by simp) ?_
                refine AllReadyIn.cons rfl (fun K hK => ?_) (AllReadyIn.nil)
                · refine stepIn_str (wA.alloc (.cells #[.string ⟨(V x).toArray⟩] 9)) rfl (.tmp 14) (.tmp 18) rfl (w.heap.size + 4) (.slice A pre.length cap) pre.length (ss (pre.map V)) rfl ((own_on (w := W.drew) HROW.out HBA.out).alloc _) ⟨wA.heap.size, 0, none⟩ (V x) rfl (Boxed.new wA 9 (.string ⟨(V x).toArray⟩)).cell (by omega) (by have := HBA.out.size; simp at this ⊢; omega) ?_
                  intro g2 cap2 w2 hown2 hg2
                  obtain ⟨c1C, f1C, hz⟩ := HFIN.out wA g2 cap2 w2 HBA.out hown2 hg2
                  have HZ := Lib.hid hz
                  clear hz hown2 hg2
                  refine hK _ _ ?_
                  clear hK K
                  refine wpAnyIn_ready (rs := [6]) (by kernel_rfl) (by simp) ?_
                  refine AllReadyIn.cons rfl (fun K hK => ?_) (AllReadyIn.nil)
                  · go_simp
                    refine hK _ _ ?_
                    clear hK K
                    refine wpAnyIn_done (by kernel_rfl) ?_ _
                    exact HZ.out
          · go_simp
            gi_wp2_with fail
            refine ⟨trivial, ?_⟩
            gi_at_call 148
            refine (callsIn_wide.2 HE.out).mono ?_
            rintro e wA ⟨rfl, hbA⟩
            obtain ⟨c1A, c1B⟩ := HCA.out wA hbA
            have HBA := Lib.hid hbA
            clear hbA
            refine hK _ _ ?_
            clear hK K
            refine wpAnyIn_ready (rs := [0, 4]) (by kernel_rfl) (by simp) ?_
            refine AllReadyIn.cons rfl (fun K hK => ?_) (AllReadyIn.cons rfl (fun K hK => ?_) (AllReadyIn.nil))
            · go_simp
              refine hK _ _ ?_
              clear hK K
              refine wpAnyIn_ready (rs := [4]) (by kernel_rfl) (by simp) ?_
              refine AllReadyIn.cons rfl (fun K hK => ?_) (AllReadyIn.nil)
              · go_simp
                refine hK _ _ ?_
                clear hK K
                refine wpAnyIn_ready (rs := [5]) (by kernel_rfl) (by simp) ?_
                refine AllReadyIn.cons rfl (fun K hK => ?_) (AllReadyIn.nil)
                · refine stepIn_str (wA.alloc (.cells #[.string ⟨(V x).toArray⟩] 9)) rfl (.tmp 14) (.tmp 18) rfl (w.heap.size + 4) (.slice A pre.length cap) pre.length (ss (pre.map V)) rfl ((own_on (w := W.drew) HROW.out HBA.out).alloc _) ⟨wA.heap.size, 0, none⟩ (V x) rfl (Boxed.new wA 9 (.string ⟨(V x).toArray⟩)).cell (by omega) (by have := HBA.out.size; simp at this ⊢; omega) ?_
                  intro g2 cap2 w2 hown2 hg2
                  obtain ⟨c1C, f1C, hz⟩ := HFIN.out wA g2 cap2 w2 HBA.out hown2 hg2
                  have HZ := Lib.hid hz
                  clear hz hown2 hg2
                  refine hK _ _ ?_
                  clear hK K
                  refine wpAnyIn_ready (rs := [6]) (by kernel_rfl) (by simp) ?_
                  refine AllReadyIn.cons rfl (fun K hK => ?_) (AllReadyIn.nil)
                  · go_simp
                    refine hK _ _ ?_
                    clear hK K
                    refine wpAnyIn_done (by kernel_rfl) ?_ _
                    exact HZ.out
            · go_simp
              refine hK _ _ ?_
              clear hK K
              refine wpAnyIn_ready (rs := [0]) (by kernel_rfl) (by simp) ?_
              refine AllReadyIn.cons rfl (fun K hK => ?_) (AllReadyIn.nil)
              · go_simp
                refine hK _ _ ?_
                clear hK K
                refine wpAnyIn_ready (rs := [5]) (by kernel_rfl) (by simp) ?_
                refine AllReadyIn.cons rfl (fun K hK => ?_) (AllReadyIn.nil)
                · refine stepIn_str (wA.alloc (.cells #[.string ⟨(V x).toArray⟩] 9)) rfl (.tmp 14) (.tmp 18) rfl (w.heap.size + 4) (.slice A pre.length cap) pre.length (ss (pre.map V)) rfl ((own_on (w := W.drew) HROW.out HBA.out).alloc _) ⟨wA.heap.size, 0, none⟩ (V x) rfl (Boxed.new wA 9 (.string ⟨(V x).toArray⟩)).cell (by omega) (by have := HBA.out.size; simp at this ⊢; omega) ?_
                  intro g2 cap2 w2 hown2 hg2
                  obtain ⟨c1C, f1C, hz⟩ := HFIN.out wA g2 cap2 w2 HBA.out hown2 hg2
                  have HZ := Lib.hid hz
                  clear hz hown2 hg2
                  refine hK _ _ ?_
                  clear hK K
                  refine wpAnyIn_ready (rs := [6]) (by kernel_rfl) (by simp) ?_
                  refine AllReadyIn.cons rfl (fun K hK => ?_) (AllReadyIn.nil)
                  · go_simp
                    refine hK _ _ ?_
                    clear hK K
                    refine wpAnyIn_done (by kernel_rfl) ?_ _
                    exact HZ.out
      · go_simp
        refine hK _ _ ?_
        clear hK K
        refine wpAnyIn_ready (rs := [0, 1]) (by kernel_rfl) (by simp) ?_
        refine AllReadyIn.cons rfl (fun K hK => ?_) (AllReadyIn.cons rfl (fun K hK => ?_) (AllReadyIn.nil))
        · go_simp
          refine hK _ _ ?_
          clear hK K
          refine wpAnyIn_ready (rs := [1]) (by kernel_rfl) (by simp) ?_
          refine AllReadyIn.cons rfl (fun K hK => ?_) (AllReadyIn.nil)
          · go_simp
            refine hK _ _ ?_
            clear hK K
            refine wpAnyIn_ready (rs := [3]) (by kernel_rfl) (by simp) ?_
            refine AllReadyIn.cons rfl (fun K hK => ?_) (AllReadyIn.nil)
            · go_simp
              gi_wp2_with fail
              refine ⟨trivial, ?_⟩
              gi_at_call 148
              refine (callsIn_wide.2 HE.out).mono ?_
              rintro e wA ⟨rfl, hbA⟩
              obtain ⟨c1A, c1B⟩ := HCA.out wA hbA
              have HBA := Lib.hid hbA
              clear hbA
              refine hK _ _ ?_
              clear hK K
              refine wpAnyIn_ready (rs := [4]) (by kernel_rfl) (by simp) ?_
              refine AllReadyIn.cons rfl (fun K hK => ?_) (AllReadyIn.nil)
              · go_simp
                refine hK _ _ ?_
                clear hK K
                refine wpAnyIn_ready (rs := [5]) (by kernel_rfl) (by simp) ?_
                refine AllReadyIn.cons rfl (fun K hK => ?_) (AllReadyIn.nil)
                · refine stepIn_str (wA.alloc (.cells #[.string ⟨(V x).toArray⟩] 9)) rfl (.tmp 14) (.tmp 18) rfl (w.heap.size + 4) (.slice A pre.length cap) pre.length (ss (pre.map V)) rfl ((own_on (w := W.drew) HROW.out HBA.out).alloc _) ⟨wA.heap.size, 0, none⟩ (V x) rfl (Boxed.new wA 9 (.string ⟨(V x).toArray⟩)).cell (by omega) (by have := HBA.out.size; simp at this ⊢; omega) ?_
                  intro g2 cap2 w2 hown2 hg2
                  obtain ⟨c1C, f1C, hz⟩ := HFIN.out wA g2 cap2 w2 HBA.out hown2 hg2
                  have HZ := Lib.hid hz
                  clear hz hown2 hg2
                  refine hK _ _ ?_
                  clear hK K
                  refine wpAnyIn_ready (rs := [6]) (by kernel_rfl) (by simp) ?_
                  refine AllReadyIn.cons rfl (fun K hK => ?_) (AllReadyIn.nil)
                  · go_simp
                    refine hK _ _ ?_
                    clear hK K
                    refine wpAnyIn_done (by kernel_rfl) ?_ _
                    exact HZ.out
        · go_simp
          refine hK _ _ ?_
          clear hK K
          refine wpAnyIn_ready (rs := [0, 3]) (by kernel_rfl) (by simp) ?_
          refine AllReadyIn.cons rfl (fun K hK => ?_) (AllReadyIn.cons rfl (fun K hK => ?_) (AllReadyIn.nil))
          · go_simp
            refine hK _ _ ?_
            clear hK K
            refine wpAnyIn_ready (rs := [3]) (by kernel_rfl) (by simp) ?_
            refine AllReadyIn.cons rfl (fun K hK => ?_) (AllReadyIn.nil)
            · go_simp
              gi_wp2_with fail
              refine ⟨trivial, ?_⟩
              gi_at_call 148
              refine (callsIn_wide.2 HE.out).mono ?_
              rintro e wA ⟨rfl, hbA⟩
              obtain ⟨c1A, c1B⟩ := HCA.out wA hbA
              have HBA := Lib.hid hbA
              clear hbA
              refine hK _ _ ?_
              clear hK K
              refine wpAnyIn_ready (rs := [4]) (by kernel_rfl) (by simp) ?_
              refine AllReadyIn.cons rfl (fun K hK => ?_) (AllReadyIn.nil)
              · go_simp
                refine hK _ _ ?_
                clear hK K
                refine wpAnyIn_ready (rs := [5]) (by kernel_rfl) (by simp) ?_
                refine AllReadyIn.cons rfl (fun K hK => ?_) (AllReadyIn.nil)
                · refine stepIn_str (wA.alloc (.cells #[.string ⟨(V x).toArray⟩] 9)) rfl (.tmp 14) (.tmp 18) rfl (w.heap.size + 4) (.slice A pre.length cap) pre.length (ss (pre.map V)) rfl ((own_on (w := W.drew) HROW.out HBA.out).alloc _) ⟨wA.heap.size, 0, none⟩ (V x) rfl (Boxed.new wA 9 (.string ⟨(V x).toArray⟩)).cell (by omega) (by have := HBA.out.size; simp at this ⊢; omega) ?_
                  intro g2 cap2 w2 hown2 hg2
                  obtain ⟨c1C, f1C, hz⟩ := HFIN.out wA g2 cap2 w2 HBA.out hown2 hg2
                  have HZ := Lib.hid hz
                  clear hz hown2 hg2
                  refine hK _ _ ?_
                  clear hK K
                  refine wpAnyIn_ready (rs := [6]) (by kernel_rfl) (by simp) ?_
                  refine AllReadyIn.cons rfl (fun K hK => ?_) (AllReadyIn.nil)
                  · go_simp
                    refine hK _ _ ?_
                    clear hK K
                    refine wpAnyIn_done (by kernel_rfl) ?_ _
                    exact HZ.out
          · go_simp
            gi_wp2_with fail
            refine ⟨trivial, ?_⟩
            gi_at_call 148
            refine (callsIn_wide.2 HE.out).mono ?_
            rintro e wA ⟨rfl, hbA⟩
            obtain ⟨c1A, c1B⟩ := HCA.out wA hbA
            have HBA := Lib.hid hbA
            clear hbA
            refine hK _ _ ?_
            clear hK K
            refine wpAnyIn_ready (rs := [0, 4]) (by kernel_rfl) (by simp) ?_
            refine AllReadyIn.cons rfl (fun K hK => ?_) (AllReadyIn.cons rfl (fun K hK => ?_) (AllReadyIn.nil))
            · go_simp
              refine hK _ _ ?_
              clear hK K
              refine wpAnyIn_ready (rs := [4]) (by kernel_rfl) (by simp) ?_
              refine AllReadyIn.cons rfl (fun K hK => ?_) (AllReadyIn.nil)
              · go_simp
                refine hK _ _ ?_
                clear hK K
                refine wpAnyIn_ready (rs := [5]) (by kernel_rfl) (by simp) ?_
                refine AllReadyIn.cons rfl (fun K hK => ?_) (AllReadyIn.nil)
                · refine stepIn_str (wA.alloc (.cells #[.string ⟨(V x).toArray⟩] 9)) rfl (.tmp 14) (.tmp 18) rfl (w.heap.size + 4) (.slice A pre.length cap) pre.length (ss (pre.map V)) rfl ((own_on (w := W.drew) HROW.out HBA.out).alloc _) ⟨wA.heap.size, 0, none⟩ (V x) rfl (Boxed.new wA 9 (.string ⟨(V x).toArray⟩)).cell (by omega) (by have := HBA.out.size; simp at this ⊢; omega) ?_
                  intro g2 cap2 w2 hown2 hg2
                  obtain ⟨c1C, f1C, hz⟩ := HFIN.out wA g2 cap2 w2 HBA.out hown2 hg2
                  have HZ := Lib.hid hz
                  clear hz hown2 hg2
                  refine hK _ _ ?_
                  clear hK K
                  refine wpAnyIn_ready (rs := [6]) (by kernel_rfl) (by simp) ?_
                  refine AllReadyIn.cons rfl (fun K hK => ?_) (AllReadyIn.nil)
                  · go_simp
                    refine hK _ _ ?_
                    clear hK K
                    refine wpAnyIn_done (by kernel_rfl) ?_ _
                    exact HZ.out
            · go_simp
              refine hK _ _ ?_
              clear hK K
              refine wpAnyIn_ready (rs := [0]) (by kernel_rfl) (by simp) ?_
              refine AllReadyIn.cons rfl (fun K hK => ?_) (AllReadyIn.nil)
              · go_simp
                refine hK _ _ ?_
                clear hK K
                refine wpAnyIn_ready (rs := [5]) (by kernel_rfl) (by simp) ?_
                refine AllReadyIn.cons rfl (fun K hK => ?_) (AllReadyIn.nil)
                · refine stepIn_str (wA.alloc (.cells #[.string ⟨(V x).toArray⟩] 9)) rfl (.tmp 14) (.tmp 18) rfl (w.heap.size + 4) (.slice A pre.length cap) pre.length (ss (pre.map V)) rfl ((own_on (w := W.drew) HROW.out HBA.out).alloc _) ⟨wA.heap.size, 0, none⟩ (V x) rfl (Boxed.new wA 9 (.string ⟨(V x).toArray⟩)).cell (by omega) (by have := HBA.out.size; simp at this ⊢; omega) ?_
                  intro g2 cap2 w2 hown2 hg2
                  obtain ⟨c1C, f1C, hz⟩ := HFIN.out wA g2 cap2 w2 HBA.out hown2 hg2
                  have HZ := Lib.hid hz
                  clear hz hown2 hg2
                  refine hK _ _ ?_
                  clear hK K
                  refine wpAnyIn_ready (rs := [6]) (by kernel_rfl) (by simp) ?_
                  refine AllReadyIn.cons rfl (fun K hK => ?_) (AllReadyIn.nil)
                  · go_simp
                    refine hK _ _ ?_
                    clear hK K
                    refine wpAnyIn_done (by kernel_rfl) ?_ _
                    exact HZ.out
    · have HE := Lib.hid (expr_bad B names x W.drew HTW.out HN0.2.1 (by omega) HCW.out.1 hbad)
      have HBD : Hid (∀ wA, Below W.drew.heap.size W.drew wA → (KeepsOthers W wA ∧ RelP names l w (leaves 4) wA)) := Lib.hid (fun wA hbA => by
        have hbA' : Below W.heap.size W wA := ((Below.refl _ W).drew).trans hbA
        exact ⟨keeps_below hbA', rfl, ⟨x, hxm, hbad⟩, HBW.out.trans (hbA'.mono HBW.out.size)⟩)
      clear hb hv hrow hbx hall
      gi_wp2_with fail
      refine ⟨trivial, ?_⟩
      gi_at_call 107
      refine (callsIn_wide.2 (must_yes _)).mono ?_
      rintro e w' ⟨rfl, rfl⟩
      gi_wp2_with fail
      refine wpIn_region_any (by kernel_rfl) ?_
      change wpAnyIn _ _ _ _ _ _ _ _ _ W.drew
      refine wpAnyIn_ready (rs := [0, 1, 2]) (by kernel_rfl) (by simp) ?_
      refine AllReadyIn.cons rfl (fun K hK => ?_) (AllReadyIn.cons rfl (fun K hK => ?_) (AllReadyIn.cons rfl (fun K hK => ?_) (AllReadyIn.nil)))
      · go_simp
        refine hK _ _ ?_
        clear hK K
        refine wpAnyIn_ready (rs := [1, 2]) (by kernel_rfl) (by simp) ?_
        refine AllReadyIn.cons rfl (fun K hK => ?_) (AllReadyIn.cons rfl (fun K hK => ?_) (AllReadyIn.nil))
        · go_simp
          refine hK _ _ ?_
          clear hK K
          refine wpAnyIn_ready (rs := [2]) (by kernel_rfl) (by simp) ?_
          refine AllReadyIn.cons rfl (fun K hK => ?_) (AllReadyIn.nil)
          · go_simp
            refine hK _ _ ?_
            clear hK K
            refine wpAnyIn_ready (rs := [3]) (by kernel_rfl) (by simp) ?_
            refine AllReadyIn.cons rfl (fun K hK => ?_) (AllReadyIn.nil)
            · go_simp
              gi_wp2_with fail
              refine ⟨trivial, ?_⟩
              gi_at_call 148
              refine (callsIn_wide.2 HE.out).mono ?_
              rintro e wA ⟨rfl, hbA⟩
              exact ⟨rfl, HBD.out wA hbA⟩
        · go_simp
          refine hK _ _ ?_
          clear hK K
          refine wpAnyIn_ready (rs := [1]) (by kernel_rfl) (by simp) ?_
          refine AllReadyIn.cons rfl (fun K hK => ?_) (AllReadyIn.nil)
          · go_simp
            refine hK _ _ ?_
            clear hK K
            refine wpAnyIn_ready (rs := [3]) (by kernel_rfl) (by simp) ?_
            refine AllReadyIn.cons rfl (fun K hK => ?_) (AllReadyIn.nil)
            · go_simp
              gi_wp2_with fail
              refine ⟨trivial, ?_⟩
              gi_at_call 148
              refine (callsIn_wide.2 HE.out).mono ?_
              rintro e wA ⟨rfl, hbA⟩
              exact ⟨rfl, HBD.out wA hbA⟩
      · go_simp
        refine hK _ _ ?_
        clear hK K
        refine wpAnyIn_ready (rs := [0, 2]) (by kernel_rfl) (by simp) ?_
        refine AllReadyIn.cons rfl (fun K hK => ?_) (AllReadyIn.cons rfl (fun K hK => ?_) (AllReadyIn.nil))
        · go_simp
          refine hK _ _ ?_
          clear hK K
          refine wpAnyIn_ready (rs := [2]) (by kernel_rfl) (by simp) ?_
          refine AllReadyIn.cons rfl (fun K hK => ?_) (AllReadyIn.nil)
          · go_simp
            refine hK _ _ ?_
            clear hK K
            refine wpAnyIn_ready (rs := [3]) (by kernel_rfl) (by simp) ?_
            refine AllReadyIn.cons rfl (fun K hK => ?_) (AllReadyIn.nil)
            · go_simp
              gi_wp2_with fail
              refine ⟨trivial, ?_⟩
              gi_at_call 148
              refine (callsIn_wide.2 HE.out).mono ?_
              rintro e wA ⟨rfl, hbA⟩
              exact ⟨rfl, HBD.out wA hbA⟩
        · go_simp
          refine hK _ _ ?_
          clear hK K
          refine wpAnyIn_ready (rs := [0, 3]) (by kernel_rfl) (by simp) ?_
          refine AllReadyIn.cons rfl (fun K hK => ?_) (AllReadyIn.cons rfl (fun K hK => ?_) (AllReadyIn.nil))
          · go_simp
            refine hK _ _ ?_
            clear hK K
            refine wpAnyIn_ready (rs := [3]) (by kernel_rfl) (by simp) ?_
            refine AllReadyIn.cons rfl (fun K hK => ?_) (AllReadyIn.nil)
            · go_simp
              gi_wp2_with fail
              refine ⟨trivial, ?_⟩
              gi_at_call 148
              refine (callsIn_wide.2 HE.out).mono ?_
              rintro e wA ⟨rfl, hbA⟩
              exact ⟨rfl, HBD.out wA hbA⟩
          · go_simp
            gi_wp2_with fail
            refine ⟨trivial, ?_⟩
            gi_at_call 148
            refine (callsIn_wide.2 HE.out).mono ?_
            rintro e wA ⟨rfl, hbA⟩
            exact ⟨rfl, HBD.out wA hbA⟩
      · go_simp
        refine hK _ _ ?_
        clear hK K
        refine wpAnyIn_ready (rs := [0, 1]) (by kernel_rfl) (by simp) ?_
        refine AllReadyIn.cons rfl (fun K hK => ?_) (AllReadyIn.cons rfl (fun K hK => ?_) (AllReadyIn.nil))
        · go_simp
          refine hK _ _ ?_
          clear hK K
          refine wpAnyIn_ready (rs := [1]) (by kernel_rfl) (by simp) ?_
          refine AllReadyIn.cons rfl (fun K hK => ?_) (AllReadyIn.nil)
          · go_simp
            refine hK _ _ ?_
            clear hK K
            refine wpAnyIn_ready (rs := [3]) (by kernel_rfl) (by simp) ?_
            refine AllReadyIn.cons rfl (fun K hK => ?_) (AllReadyIn.nil)
            · go_simp
              gi_wp2_with fail
              refine ⟨trivial, ?_⟩
              gi_at_call 148
              refine (callsIn_wide.2 HE.out).mono ?_
              rintro e wA ⟨rfl, hbA⟩
              exact ⟨rfl, HBD.out wA hbA⟩
        · go_simp
          refine hK _ _ ?_
          clear hK K
          refine wpAnyIn_ready (rs := [0, 3]) (by kernel_rfl) (by simp) ?_
          refine AllReadyIn.cons rfl (fun K hK => ?_) (AllReadyIn.cons rfl (fun K hK => ?_) (AllReadyIn.nil))
          · go_simp
            refine hK _ _ ?_
            clear hK K
            refine wpAnyIn_ready (rs := [3]) (by kernel_rfl) (by simp) ?_
            refine AllReadyIn.cons rfl (fun K hK => ?_) (AllReadyIn.nil)
            · go_simp
              gi_wp2_with fail
              refine ⟨trivial, ?_⟩
              gi_at_call 148
              refine (callsIn_wide.2 HE.out).mono ?_
              rintro e wA ⟨rfl, hbA⟩
              exact ⟨rfl, HBD.out wA hbA⟩
          · go_simp
            gi_wp2_with fail
            refine ⟨trivial, ?_⟩
            gi_at_call 148
            refine (callsIn_wide.2 HE.out).mono ?_
            rintro e wA ⟨rfl, hbA⟩
            exact ⟨rfl, HBD.out wA hbA⟩
  case hdone =>
    rintro D W hD ⟨⟨⟨v, hv, hrow, -⟩, hbx⟩, hb, hbz, hall⟩ hK
    obtain ⟨A, cap, rfl⟩ : ∃ A cap, v = .slice A (sepL 61 l).length cap := by
      rcases hrow.2 with ⟨h1, h2⟩ | ⟨g, cap, cur, h1, _⟩
      · exact ⟨none, 0, by rw [h1, h2]⟩
      · exact ⟨_, cap, h1⟩
    have hst := strsAt_own hrow (fun r hr => by
      obtain ⟨x, hx, rfl⟩ := List.mem_map.1 hr
      have := HV2.out x hx; omega)
    have c1 := hv.cell
    have HALL := Lib.hid hall
    have HBW := Lib.hid hb
    have HFI : Hid (∀ X, Below W.heap.size W X → X.heap[D]? = W.heap[D]?) := Lib.hid (fun X hX => hX.block D (Array.getElem?_eq_some_iff.1 hK).1)
    have HK := Lib.hid hK
    have HD := Lib.hid hD
    have hx2 := HX2.out
    have HQ2 := HQ.out
    change On 112 6 Tryz.prog _ _ _ _
    refine On.of ?_
    clear hv hrow hbx hb hall hK hD
    rcases hsl : sepL 61 l with _ | ⟨a, _ | ⟨b, _ | ⟨c, t⟩⟩⟩
    · exact absurd hsl hx2.1
    · rw [hsl] at c1 hst
      obtain ⟨b0, o0, rfl, e0, _⟩ := hst 0 (by simp)
      simp only [List.map_cons, List.map_nil, List.getElem_cons_zero, Nat.add_zero] at e0
      simp only [List.length_singleton] at c1
      gi_wp2_with fail
      refine ⟨by simp, .inl ⟨_, _, rfl, run_takeDeferred HK.out, ?_⟩⟩
      exact ⟨_, results_tmp rfl _ _ _, HBW.out.trans (belowK_b (w := w) (Nat.le_refl _) W D _ _ (by have := HD.out; have := HS0.out; omega) HK.out rfl rfl), .inl ⟨rfl, HALL.out a (by rw [hsl]; simp)⟩⟩
    · rw [hsl] at c1 hst
      obtain ⟨b0, o0, rfl, e0, _⟩ := hst 0 (by simp)
      obtain ⟨b1, o1, hA1, e1, _⟩ := hst 1 (by simp)
      cases hA1
      simp only [List.map_cons, List.map_nil, List.getElem_cons_zero, List.getElem_cons_succ, Nat.add_zero] at e0 e1
      simp only [List.length_cons, List.length_nil] at c1
      have hmi : Tryz.prog.follows .mixedOrders = true := by kernel_rfl
      have HQ3 := Lib.hid (HQ2 a b hsl W.drew HBW.out.drew)
      have HALS : Hid (∀ x ∈ [a, b], ExprIs names x (V x)) := Lib.hid (fun x hx => HALL.out x (by rw [hsl]; exact hx))
      have HEND : Hid (∀ wQ, Below W.drew.heap.size W.drew wQ → wQ.heap[D]? = some (.deferred (some [])) ∧ Below w.heap.size w (wQ.putObj D (.deferred none))) := Lib.hid (fun wQ hbQ => by
        have h1 : Below W.heap.size W wQ := ((Below.refl _ W).drew).trans hbQ
        have h2 := (HFI.out wQ h1).trans HK.out
        exact ⟨h2, (HBW.out.trans (h1.mono HBW.out.size)).trans (belowK_b (w := w) (Nat.le_refl _) wQ D _ _ (by have := HD.out; have := HS0.out; omega) h2 rfl rfl)⟩)
      clear hsl hx2 HQ2 hst
      gi_wp2_with fail
      refine wpIn_region_any (by kernel_rfl) ?_
      change wpAnyIn _ _ _ _ _ _ _ _ _ W.drew
      refine wpAnyIn_ready (rs := [0, 3]) (by kernel_rfl) (by simp) ?_
      refine AllReadyIn.cons rfl (fun K hK => ?_) (AllReadyIn.cons rfl (fun K hK => ?_) (AllReadyIn.nil))
      · go_simp
        refine hK _ _ ?_
        clear hK K
        refine wpAnyIn_ready (rs := [1, 3]) (by kernel_rfl) (by simp) ?_
        refine AllReadyIn.cons rfl (fun K hK => ?_) (AllReadyIn.cons rfl (fun K hK => ?_) (AllReadyIn.nil))
        · go_simp
          refine hK _ _ ?_
          clear hK K
          refine wpAnyIn_ready (rs := [2, 3]) (by kernel_rfl) (by simp) ?_
          refine AllReadyIn.cons rfl (fun K hK => ?_) (AllReadyIn.cons rfl (fun K hK => ?_) (AllReadyIn.nil))
          · go_simp
            refine hK _ _ ?_
            clear hK K
            refine wpAnyIn_ready (rs := [3]) (by kernel_rfl) (by simp) ?_
            refine AllReadyIn.cons rfl (fun K hK => ?_) (AllReadyIn.nil)
            · go_simp
              refine hK _ _ ?_
              clear hK K
              refine wpAnyIn_ready (rs := [4]) (by kernel_rfl) (by simp) ?_
              refine AllReadyIn.cons rfl (fun K hK => ?_) (AllReadyIn.nil)
              · go_simp
                refine hK _ _ ?_
                clear hK K
                refine wpAnyIn_ready (rs := [5]) (by kernel_rfl) (by simp) ?_
                refine AllReadyIn.cons rfl (fun K hK => ?_) (AllReadyIn.nil)
                · go_simp
                  refine hK _ _ ?_
                  clear hK K
                  refine wpAnyIn_ready (rs := [6]) (by kernel_rfl) (by simp) ?_
                  refine AllReadyIn.cons rfl (fun K hK => ?_) (AllReadyIn.nil)
                  · go_simp
                    gi_wp2_with fail
                    refine ⟨trivial, ?_⟩
                    gi_at_call 149
                    refine (callsIn_wide.2 HQ3.out).mono ?_
                    rintro e wQ ⟨rfl, hbQ⟩
                    obtain ⟨hKQ, hbQ2⟩ := HEND.out wQ hbQ
                    clear hbQ
                    refine hK _ _ ?_
                    clear hK K
                    refine wpAnyIn_ready (rs := [7]) (by kernel_rfl) (by simp) ?_
                    refine AllReadyIn.cons rfl (fun K hK => ?_) (AllReadyIn.nil)
                    · go_simp
                      refine hK _ _ ?_
                      clear hK K
                      refine wpAnyIn_done (by kernel_rfl) ?_ _
                      gi_wp2_with fail
                      refine ⟨by simp, .inl ⟨_, _, rfl, run_takeDeferred hKQ, ?_⟩⟩
                      exact ⟨_, results_tmp rfl _ _ _, hbQ2, .inl ⟨rfl, HALS.out⟩⟩
          · go_simp
            refine hK _ _ ?_
            clear hK K
            refine wpAnyIn_ready (rs := [2, 4]) (by kernel_rfl) (by simp) ?_
            refine AllReadyIn.cons rfl (fun K hK => ?_) (AllReadyIn.cons rfl (fun K hK => ?_) (AllReadyIn.nil))
            · go_simp
              refine hK _ _ ?_
              clear hK K
              refine wpAnyIn_ready (rs := [4]) (by kernel_rfl) (by simp) ?_
              refine AllReadyIn.cons rfl (fun K hK => ?_) (AllReadyIn.nil)
              · go_simp
                refine hK _ _ ?_
                clear hK K
                refine wpAnyIn_ready (rs := [5]) (by kernel_rfl) (by simp) ?_
                refine AllReadyIn.cons rfl (fun K hK => ?_) (AllReadyIn.nil)
                · go_simp
                  refine hK _ _ ?_
                  clear hK K
                  refine wpAnyIn_ready (rs := [6]) (by kernel_rfl) (by simp) ?_
                  refine AllReadyIn.cons rfl (fun K hK => ?_) (AllReadyIn.nil)
                  · go_simp
                    gi_wp2_with fail
                    refine ⟨trivial, ?_⟩
                    gi_at_call 149
                    refine (callsIn_wide.2 HQ3.out).mono ?_
                    rintro e wQ ⟨rfl, hbQ⟩
                    obtain ⟨hKQ, hbQ2⟩ := HEND.out wQ hbQ
                    clear hbQ
                    refine hK _ _ ?_
                    clear hK K
                    refine wpAnyIn_ready (rs := [7]) (by kernel_rfl) (by simp) ?_
                    refine AllReadyIn.cons rfl (fun K hK => ?_) (AllReadyIn.nil)
                    · go_simp
                      refine hK _ _ ?_
                      clear hK K
                      refine wpAnyIn_done (by kernel_rfl) ?_ _
                      gi_wp2_with fail
                      refine ⟨by simp, .inl ⟨_, _, rfl, run_takeDeferred hKQ, ?_⟩⟩
                      exact ⟨_, results_tmp rfl _ _ _, hbQ2, .inl ⟨rfl, HALS.out⟩⟩
            · go_simp
              refine hK _ _ ?_
              clear hK K
              refine wpAnyIn_ready (rs := [2, 5]) (by kernel_rfl) (by simp) ?_
              refine AllReadyIn.cons rfl (fun K hK => ?_) (AllReadyIn.cons rfl (fun K hK => ?_) (AllReadyIn.nil))
              · go_simp
                refine hK _ _ ?_
                clear hK K
                refine wpAnyIn_ready (rs := [5]) (by kernel_rfl) (by simp) ?_
                refine AllReadyIn.cons rfl (fun K hK => ?_) (AllReadyIn.nil)
                · go_simp
                  refine hK _ _ ?_
                  clear hK K
                  refine wpAnyIn_ready (rs := [6]) (by kernel_rfl) (by simp) ?_
                  refine AllReadyIn.cons rfl (fun K hK => ?_) (AllReadyIn.nil)
                  · go_simp
                    gi_wp2_with fail
                    refine ⟨trivial, ?_⟩
                    gi_at_call 149
                    refine (callsIn_wide.2 HQ3.out).mono ?_
                    rintro e wQ ⟨rfl, hbQ⟩
                    obtain ⟨hKQ, hbQ2⟩ := HEND.out wQ hbQ
                    clear hbQ
                    refine hK _ _ ?_
                    clear hK K
                    refine wpAnyIn_ready (rs := [7]) (by kernel_rfl) (by simp) ?_
                    refine AllReadyIn.cons rfl (fun K hK => ?_) (AllReadyIn.nil)
                    · go_simp
                      refine hK _ _ ?_
                      clear hK K
                      refine wpAnyIn_done (by kernel_rfl) ?_ _
                      gi_wp2_with fail
                      refine ⟨by simp, .inl ⟨_, _, rfl, run_takeDeferred hKQ, ?_⟩⟩
                      exact ⟨_, results_tmp rfl _ _ _, hbQ2, .inl ⟨rfl, HALS.out⟩⟩
              · go_simp
                refine hK _ _ ?_
                clear hK K
                refine wpAnyIn_ready (rs := [2]) (by kernel_rfl) (by simp) ?_
                refine AllReadyIn.cons rfl (fun K hK => ?_) (AllReadyIn.nil)
                · go_simp
                  refine hK _ _ ?_
                  clear hK K
                  refine wpAnyIn_ready (rs := [6]) (by kernel_rfl) (by simp) ?_
                  refine AllReadyIn.cons rfl (fun K hK => ?_) (AllReadyIn.nil)
                  · go_simp
                    gi_wp2_with fail
                    refine ⟨trivial, ?_⟩
                    gi_at_call 149
                    refine (callsIn_wide.2 HQ3.out).mono ?_
                    rintro e wQ ⟨rfl, hbQ⟩
                    obtain ⟨hKQ, hbQ2⟩ := HEND.out wQ hbQ
                    clear hbQ
                    refine hK _ _ ?_
                    clear hK K
                    refine wpAnyIn_ready (rs := [7]) (by kernel_rfl) (by simp) ?_
                    refine AllReadyIn.cons rfl (fun K hK => ?_) (AllReadyIn.nil)
                    · go_simp
                      refine hK _ _ ?_
                      clear hK K
                      refine wpAnyIn_done (by kernel_rfl) ?_ _
                      gi_wp2_with fail
                      refine ⟨by simp, .inl ⟨_, _, rfl, run_takeDeferred hKQ, ?_⟩⟩
                      exact ⟨_, results_tmp rfl _ _ _, hbQ2, .inl ⟨rfl, HALS.out⟩⟩
        · go_simp
          refine hK _ _ ?_
          clear hK K
          refine wpAnyIn_ready (rs := [1, 4]) (by kernel_rfl) (by simp) ?_
          refine AllReadyIn.cons rfl (fun K hK => ?_) (AllReadyIn.cons rfl (fun K hK => ?_) (AllReadyIn.nil))
          · go_simp
            refine hK _ _ ?_
            clear hK K
            refine wpAnyIn_ready (rs := [2, 4]) (by kernel_rfl) (by simp) ?_
            refine AllReadyIn.cons rfl (fun K hK => ?_) (AllReadyIn.cons rfl (fun K hK => ?_) (AllReadyIn.nil))
            · go_simp
              refine hK _ _ ?_
              clear hK K
              refine wpAnyIn_ready (rs := [4]) (by kernel_rfl) (by simp) ?_
              refine AllReadyIn.cons rfl (fun K hK => ?_) (AllReadyIn.nil)
              · go_simp
                refine hK _ _ ?_
                clear hK K
                refine wpAnyIn_ready (rs := [5]) (by kernel_rfl) (by simp) ?_
                refine AllReadyIn.cons rfl (fun K hK => ?_) (AllReadyIn.nil)
                · go_simp
                  refine hK _ _ ?_
                  clear hK K
                  refine wpAnyIn_ready (rs := [6]) (by kernel_rfl) (by simp) ?_
                  refine AllReadyIn.cons rfl (fun K hK => ?_) (AllReadyIn.nil)
                  · go_simp
                    gi_wp2_with fail
                    refine ⟨trivial, ?_⟩
                    gi_at_call 149
                    refine (callsIn_wide.2 HQ3.out).mono ?_
                    rintro e wQ ⟨rfl, hbQ⟩
                    obtain ⟨hKQ, hbQ2⟩ := HEND.out wQ hbQ
                    clear hbQ
                    refine hK _ _ ?_
                    clear hK K
                    refine wpAnyIn_ready (rs := [7]) (by kernel_rfl) (by simp) ?_
                    refine AllReadyIn.cons rfl (fun K hK => ?_) (AllReadyIn.nil)
                    · go_simp
                      refine hK _ _ ?_
                      clear hK K
                      refine wpAnyIn_done (by kernel_rfl) ?_ _
                      gi_wp2_with fail
                      refine ⟨by simp, .inl ⟨_, _, rfl, run_takeDeferred hKQ, ?_⟩⟩
                      exact ⟨_, results_tmp rfl _ _ _, hbQ2, .inl ⟨rfl, HALS.out⟩⟩
            · go_simp
              refine hK _ _ ?_
              clear hK K
              refine wpAnyIn_ready (rs := [2, 5]) (by kernel_rfl) (by simp) ?_
              refine AllReadyIn.cons rfl (fun K hK => ?_) (AllReadyIn.cons rfl (fun K hK => ?_) (AllReadyIn.nil))
              · go_simp
                refine hK _ _ ?_
                clear hK K
                refine wpAnyIn_ready (rs := [5]) (by kernel_rfl) (by simp) ?_
                refine AllReadyIn.cons rfl (fun K hK => ?_) (AllReadyIn.nil)
                · go_simp
                  refine hK _ _ ?_
                  clear hK K
                  refine wpAnyIn_ready (rs := [6]) (by kernel_rfl) (by simp) ?_
                  refine AllReadyIn.cons rfl (fun K hK => ?_) (AllReadyIn.nil)
                  · go_simp
                    gi_wp2_with fail
                    refine ⟨trivial, ?_⟩
                    gi_at_call 149
                    refine (callsIn_wide.2 HQ3.out).mono ?_
                    rintro e wQ ⟨rfl, hbQ⟩
                    obtain ⟨hKQ, hbQ2⟩ := HEND.out wQ hbQ
                    clear hbQ
                    refine hK _ _ ?_
                    clear hK K
                    refine wpAnyIn_ready (rs := [7]) (by kernel_rfl) (by simp) ?_
                    refine AllReadyIn.cons rfl (fun K hK => ?_) (AllReadyIn.nil)
                    · go_simp
                      refine hK _ _ ?_
                      clear hK K
                      refine wpAnyIn_done (by kernel_rfl) ?_ _
                      gi_wp2_with fail
                      refine ⟨by simp, .inl ⟨_, _, rfl, run_takeDeferred hKQ, ?_⟩⟩
                      exact ⟨_, results_tmp rfl _ _ _, hbQ2, .inl ⟨rfl, HALS.out⟩⟩
              · go_simp
                refine hK _ _ ?_
                clear hK K
                refine wpAnyIn_ready (rs := [2]) (by kernel_rfl) (by simp) ?_
                refine AllReadyIn.cons rfl (fun K hK => ?_) (AllReadyIn.nil)
                · go_simp
                  refine hK _ _ ?_
                  clear hK K
                  refine wpAnyIn_ready (rs := [6]) (by kernel_rfl) (by simp) ?_
                  refine AllReadyIn.cons rfl (fun K hK => ?_) (AllReadyIn.nil)
                  · go_simp
                    gi_wp2_with fail
                    refine ⟨trivial, ?_⟩
                    gi_at_call 149
                    refine (callsIn_wide.2 HQ3.out).mono ?_
                    rintro e wQ ⟨rfl, hbQ⟩
                    obtain ⟨hKQ, hbQ2⟩ := HEND.out wQ hbQ
                    clear hbQ
                    refine hK _ _ ?_
                    clear hK K
                    refine wpAnyIn_ready (rs := [7]) (by kernel_rfl) (by simp) ?_
                    refine AllReadyIn.cons rfl (fun K hK => ?_) (AllReadyIn.nil)
                    · go_simp
                      refine hK _ _ ?_
                      clear hK K
                      refine wpAnyIn_done (by kernel_rfl) ?_ _
                      gi_wp2_with fail
                      refine ⟨by simp, .inl ⟨_, _, rfl, run_takeDeferred hKQ, ?_⟩⟩
                      exact ⟨_, results_tmp rfl _ _ _, hbQ2, .inl ⟨rfl, HALS.out⟩⟩
          · go_simp
            refine hK _ _ ?_
            clear hK K
            refine wpAnyIn_ready (rs := [1, 5]) (by kernel_rfl) (by simp) ?_
            refine AllReadyIn.cons rfl (fun K hK => ?_) (AllReadyIn.cons rfl (fun K hK => ?_) (AllReadyIn.nil))
            · go_simp
              refine hK _ _ ?_
              clear hK K
              refine wpAnyIn_ready (rs := [2, 5]) (by kernel_rfl) (by simp) ?_
              refine AllReadyIn.cons rfl (fun K hK => ?_) (AllReadyIn.cons rfl (fun K hK => ?_) (AllReadyIn.nil))
              · go_simp
                refine hK _ _ ?_
                clear hK K
                refine wpAnyIn_ready (rs := [5]) (by kernel_rfl) (by simp) ?_
                refine AllReadyIn.cons rfl (fun K hK => ?_) (AllReadyIn.nil)
                · go_simp
                  refine hK _ _ ?_
                  clear hK K
                  refine wpAnyIn_ready (rs := [6]) (by kernel_rfl) (by simp) ?_
                  refine AllReadyIn.cons rfl (fun K hK => ?_) (AllReadyIn.nil)
                  · go_simp
                    gi_wp2_with fail
                    refine ⟨trivial, ?_⟩
                    gi_at_call 149
                    refine (callsIn_wide.2 HQ3.out).mono ?_
                    rintro e wQ ⟨rfl, hbQ⟩
                    obtain ⟨hKQ, hbQ2⟩ := HEND.out wQ hbQ
                    clear hbQ
                    refine hK _ _ ?_
                    clear hK K
                    refine wpAnyIn_ready (rs := [7]) (by kernel_rfl) (by simp) ?_
                    refine AllReadyIn.cons rfl (fun K hK => ?_) (AllReadyIn.nil)
                    · go_simp
                      refine hK _ _ ?_
                      clear hK K
                      refine wpAnyIn_done (by kernel_rfl) ?_ _
                      gi_wp2_with fail
                      refine ⟨by simp, .inl ⟨_, _, rfl, run_takeDeferred hKQ, ?_⟩⟩
                      exact ⟨_, results_tmp rfl _ _ _, hbQ2, .inl ⟨rfl, HALS.out⟩⟩
              · go_simp
                refine hK _ _ ?_
                clear hK K
                refine wpAnyIn_ready (rs := [2]) (by kernel_rfl) (by simp) ?_
                refine AllReadyIn.cons rfl (fun K hK => ?_) (AllReadyIn.nil)
                · go_simp
                  refine hK _ _ ?_
                  clear hK K
                  refine wpAnyIn_ready (rs := [6]) (by kernel_rfl) (by simp) ?_
                  refine AllReadyIn.cons rfl (fun K hK => ?_) (AllReadyIn.nil)
                  · go_simp
                    gi_wp2_with fail
                    refine ⟨trivial, ?_⟩
                    gi_at_call 149
                    refine (callsIn_wide.2 HQ3.out).mono ?_
                    rintro e wQ ⟨rfl, hbQ⟩
                    obtain ⟨hKQ, hbQ2⟩ := HEND.out wQ hbQ
                    clear hbQ
                    refine hK _ _ ?_
                    clear hK K
                    refine wpAnyIn_ready (rs := [7]) (by kernel_rfl) (by simp) ?_
                    refine AllReadyIn.cons rfl (fun K hK => ?_) (AllReadyIn.nil)
                    · go_simp
                      refine hK _ _ ?_
                      clear hK K
                      refine wpAnyIn_done (by kernel_rfl) ?_ _
                      gi_wp2_with fail
                      refine ⟨by simp, .inl ⟨_, _, rfl, run_takeDeferred hKQ, ?_⟩⟩
                      exact ⟨_, results_tmp rfl _ _ _, hbQ2, .inl ⟨rfl, HALS.out⟩⟩
            · go_simp
              refine hK _ _ ?_
              clear hK K
              refine wpAnyIn_ready (rs := [1]) (by kernel_rfl) (by simp) ?_
              refine AllReadyIn.cons rfl (fun K hK => ?_) (AllReadyIn.nil)
              · go_simp
                refine hK _ _ ?_
                clear hK K
                refine wpAnyIn_ready (rs := [2]) (by kernel_rfl) (by simp) ?_
                refine AllReadyIn.cons rfl (fun K hK => ?_) (AllReadyIn.nil)
                · go_simp
                  refine hK _ _ ?_
                  clear hK K
                  refine wpAnyIn_ready (rs := [6]) (by kernel_rfl) (by simp) ?_
                  refine AllReadyIn.cons rfl (fun K hK => ?_) (AllReadyIn.nil)
                  · go_simp
                    gi_wp2_with fail
                    refine ⟨trivial, ?_⟩
                    gi_at_call 149
                    refine (callsIn_wide.2 HQ3.out).mono ?_
                    rintro e wQ ⟨rfl, hbQ⟩
                    obtain ⟨hKQ, hbQ2⟩ := HEND.out wQ hbQ
                    clear hbQ
                    refine hK _ _ ?_
                    clear hK K
                    refine wpAnyIn_ready (rs := [7]) (by kernel_rfl) (by simp) ?_
                    refine AllReadyIn.cons rfl (fun K hK => ?_) (AllReadyIn.nil)
                    · go_simp
                      refine hK _ _ ?_
                      clear hK K
                      refine wpAnyIn_done (by kernel_rfl) ?_ _
                      gi_wp2_with fail
                      refine ⟨by simp, .inl ⟨_, _, rfl, run_takeDeferred hKQ, ?_⟩⟩
                      exact ⟨_, results_tmp rfl _ _ _, hbQ2, .inl ⟨rfl, HALS.out⟩⟩
      · go_simp
        refine hK _ _ ?_
        clear hK K
        refine wpAnyIn_ready (rs := [0, 4]) (by kernel_rfl) (by simp) ?_
        refine AllReadyIn.cons rfl (fun K hK => ?_) (AllReadyIn.cons rfl (fun K hK => ?_) (AllReadyIn.nil))
        · go_simp
          refine hK _ _ ?_
          clear hK K
          refine wpAnyIn_ready (rs := [1, 4]) (by kernel_rfl) (by simp) ?_
          refine AllReadyIn.cons rfl (fun K hK => ?_) (AllReadyIn.cons rfl (fun K hK => ?_) (AllReadyIn.nil))
          · go_simp
            refine hK _ _ ?_
            clear hK K
            refine wpAnyIn_ready (rs := [2, 4]) (by kernel_rfl) (by simp) ?_
            refine AllReadyIn.cons rfl (fun K hK => ?_) (AllReadyIn.cons rfl (fun K hK => ?_) (AllReadyIn.nil))
            · go_simp
              refine hK _ _ ?_
              clear hK K
              refine wpAnyIn_ready (rs := [4]) (by kernel_rfl) (by simp) ?_
              refine AllReadyIn.cons rfl (fun K hK => ?_) (AllReadyIn.nil)
              · go_simp
                refine hK _ _ ?_
                clear hK K
                refine wpAnyIn_ready (rs := [5]) (by kernel_rfl) (by simp) ?_
                refine AllReadyIn.cons rfl (fun K hK => ?_) (AllReadyIn.nil)
                · go_simp
                  refine hK _ _ ?_
                  clear hK K
                  refine wpAnyIn_ready (rs := [6]) (by kernel_rfl) (by simp) ?_
                  refine AllReadyIn.cons rfl (fun K hK => ?_) (AllReadyIn.nil)
                  · go_simp
                    gi_wp2_with fail
                    refine ⟨trivial, ?_⟩
                    gi_at_call 149
                    refine (callsIn_wide.2 HQ3.out).mono ?_
                    rintro e wQ ⟨rfl, hbQ⟩
                    obtain ⟨hKQ, hbQ2⟩ := HEND.out wQ hbQ
                    clear hbQ
                    refine hK _ _ ?_
                    clear hK K
                    refine wpAnyIn_ready (rs := [7]) (by kernel_rfl) (by simp) ?_
                    refine AllReadyIn.cons rfl (fun K hK => ?_) (AllReadyIn.nil)
                    · go_simp
                      refine hK _ _ ?_
                      clear hK K
                      refine wpAnyIn_done (by kernel_rfl) ?_ _
                      gi_wp2_with fail
                      refine ⟨by simp, .inl ⟨_, _, rfl, run_takeDeferred hKQ, ?_⟩⟩
                      exact ⟨_, results_tmp rfl _ _ _, hbQ2, .inl ⟨rfl, HALS.out⟩⟩
            · go_simp
              refine hK _ _ ?_
              clear hK K
              refine wpAnyIn_ready (rs := [2, 5]) (by kernel_rfl) (by simp) ?_
              refine AllReadyIn.cons rfl (fun K hK => ?_) (AllReadyIn.cons rfl (fun K hK => ?_) (AllReadyIn.nil))
              · go_simp
                refine hK _ _ ?_
                clear hK K
                refine wpAnyIn_ready (rs := [5]) (by kernel_rfl) (by simp) ?_
                refine AllReadyIn.cons rfl (fun K hK => ?_) (AllReadyIn.nil)
                · go_simp
                  refine hK _ _ ?_
                  clear hK K
                  refine wpAnyIn_ready (rs := [6]) (by kernel_rfl) (by simp) ?_
                  refine AllReadyIn.cons rfl (fun K hK => ?_) (AllReadyIn.nil)
                  · go_simp
                    gi_wp2_with fail
                    refine ⟨trivial, ?_⟩
                    gi_at_call 149
                    refine (callsIn_wide.2 HQ3.out).mono ?_
                    rintro e wQ ⟨rfl, hbQ⟩
                    obtain ⟨hKQ, hbQ2⟩ := HEND.out wQ hbQ
                    clear hbQ
                    refine hK _ _ ?_
                    clear hK K
                    refine wpAnyIn_ready (rs := [7]) (by kernel_rfl) (by simp) ?_
                    refine AllReadyIn.cons rfl (fun K hK => ?_) (AllReadyIn.nil)
                    · go_simp
                      refine hK _ _ ?_
                      clear hK K
                      refine wpAnyIn_done (by kernel_rfl) ?_ _
                      gi_wp2_with fail
                      refine ⟨by simp, .inl ⟨_, _, rfl, run_takeDeferred hKQ, ?_⟩⟩
                      exact ⟨_, results_tmp rfl _ _ _, hbQ2, .inl ⟨rfl, HALS.out⟩⟩
              · go_simp
                refine hK _ _ ?_
                clear hK K
                refine wpAnyIn_ready (rs := [2]) (by kernel_rfl) (by simp) ?_
                refine AllReadyIn.cons rfl (fun K hK => ?_) (AllReadyIn.nil)
                · go_simp
                  refine hK _ _ ?_
                  clear hK K
                  refine wpAnyIn_ready (rs := [6]) (by kernel_rfl) (by simp) ?_
                  refine AllReadyIn.cons rfl (fun K hK => ?_) (AllReadyIn.nil)
                  · go_simp
                    gi_wp2_with fail
                    refine ⟨trivial, ?_⟩
                    gi_at_call 149
                    refine (callsIn_wide.2 HQ3.out).mono ?_
                    rintro e wQ ⟨rfl, hbQ⟩
                    obtain ⟨hKQ, hbQ2⟩ := HEND.out wQ hbQ
                    clear hbQ
                    refine hK _ _ ?_
                    clear hK K
                    refine wpAnyIn_ready (rs := [7]) (by kernel_rfl) (by simp) ?_
                    refine AllReadyIn.cons rfl (fun K hK => ?_) (AllReadyIn.nil)
                    · go_simp
                      refine hK _ _ ?_
                      clear hK K
                      refine wpAnyIn_done (by kernel_rfl) ?_ _
                      gi_wp2_with fail
                      refine ⟨by simp, .inl ⟨_, _, rfl, run_takeDeferred hKQ, ?_⟩⟩
                      exact ⟨_, results_tmp rfl _ _ _, hbQ2, .inl ⟨rfl, HALS.out⟩⟩
          · go_simp
            refine hK _ _ ?_
            clear hK K
            refine wpAnyIn_ready (rs := [1, 5]) (by kernel_rfl) (by simp) ?_
            refine AllReadyIn.cons rfl (fun K hK => ?_) (AllReadyIn.cons rfl (fun K hK => ?_) (AllReadyIn.nil))
            · go_simp
              refine hK _ _ ?_
              clear hK K
              refine wpAnyIn_ready (rs := [2, 5]) (by kernel_rfl) (by simp) ?_
              refine AllReadyIn.cons rfl (fun K hK => ?_) (AllReadyIn.cons rfl (fun K hK => ?_) (AllReadyIn.nil))
              · go_simp
                refine hK _ _ ?_
                clear hK K
                refine wpAnyIn_ready (rs := [5]) (by kernel_rfl) (by simp) ?_
                refine AllReadyIn.cons rfl (fun K hK => ?_) (AllReadyIn.nil)
                · go_simp
                  refine hK _ _ ?_
                  clear hK K
                  refine wpAnyIn_ready (rs := [6]) (by kernel_rfl) (by simp) ?_
                  refine AllReadyIn.cons rfl (fun K hK => ?_) (AllReadyIn.nil)
                  · go_simp
                    gi_wp2_with fail
                    refine ⟨trivial, ?_⟩
                    gi_at_call 149
                    refine (callsIn_wide.2 HQ3.out).mono ?_
                    rintro e wQ ⟨rfl, hbQ⟩
                    obtain ⟨hKQ, hbQ2⟩ := HEND.out wQ hbQ
                    clear hbQ
                    refine hK _ _ ?_
                    clear hK K
                    refine wpAnyIn_ready (rs := [7]) (by kernel_rfl) (by simp) ?_
                    refine AllReadyIn.cons rfl (fun K hK => ?_) (AllReadyIn.nil)
                    · go_simp
                      refine hK _ _ ?_
                      clear hK K
                      refine wpAnyIn_done (by kernel_rfl) ?_ _
                      gi_wp2_with fail
                      refine ⟨by simp, .inl ⟨_, _, rfl, run_takeDeferred hKQ, ?_⟩⟩
                      exact ⟨_, results_tmp rfl _ _ _, hbQ2, .inl ⟨rfl, HALS.out⟩⟩
              · go_simp
                refine hK _ _ ?_
                clear hK K
                refine wpAnyIn_ready (rs := [2]) (by kernel_rfl) (by simp) ?_
                refine AllReadyIn.cons rfl (fun K hK => ?_) (AllReadyIn.nil)
                · go_simp
                  refine hK _ _ ?_
                  clear hK K
                  refine wpAnyIn_ready (rs := [6]) (by kernel_rfl) (by simp) ?_
                  refine AllReadyIn.cons rfl (fun K hK => ?_) (AllReadyIn.nil)
                  · go_simp
                    gi_wp2_with fail
                    refine ⟨trivial, ?_⟩
                    gi_at_call 149
                    refine (callsIn_wide.2 HQ3.out).mono ?_
                    rintro e wQ ⟨rfl, hbQ⟩
                    obtain ⟨hKQ, hbQ2⟩ := HEND.out wQ hbQ
                    clear hbQ
                    refine hK _ _ ?_
                    clear hK K
                    refine wpAnyIn_ready (rs := [7]) (by kernel_rfl) (by simp) ?_
                    refine AllReadyIn.cons rfl (fun K hK => ?_) (AllReadyIn.nil)
                    · go_simp
                      refine hK _ _ ?_
                      clear hK K
                      refine wpAnyIn_done (by kernel_rfl) ?_ _
                      gi_wp2_with fail
                      refine ⟨by simp, .inl ⟨_, _, rfl, run_takeDeferred hKQ, ?_⟩⟩
                      exact ⟨_, results_tmp rfl _ _ _, hbQ2, .inl ⟨rfl, HALS.out⟩⟩
            · go_simp
              refine hK _ _ ?_
              clear hK K
              refine wpAnyIn_ready (rs := [1]) (by kernel_rfl) (by simp) ?_
              refine AllReadyIn.cons rfl (fun K hK => ?_) (AllReadyIn.nil)
              · go_simp
                refine hK _ _ ?_
                clear hK K
                refine wpAnyIn_ready (rs := [2]) (by kernel_rfl) (by simp) ?_
                refine AllReadyIn.cons rfl (fun K hK => ?_) (AllReadyIn.nil)
                · go_simp
                  refine hK _ _ ?_
                  clear hK K
                  refine wpAnyIn_ready (rs := [6]) (by kernel_rfl) (by simp) ?_
                  refine AllReadyIn.cons rfl (fun K hK => ?_) (AllReadyIn.nil)
                  · go_simp
                    gi_wp2_with fail
                    refine ⟨trivial, ?_⟩
                    gi_at_call 149
                    refine (callsIn_wide.2 HQ3.out).mono ?_
                    rintro e wQ ⟨rfl, hbQ⟩
                    obtain ⟨hKQ, hbQ2⟩ := HEND.out wQ hbQ
                    clear hbQ
                    refine hK _ _ ?_
                    clear hK K
                    refine wpAnyIn_ready (rs := [7]) (by kernel_rfl) (by simp) ?_
                    refine AllReadyIn.cons rfl (fun K hK => ?_) (AllReadyIn.nil)
                    · go_simp
                      refine hK _ _ ?_
                      clear hK K
                      refine wpAnyIn_done (by kernel_rfl) ?_ _
                      gi_wp2_with fail
                      refine ⟨by simp, .inl ⟨_, _, rfl, run_takeDeferred hKQ, ?_⟩⟩
                      exact ⟨_, results_tmp rfl _ _ _, hbQ2, .inl ⟨rfl, HALS.out⟩⟩
        · go_simp
          refine hK _ _ ?_
          clear hK K
          refine wpAnyIn_ready (rs := [0, 5]) (by kernel_rfl) (by simp) ?_
          refine AllReadyIn.cons rfl (fun K hK => ?_) (AllReadyIn.cons rfl (fun K hK => ?_) (AllReadyIn.nil))
          · go_simp
            refine hK _ _ ?_
            clear hK K
            refine wpAnyIn_ready (rs := [1, 5]) (by kernel_rfl) (by simp) ?_
            refine AllReadyIn.cons rfl (fun K hK => ?_) (AllReadyIn.cons rfl (fun K hK => ?_) (AllReadyIn.nil))
            · go_simp
              refine hK _ _ ?_
              clear hK K
              refine wpAnyIn_ready (rs := [2, 5]) (by kernel_rfl) (by simp) ?_
              refine AllReadyIn.cons rfl (fun K hK => ?_) (AllReadyIn.cons rfl (fun K hK => ?_) (AllReadyIn.nil))
              · go_simp
                refine hK _ _ ?_
                clear hK K
                refine wpAnyIn_ready (rs := [5]) (by kernel_rfl) (by simp) ?_
                refine AllReadyIn.cons rfl (fun K hK => ?_) (AllReadyIn.nil)
                · go_simp
                  refine hK _ _ ?_
                  clear hK K
                  refine wpAnyIn_ready (rs := [6]) (by kernel_rfl) (by simp) ?_
                  refine AllReadyIn.cons rfl (fun K hK => ?_) (AllReadyIn.nil)
                  · go_simp
                    gi_wp2_with fail
                    refine ⟨trivial, ?_⟩
                    gi_at_call 149
                    refine (callsIn_wide.2 HQ3.out).mono ?_
                    rintro e wQ ⟨rfl, hbQ⟩
                    obtain ⟨hKQ, hbQ2⟩ := HEND.out wQ hbQ
                    clear hbQ
                    refine hK _ _ ?_
                    clear hK K
                    refine wpAnyIn_ready (rs := [7]) (by kernel_rfl) (by simp) ?_
                    refine AllReadyIn.cons rfl (fun K hK => ?_) (AllReadyIn.nil)
                    · go_simp
                      refine hK _ _ ?_
                      clear hK K
                      refine wpAnyIn_done (by kernel_rfl) ?_ _
                      gi_wp2_with fail
                      refine ⟨by simp, .inl ⟨_, _, rfl, run_takeDeferred hKQ, ?_⟩⟩
                      exact ⟨_, results_tmp rfl _ _ _, hbQ2, .inl ⟨rfl, HALS.out⟩⟩
              · go_simp
                refine hK _ _ ?_
                clear hK K
                refine wpAnyIn_ready (rs := [2]) (by kernel_rfl) (by simp) ?_
                refine AllReadyIn.cons rfl (fun K hK => ?_) (AllReadyIn.nil)
                · go_simp
                  refine hK _ _ ?_
                  clear hK K
                  refine wpAnyIn_ready (rs := [6]) (by kernel_rfl) (by simp) ?_
                  refine AllReadyIn.cons rfl (fun K hK => ?_) (AllReadyIn.nil)
                  · go_simp
                    gi_wp2_with fail
                    refine ⟨trivial, ?_⟩
                    gi_at_call 149
                    refine (callsIn_wide.2 HQ3.out).mono ?_
                    rintro e wQ ⟨rfl, hbQ⟩
                    obtain ⟨hKQ, hbQ2⟩ := HEND.out wQ hbQ
                    clear hbQ
                    refine hK _ _ ?_
                    clear hK K
                    refine wpAnyIn_ready (rs := [7]) (by kernel_rfl) (by simp) ?_
                    refine AllReadyIn.cons rfl (fun K hK => ?_) (AllReadyIn.nil)
                    · go_simp
                      refine hK _ _ ?_
                      clear hK K
                      refine wpAnyIn_done (by kernel_rfl) ?_ _
                      gi_wp2_with fail
                      refine ⟨by simp, .inl ⟨_, _, rfl, run_takeDeferred hKQ, ?_⟩⟩
                      exact ⟨_, results_tmp rfl _ _ _, hbQ2, .inl ⟨rfl, HALS.out⟩⟩
            · go_simp
              refine hK _ _ ?_
              clear hK K
              refine wpAnyIn_ready (rs := [1]) (by kernel_rfl) (by simp) ?_
              refine AllReadyIn.cons rfl (fun K hK => ?_) (AllReadyIn.nil)
              · go_simp
                refine hK _ _ ?_
                clear hK K
                refine wpAnyIn_ready (rs := [2]) (by kernel_rfl) (by simp) ?_
                refine AllReadyIn.cons rfl (fun K hK => ?_) (AllReadyIn.nil)
                · go_simp
                  refine hK _ _ ?_
                  clear hK K
                  refine wpAnyIn_ready (rs := [6]) (by kernel_rfl) (by simp) ?_
                  refine AllReadyIn.cons rfl (fun K hK => ?_) (AllReadyIn.nil)
                  · go_simp
                    gi_wp2_with fail
                    refine ⟨trivial, ?_⟩
                    gi_at_call 149
                    refine (callsIn_wide.2 HQ3.out).mono ?_
                    rintro e wQ ⟨rfl, hbQ⟩
                    obtain ⟨hKQ, hbQ2⟩ := HEND.out wQ hbQ
                    clear hbQ
                    refine hK _ _ ?_
                    clear hK K
                    refine wpAnyIn_ready (rs := [7]) (by kernel_rfl) (by simp) ?_
                    refine AllReadyIn.cons rfl (fun K hK => ?_) (AllReadyIn.nil)
                    · go_simp
                      refine hK _ _ ?_
                      clear hK K
                      refine wpAnyIn_done (by kernel_rfl) ?_ _
                      gi_wp2_with fail
                      refine ⟨by simp, .inl ⟨_, _, rfl, run_takeDeferred hKQ, ?_⟩⟩
                      exact ⟨_, results_tmp rfl _ _ _, hbQ2, .inl ⟨rfl, HALS.out⟩⟩
          · go_simp
            refine hK _ _ ?_
            clear hK K
            refine wpAnyIn_ready (rs := [0]) (by kernel_rfl) (by simp) ?_
            refine AllReadyIn.cons rfl (fun K hK => ?_) (AllReadyIn.nil)
            · go_simp
              refine hK _ _ ?_
              clear hK K
              refine wpAnyIn_ready (rs := [1]) (by kernel_rfl) (by simp) ?_
              refine AllReadyIn.cons rfl (fun K hK => ?_) (AllReadyIn.nil)
              · go_simp
                refine hK _ _ ?_
                clear hK K
                refine wpAnyIn_ready (rs := [2]) (by kernel_rfl) (by simp) ?_
                refine AllReadyIn.cons rfl (fun K hK => ?_) (AllReadyIn.nil)
                · go_simp
                  refine hK _ _ ?_
                  clear hK K
                  refine wpAnyIn_ready (rs := [6]) (by kernel_rfl) (by simp) ?_
                  refine AllReadyIn.cons rfl (fun K hK => ?_) (AllReadyIn.nil)
                  · go_simp
                    gi_wp2_with fail
                    refine ⟨trivial, ?_⟩
                    gi_at_call 149
                    refine (callsIn_wide.2 HQ3.out).mono ?_
                    rintro e wQ ⟨rfl, hbQ⟩
                    obtain ⟨hKQ, hbQ2⟩ := HEND.out wQ hbQ
                    clear hbQ
                    refine hK _ _ ?_
                    clear hK K
                    refine wpAnyIn_ready (rs := [7]) (by kernel_rfl) (by simp) ?_
                    refine AllReadyIn.cons rfl (fun K hK => ?_) (AllReadyIn.nil)
                    · go_simp
                      refine hK _ _ ?_
                      clear hK K
                      refine wpAnyIn_done (by kernel_rfl) ?_ _
                      gi_wp2_with fail
                      refine ⟨by simp, .inl ⟨_, _, rfl, run_takeDeferred hKQ, ?_⟩⟩
                      exact ⟨_, results_tmp rfl _ _ _, hbQ2, .inl ⟨rfl, HALS.out⟩⟩
    · rw [hsl] at hx2; simp at hx2
  case hpanic =>
    rintro D chain W hD ⟨hch, hbad, hb⟩ hK
    subst hch
    refine ⟨by simp, .inl ⟨_, _, rfl, run_takeDeferred hK, ?_⟩⟩
    exact ⟨hb.trans (belowK_b (w := w) (Nat.le_refl _) W D _ _ (by omega) hK rfl rfl), .inr ⟨rfl, hbad⟩⟩
end Go.Proofs.YteephomlnbbjeaaGreatDoor
