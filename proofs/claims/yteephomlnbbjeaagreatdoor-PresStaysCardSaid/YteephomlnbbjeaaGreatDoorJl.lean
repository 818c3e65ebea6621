/-
  Our own text, in the proofs of the laws of package pres (cayleylaw03). Proved here: the methods maps of dropGen and addGen of package pres; the method maps of dropGen, and what newChange's errors say; Move of package pres; the method count of dropRel; invert of package pres. Conditions: the arguments lie in memory as the slices say; bounds; the listed tables lie as the program lays them.
-/
import Derived.Test.YteephomlnbbjeaaGreatDoorJk
set_option linter.unusedVariables false
set_option linter.unusedSimpArgs false
set_option linter.unusedSectionVars false
namespace Go.Proofs.YteephomlnbbjeaaGreatDoor
open Go Go.RowKit

/-- What lies in memory while maps of addGen runs: the rows that letters has made, and the new cell of the word. -/
structure MG (w1 : World) (k : Nat) (x : List UInt8) (X : World) (rows : List (Option Addr × Nat)) (sC : Option Nat) : Prop where
  below : Below w1.heap.size w1 X
  row : ∀ r ∈ rows, X.ownsRow w1.heap.size 9 1 (.slice r.1 k r.2) k (ss (letS k))
  ne : rows.Pairwise (fun r s => ∀ b, blk r.1 = some b → blk s.1 ≠ some b)
  new : ∀ g, sC = some g → w1.heap.size ≤ g ∧ g < X.heap.size ∧ X.heap[g]? = some (.cells #[.string ⟨x.toArray⟩] 9 (0, 0)) ∧ ∀ r ∈ rows, blk r.1 ≠ some g
theorem MG.start (w1 : World) (k : Nat) (x : List UInt8) : MG w1 k x w1.drew [] none :=
  ⟨(Below.refl _ w1).drew, (fun _ h => by cases h), List.Pairwise.nil, (fun _ h => by cases h)⟩
theorem MG.call {w1 X Y : World} {k : Nat} {x : List UInt8} {rows : List (Option Addr × Nat)} {sC : Option Nat} (h : MG w1 k x X rows sC) {A : Option Addr} {c : Nat} (hb : Below X.heap.size X Y) (ho : Y.ownsRow X.heap.size 9 1 (.slice A k c) k (ss (letS k))) : MG w1 k x Y ((A, c) :: rows) sC := by
  have hlt : ∀ r ∈ rows, ∀ b, blk r.1 = some b → b < X.heap.size := fun r hr b hb => (own_blk_lt (h.row r hr) b hb).2
  have hge : ∀ b, blk A = some b → X.heap.size ≤ b := fun b hb => (own_blk_lt ho b hb).1
  refine ⟨h.below.trans (hb.mono h.below.size), ?_, ?_, ?_⟩
  · intro r hr
    rcases List.mem_cons.1 hr with rfl | hr
    · exact own_base ho h.below.size
    · exact own_on (h.row r hr) hb
  · refine List.Pairwise.cons (fun s hs b hb1 hb2 => ?_) h.ne
    have := hge b hb1; have := hlt s hs b hb2; omega
  · intro g hg
    obtain ⟨h1, h2, h3, h4⟩ := h.new g hg
    refine ⟨h1, Nat.lt_of_lt_of_le h2 hb.size, heap_on h3 hb, fun r hr e => ?_⟩
    rcases List.mem_cons.1 hr with rfl | hr
    · have := hge g e; omega
    · exact h4 r hr e
theorem MG.alloc {w1 X : World} {k : Nat} {x : List UInt8} {rows : List (Option Addr × Nat)} (h : MG w1 k x X rows none) : MG w1 k x (X.alloc (.cells #[.string ⟨x.toArray⟩] 9)) rows (some X.heap.size) := by
  refine ⟨h.below.alloc h.below.size _, fun r hr => (h.row r hr).alloc _, h.ne, fun g hg => ?_⟩
  cases hg
  exact ⟨h.below.size, by simp, heap_alloc_new X _, fun r hr e => by have := (own_blk_lt (h.row r hr) _ e).2; omega⟩
theorem MG.alloc0 (w1 : World) (k : Nat) (x : List UInt8) : MG w1 k x (w1.alloc (.cells #[.string ⟨x.toArray⟩] 9)).drew [] (some w1.heap.size) := (MG.start w1 k x).alloc

/-- .. and behind the append. -/
structure ME (w1 : World) (k : Nat) (x : List UInt8) (Y : World) (rows : List (Option Addr × Nat)) (g c : Nat) : Prop where
  below : Below w1.heap.size w1 Y
  row : ∀ r ∈ rows, Y.ownsRow w1.heap.size 9 1 (.slice r.1 k r.2) k (ss (letS k))
  last : Y.ownsRow w1.heap.size 9 1 (.slice (some ⟨g, 0, none⟩) (k + 1) c) (k + 1) (ss (letS k ++ [x]))
theorem ME.call {w1 X Y : World} {k : Nat} {x : List UInt8} {rows : List (Option Addr × Nat)} {g c0 : Nat} (h : ME w1 k x X rows g c0) {A : Option Addr} {c : Nat} (hb : Below X.heap.size X Y) (ho : Y.ownsRow X.heap.size 9 1 (.slice A k c) k (ss (letS k))) : ME w1 k x Y ((A, c) :: rows) g c0 := by
  refine ⟨h.below.trans (hb.mono h.below.size), fun r hr => ?_, own_on h.last hb⟩
  rcases List.mem_cons.1 hr with rfl | hr
  · exact own_base ho h.below.size
  · exact own_on (h.row r hr) hb

theorem step_MG {ops : Array Oper} {o : Oper} {a : Act} {K : Act → World → Prop} {Q : Exit → Act → World → Prop} {E : Prop} {w1 X : World} {k : Nat} {x : List UInt8} {rows : List (Option Addr × Nat)} {g : Nat} (h : MG w1 k x X rows (some g)) (r : Option Addr × Nat) (hr : r ∈ rows) (others : List (Option Addr × Nat)) (hoth : ∀ q ∈ others, q ∈ rows ∧ ∀ b, blk q.1 = some b → blk r.1 ≠ some b) (hk : k ≤ 8) (hx1 : x.length ≤ 140737488351232)
    (hgd : o.guard = none) (s xo : Operand) (ho : o.op = .call { callee := .builtin .append, args := #[s, xo], argTypes := #[22, 22] }) (hs : a.eval s = .slice r.1 k r.2) (hx : a.eval xo = .slice (some ⟨g, 0, none⟩) 1 1)
    (hK : ∀ g' c' Y, ME w1 k x Y others g' c' → K (a.put o.dst (.slice (some ⟨g', 0, none⟩) (k + 1) c')) Y) :
    if Region.wanted o (yielded ops a.tmps) = true then Oper.wp Tryz.prog o a X K Q else E := by
  obtain ⟨i0, hi, hz0, hz1, hz2⟩ := info_parts Tryz.info9
  obtain ⟨h1, h2, h3, h4⟩ := h.new g rfl
  have hown := h.row r hr
  refine step_append_lies (w := X) hgd s xo 22 ho w1.heap.size 9 i0 (.string ⟨#[]⟩) 1 16 Tryz.underlying22 hi hz0 hz1 hz2 rfl (by decide) (.slice r.1 k r.2) k (ss (letS k)) hs hown ⟨g, 0, none⟩ 1 1 (ss [x]) hx rfl (fun j u hu => ?_) (ss_one _) (by omega) (by unfold maxLen; omega) (by omega) h.below.size X.heap.size rfl ?_
  · have hj : j = 0 := by
      rcases j with _ | j
      · rfl
      · simp [ss] at hu
    subst hj
    simp [ss] at hu
    rw [add_lit, ← hu, cell_of_row X g 0 _ 9 (0, 0) h3]; rfl
  · intro g' c' Y hown' hg hor hlt
    rw [ownBlock_slice] at hg hor
    refine hK g' c' Y ⟨below_of_grown (A := r.1) h.below hg h.below.size (own_ge hown), fun q hq => ?_, by rw [ss_append]; exact hown'⟩
    obtain ⟨hq1, hq2⟩ := hoth q hq
    exact (h.row q hq1).kept hg (by
      rw [ownBlock_slice]
      cases hb : blk q.1 with
      | none => exact .inl rfl
      | some b => exact .inr (fun e => hq2 b hb e.symm))
theorem MG.one {w1 X : World} {k : Nat} {x : List UInt8} {r : Option Addr × Nat} {rows : List (Option Addr × Nat)} {sC : Option Nat} (h : MG w1 k x X (r :: rows) sC) : ∀ q ∈ rows, q ∈ r :: rows ∧ ∀ b, blk q.1 = some b → blk r.1 ≠ some b := fun q hq =>
  ⟨List.mem_cons_of_mem _ hq, fun b hb e => (List.pairwise_cons.1 h.ne).1 q hq b e hb⟩
theorem MG.two {w1 X : World} {k : Nat} {x : List UInt8} {r s : Option Addr × Nat} {sC : Option Nat} (h : MG w1 k x X [r, s] sC) : ∀ q ∈ [r], q ∈ [r, s] ∧ ∀ b, blk q.1 = some b → blk s.1 ≠ some b := fun q hq => by
  have : q = r := by simpa using hq
  subst this
  exact ⟨List.mem_cons_self .., fun b hb => (List.pairwise_cons.1 h.ne).1 s (List.mem_cons_self ..) b hb⟩

set_option maxHeartbeats 4000000 in
set_option maxRecDepth 100000 in
theorem maps_addGen (q : Int) (k : Nat) (R : Value) (x : List UInt8) (w : World) (ht : Tabs w) (hk : k ≤ 8) (hq : q - 1 = (k : Int)) (hx : x.length ≤ 140737488351232) :
    Calls Tryz.prog 290 #[.agg #[.int .i64 q, R, .string ⟨x.toArray⟩]] w (MapsP w (letS k) (letS k ++ [x])) := by
  have HB0 := Lib.hid ((Below.refl w.heap.size w).alloc (Nat.le_refl _) (.cells #[.int .i64 q, R, .string ⟨x.toArray⟩] 180))
  have HC := Lib.hid ((HasCells.new w #[.int .i64 q, R, .string ⟨x.toArray⟩] 180).cell 2)
  have HT := Lib.hid ht
  have HLL := Lib.hid (letS_len k)
  have HSH := Lib.hid (letS_short hk)
  have HSX : Hid (Short (letS k ++ [x])) := Lib.hid (HSH.out.app (fun y hy => by simp at hy; subst hy; exact hx))
  have hsz : (w.alloc (.cells #[.int .i64 q, R, .string ⟨x.toArray⟩] 180)).heap.size = w.heap.size + 1 := by simp
  have hw1 : IntKind.i64.wrap (q - 1) = (k : Int) := by
    have h : IntKind.i64.wrap (q - 1) = q - 1 := IntWalk.i64_in _ (by omega)
    rw [h, hq]
  clear ht
  go_enter Tryz.func290, Tryz.ntmps290
  go_wp2_with fail
  generalize (w.alloc (.cells #[.int .i64 q, R, .string ⟨x.toArray⟩] 180)) = w1 at *
  have hlt : w.heap.size < w1.heap.size := by omega
  have d0 : w1.drew.cell? ⟨w.heap.size, 2, none⟩ = some (.string ⟨x.toArray⟩) := HC.out
  have HSK : Hid (∀ X, Below w1.heap.size w1 X → X.cell? ⟨w.heap.size, 2, none⟩ = some (.string ⟨x.toArray⟩)) := Lib.hid (fun X hX => (hX.cell (p := ⟨w.heap.size, 2, none⟩) hlt).trans HC.out)
  have HLT : Hid (∀ X, Below w1.heap.size w1 X → Calls Tryz.prog 62 #[.int .i64 k] X (fun e w' => ∃ A cap, e = .returned (.slice A k cap) ∧ w'.ownsRow X.heap.size 9 1 (.slice A k cap) k (ss (letS k)) ∧ Below X.heap.size X w')) := Lib.hid (fun X hX => (letters_any k X (HT.out.on (HB0.out.trans (hX.mono (Nat.le_of_lt hlt)))) hk).mono (fun e w' h => by
    obtain ⟨A, cap, h1, h2, h3⟩ := h
    rw [HLL.out] at h1 h2
    exact ⟨A, cap, h1, h2, h3⟩))
  have HM := Lib.hid (MG.start w1 k x)
  have HM0 := Lib.hid (MG.alloc0 w1 k x)
  clear hsz hw1 hq
  go_region_held3 (fun X => X.cell? ⟨w.heap.size, 2, none⟩ = some (.string ⟨x.toArray⟩))
    (first | with_reducible exact d0 | with_reducible exact HSK.out _ HM.out.below | with_reducible exact HSK.out _ HM.out.alloc.below | with_reducible exact HSK.out _ HM0.out.below | with_reducible exact HSK.out _ HE.out.below)
    (first
    | (go_at_call 62; ((with_reducible refine (HLT.out _ HM.out.below).mono ?_); rintro e wA ⟨A1, c1, rfl, hA, hbA⟩; have HM := Lib.hid (HM.out.call hbA hA); clear hA hbA))
    | (go_at_call 62; ((with_reducible refine (HLT.out _ HM.out.alloc.below).mono ?_); rintro e wA ⟨A1, c1, rfl, hA, hbA⟩; have HM := Lib.hid (HM.out.alloc.call hbA hA); clear hA hbA))
    | (go_at_call 62; ((with_reducible refine (HLT.out _ HM0.out.below).mono ?_); rintro e wA ⟨A1, c1, rfl, hA, hbA⟩; have HM := Lib.hid (HM0.out.call hbA hA); clear hA hbA))
    | (go_at_call 62; ((with_reducible refine (HLT.out _ HE.out.below).mono ?_); rintro e wA ⟨A1, c1, rfl, hA, hbA⟩; have HE := Lib.hid (HE.out.call hbA hA); clear hA hbA))
    | (refine step_MG HM.out _ (List.mem_cons_self ..) _ HM.out.one hk hx rfl (.tmp 13) (.tmp 16) rfl rfl rfl ?_; intro g' c' Y hE; have HE := Lib.hid hE; clear hE)
    | (refine step_MG HM.out.alloc _ (List.mem_cons_self ..) _ HM.out.alloc.one hk hx rfl (.tmp 13) (.tmp 16) rfl rfl rfl ?_; intro g' c' Y hE; have HE := Lib.hid hE; clear hE)
    | (refine step_MG HM.out _ (List.mem_cons_of_mem _ (List.mem_cons_self ..)) _ HM.out.two hk hx rfl (.tmp 13) (.tmp 16) rfl rfl rfl ?_; intro g' c' Y hE; have HE := Lib.hid hE; clear hE)
    | (refine step_MG HM.out.alloc _ (List.mem_cons_of_mem _ (List.mem_cons_self ..)) _ HM.out.alloc.two hk hx rfl (.tmp 13) (.tmp 16) rfl rfl rfl ?_; intro g' c' Y hE; have HE := Lib.hid hE; clear hE))
  all_goals (
    rename_i hHeld
    clear hHeld
    go_wp2
    go_ret2
    have h1 := HE.out.row _ (List.mem_cons_self ..)
    refine ⟨_, _, some ⟨g', 0, none⟩, c', by rw [HLL.out, List.length_append, HLL.out]; rfl, strsAt_own h1 HSH.out, (fun h => by subst h; have := own_none h1; subst this; rfl), strsAt_own HE.out.last HSX.out, (fun h => by cases h), HB0.out.trans (HE.out.below.mono (Nat.le_of_lt hlt))⟩)
end Go.Proofs.YteephomlnbbjeaaGreatDoor

namespace Go.Proofs.YteephomlnbbjeaaGreatDoor
open Go Go.RowKit

set_option maxHeartbeats 2000000 in
set_option maxRecDepth 100000 in
theorem maps_dropGen (k : Nat) (R P : Value) (F : Option Addr) (fc : Nat) (f : List (List UInt8)) (w : World) (ht : Tabs w) (hk : k ≤ 8) (hf : StrsAt w F f) (hF : F = none → f = []) :
    Calls Tryz.prog 287 #[.agg #[.int .i64 k, R, .slice F f.length fc, P]] w (MapsP w f (letS k)) := by
  have HB0 := Lib.hid ((Below.refl w.heap.size w).alloc (Nat.le_refl _) (.cells #[.int .i64 k, R, .slice F f.length fc, P] 133))
  have HC := Lib.hid ((HasCells.new w #[.int .i64 k, R, .slice F f.length fc, P] 133).cell 0)
  have HC2 := Lib.hid ((HasCells.new w #[.int .i64 k, R, .slice F f.length fc, P] 133).cell 2)
  have HT := Lib.hid ht
  have HF := Lib.hid hf
  have HFN := Lib.hid hF
  have HLL := Lib.hid (letS_len k)
  have HSH := Lib.hid (letS_short hk)
  have hsz : (w.alloc (.cells #[.int .i64 k, R, .slice F f.length fc, P] 133)).heap.size = w.heap.size + 1 := by simp
  clear ht hf hF
  go_enter Tryz.func287, Tryz.ntmps287
  go_wp2_with fail
  generalize (w.alloc (.cells #[.int .i64 k, R, .slice F f.length fc, P] 133)) = w1 at *
  have hlt : w.heap.size < w1.heap.size := by omega
  have d0 : w1.drew.cell? ⟨w.heap.size, 0, none⟩ = some (.int .i64 k) := HC.out
  have d2 : w1.drew.cell? ⟨w.heap.size, 2, none⟩ = some (.slice F f.length fc) := HC2.out
  have HSK : Hid (∀ X, Below w1.heap.size w1 X → X.cell? ⟨w.heap.size, 0, none⟩ = some (.int .i64 k) ∧ X.cell? ⟨w.heap.size, 2, none⟩ = some (.slice F f.length fc)) := Lib.hid (fun X hX => ⟨(hX.cell (p := ⟨w.heap.size, 0, none⟩) hlt).trans HC.out, (hX.cell (p := ⟨w.heap.size, 2, none⟩) hlt).trans HC2.out⟩)
  have HLT : Hid (Calls Tryz.prog 62 #[.int .i64 k] w1.drew (fun e w' => ∃ A cap, e = .returned (.slice A k cap) ∧ w'.ownsRow w1.drew.heap.size 9 1 (.slice A k cap) k (ss (letS k)) ∧ Below w1.drew.heap.size w1.drew w')) := Lib.hid ((letters_any k w1.drew (HT.out.on HB0.out.drew) hk).mono (fun e w' h => by
    obtain ⟨A, cap, h1, h2, h3⟩ := h
    rw [HLL.out] at h1 h2
    exact ⟨A, cap, h1, h2, h3⟩))
  clear hsz
  go_region_held3 (fun X => X.cell? ⟨w.heap.size, 0, none⟩ = some (.int .i64 k) ∧ X.cell? ⟨w.heap.size, 2, none⟩ = some (.slice F f.length fc))
    (first | with_reducible exact ⟨d0, d2⟩ | with_reducible exact HSK.out _ HXA.out)
    (first
    | (go_at_call 62; ((with_reducible refine HLT.out.mono ?_); rintro e wA ⟨A1, c1, rfl, hA, hbA⟩; have HXA : Hid (Below w1.heap.size w1 wA) := Lib.hid ((Below.refl _ w1).drew.trans hbA); have HA := Lib.hid hA; clear hA hbA)))
  all_goals (
    rename_i hHeld
    clear hHeld
    go_wp2
    go_ret2
    have h1 := HA.out
    refine ⟨F, fc, A1, c1, by rw [HLL.out]; rfl, HF.out.below (HB0.out.trans (HXA.out.mono (Nat.le_of_lt hlt))), HFN.out, strsAt_own h1 HSH.out, (fun h => by subst h; have := own_none h1; subst this; rfl), HB0.out.trans (HXA.out.mono (Nat.le_of_lt hlt))⟩)

theorem addR_ec (p : Pr) (t : Tz) : (addRC p t = none ↔ addRE p t ≠ 0) := by
  unfold addRC; split <;> simp_all
theorem dropR_ec (p : Pr) (t : Tz) : (dropRC p t = none ↔ dropRE p t ≠ 0) := by
  unfold dropRC; split <;> simp_all
theorem genR_ec (p : Pr) (t : Tz) : (genRC p t = none ↔ genRE p t ≠ 0) := by
  unfold genRC; split <;> simp_all
theorem dgR_ec (p : Pr) (t : Tz) : (dgRC p t = none ↔ dgRE p t ≠ 0) := by
  unfold dgRC dgRE
  split
  · simp
  · split
    · simp
    · split
      · simp
      · split <;> simp
theorem chg_ec (p : Pr) (t : Tz) : (chgC p t = none ↔ chgE p t ≠ 0) := by
  unfold chgC chgE
  split
  · rename_i h; simp [h]
  · split
    · exact addR_ec p t
    · split
      · exact dropR_ec p t
      · split
        · exact genR_ec p t
        · split
          · exact dgR_ec p t
          · simp
/-- How many generators a change's presentation may have. -/
def okC : Chg → Prop
  | .addRel q => 0 ≤ q.k ∧ q.k ≤ 8
  | .dropRel q _ _ => 0 ≤ q.k ∧ q.k ≤ 8
  | .addGen q x => 0 ≤ q.k - 1 ∧ q.k - 1 ≤ 8 ∧ x.length ≤ 1000
  | .dropGen q _ _ => 0 ≤ q.k ∧ q.k ≤ 8
theorem chg_ok {p : Pr} {t : Tz} {c : Chg} (h : chgC p t = some c) : okC c := by
  have hE : chgE p t = 0 := by
    rcases Classical.em (chgE p t = 0) with h0 | h0
    · exact h0
    · rw [(chg_ec p t).2 h0] at h; cases h
  unfold chgC at h
  split at h
  · cases h
  · rename_i hp
    have hp0 : chkP p = 0 := by simpa using hp
    obtain ⟨h1, h8, _⟩ := chkP_rels hp0
    split at h
    · unfold addRC at h; split at h
      · cases h; exact ⟨by simp only; omega, h8⟩
      · cases h
    · split at h
      · unfold dropRC at h; split at h
        · cases h; exact ⟨by simp only [dropQ]; omega, h8⟩
        · cases h
      · split at h
        · unfold genRC at h; split at h
          · rename_i hg
            cases h
            have hl : t.word.length < 200 ∧ p.k < 8 := by
              unfold genRE at hg
              split at hg
              · cases hg
              · omega
            exact ⟨by simp only; omega, by simp only; omega, by omega⟩
          · cases h
        · split at h
          · unfold dgRC at h
            split at h
            · cases h
            · split at h
              · cases h
              · split at h
                · cases h
                · split at h
                  · cases h
                  · cases h
                    exact ⟨by simp only; omega, by simp only [dgLast]; omega⟩
          · cases h
end Go.Proofs.YteephomlnbbjeaaGreatDoor

namespace Go.Proofs.YteephomlnbbjeaaGreatDoor
open Go Go.RowKit

theorem Tryz.mthM177 (a b : Value) (w : World) : (method 385 177 (.agg #[a, b]) "cayley/pres.maps").run Tryz.prog w = .ok (289, .agg #[a, b]) w := by kernel_rfl
theorem Tryz.mthT177 (a b : Value) (w : World) : (method 385 177 (.agg #[a, b]) "cayley/pres.target").run Tryz.prog w = .ok (285, .agg #[a, b]) w := by kernel_rfl
theorem Tryz.mthM130 (a b c d : Value) (w : World) : (method 385 130 (.agg #[a, b, c, d]) "cayley/pres.maps").run Tryz.prog w = .ok (286, .agg #[a, b, c, d]) w := by kernel_rfl
theorem Tryz.mthT130 (a b c d : Value) (w : World) : (method 385 130 (.agg #[a, b, c, d]) "cayley/pres.target").run Tryz.prog w = .ok (285, .agg #[a, b]) w := by kernel_rfl
theorem Tryz.mthM180 (a b c : Value) (w : World) : (method 385 180 (.agg #[a, b, c]) "cayley/pres.maps").run Tryz.prog w = .ok (290, .agg #[a, b, c]) w := by kernel_rfl
theorem Tryz.mthT180 (a b c : Value) (w : World) : (method 385 180 (.agg #[a, b, c]) "cayley/pres.target").run Tryz.prog w = .ok (285, .agg #[a, b]) w := by kernel_rfl
theorem Tryz.mthM133 (a b c d : Value) (w : World) : (method 385 133 (.agg #[a, b, c, d]) "cayley/pres.maps").run Tryz.prog w = .ok (287, .agg #[a, b, c, d]) w := by kernel_rfl
theorem Tryz.mthT133 (a b c d : Value) (w : World) : (method 385 133 (.agg #[a, b, c, d]) "cayley/pres.target").run Tryz.prog w = .ok (285, .agg #[a, b]) w := by kernel_rfl

/-- What Move hands back. -/
def MoveP (w : World) (E : Int) (C : Option Chg) (e : Ending) (w' : World) : Prop :=
  Below w.heap.size w w' ∧ match C with
  | none => e = .returned (.tuple #[prV 0 none 0 0, .slice none 0 0, .slice none 0 0, .int .i64 E])
  | some c => ∃ A cap F fc G gc, e = .returned (.tuple #[prV c.goal.k A c.goal.rels.length cap, .slice F c.fwd.length fc, .slice G c.bwd.length gc, .int .i64 0]) ∧ PresAt w' c.goal A ∧ StrsAt w' F c.fwd ∧ (F = none → c.fwd = []) ∧ StrsAt w' G c.bwd ∧ (G = none → c.bwd = [])

/-- A store into a box of a presentation leaves every row of strings. -/
theorem StrsAt.box {w : World} {A : Option Addr} {l : List (List UInt8)} (h : StrsAt w A l) {b : Nat} {k0 : Int} {S : Option Addr} {n c : Nat} {t : TypeId} (hb : w.heap[b]? = some (.cells #[.int .i64 k0, .slice S n c] t (0, 0))) (v0 v1 : Value) : StrsAt ((w.setCell ⟨b, 0, none⟩ v0).setCell ⟨b, 1, none⟩ v1) A l := by
  intro i hi
  obtain ⟨b', o, rfl, hc, hl⟩ := h i hi
  have hne : b' ≠ b := by
    intro e
    subst e
    rw [cell_of_row w b' (o + i) _ t (0, 0) hb] at hc
    rcases hq : o + i with _ | _ | j
    · rw [hq] at hc; simp at hc
    · rw [hq] at hc; simp at hc
    · rw [hq] at hc; simp at hc
  refine ⟨b', o, rfl, ?_, hl⟩
  rw [World.cell?_setCell_other _ _ _ _ (by simp [Ne.symm hne]), World.cell?_setCell_other _ _ _ _ (by simp [Ne.symm hne])]
  exact hc

set_option maxHeartbeats 2000000 in
set_option maxRecDepth 100000 in
theorem Move_any (p : Pr) (R : Option Addr) (rc : Nat) (t : Tz) (D : Option Addr) (dc : Nat) (w : World) (ht : Tabs w) (hr : StrsAt w R p.rels) (hR : R = none → p.rels = []) (hd : CellsAt w D t.proof) (hD : D = none → t.proof = []) (hm : p.rels.length ≤ maxLen) (hdm : t.proof.length ≤ maxLen) (hu : t.word.length ≤ 140737488351232) :
    Calls Tryz.prog 31 #[prV p.k R p.rels.length rc, tzV t D dc] w (MoveP w (chgE p t) (chgC p t)) := by
  have HBX := Lib.hid (Bx2.start w (prC p.k R p.rels.length rc) (tzC t D dc))
  have HB0 := Lib.hid ((Bx2.start w (prC p.k R p.rels.length rc) (tzC t D dc)).on ((Below.refl _ _).alloc (Nat.le_refl _) (.cells #[.int .i64 0, .slice none 0 0] 24)))
  have HT := Lib.hid ht
  have hN := newChange_any p R rc t D dc (((w.alloc (.cells (prC p.k R p.rels.length rc) 24)).alloc (.cells (tzC t D dc) 58)).alloc (.cells #[.int .i64 0, .slice none 0 0] 24)) (HT.out.on HB0.out.below) (hr.below HB0.out.below) hR (hd.below HB0.out.below) hD hm hdm hu
  have HH0 := Lib.hid (heap_alloc_new ((w.alloc (.cells (prC p.k R p.rels.length rc) 24)).alloc (.cells (tzC t D dc) 58)) (.cells #[.int .i64 0, .slice none 0 0] 24))
  have HEC := Lib.hid (chg_ec p t)
  have HOK := Lib.hid (fun c => chg_ok (p := p) (t := t) (c := c))
  have hsz : ((w.alloc (.cells (prC p.k R p.rels.length rc) 24)).alloc (.cells (tzC t D dc) 58)).heap.size = w.heap.size + 2 := by simp
  rw [hsz] at HH0
  clear ht hr hR hd hD hm hdm hu hsz
  generalize chgE p t = E at *
  generalize chgC p t = C at *
  obtain ⟨kind, rel, word, proof⟩ := t
  cases C with
  | none =>
    have hE : (E != 0) = true := by have := HEC.out.1 rfl; simpa using this
    go_enter Tryz.func31, Tryz.ntmps31
    go_wp2_with fail
    refine hN.mono ?_
    rintro e w1 ⟨v, rfl, hv, hb⟩
    simp only at hv
    subst hv
    have HB := Lib.hid (HB0.out.on hb)
    have HH := Lib.hid (heap_on HH0.out hb)
    obtain ⟨x0, x1, f0, f1⟩ := blk2 HH.out
    clear hb hN
    have HB9 : Hid (Below w.heap.size w ((w1.setCell ⟨w.heap.size + 1 + 1, 0, none⟩ (.int .i64 0)).setCell ⟨w.heap.size + 1 + 1, 1, none⟩ (.slice none 0 0))) := Lib.hid ((HB.out.below.setCell (by simp only; omega) _).setCell (by simp only; omega) _)
    have e1 : ((w1.setCell ⟨w.heap.size + 1 + 1, 0, none⟩ (.int .i64 0)).setCell ⟨w.heap.size + 1 + 1, 1, none⟩ (.slice none 0 0)).cell? ⟨w.heap.size + 1 + 1, 1, none⟩ = some (.slice none 0 0) :=
      World.cell?_setCell_same' _ _ _ (by rw [World.cell?_setCell_other _ _ _ _ (by simp), x1]; rfl)
    have e0 : ((w1.setCell ⟨w.heap.size + 1 + 1, 0, none⟩ (.int .i64 0)).setCell ⟨w.heap.size + 1 + 1, 1, none⟩ (.slice none 0 0)).cell? ⟨w.heap.size + 1 + 1, 0, none⟩ = some (.int .i64 0) := by
      rw [World.cell?_setCell_other _ _ _ _ (by simp)]; exact World.cell?_setCell_same' _ _ _ (by rw [x0]; rfl)
    go_wp2
    exact bodyPost_ret (v := .tuple #[prV 0 none 0 0, .slice none 0 0, .slice none 0 0, .int .i64 E]) (by simp [results, Tryz.results31, go_sem, e0, e1]) rfl ⟨HB9.out, rfl⟩
  | some c =>
    have hE0 : E = 0 := Classical.byContradiction fun h => by have := HEC.out.2 h; cases this
    subst hE0
    have HO := Lib.hid (HOK.out c rfl)
    go_enter Tryz.func31, Tryz.ntmps31
    go_wp2_with fail
    refine hN.mono ?_
    rintro e w1 ⟨v, rfl, hv, hb⟩
    simp only at hv
    have HV := Lib.hid hv
    have HB := Lib.hid (HB0.out.on hb)
    have HH := Lib.hid (heap_on HH0.out hb)
    obtain ⟨x0, x1, f0, f1⟩ := blk2 HH.out
    clear hb hN hv
    cases c with
    | addRel q =>
      obtain ⟨A, cap, hP, rfl⟩ := HV.out
      have HP := Lib.hid hP
      clear hP HV
      obtain ⟨k, hk⟩ := Int.eq_ofNat_of_zero_le HO.out.1
      have hk8 : k ≤ 8 := by have := HO.out.2; omega
      have hm := Tryz.mthM177 (.int .i64 k) (.slice A q.rels.length cap)
      have hT := Tryz.mthT177 (.int .i64 k) (.slice A q.rels.length cap)
      have hMP : Calls Tryz.prog 289 #[.agg #[.int .i64 k, .slice A q.rels.length cap]] w1 (MapsP w1 (Chg.fwd (.addRel q)) (Chg.bwd (.addRel q))) := by
        have h := maps_addRel k (.slice A q.rels.length cap) w1 (HT.out.on HB.out.below) hk8
        simpa only [Chg.fwd, Chg.bwd, hk, Int.toNat_natCast] using h
      have HGO : Hid (Chg.goal (.addRel q) = q) := Lib.hid rfl
      have HMV : Hid (∀ e w', (Below w.heap.size w w' ∧ ∃ A cap F fc G gc, e = .returned (.tuple #[prV q.k A q.rels.length cap, .slice F (Chg.fwd (.addRel q)).length fc, .slice G (Chg.bwd (.addRel q)).length gc, .int .i64 0]) ∧ PresAt w' q A ∧ StrsAt w' F (Chg.fwd (.addRel q)) ∧ (F = none → Chg.fwd (.addRel q) = []) ∧ StrsAt w' G (Chg.bwd (.addRel q)) ∧ (G = none → Chg.bwd (.addRel q) = [])) → MoveP w 0 (some (.addRel q)) e w') := Lib.hid (fun e w' h => h)
      generalize Chg.fwd (.addRel q) = FL at *
      generalize Chg.bwd (.addRel q) = GL at *
      have HK := Lib.hid hk
      rw [hk]
      clear hk
      go_wp2_with fail
      refine hMP.mono ?_
      rintro e w2 ⟨F, fc, G, gc, rfl, hF, hFN, hG, hGN, hb2⟩
      have HF := Lib.hid hF
      have HFN := Lib.hid hFN
      have HG := Lib.hid hG
      have HGN := Lib.hid hGN
      have HB2 := Lib.hid (HB.out.on hb2)
      have HH2 := Lib.hid (heap_on HH.out hb2)
      have HP2 := Lib.hid (⟨HP.out.1.below hb2, HP.out.2⟩ : PresAt w2 q A)
      clear hMP hF hFN hG hGN hb2
      go_wp2_with fail
      refine (target_any k A q.rels.length cap w2).mono ?_
      rintro e w3 ⟨rfl, hb3⟩
      have HB3 := Lib.hid (HB2.out.on hb3)
      have HH3 := Lib.hid (heap_on HH2.out hb3)
      obtain ⟨y0, y1, g0, g1⟩ := blk2 HH3.out
      have HP3 := Lib.hid (HP2.out.1.below hb3)
      have HF3 := Lib.hid (HF.out.below hb3)
      have HG3 := Lib.hid (HG.out.below hb3)
      have HB9 : Hid (Below w.heap.size w ((w3.setCell ⟨w.heap.size + 1 + 1, 0, none⟩ (.int .i64 k)).setCell ⟨w.heap.size + 1 + 1, 1, none⟩ (.slice A q.rels.length cap))) := Lib.hid ((HB3.out.below.setCell (by simp only; omega) _).setCell (by simp only; omega) _)
      have e1 : ((w3.setCell ⟨w.heap.size + 1 + 1, 0, none⟩ (.int .i64 k)).setCell ⟨w.heap.size + 1 + 1, 1, none⟩ (.slice A q.rels.length cap)).cell? ⟨w.heap.size + 1 + 1, 1, none⟩ = some (.slice A q.rels.length cap) :=
        World.cell?_setCell_same' _ _ _ (by rw [World.cell?_setCell_other _ _ _ _ (by simp), y1]; rfl)
      have e0 : ((w3.setCell ⟨w.heap.size + 1 + 1, 0, none⟩ (.int .i64 k)).setCell ⟨w.heap.size + 1 + 1, 1, none⟩ (.slice A q.rels.length cap)).cell? ⟨w.heap.size + 1 + 1, 0, none⟩ = some (.int .i64 k) := by
        rw [World.cell?_setCell_other _ _ _ _ (by simp)]; exact World.cell?_setCell_same' _ _ _ (by rw [y0]; rfl)
      clear hb3 x0 x1 f0 f1
      go_wp2
      refine bodyPost_ret (v := .tuple #[prV k A q.rels.length cap, .slice F FL.length fc, .slice G GL.length gc, .int .i64 0]) (by simp [results, Tryz.results31, go_sem, e0, e1]) rfl (HMV.out _ _ ⟨HB9.out, A, cap, F, fc, G, gc, ?_, ⟨HP3.out.box HH3.out _ _, HP2.out.2⟩, HF3.out.box HH3.out _ _, HFN.out, HG3.out.box HH3.out _ _, HGN.out⟩)
      rw [HK.out]
    | dropRel q r d =>
      obtain ⟨A, cap, D2, dc2, hP, _, _, rfl⟩ := HV.out
      have HP := Lib.hid hP
      clear hP HV
      obtain ⟨k, hk⟩ := Int.eq_ofNat_of_zero_le HO.out.1
      have hk8 : k ≤ 8 := by have := HO.out.2; omega
      have hm := Tryz.mthM130 (.int .i64 k) (.slice A q.rels.length cap) (.int .i64 r) (.slice D2 d.length dc2)
      have hT := Tryz.mthT130 (.int .i64 k) (.slice A q.rels.length cap) (.int .i64 r) (.slice D2 d.length dc2)
      have hMP : Calls Tryz.prog 286 #[.agg #[.int .i64 k, .slice A q.rels.length cap, .int .i64 r, .slice D2 d.length dc2]] w1 (MapsP w1 (Chg.fwd (.dropRel q r d)) (Chg.bwd (.dropRel q r d))) := by
        have h := maps_dropRel k (.slice A q.rels.length cap) (.int .i64 r) (.slice D2 d.length dc2) w1 (HT.out.on HB.out.below) hk8
        simpa only [Chg.fwd, Chg.bwd, hk, Int.toNat_natCast] using h
      have HGO : Hid (Chg.goal (.dropRel q r d) = q) := Lib.hid rfl
      have HMV : Hid (∀ e w', (Below w.heap.size w w' ∧ ∃ A cap F fc G gc, e = .returned (.tuple #[prV q.k A q.rels.length cap, .slice F (Chg.fwd (.dropRel q r d)).length fc, .slice G (Chg.bwd (.dropRel q r d)).length gc, .int .i64 0]) ∧ PresAt w' q A ∧ StrsAt w' F (Chg.fwd (.dropRel q r d)) ∧ (F = none → Chg.fwd (.dropRel q r d) = []) ∧ StrsAt w' G (Chg.bwd (.dropRel q r d)) ∧ (G = none → Chg.bwd (.dropRel q r d) = [])) → MoveP w 0 (some (.dropRel q r d)) e w') := Lib.hid (fun e w' h => h)
      generalize Chg.fwd (.dropRel q r d) = FL at *
      generalize Chg.bwd (.dropRel q r d) = GL at *
      have HK := Lib.hid hk
      rw [hk]
      clear hk
      go_wp2_with fail
      refine hMP.mono ?_
      rintro e w2 ⟨F, fc, G, gc, rfl, hF, hFN, hG, hGN, hb2⟩
      have HF := Lib.hid hF
      have HFN := Lib.hid hFN
      have HG := Lib.hid hG
      have HGN := Lib.hid hGN
      have HB2 := Lib.hid (HB.out.on hb2)
      have HH2 := Lib.hid (heap_on HH.out hb2)
      have HP2 := Lib.hid (⟨HP.out.1.below hb2, HP.out.2⟩ : PresAt w2 q A)
      clear hMP hF hFN hG hGN hb2
      go_wp2_with fail
      refine (target_any k A q.rels.length cap w2).mono ?_
      rintro e w3 ⟨rfl, hb3⟩
      have HB3 := Lib.hid (HB2.out.on hb3)
      have HH3 := Lib.hid (heap_on HH2.out hb3)
      obtain ⟨y0, y1, g0, g1⟩ := blk2 HH3.out
      have HP3 := Lib.hid (HP2.out.1.below hb3)
      have HF3 := Lib.hid (HF.out.below hb3)
      have HG3 := Lib.hid (HG.out.below hb3)
      have HB9 : Hid (Below w.heap.size w ((w3.setCell ⟨w.heap.size + 1 + 1, 0, none⟩ (.int .i64 k)).setCell ⟨w.heap.size + 1 + 1, 1, none⟩ (.slice A q.rels.length cap))) := Lib.hid ((HB3.out.below.setCell (by simp only; omega) _).setCell (by simp only; omega) _)
      have e1 : ((w3.setCell ⟨w.heap.size + 1 + 1, 0, none⟩ (.int .i64 k)).setCell ⟨w.heap.size + 1 + 1, 1, none⟩ (.slice A q.rels.length cap)).cell? ⟨w.heap.size + 1 + 1, 1, none⟩ = some (.slice A q.rels.length cap) :=
        World.cell?_setCell_same' _ _ _ (by rw [World.cell?_setCell_other _ _ _ _ (by simp), y1]; rfl)
      have e0 : ((w3.setCell ⟨w.heap.size + 1 + 1, 0, none⟩ (.int .i64 k)).setCell ⟨w.heap.size + 1 + 1, 1, none⟩ (.slice A q.rels.length cap)).cell? ⟨w.heap.size + 1 + 1, 0, none⟩ = some (.int .i64 k) := by
        rw [World.cell?_setCell_other _ _ _ _ (by simp)]; exact World.cell?_setCell_same' _ _ _ (by rw [y0]; rfl)
      clear hb3 x0 x1 f0 f1
      go_wp2
      refine bodyPost_ret (v := .tuple #[prV k A q.rels.length cap, .slice F FL.length fc, .slice G GL.length gc, .int .i64 0]) (by simp [results, Tryz.results31, go_sem, e0, e1]) rfl (HMV.out _ _ ⟨HB9.out, A, cap, F, fc, G, gc, ?_, ⟨HP3.out.box HH3.out _ _, HP2.out.2⟩, HF3.out.box HH3.out _ _, HFN.out, HG3.out.box HH3.out _ _, HGN.out⟩)
      rw [HK.out]
    | addGen q x =>
      obtain ⟨A, cap, hP, hxl, rfl⟩ := HV.out
      have HP := Lib.hid hP
      clear hP HV
      obtain ⟨k, hk⟩ := Int.eq_ofNat_of_zero_le HO.out.1
      have hk8 : k ≤ 8 := by have := HO.out.2.1; omega
      have hm := Tryz.mthM180 (.int .i64 q.k) (.slice A q.rels.length cap) (.string ⟨x.toArray⟩)
      have hT := Tryz.mthT180 (.int .i64 q.k) (.slice A q.rels.length cap) (.string ⟨x.toArray⟩)
      have hMP : Calls Tryz.prog 290 #[.agg #[.int .i64 q.k, .slice A q.rels.length cap, .string ⟨x.toArray⟩]] w1 (MapsP w1 (Chg.fwd (.addGen q x)) (Chg.bwd (.addGen q x))) := by
        have h := maps_addGen q.k k (.slice A q.rels.length cap) x w1 (HT.out.on HB.out.below) hk8 hk hxl
        simpa only [Chg.fwd, Chg.bwd, hk, Int.toNat_natCast] using h
      have HGO : Hid (Chg.goal (.addGen q x) = q) := Lib.hid rfl
      have HMV : Hid (∀ e w', (Below w.heap.size w w' ∧ ∃ A cap F fc G gc, e = .returned (.tuple #[prV q.k A q.rels.length cap, .slice F (Chg.fwd (.addGen q x)).length fc, .slice G (Chg.bwd (.addGen q x)).length gc, .int .i64 0]) ∧ PresAt w' q A ∧ StrsAt w' F (Chg.fwd (.addGen q x)) ∧ (F = none → Chg.fwd (.addGen q x) = []) ∧ StrsAt w' G (Chg.bwd (.addGen q x)) ∧ (G = none → Chg.bwd (.addGen q x) = [])) → MoveP w 0 (some (.addGen q x)) e w') := Lib.hid (fun e w' h => h)
      generalize Chg.fwd (.addGen q x) = FL at *
      generalize Chg.bwd (.addGen q x) = GL at *
      have HK := Lib.hid hk
      skip
      clear hk
      go_wp2_with fail
      refine hMP.mono ?_
      rintro e w2 ⟨F, fc, G, gc, rfl, hF, hFN, hG, hGN, hb2⟩
      have HF := Lib.hid hF
      have HFN := Lib.hid hFN
      have HG := Lib.hid hG
      have HGN := Lib.hid hGN
      have HB2 := Lib.hid (HB.out.on hb2)
      have HH2 := Lib.hid (heap_on HH.out hb2)
      have HP2 := Lib.hid (⟨HP.out.1.below hb2, HP.out.2⟩ : PresAt w2 q A)
      clear hMP hF hFN hG hGN hb2
      go_wp2_with fail
      refine (target_any q.k A q.rels.length cap w2).mono ?_
      rintro e w3 ⟨rfl, hb3⟩
      have HB3 := Lib.hid (HB2.out.on hb3)
      have HH3 := Lib.hid (heap_on HH2.out hb3)
      obtain ⟨y0, y1, g0, g1⟩ := blk2 HH3.out
      have HP3 := Lib.hid (HP2.out.1.below hb3)
      have HF3 := Lib.hid (HF.out.below hb3)
      have HG3 := Lib.hid (HG.out.below hb3)
      have HB9 : Hid (Below w.heap.size w ((w3.setCell ⟨w.heap.size + 1 + 1, 0, none⟩ (.int .i64 q.k)).setCell ⟨w.heap.size + 1 + 1, 1, none⟩ (.slice A q.rels.length cap))) := Lib.hid ((HB3.out.below.setCell (by simp only; omega) _).setCell (by simp only; omega) _)
      have e1 : ((w3.setCell ⟨w.heap.size + 1 + 1, 0, none⟩ (.int .i64 q.k)).setCell ⟨w.heap.size + 1 + 1, 1, none⟩ (.slice A q.rels.length cap)).cell? ⟨w.heap.size + 1 + 1, 1, none⟩ = some (.slice A q.rels.length cap) :=
        World.cell?_setCell_same' _ _ _ (by rw [World.cell?_setCell_other _ _ _ _ (by simp), y1]; rfl)
      have e0 : ((w3.setCell ⟨w.heap.size + 1 + 1, 0, none⟩ (.int .i64 q.k)).setCell ⟨w.heap.size + 1 + 1, 1, none⟩ (.slice A q.rels.length cap)).cell? ⟨w.heap.size + 1 + 1, 0, none⟩ = some (.int .i64 q.k) := by
        rw [World.cell?_setCell_other _ _ _ _ (by simp)]; exact World.cell?_setCell_same' _ _ _ (by rw [y0]; rfl)
      clear hb3 x0 x1 f0 f1
      go_wp2
      refine bodyPost_ret (v := .tuple #[prV q.k A q.rels.length cap, .slice F FL.length fc, .slice G GL.length gc, .int .i64 0]) (by simp [results, Tryz.results31, go_sem, e0, e1]) rfl (HMV.out _ _ ⟨HB9.out, A, cap, F, fc, G, gc, ?_, ⟨HP3.out.box HH3.out _ _, HP2.out.2⟩, HF3.out.box HH3.out _ _, HFN.out, HG3.out.box HH3.out _ _, HGN.out⟩)
      rfl
    | dropGen q f pl =>
      obtain ⟨A, cap, F0, fz, L, lc, hP, hFf, hFn, _, rfl⟩ := HV.out
      have HP := Lib.hid hP
      clear hP HV
      obtain ⟨k, hk⟩ := Int.eq_ofNat_of_zero_le HO.out.1
      have hk8 : k ≤ 8 := by have := HO.out.2; omega
      have hm := Tryz.mthM133 (.int .i64 k) (.slice A q.rels.length cap) (.slice F0 f.length fz) (.slice L pl.length lc)
      have hT := Tryz.mthT133 (.int .i64 k) (.slice A q.rels.length cap) (.slice F0 f.length fz) (.slice L pl.length lc)
      have hMP : Calls Tryz.prog 287 #[.agg #[.int .i64 k, .slice A q.rels.length cap, .slice F0 f.length fz, .slice L pl.length lc]] w1 (MapsP w1 (Chg.fwd (.dropGen q f pl)) (Chg.bwd (.dropGen q f pl))) := by
        have h := maps_dropGen k (.slice A q.rels.length cap) (.slice L pl.length lc) F0 fz f w1 (HT.out.on HB.out.below) hk8 hFf hFn
        simpa only [Chg.fwd, Chg.bwd, hk, Int.toNat_natCast] using h
      have HGO : Hid (Chg.goal (.dropGen q f pl) = q) := Lib.hid rfl
      have HMV : Hid (∀ e w', (Below w.heap.size w w' ∧ ∃ A cap F fc G gc, e = .returned (.tuple #[prV q.k A q.rels.length cap, .slice F (Chg.fwd (.dropGen q f pl)).length fc, .slice G (Chg.bwd (.dropGen q f pl)).length gc, .int .i64 0]) ∧ PresAt w' q A ∧ StrsAt w' F (Chg.fwd (.dropGen q f pl)) ∧ (F = none → Chg.fwd (.dropGen q f pl) = []) ∧ StrsAt w' G (Chg.bwd (.dropGen q f pl)) ∧ (G = none → Chg.bwd (.dropGen q f pl) = [])) → MoveP w 0 (some (.dropGen q f pl)) e w') := Lib.hid (fun e w' h => h)
      generalize Chg.fwd (.dropGen q f pl) = FL at *
      generalize Chg.bwd (.dropGen q f pl) = GL at *
      have HK := Lib.hid hk
      rw [hk]
      clear hk
      go_wp2_with fail
      refine hMP.mono ?_
      rintro e w2 ⟨F, fc, G, gc, rfl, hF, hFN, hG, hGN, hb2⟩
      have HF := Lib.hid hF
      have HFN := Lib.hid hFN
      have HG := Lib.hid hG
      have HGN := Lib.hid hGN
      have HB2 := Lib.hid (HB.out.on hb2)
      have HH2 := Lib.hid (heap_on HH.out hb2)
      have HP2 := Lib.hid (⟨HP.out.1.below hb2, HP.out.2⟩ : PresAt w2 q A)
      clear hMP hF hFN hG hGN hb2
      go_wp2_with fail
      refine (target_any k A q.rels.length cap w2).mono ?_
      rintro e w3 ⟨rfl, hb3⟩
      have HB3 := Lib.hid (HB2.out.on hb3)
      have HH3 := Lib.hid (heap_on HH2.out hb3)
      obtain ⟨y0, y1, g0, g1⟩ := blk2 HH3.out
      have HP3 := Lib.hid (HP2.out.1.below hb3)
      have HF3 := Lib.hid (HF.out.below hb3)
      have HG3 := Lib.hid (HG.out.below hb3)
      have HB9 : Hid (Below w.heap.size w ((w3.setCell ⟨w.heap.size + 1 + 1, 0, none⟩ (.int .i64 k)).setCell ⟨w.heap.size + 1 + 1, 1, none⟩ (.slice A q.rels.length cap))) := Lib.hid ((HB3.out.below.setCell (by simp only; omega) _).setCell (by simp only; omega) _)
      have e1 : ((w3.setCell ⟨w.heap.size + 1 + 1, 0, none⟩ (.int .i64 k)).setCell ⟨w.heap.size + 1 + 1, 1, none⟩ (.slice A q.rels.length cap)).cell? ⟨w.heap.size + 1 + 1, 1, none⟩ = some (.slice A q.rels.length cap) :=
        World.cell?_setCell_same' _ _ _ (by rw [World.cell?_setCell_other _ _ _ _ (by simp), y1]; rfl)
      have e0 : ((w3.setCell ⟨w.heap.size + 1 + 1, 0, none⟩ (.int .i64 k)).setCell ⟨w.heap.size + 1 + 1, 1, none⟩ (.slice A q.rels.length cap)).cell? ⟨w.heap.size + 1 + 1, 0, none⟩ = some (.int .i64 k) := by
        rw [World.cell?_setCell_other _ _ _ _ (by simp)]; exact World.cell?_setCell_same' _ _ _ (by rw [y0]; rfl)
      clear hb3 x0 x1 f0 f1
      go_wp2
      refine bodyPost_ret (v := .tuple #[prV k A q.rels.length cap, .slice F FL.length fc, .slice G GL.length gc, .int .i64 0]) (by simp [results, Tryz.results31, go_sem, e0, e1]) rfl (HMV.out _ _ ⟨HB9.out, A, cap, F, fc, G, gc, ?_, ⟨HP3.out.box HH3.out _ _, HP2.out.2⟩, HF3.out.box HH3.out _ _, HFN.out, HG3.out.box HH3.out _ _, HGN.out⟩)
      rw [HK.out]
end Go.Proofs.YteephomlnbbjeaaGreatDoor

namespace Go.Proofs.YteephomlnbbjeaaGreatDoor
open Go Go.RowKit

/-- How many cells there are once a relator is taken away. -/
def cntC (rel : Int) (n : Nat) (d : List Cel) : Nat := (d.map fun c => if c.rel = rel then n else 1).sum
theorem cntC_take (rel : Int) (n : Nat) (d : List Cel) (i : Nat) (h : i < d.length) : cntC rel n (d.take (i + 1)) = cntC rel n (d.take i) + if d[i].rel = rel then n else 1 := by
  unfold cntC; rw [List.take_succ_eq_append_getElem h, List.map_append, List.sum_append]; simp only [List.map_cons, List.map_nil, List.sum_cons, List.sum_nil, Nat.add_zero]
theorem cntC_le (rel : Int) (n : Nat) (d : List Cel) (hn : n ≤ 100000) : cntC rel n d ≤ d.length * 100001 := by
  unfold cntC
  induction d with
  | nil => simp
  | cons c d ih => simp only [List.map_cons, List.sum_cons, List.length_cons]; split <;> omega
theorem cntC_top (rel : Int) (n : Nat) (d : List Cel) (j : Nat) (hd : d.length ≤ 100000) (hn : n ≤ 100000) : cntC rel n (d.take j) ≤ 100000 * 100001 := by
  have h1 := cntC_le rel n (d.take j) hn
  have h2 : (d.take j).length ≤ 100000 := by simp; omega
  exact Nat.le_trans h1 (Nat.mul_le_mul_right 100001 h2)

set_option maxHeartbeats 2000000 in
set_option maxRecDepth 100000 in
theorem count_any (k : Int) (R : Value) (rel : Int) (P : Option Addr) (n pc : Nat) (C : Option Addr) (cc : Nat) (d : List Cel) (w : World) (hd : CellsAt w C d) (hdl : d.length ≤ 100000) (hn : n ≤ 100000) :
    Calls Tryz.prog 138 #[.agg #[.int .i64 k, R, .int .i64 rel, .slice P n pc], .slice C d.length cc] w fun e w' => e = .returned (.int .i64 (cntC rel n d)) ∧ Below w.heap.size w w' := by
  have HBX := Lib.hid (Boxd.start w #[.int .i64 k, R, .int .i64 rel, .slice P n pc] 130)
  have HD := Lib.hid hd
  clear hd
  go_enter Tryz.func138, Tryz.ntmps138
  go_wp2
  go_loopw [5, 7, 10] (fun s _ i wr => ∃ (j t : Nat), j ≤ d.length ∧ i = .int .i64 (j : Int) ∧ s = .int .i64 (t : Int) ∧ Hid (t = cntC rel n (d.take j)) ∧ t ≤ 100000 * 100001 ∧ Hid (Boxd w #[.int .i64 k, R, .int .i64 rel, .slice P n pc] 130 wr)) (fun _ _ i _ => d.length - (intOf i).toNat)
  case atStart => exact ⟨0, 0, Nat.zero_le _, rfl, rfl, Lib.hid rfl, Nat.zero_le _, HBX⟩
  case round =>
    obtain ⟨j, t, hj, rfl, rfl, HA, ht, HX⟩ := hrel
    by_cases hlt : j < d.length
    · have HS := Lib.hid (cntC_take rel n d j hlt)
      have HLE := Lib.hid (cntC_top rel n d (j + 1) hdl hn)
      obtain ⟨b, o, hD, hcel⟩ := (HD.out.below HX.out.old) j hlt
      obtain ⟨q1, q2, q3, q4⟩ := hcel
      subst hD
      generalize d[j] = x at *
      obtain ⟨c, r, inv⟩ := x
      simp only at q1 q2 q3 q4
      have hsz := HX.out.size
      have HX2 := Lib.hid (Boxd.start wr (celC c r inv) 89)
      have HX1 := Lib.hid (HX.out.on HX2.out.old)
      have c2 := HX1.out.cell 2
      have c3 := HX1.out.cell 3
      simp only [List.getElem?_toArray, List.getElem?_cons_zero, List.getElem?_cons_succ] at c2 c3
      by_cases hr : r = rel
      · subst hr
        have hrr : (r == r) = true := by simp
        have HT : Hid (t + n = cntC r n (d.take (j + 1))) := Lib.hid (by rw [HS.out, HA.out, if_pos rfl])
        have htn : t + n ≤ 100000 * 100001 := by rw [HT.out]; exact HLE.out
        clear HS HLE
        go_wp2
        go_roundw
        case rel => exact ⟨j + 1, t + n, by omega, by go_num, by go_num, HT, htn, HX1⟩
        case measure => simp [intOf]; omega
      · have hrr : (r == rel) = false := beq_eq_false_iff_ne.2 hr
        have HT : Hid (t + 1 = cntC rel n (d.take (j + 1))) := Lib.hid (by rw [HS.out, HA.out, if_neg hr])
        have htn : t + 1 ≤ 100000 * 100001 := by rw [HT.out]; exact HLE.out
        clear HS HLE
        go_wp2
        go_roundw
        case rel => exact ⟨j + 1, t + 1, by omega, by go_num, by go_num, HT, htn, HX1⟩
        case measure => simp [intOf]; omega
    · obtain rfl : j = d.length := by omega
      have HZ : Hid (t = cntC rel n d) := Lib.hid (by have := HA.out; rwa [List.take_length] at this)
      go_wp2
      go_ret
      exact ⟨by rw [← HZ.out]; rfl, HX.out.old⟩
end Go.Proofs.YteephomlnbbjeaaGreatDoor
