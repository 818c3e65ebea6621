/-
  Our own text, in the proofs of the laws of package rope. Proved here: inverse returns the rope of the inverse words. Conditions: a valid rope, whose nodes lie in memory as the slice says; the listed table lies as the program lays it.
-/
import Derived.Test.YtgklmcinbaghmaaGreatDoorRu
import Derived.RegionTactic
import Derived.BigRegion
import Derived.ChangeAlike
namespace Go.Proofs.YtgklmcinbaghmaaGreatDoor
open Go Go.RowKit

theorem nodesC_set (v : Value) (x' : Nd) : ∀ (M : List Nd) (k o : Nat) (h : k < M.length), o < 4 → ncells x' = (ncells M[k]).set o v → (nodesC M).set (k * 4 + o) v = nodesC (M.set k x') := by
  intro M
  induction M with
  | nil => intro k o h; simp at h
  | cons y t ih =>
    intro k o h ho hx
    have e : nodesC (y :: t) = ncells y ++ nodesC t := by simp [nodesC]
    cases k with
    | zero =>
      rw [Nat.zero_mul, Nat.zero_add, e, List.set_append_left _ _ (by simp; omega)]
      rw [List.set_cons_zero]
      have e2 : nodesC (x' :: t) = ncells x' ++ nodesC t := by simp [nodesC]
      rw [e2, hx]; rfl
    | succ k =>
      rw [e, List.set_append_right _ _ (by simp; omega)]
      have : (k + 1) * 4 + o - (ncells y).length = k * 4 + o := by simp; omega
      rw [this, ih k o (by simpa using h) ho hx, List.set_cons_succ]
      simp [nodesC]

/-- A node of the inverse rope. -/
def invN (x : Nd) : Nd := if x.word.data.toList = [] then (if x.t = 0 then ⟨x.word, x.r, x.l, x.t⟩ else x) else ⟨⟨(invW x.word.data.toList).toArray⟩, x.l, x.r, x.t⟩
/-- The row behind k rounds. -/
def invR (r : List Nd) (k : Nat) : List Nd := (r.take k).map invN ++ r.drop k
theorem invR_len (r : List Nd) (k : Nat) (hk : k ≤ r.length) : (invR r k).length = r.length := by simp [invR]; omega
theorem invR_get (r : List Nd) (k : Nat) (hk : k < r.length) : (invR r k)[k]'(by rw [invR_len r k (by omega)]; exact hk) = r[k] := by
  unfold invR
  rw [List.getElem_append_right (by simp; omega)]
  simp [Nat.min_eq_left (Nat.le_of_lt hk)]
theorem invR_step (r : List Nd) (k : Nat) (hk : k < r.length) : (invR r k).set k (invN r[k]) = invR r (k + 1) := by
  unfold invR
  rw [List.set_append_right _ _ (by simp; omega)]
  have : k - ((r.take k).map invN).length = 0 := by simp; omega
  rw [this, List.drop_eq_getElem_cons hk, List.set_cons_zero, List.take_succ_eq_append_getElem hk, List.map_append, List.append_assoc]
  rfl

def InvP (w : World) (r : List Nd) (e : Ending) (w' : World) : Prop :=
  ∃ A' cap', e = .returned (.slice A' r.length cap') ∧ w'.ownsRow w.heap.size 68 4 (.slice A' r.length cap') r.length (nodesC (r.map invN)) ∧ Below w.heap.size w w'

theorem leafB_isW {l : List UInt8} (h : leafB l = true) : isW l = true := by
  simp only [leafB, Bool.and_eq_true, decide_eq_true_eq] at h
  unfold isW
  simp only [Bool.and_eq_true, decide_eq_true_eq]
  exact ⟨by omega, h.2⟩

set_option maxHeartbeats 4000000 in
set_option maxRecDepth 100000 in
theorem inverseR_any (A : Option Addr) (r : List Nd) (cap : Nat) (L : List Nat) (hl : lens r = some L) (w : World) (ht : Tabs w) (hr : RopeAt w A r) (hA : A = none → r = []) :
    Calls Tryz.prog 48 #[.slice A r.length cap] w (InvP w r) := by
  obtain ⟨k1, k2, k3⟩ := lens_ok hl
  have hC := Clone_any A r cap w hr hA k3
  have HT := Lib.hid ht
  have HL := Lib.hid hl
  clear hl ht hr hA k1 k2
  go_enter Tryz.func48, Tryz.ntmps48
  go_wp2_with fail
  refine hC.mono ?_
  rintro e w0 ⟨A1, cap1, rfl, hown0, hb0⟩
  have HB0 := Lib.hid hb0
  have HO0 := Lib.hid hown0
  clear hC hb0 hown0
  go_wp2
  go_loopw [4, 5, 10] (fun _ _ i wr => ∃ k : Nat, k ≤ r.length ∧ i = .int .i64 (k : Int) ∧ wr.ownsRow w.heap.size 68 4 (.slice A1 r.length cap1) r.length (nodesC (invR r k)) ∧ Below w.heap.size w wr)
    (fun _ _ i _ => r.length - (intOf i).toNat)
  case atStart => exact ⟨0, Nat.zero_le _, rfl, by simpa [invR] using HO0.out, HB0.out⟩
  case round =>
    obtain ⟨k, hk, rfl, hown, hb⟩ := hrel
    have HB := Lib.hid hb
    have HO := Lib.hid hown
    clear hb hown
    by_cases hlt : k < r.length
    · have hns := node_is HL.out k hlt
      have hget := invR_get r k hlt
      have hstep := invR_step r k hlt
      obtain ⟨g, rfl⟩ : ∃ g, A1 = some ⟨g, 0, none⟩ := by
        rcases HO.out.2 with ⟨h2, h3⟩ | ⟨g', c', cur, hv, _⟩
        · omega
        · simp only [Value.slice.injEq, true_and] at hv; exact ⟨g', hv.1⟩
      have cell := fun o (ho : o < 4) => (HO.out.cellAt (k * 4 + o) (by omega)).trans (nodesC_get (invR r k) k (by rw [invR_len r k hk]; exact hlt) o ho)
      rw [hget] at cell
      have f0 := cell 0 (by omega)
      have f1 := cell 1 (by omega)
      have f2 := cell 2 (by omega)
      have f3 := cell 3 (by omega)
      have z := HO.out.frozenAt
      have HG := Lib.hid hget
      have HSTEP := Lib.hid hstep
      clear cell hget hstep
      generalize r[k] = x at *
      obtain ⟨s, l, q, t⟩ := x
      simp only [ncells, List.getElem?_cons_zero, List.getElem?_cons_succ, Nat.add_zero] at f0 f1 f2 f3
      have hK := kindOf_any ⟨s, l, q, t⟩ (wr.alloc (.cells #[.string s, .int .i64 l, .int .i64 q, .int .i64 t] 68))
      have hB1 : Below wr.heap.size wr (wr.alloc (.cells #[.string s, .int .i64 l, .int .i64 q, .int .i64 t] 68)) := (Below.refl _ _).alloc (Nat.le_refl _) _
      have hblk : Blk (wr.alloc (.cells #[.string s, .int .i64 l, .int .i64 q, .int .i64 t] 68)) wr.heap.size 68 #[.string s, .int .i64 l, .int .i64 q, .int .i64 t] := heap_alloc_new wr _
      have hs1 : (wr.alloc (.cells #[.string s, .int .i64 l, .int .i64 q, .int .i64 t] 68)).heap.size = wr.heap.size + 1 := by simp
      have key : ∀ w1, Below (wr.alloc (.cells #[.string s, .int .i64 l, .int .i64 q, .int .i64 t] 68)).heap.size (wr.alloc (.cells #[.string s, .int .i64 l, .int .i64 q, .int .i64 t] 68)) w1 →
          w1.ownsRow w.heap.size 68 4 (.slice (some ⟨g, 0, none⟩) r.length cap1) r.length (nodesC (invR r k)) ∧ Blk w1 wr.heap.size 68 #[.string s, .int .i64 l, .int .i64 q, .int .i64 t] ∧ Below w.heap.size w w1 ∧ g < wr.heap.size := by
        intro w1 hb
        have hbb := hB1.trans (hb.mono hB1.size)
        refine ⟨own_below HO.out hbb.block, hblk.below hb (by omega), HB.out.trans (hbb.mono HB.out.size), ?_⟩
        exact (HO.out.lt g rfl).2
      have KEY := Lib.hid key
      clear key hB1 hblk z
      rcases hns with ⟨hw, hlf, h1, h2, h3, hd⟩ | ⟨hw, b, c, hb, hc, h1, h2, h3, hd, hn⟩ | ⟨hw, b, n, hb, hn0, h1, h2, h3, hd, hn⟩
      · rw [kindI_leaf hw] at hK
        have hisw := leafB_isW hlf
        have hs100 := leafB_size hlf
        simp only at hisw hs100
        have HIN : Hid (invN ⟨s, l, q, t⟩ = ⟨⟨(invW s.data.toList).toArray⟩, l, q, t⟩) := Lib.hid (by unfold invN; rw [if_neg hw])
        have HISW := Lib.hid hisw
        clear hw hlf h1 h2 h3 hd hisw
        go_wp2_with fail
        refine hK.mono ?_; rintro e w1 ⟨rfl, hbb⟩
        obtain ⟨ho1, hbk1, hb1, hg1⟩ := KEY.out w1 hbb
        have d0 := hbk1.cell 0
        have hI := Inverse_yes s w1 (HT.out.on hb1) HISW.out (by omega)
        have HO1 := Lib.hid ho1
        have HB1 := Lib.hid hb1
        clear hK hbb ho1 hbk1 hb1 f0 f1 f2 f3
        go_wp2_with fail
        refine hI.mono ?_; rintro e w2 ⟨rfl, hb2⟩
        have hO2 := own_below HO1.out hb2.block
        have f0 := (hO2.cellAt (k * 4 + 0) (by omega)).trans (nodesC_get (invR r k) k (by rw [invR_len r k hk]; exact hlt) 0 (by omega))
        rw [HG.out] at f0
        simp only [ncells, List.getElem?_cons_zero, Nat.add_zero] at f0
        have z0 := hO2.frozenAt (k * 4)
        have hst := (hO2.stored (k * 4 + 0) (.string ⟨(invW s.data.toList).toArray⟩))
        rw [nodesC_set _ ⟨⟨(invW s.data.toList).toArray⟩, l, q, t⟩ (invR r k) k 0 (by rw [invR_len r k hk]; exact hlt) (by omega) (by rw [HG.out]; rfl), ← HIN.out, HSTEP.out] at hst
        have HST := Lib.hid hst
        have HB2 := Lib.hid (HB1.out.trans (hb2.mono HB1.out.size))
        clear hI hb2 hO2 hst d0
        go_wp2
        go_roundw
        case rel => exact ⟨k + 1, by omega, by go_num, HST.out.1, HB2.out.grown HST.out.2 HB2.out.size (fun j hj => by cases hj; exact (HO1.out.lt g rfl).1)⟩
        case measure => simp [intOf]; omega
      · rw [kindI_join hw h3] at hK
        simp only at h1 h2 h3
        subst h1 h2 h3
        obtain rfl := emp_ba hw
        have HIN : Hid (invN ⟨⟨#[]⟩, (b : Int), (c : Int), 0⟩ = ⟨⟨#[]⟩, (c : Int), (b : Int), 0⟩) := Lib.hid rfl
        clear hw hd hn
        go_wp2_with fail
        refine hK.mono ?_; rintro e w1 ⟨rfl, hbb⟩
        obtain ⟨ho1, hbk1, hb1, hg1⟩ := KEY.out w1 hbb
        have d1 := hbk1.cell 1
        have d2 := hbk1.cell 2
        clear f0 f1 f2 f3
        have cell := fun o (ho : o < 4) => (ho1.cellAt (k * 4 + o) (by omega)).trans (nodesC_get (invR r k) k (by rw [invR_len r k hk]; exact hlt) o ho)
        rw [HG.out] at cell
        have f1 := cell 1 (by omega)
        have f2 := cell 2 (by omega)
        simp only [ncells, List.getElem?_cons_zero, List.getElem?_cons_succ] at f1 f2
        have z1 := ho1.frozenAt (k * 4 + 1)
        have z2 := ho1.frozenAt (k * 4 + 2)
        have HO1 := Lib.hid ho1
        have HB1 := Lib.hid hb1
        clear hK hbb ho1 hbk1 hb1 cell
        go_wp2
        have hst1 := HO1.out.stored (k * 4 + 1) (.int .i64 (c : Int))
        have hst2 := hst1.1.stored (k * 4 + 2) (.int .i64 (b : Int))
        have hkl : k < (invR r k).length := by rw [invR_len r k hk]; exact hlt
        have e1 := nodesC_set (.int .i64 (c : Int)) ⟨⟨#[]⟩, (c : Int), (c : Int), 0⟩ (invR r k) k 1 hkl (by omega) (by rw [HG.out]; rfl)
        have e2 := nodesC_set (.int .i64 (b : Int)) ⟨⟨#[]⟩, (c : Int), (b : Int), 0⟩ ((invR r k).set k ⟨⟨#[]⟩, (c : Int), (c : Int), 0⟩) k 2 (by rw [List.length_set]; exact hkl) (by omega) (by rw [List.getElem_set_self]; rfl)
        rw [e1, e2, List.set_set, ← HIN.out, HSTEP.out] at hst2
        have HST1 := Lib.hid hst1
        have HST2 := Lib.hid hst2
        clear hst1 hst2 e1 e2 hkl
        go_region
        go_wp2
        go_roundw
        case rel => exact ⟨k + 1, by omega, by go_num, HST2.out.1, ((HB1.out.grown HST1.out.2 HB1.out.size (fun j hj => by cases hj; exact (HO1.out.lt g rfl).1)).grown HST2.out.2 (by have := HB1.out.size; simpa [World.setCell] using this) (fun j hj => by cases hj; exact (HO1.out.lt g rfl).1)).drew⟩
        case measure => simp [intOf]; omega
      · rw [kindI_pow hw (by simp only at h3 ⊢; omega)] at hK
        simp only at h1 h2 h3
        subst h1 h2 h3
        obtain rfl := emp_ba hw
        have HIN : Hid (invN ⟨⟨#[]⟩, (b : Int), 0, (n : Int)⟩ = ⟨⟨#[]⟩, (b : Int), 0, (n : Int)⟩) := Lib.hid (by unfold invN; rw [if_pos hw, if_neg (by simp only; omega)])
        clear hw hd hn
        go_wp2_with fail
        refine hK.mono ?_; rintro e w1 ⟨rfl, hbb⟩
        obtain ⟨ho1, hbk1, hb1, hg1⟩ := KEY.out w1 hbb
        have HO1 := Lib.hid ho1
        have HB1 := Lib.hid hb1
        clear hK hbb ho1 hbk1 hb1 f0 f1 f2 f3
        go_wp2
        go_roundw
        case rel => exact ⟨k + 1, by omega, by go_num, by
          have e : invR r (k + 1) = invR r k := by rw [← HSTEP.out, HIN.out, ← HG.out, List.set_getElem_self]
          rw [e]; exact HO1.out, HB1.out⟩
        case measure => simp [intOf]; omega
    · have hk' : k = r.length := by omega
      subst hk'
      have hz : invR r r.length = r.map invN := by simp [invR]
      have HZ := Lib.hid hz
      clear hz
      go_wp2
      go_ret
      exact ⟨A1, cap1, rfl, by rw [← HZ.out]; exact HO.out, HB.out⟩
end Go.Proofs.YtgklmcinbaghmaaGreatDoor
