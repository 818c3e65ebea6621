/-
  Our own text, in the proof of the law RopeSlices of package rope (cayleylaw02). Proved here: cutJoin. Conditions: the nodes lie in memory as the slice says.
-/
import Derived.Test.YtgklmcinbaghmaaGreatDoorFi
namespace Go.Proofs.YtgklmcinbaghmaaGreatDoor
open Go Go.RowKit

theorem XC_left {L : List Nat} {b c k i j : Nat} (hb : b < k) (hk : L.getD k 0 = L.getD b 0 + L.getD c 0) (hc0 : 1 ≤ L.getD c 0) (hj : j ≤ L.getD b 0) : XC L b i j ≤ XC L k i j := by
  unfold XC
  rw [if_neg (show ¬ (i = 0 ∧ j = L.getD k 0) by omega)]
  split
  · omega
  · split <;> split <;> omega
theorem XC_right {L : List Nat} {b c k i j : Nat} (hc : c < k) (hk : L.getD k 0 = L.getD b 0 + L.getD c 0) (hb0 : 1 ≤ L.getD b 0) (hi : L.getD b 0 ≤ i) (hij : i < j) : XC L c (i - L.getD b 0) (j - L.getD b 0) ≤ XC L k i j := by
  unfold XC
  rw [if_neg (show ¬ (i = 0 ∧ j = L.getD k 0) by omega)]
  split
  · omega
  · split <;> split <;> omega
theorem XC_both {L : List Nat} {b c k i j : Nat} (hb : b < k) (hc : c < k) (hk : L.getD k 0 = L.getD b 0 + L.getD c 0) (hi : i < L.getD b 0) (hj : L.getD b 0 < j) (hnw : ¬ (i = 0 ∧ j = L.getD k 0)) (hjk : j ≤ L.getD k 0) :
    XC L b i (L.getD b 0) + XC L c 0 (j - L.getD b 0) + 1 ≤ XC L k i j := by
  unfold XC
  rw [if_neg hnw]
  by_cases h0 : i = 0
  · rw [if_pos (show i = 0 ∧ L.getD b 0 = L.getD b 0 from ⟨h0, rfl⟩), if_pos (show i = 0 ∨ j = L.getD k 0 from .inl h0), if_neg (by omega), if_pos (.inl rfl)]
    omega
  · rw [if_neg (show ¬ (i = 0 ∧ L.getD b 0 = L.getD b 0) from fun h => h0 h.1), if_pos (show i = 0 ∨ L.getD b 0 = L.getD b 0 from .inr rfl)]
    by_cases h1 : j = L.getD k 0
    · rw [if_pos (show (0 = 0) ∧ j - L.getD b 0 = L.getD c 0 from ⟨rfl, by omega⟩), if_pos (show i = 0 ∨ j = L.getD k 0 from .inr h1)]
      omega
    · rw [if_neg (show ¬ ((0 = 0) ∧ j - L.getD b 0 = L.getD c 0) by omega), if_pos (show (0 = 0) ∨ j - L.getD b 0 = L.getD c 0 from .inl rfl), if_neg (show ¬ (i = 0 ∨ j = L.getD k 0) by omega)]
      omega

set_option maxHeartbeats 4000000 in
set_option maxRecDepth 100000 in
theorem cutJoin_any {w : World} {base Q P Bm B : Nat} {ad : Addr} {cap : Nat} {a : List Nd} {L : List Nat} {o : List Nd} {Ao : Option Addr} {co n : Nat} {f : Int → Option Value}
    (hl : Lie base Q P Bm B) (hLl : L.length = a.length) (hlen : a.length ≤ 4000) (h : KS w base Q P Bm B (some ad) cap a L o Ao co n f) (k : Nat) (hk : k < a.length) (i j : Nat) (hij : i < j) (hj : j ≤ L.getD k 0) (hnw : ¬ (i = 0 ∧ j = L.getD k 0)) (hP : Phi a o f + XC L k i j ≤ 4000)
    (b c : Nat) (hb : b < k) (hc : c < k) (hLk : L.getD k 0 = L.getD b 0 + L.getD c 0) (hb0 : 1 ≤ L.getD b 0) (hc0 : 1 ≤ L.getD c 0) (hmx : (L.getD k 0 : Int) ≤ 1152921504606846976)
    (hd : wordK a k = wordK a b ++ wordK a c) (hlb : (wordK a b).length = L.getD b 0) (hlc : (wordK a c).length = L.getD c 0)
    (IHb : CutIH base Q P Bm B ad cap a L b) (IHc : CutIH base Q P Bm B ad cap a L c) :
    Calls Tryz.prog 70 #[.pointer (some ⟨Q, 0, none⟩), .agg #[.string ⟨#[]⟩, .int .i64 (b : Int), .int .i64 (c : Int), .int .i64 0], .int .i64 (i : Int), .int .i64 (j : Int)] w (CutP base Q P Bm B (some ad) cap a L k (XC L k i j) (cutW (wordK a k) i j) w o Ao f) := by
  have hB0 : Below w.heap.size w (w.alloc (.cells #[.string ⟨#[]⟩, .int .i64 (b : Int), .int .i64 (c : Int), .int .i64 0] 68)) := (Below.refl _ _).alloc (Nat.le_refl _) _
  have hblk := Blk.new w 68 #[.string ⟨#[]⟩, .int .i64 (b : Int), .int .i64 (c : Int), .int .i64 0]
  have h1 := h.on hB0
  have hql := h.st.q.lt
  have hBl := h.st.keep.lt
  have HRN := Lib.hid (row_lt h.st (Nat.le_refl w.heap.size))
  obtain ⟨m, hm⟩ : ∃ m, L.getD b 0 = m := ⟨_, rfl⟩
  clear h
  generalize hw1 : w.alloc (.cells #[.string ⟨#[]⟩, .int .i64 (b : Int), .int .i64 (c : Int), .int .i64 0] 68) = w1 at *
  have HW1 := Lib.hid hw1
  have HQ := Lib.hid (fun x => hit_quiet w1 Bm _ lenM _ _ h1.st.len (b : Int) ((m : Nat) : Int) (wf_nat (by omega)) (by have := memoL_at (L := L) (j := (b : Int)) (by omega); rw [Int.toNat_natCast, hm] at this; exact this) x)
  have q1 : w1.drew.cell? ⟨Q, 1, none⟩ = some (envV 76 Bm) := h1.st.q.cell 1
  have q1' : w1.cell? ⟨Q, 1, none⟩ = some (envV 76 Bm) := h1.st.q.cell 1
  have n1 : w1.cell? ⟨w.heap.size, 1, none⟩ = some (.int .i64 (b : Int)) := hblk.cell 1
  have n2 : w1.cell? ⟨w.heap.size, 2, none⟩ = some (.int .i64 (c : Int)) := hblk.cell 2
  have H1 := Lib.hid h1
  have HBLK := Lib.hid hblk
  have HB0 := Lib.hid hB0
  have HL := Lib.hid hl
  have HD := Lib.hid hd
  have HLB := Lib.hid hlb
  have HLC := Lib.hid hlc
  have HIB := Lib.hid IHb
  have HIC := Lib.hid IHc
  have HLK := Lib.hid hLk
  clear h1 hblk hB0 hl hd hlb hlc IHb IHc hw1
  go_enter Tryz.func70, Tryz.ntmps70
  go_wp2
  rw [HW1.out]
  clear HW1
  go_quiet ((go_at_call 76; exact HQ.out _))
  have hb2 : Below w1.heap.size w1 (w1.drewN nq) := (Below.refl _ w1).drewN nq
  have k2 := H1.out.on hb2
  have m1 : (w1.drewN nq).cell? ⟨w.heap.size, 1, none⟩ = some (.int .i64 (b : Int)) := n1
  have m2 : (w1.drewN nq).cell? ⟨w.heap.size, 2, none⟩ = some (.int .i64 (c : Int)) := n2
  have nb2 := HBLK.out.below hb2 HBLK.out.lt
  have HG2 := Lib.hid (SGrow.of_below (Q := Q) (B := B) (R := rowOf Ao) (HB0.out.drewN nq))
  have HNB := Lib.hid nb2
  have HK2 := Lib.hid k2
  have HM := Lib.hid hm
  clear hb2 k2 nb2 q1 q1' n1 n2 HQ HBLK HB0
  generalize w1.drewN nq = w2 at *
  by_cases hjm : j ≤ m
  · have hx := XC_left (c := c) (i := i) hb HLK.out hc0 (by rw [HM.out]; exact hjm)
    have HC := Lib.hid (HIB.out w2 o Ao co n f i j HK2.out hij (by rw [HM.out]; exact hjm) (by omega))
    have HU : Hid (cutW (wordK a k) i j = cutW (wordK a b) i j) := Lib.hid (by rw [HD.out, cutW_left _ _ _ _ (by rw [HLB.out, HM.out]; exact hjm)])
    have HX := Lib.hid hx
    have hd1 : decide (j ≤ m) = true := by simpa using hjm
    clear hx hm
    go_wp2_with fail
    refine HC.out.mono ?_; rintro e w3 hc3
    obtain ⟨idx, he⟩ : ∃ idx : Nat, e = .returned (.int .i64 (idx : Int)) := by obtain ⟨idx, _, _, _, _, _, he, _⟩ := hc3; exact ⟨idx, he⟩
    subst he
    have HCC := Lib.hid (((hc3.from_ HG2.out).up (m := k) (by omega)).more HX.out)
    clear hc3
    go_wp2
    go_ret
    rw [HU.out]
    exact HCC.out
  · have hd1 : decide (j ≤ m) = false := by simpa using hjm
    by_cases him : m ≤ i
    · have hx := XC_right hc HLK.out hb0 (i := i) (j := j) (by rw [HM.out]; exact him) hij
      rw [HM.out] at hx
      have hz1 : ((i - m : Nat) : Int) = (i : Int) - (m : Int) := by omega
      have hz2 : ((j - m : Nat) : Int) = (j : Int) - (m : Int) := by omega
      have hcx := HIC.out w2 o Ao co n f (i - m) (j - m) HK2.out (by omega) (by have := HLK.out; rw [HM.out] at this; omega) (by omega)
      rw [hz1, hz2] at hcx
      have HC := Lib.hid hcx
      have HU : Hid (cutW (wordK a k) i j = cutW (wordK a c) (i - m) (j - m)) := Lib.hid (by rw [HD.out, cutW_right _ _ _ _ (by rw [HLB.out, HM.out]; exact him) (by omega), HLB.out, HM.out])
      have HX := Lib.hid hx
      have hd2 : decide (m ≤ i) = true := by simpa using him
      clear hx hm hz1 hz2 hcx
      go_wp2_with fail
      refine HC.out.mono ?_; rintro e w3 hc3
      obtain ⟨idx, he⟩ : ∃ idx : Nat, e = .returned (.int .i64 (idx : Int)) := by obtain ⟨idx, _, _, _, _, _, he, _⟩ := hc3; exact ⟨idx, he⟩
      subst he
      have HCC := Lib.hid (((hc3.from_ HG2.out).up (m := k) (by omega)).more HX.out)
      clear hc3
      go_wp2
      go_ret
      rw [HU.out]
      exact HCC.out
    · have hd2 : decide (m ≤ i) = false := by simpa using him
      have hx := XC_both hb hc HLK.out (i := i) (j := j) (by rw [HM.out]; omega) (by rw [HM.out]; omega) hnw hj
      rw [HM.out] at hx
      have HX := Lib.hid hx
      have hz2 : ((j - m : Nat) : Int) = (j : Int) - (m : Int) := by omega
      have HZ2 := Lib.hid hz2
      have hcx := HIB.out w2 o Ao co n f i m HK2.out (by omega) (by rw [HM.out]; exact Nat.le_refl _) (by omega)
      have HC := Lib.hid hcx
      have HU : Hid (cutW (wordK a k) i j = cutW (wordK a b) i m ++ cutW (wordK a c) 0 (j - m)) := Lib.hid (by rw [HD.out, cutW_both _ _ _ _ (by rw [HLB.out, HM.out]; omega) (by rw [HLB.out, HM.out]; omega), HLB.out, HM.out])
      have HPP := Lib.hid hP
      have hlt2 : w.heap.size < w2.heap.size := HNB.out.lt
      clear hx hm hz2 hcx hP
      go_wp2_with fail
      refine HC.out.mono ?_; rintro e wa ⟨ia, oa, Aa, ca, na, fa, rfl, ka, xa, pa, ha, ua, _, ga⟩
      have nba := ga.box HNB.out (by omega) (by omega) HRN.out
      have ma2 : wa.cell? ⟨w.heap.size, 2, none⟩ = some (.int .i64 (c : Int)) := nba.cell 2
      have hcc := HIC.out wa oa Aa ca na fa 0 (j - m) ka (by omega) (by have := HLK.out; rw [HM.out] at this; omega) (by have := HX.out; have := HPP.out; omega)
      rw [HZ2.out] at hcc
      have HC2 := Lib.hid hcc
      have HRA := Lib.hid (ga.row_ne hlt2 HRN.out)
      have HXA := Lib.hid xa
      have HPA := Lib.hid pa
      have HHA := Lib.hid ha
      have HUA := Lib.hid ua
      have HGA := Lib.hid (HG2.out.trans ga)
      clear nba ka xa pa ha ua ga hcc m1 m2
      go_wp2_with fail
      refine HC2.out.mono ?_; rintro e wb ⟨ib, ob, Ab, cb, nb, fb, rfl, kb, xb, pb, hhb, ub, _, gb⟩
      obtain ⟨M9, hM9⟩ := kb.val
      have hpb : Phi a ob fb + 1 ≤ Phi a o f + XC L k i j := by have := HPA.out; have := HX.out; omega
      have hob : ob.length + 1 ≤ 4000 := by have h1 := HPP.out; unfold Phi at hpb h1; omega
      have hsum : ((cutW (wordK a b) i m).length : Int) + (cutW (wordK a c) 0 (j - m)).length ≤ 1152921504606846976 := by
        have h1 := cutW_len (wordK a b) i m (by omega) (by rw [HLB.out, HM.out]; exact Nat.le_refl _)
        have h2 := cutW_len (wordK a c) 0 (j - m) (by omega) (by have := HLK.out; rw [HM.out] at this; rw [HLC.out]; omega)
        rw [h1, h2]
        omega
      have HGR := Lib.hid (grown_join hM9 hob (HHA.out.moret xb) hhb hsum)
      have HJ := Lib.hid (join_any (ia : Int) (ib : Int) kb.st HL.out.dis (by omega))
      have HKB := Lib.hid kb
      have HXB := Lib.hid (ext_trans HXA.out xb)
      have HPB := Lib.hid hpb
      have HUB := Lib.hid (fun (z : Int) (hz : (k : Int) < z) => (ub z (by omega)).trans (HUA.out z (by omega)))
      have HGB := Lib.hid (HGA.out.trans gb)
      clear kb xb pb hhb ub gb hM9 hpb hsum ma2
      go_wp2_with fail
      refine HJ.out.mono ?_; rintro e wc ⟨rfl, Ac, cc, sc, gc⟩
      have HSC := Lib.hid sc
      have HGC := Lib.hid (HGB.out.trans gc)
      clear sc gc
      go_wp2
      go_ret
      have hks := add_step (w' := wc) HKB.out HGR.out HSC.out
      exact ⟨ob.length, _, Ac, cc, nb, fb, rfl, hks.1, ext_trans HXB.out ⟨_, rfl⟩, by rw [hks.2.2]; exact HPB.out, by rw [HU.out]; exact hks.2.1, HUB.out, fun _ => by simp, HGC.out⟩
end Go.Proofs.YtgklmcinbaghmaaGreatDoor
