/-
  Our own text, in the proofs of the laws of package rope. Proved here: At of the reference package and At return the letter with an index. Conditions: the nodes lie in memory as the slice says; the listed table lies as the program lays it.
-/
import Derived.Test.YtgklmcinbaghmaaGreatDoorRn
import Derived.Deep.LoopGhost
namespace Go.Proofs.YtgklmcinbaghmaaGreatDoor
open Go Go.RowKit

/-- What At returns. -/
def atB (r : List Nd) (i : Int) : UInt8 := match lens r with | some L => if 0 ≤ i ∧ i < (lastN L : Int) then letQ r (r.length - 1) i.toNat else 0 | none => 0
def atE (r : List Nd) (i : Int) : Int := match lens r with | some L => if 0 ≤ i ∧ i < (lastN L : Int) then 0 else 1 | none => 20
theorem at_none {r : List Nd} (h : lens r = none) (i : Int) : atB r i = 0 ∧ atE r i = 20 := by simp [atB, atE, h]
theorem at_out {r : List Nd} {L : List Nat} (h : lens r = some L) (i : Int) (hi : ¬ (0 ≤ i ∧ i < (lastN L : Int))) : atB r i = 0 ∧ atE r i = 1 := by simp [atB, atE, h, if_neg hi]
theorem at_in {r : List Nd} {L : List Nat} (h : lens r = some L) (i : Nat) (hi : i < lastN L) : atB r i = letQ r (r.length - 1) i ∧ atE r i = 0 := by
  have hi' : 0 ≤ (i : Int) ∧ (i : Int) < (lastN L : Int) := by omega
  unfold atB atE; rw [h]; simp only; rw [if_pos hi', if_pos hi', Int.toNat_natCast]; exact ⟨rfl, rfl⟩
theorem lastN_pos {r : List Nd} {L : List Nat} (h : lens r = some L) (hp : 0 < lastN L) : 0 < r.length ∧ lastN L = L.getD (r.length - 1) 0 := by
  obtain ⟨h1, _, _⟩ := lens_ok h
  have : 0 < L.length := by
    rcases Nat.eq_zero_or_pos L.length with h0 | h0
    · have : L = [] := List.length_eq_zero_iff.1 h0
      subst this; exact absurd hp (by simp [lastN])
    · exact h0
  exact ⟨by omega, by unfold lastN; rw [h1]⟩

set_option maxHeartbeats 1000000 in
theorem rAt_any (A : Option Addr) (r : List Nd) (cap : Nat) (i : Int) (w : World) (hr : RopeAt w A r) (hm : r.length ≤ maxLen) :
    Calls Tryz.prog 17 #[.slice A r.length cap, .int .i64 i] w fun e w' => e = .returned (.tuple #[.int .u8 (atB r i).toNat, .int .i64 (atE r i)]) ∧ Below w.heap.size w w' := by
  have hM := rLen_any A r cap w hr hm
  have HR := Lib.hid hr
  have hm2 := hm
  unfold maxLen at hm
  clear hr
  cases hl : lens r with
  | none =>
    have h1 := Lib.hid (at_none hl i)
    rw [lenI_none hl, errI_none hl] at hM
    clear hl
    go_enter Tryz.func17, Tryz.ntmps17
    go_wp2_with fail
    refine hM.mono ?_
    rintro e w1 ⟨rfl, hb⟩
    go_wp2
    go_ret2
    exact ⟨by rw [h1.out.1, h1.out.2]; rfl, hb⟩
  | some L =>
    rw [lenI_some hl, errI_some hl] at hM
    by_cases hi0 : i < 0
    · have hd : decide (i < 0) = true := by simpa using hi0
      have h1 := Lib.hid (at_out hl i (by omega))
      clear hl
      go_enter Tryz.func17, Tryz.ntmps17
      go_wp2_with fail
      refine hM.mono ?_
      rintro e w1 ⟨rfl, hb⟩
      go_wp2
      go_ret2
      exact ⟨by rw [h1.out.1, h1.out.2]; rfl, hb⟩
    · have hd : decide (i < 0) = false := by simpa using hi0
      obtain ⟨j, rfl⟩ : ∃ j : Nat, i = (j : Int) := ⟨i.toNat, by omega⟩
      by_cases hi1 : lastN L ≤ j
      · have hd2 : decide (lastN L ≤ j) = true := by simpa using hi1
        have h1 := Lib.hid (at_out hl j (by omega))
        clear hl
        generalize lastN L = m at *
        go_enter Tryz.func17, Tryz.ntmps17
        go_wp2_with fail
        refine hM.mono ?_
        rintro e w1 ⟨rfl, hb⟩
        go_wp2
        go_ret2
        exact ⟨by rw [h1.out.1, h1.out.2]; rfl, hb⟩
      · have hd2 : decide (lastN L ≤ j) = false := by simpa using hi1
        have h1 := Lib.hid (at_in hl j (by omega))
        obtain ⟨hp, hlast⟩ := lastN_pos hl (by omega)
        have HLAST := Lib.hid hlast
        have hjl : j < L.getD (r.length - 1) 0 := by omega
        have HL := Lib.hid hl
        clear hl hlast
        generalize lastN L = m at *
        go_enter Tryz.func17, Tryz.ntmps17
        go_wp2_with fail
        refine hM.mono ?_
        rintro e w1 ⟨rfl, hb⟩
        have hM2 := Lengths_any A r cap w1 (HR.out.on hb) hm2
        have HB := Lib.hid hb
        clear hb hM
        go_wp2_with fail
        refine hM2.mono ?_
        rintro e w2 ⟨hyes, _⟩
        obtain ⟨Al, capl, rfl, hown, hb2⟩ := hyes L HL.out
        have hl2 := letter_any A r cap L Al capl HL.out (r.length - 1) (by omega) j hjl w2 ((HR.out.on HB.out).on hb2) (lensAt_own hown)
        have hcast : ((r.length - 1 : Nat) : Int) = (r.length : Int) - 1 := by omega
        rw [hcast] at hl2
        have HL2 := Lib.hid hl2
        have HB2 := Lib.hid (HB.out.trans (hb2.mono HB.out.size))
        clear hyes hown hb2 hM2 hl2 hcast hjl
        go_wp2_with fail
        refine HL2.out.mono ?_; rintro e w3 ⟨rfl, hb3⟩
        go_wp2
        go_ret2
        exact ⟨by rw [h1.out.1, h1.out.2]; rfl, HB2.out.trans (hb3.mono HB2.out.size)⟩

/-- The cells of a node's variable. -/
abbrev Nd.cells (x : Nd) : Array Value := #[.string x.word, .int .i64 x.l, .int .i64 x.r, .int .i64 x.t]

theorem Blk.frozen {w : World} {g : Nat} {t : TypeId} {cs : Array Value} (h : Blk w g t cs) (i : Nat) : w.frozen? ⟨g, i, none⟩ = false := frozen_of_row w g i cs t h

theorem Blk.set_ {w : World} {g : Nat} {t : TypeId} {cs : Array Value} (h : Blk w g t cs) (i : Nat) (u : Value) : Blk (w.setCell ⟨g, i, none⟩ u) g t (cs.setIfInBounds i u) := heap_setCell_same w g i cs t u h
theorem Blk.set4 {w : World} {g : Nat} {v0 v1 v2 v3 : Value} (h : Blk w g 68 #[v0, v1, v2, v3]) (n0 n1 n2 n3 : Value) :
    Blk ((((w.setCell ⟨g, 0, none⟩ n0).setCell ⟨g, 1, none⟩ n1).setCell ⟨g, 2, none⟩ n2).setCell ⟨g, 3, none⟩ n3) g 68 #[n0, n1, n2, n3] :=
  (((h.set_ 0 n0).set_ 1 n1).set_ 2 n2).set_ 3 n3
theorem below_set4 {w w2 : World} {B g : Nat} (h : Below B w w2) (hg : B ≤ g) (n0 n1 n2 n3 : Value) :
    Below B w ((((w2.setCell ⟨g, 0, none⟩ n0).setCell ⟨g, 1, none⟩ n1).setCell ⟨g, 2, none⟩ n2).setCell ⟨g, 3, none⟩ n3) :=
  (((h.setCell (p := ⟨g, 0, none⟩) hg _).setCell (p := ⟨g, 1, none⟩) hg _).setCell (p := ⟨g, 2, none⟩) hg _).setCell (p := ⟨g, 3, none⟩) hg _

set_option maxHeartbeats 4000000 in
set_option maxRecDepth 100000 in
theorem letterAt_any (A : Option Addr) (r : List Nd) (cap : Nat) (L : List Nat) (hl : lens r = some L) (B : Nat) (w : World) (sl : Value) (henv : EnvI w B sl lenM L.length (memoL L)) (hr : RopeAt w A r) (hp : 0 < r.length) (i : Nat) (hi : i < lastN L) :
    Calls Tryz.prog 37 #[.slice A r.length cap, envV 76 B, .int .i64 (i : Int)] w fun e w' => e = .returned (.int .u8 (letQ r (r.length - 1) i).toNat) ∧ Below w.heap.size w w' := by
  obtain ⟨k1, k2, k3⟩ := lens_ok hl
  obtain ⟨m, hm⟩ : ∃ m, r.length = m + 1 := ⟨r.length - 1, by omega⟩
  have hmr : m < r.length := by rw [hm]; exact Nat.lt_succ_self m
  obtain ⟨a, rfl, hx, hxs⟩ := hr m hmr
  have HLL := Lib.hid hl
  have HOK := Lib.hid k2
  have HK1 := Lib.hid k1
  have HR := Lib.hid hr
  have HENV := Lib.hid henv
  have hlast : i < L.getD m 0 := by have := (lastN_pos hl (by omega)).2; rw [this, hm, Nat.add_sub_cancel] at hi; exact hi
  have HM := Lib.hid hm
  rw [hm, Nat.add_sub_cancel]
  have hm4 : m + 1 ≤ 4000 := by omega
  clear hl k1 k2 hr henv hp hi
  have HX := Lib.hid hx
  obtain ⟨f0, f1, f2, f3⟩ := hx
  have hblk : Blk (w.alloc (.cells (r[m]).cells 68)) w.heap.size 68 (r[m]).cells := heap_alloc_new w _
  have HBLK := Lib.hid hblk
  generalize hxe : r[m] = x at *
  have HXE := Lib.hid hxe
  obtain ⟨s, l, q, t⟩ := x
  simp only at f0 f1 f2 f3 hxs
  clear hxe hblk hm
  go_enter Tryz.func37, Tryz.ntmps37
  go_wp2
  have hB0 : Below w.heap.size w (w.alloc (.cells #[.string s, .int .i64 l, .int .i64 q, .int .i64 t] 68)) := (Below.refl _ _).alloc (Nat.le_refl _) _
  go_loopg [2, 8] m (fun k i1 _ wr => ∃ (j : Nat) (x : Nd), k < r.length ∧ r[k]? = some x ∧ j < L.getD k 0 ∧ i1 = .int .i64 (j : Int) ∧ letQ r k j = letQ r m i ∧ Blk wr w.heap.size 68 #[.string x.word, .int .i64 x.l, .int .i64 x.r, .int .i64 x.t] ∧ Below w.heap.size w wr)
  case atStart => exact ⟨i, ⟨s, l, q, t⟩, hmr, by rw [List.getElem?_eq_getElem hmr, HXE.out], hlast, rfl, rfl, HBLK.out, hB0⟩
  case round =>
    obtain ⟨j, x, hk, hxk, hj, rfl, hlet, hblk, hb⟩ := hrel
    have hns := node_is HLL.out gk hk
    have hxe : r[gk] = x := by rw [List.getElem?_eq_getElem hk] at hxk; exact Option.some.inj hxk
    rw [hxe] at hns
    have HLET := Lib.hid hlet
    have HB := Lib.hid hb
    have HBL := Lib.hid hblk
    clear f0 f1 f2 f3 hB0 hxk hxe hlet hb hblk
    obtain ⟨s1, l1, q1, t1⟩ := x
    have hli : (L.getD gk 0 : Int) ≤ 1152921504606846976 := okL_le HOK.out gk
    have hK := kindOf_any ⟨s1, l1, q1, t1⟩ wr
    have c0 := HBL.out.cell 0
    have c1 := HBL.out.cell 1
    have c2 := HBL.out.cell 2
    have c3 := HBL.out.cell 3
    have hsz := HBL.out.lt
    rcases hns with ⟨hw, hlf, h1, h2, h3, hd⟩ | ⟨hw, b, c, hb, hc, h1, h2, h3, hd, hn⟩ | ⟨hw, b, n, hb, hn0, h1, h2, h3, hd, hn⟩
    · rw [kindI_leaf hw] at hK
      have hsz2 := dens_lens HLL.out gk hk
      rw [hd] at hsz2
      have his : j < s1.size := by have : s1.data.toList.length = s1.size := rfl; simp only at hsz2; omega
      have hs100 := leafB_size hlf
      simp only at hs100
      have HLT : Hid (letQ r m i = s1[j]) := Lib.hid (by
        rw [← HLET.out]
        unfold letQ; rw [hd]
        have : j < s1.data.toList.length := his
        simp only [List.getD, List.getElem?_eq_getElem this]; rfl)
      clear hw hlf hd hsz2 hj h1 h2 h3
      go_wp2_with fail
      refine hK.mono ?_; rintro e w1 ⟨rfl, hb1⟩
      have d0 := (HBL.out.below hb1 hsz).cell 0
      have HB1 := Lib.hid (HB.out.trans (hb1.mono HB.out.size))
      clear c0 c1 c2 c3 hb1 hK
      go_wp2
      go_ret
      exact ⟨by rw [HLT.out]; rfl, HB1.out⟩
    · rw [kindI_join hw h3] at hK
      simp only at h1 h2 h3
      subst h1 h2 h3
      obtain rfl := emp_ba hw
      have hV := fun w1 (h : EnvI w1 B sl lenM L.length (memoL L)) => value_at w1 B sl L (by rw [HK1.out]; omega) h (b : Int) (by rw [HK1.out]; omega)
      simp only [Int.toNat_natCast] at hV
      have hbr : b < r.length := by omega
      have hcr : c < r.length := by omega
      have hbm : b < m + 1 := by rw [← HM.out]; exact hbr
      have hcm : c < m + 1 := by rw [← HM.out]; exact hcr
      obtain ⟨a', ha', hxb, hxbs⟩ := HR.out b hbr
      obtain rfl : a = a' := Option.some.inj ha'
      obtain ⟨a', ha'', hxc, hxcs⟩ := HR.out c hcr
      obtain rfl : a = a' := Option.some.inj ha''
      have hv := (okL_get HOK.out (i := b) (by rw [HK1.out]; omega))
      have hlb := dens_lens HLL.out b hbr
      obtain ⟨v, hve⟩ : ∃ v : Nat, L.getD b 0 = v := ⟨_, rfl⟩
      rw [hve] at hv hn hV hlb
      have HD := Lib.hid hd
      have HLB := Lib.hid hlb
      have HV := Lib.hid hV
      have HXB := Lib.hid hxb
      have HXC := Lib.hid hxc
      have HVE := Lib.hid hve
      have HN := Lib.hid hn
      have hK2 := fun w1 => kindOf_any ⟨⟨#[]⟩, (b : Int), (c : Int), 0⟩ w1
      have hki : kindI ⟨⟨#[]⟩, (b : Int), (c : Int), 0⟩ = 1 := kindI_join hw rfl
      rw [hki] at hK2
      have HK2 := Lib.hid hK2
      clear hki hK2 hw hd hlb hn hve hV ha' ha'' hxb hxc
      by_cases hjv : j < v
      · have hdj : decide (j < v) = true := by simpa using hjv
        have HLT : Hid (letQ r b j = letQ r m i) := Lib.hid (by rw [← HLET.out]; unfold letQ; rw [HD.out, app_getL _ _ _ (by rw [HLB.out]; exact hjv)])
        go_wp2_with fail
        refine hK.mono ?_; rintro e w1 ⟨rfl, hb1⟩
        have d0 := (HBL.out.below hb1 hsz).cell 0
        have d1 := (HBL.out.below hb1 hsz).cell 1
        have d2 := (HBL.out.below hb1 hsz).cell 2
        have d3 := (HBL.out.below hb1 hsz).cell 3
        have HB1 := Lib.hid (HB.out.trans (hb1.mono HB.out.size))
        have HBL1 := Lib.hid (HBL.out.below hb1 hsz)
        have hv1 := HV.out w1 (HENV.out.on HB1.out)
        clear c0 c1 c2 c3 hb1 hK
        go_wp2_with fail
        refine hv1.mono ?_; rintro e w' ⟨rfl, rfl⟩
        clear hv1
        go_wp2_with fail
        refine (HK2.out _).mono ?_; rintro e w2 ⟨rfl, hb2⟩
        have HB2 := Lib.hid (HB1.out.trans (hb2.mono HB1.out.size))
        have HBL2 := Lib.hid (HBL1.out.below hb2 HBL1.out.lt)
        clear d0 d1 d2 d3
        have d0 := HBL2.out.cell 0
        have d1 := HBL2.out.cell 1
        have d2 := HBL2.out.cell 2
        have d3 := HBL2.out.cell 3
        have z0 := HBL2.out.frozen 0
        have z1 := HBL2.out.frozen 1
        have z2 := HBL2.out.frozen 2
        have z3 := HBL2.out.frozen 3
        obtain ⟨g0, g1, g2, g3⟩ := HXB.out.on HB2.out (lt_of_cell HXB.out.1)
        clear hxcs
        generalize hrb : r[b] = x at *
        have HRB := Lib.hid hrb
        obtain ⟨s2, l2, q2, t2⟩ := x
        simp only at g0 g1 g2 g3 hxbs
        clear hrb hb2
        go_wp2
        go_roundg b
        case measure => exact hb
        case rel => exact ⟨j, ⟨s2, l2, q2, t2⟩, hbr, by rw [List.getElem?_eq_getElem hbr, HRB.out], by rw [HVE.out]; exact hjv, rfl, HLT.out, HBL2.out.set4 _ _ _ _, below_set4 HB2.out (Nat.le_refl _) _ _ _ _⟩
      · have hdj : decide (j < v) = false := by simpa using hjv
        obtain ⟨j2, hj2⟩ : ∃ j2 : Nat, j = v + j2 := ⟨j - v, by omega⟩
        have HLT : Hid (letQ r c j2 = letQ r m i) := Lib.hid (by rw [← HLET.out]; unfold letQ; rw [HD.out, app_getR _ _ _ (by rw [HLB.out]; omega), HLB.out, hj2, Nat.add_sub_cancel_left])
        have hj2c : j2 < L.getD c 0 := by have := HN.out; omega
        have HJ2 := Lib.hid hj2
        clear hj2
        go_wp2_with fail
        refine hK.mono ?_; rintro e w1 ⟨rfl, hb1⟩
        have d0 := (HBL.out.below hb1 hsz).cell 0
        have d1 := (HBL.out.below hb1 hsz).cell 1
        have d2 := (HBL.out.below hb1 hsz).cell 2
        have d3 := (HBL.out.below hb1 hsz).cell 3
        have HB1 := Lib.hid (HB.out.trans (hb1.mono HB.out.size))
        have HBL1 := Lib.hid (HBL.out.below hb1 hsz)
        have hv1 := HV.out w1 (HENV.out.on HB1.out)
        clear c0 c1 c2 c3 hb1 hK
        go_wp2_with fail
        refine hv1.mono ?_; rintro e w' ⟨rfl, rfl⟩
        clear hv1
        go_wp2_with fail
        refine (HK2.out _).mono ?_; rintro e w2 ⟨rfl, hb2⟩
        have HB2 := Lib.hid (HB1.out.trans (hb2.mono HB1.out.size))
        have HBL2 := Lib.hid (HBL1.out.below hb2 HBL1.out.lt)
        clear d0 d1 d2 d3
        have d0 := HBL2.out.cell 0
        have d1 := HBL2.out.cell 1
        have d2 := HBL2.out.cell 2
        have d3 := HBL2.out.cell 3
        have z0 := HBL2.out.frozen 0
        have z1 := HBL2.out.frozen 1
        have z2 := HBL2.out.frozen 2
        have z3 := HBL2.out.frozen 3
        obtain ⟨g0, g1, g2, g3⟩ := HXC.out.on HB2.out (lt_of_cell HXC.out.1)
        clear hxbs
        generalize hrb : r[c] = x at *
        have HRB := Lib.hid hrb
        obtain ⟨s2, l2, q2, t2⟩ := x
        simp only at g0 g1 g2 g3 hxcs
        clear hrb hb2
        go_wp2
        go_roundg c
        case measure => exact hc
        case rel => exact ⟨j2, ⟨s2, l2, q2, t2⟩, hcr, by rw [List.getElem?_eq_getElem hcr, HRB.out], hj2c, by have := HJ2.out; go_num, HLT.out, HBL2.out.set4 _ _ _ _, below_set4 HB2.out (Nat.le_refl _) _ _ _ _⟩
    · rw [kindI_pow hw (by simp only at h3 ⊢; omega)] at hK
      simp only at h1 h2 h3
      subst h1 h2 h3
      obtain rfl := emp_ba hw
      have hV := fun w1 (h : EnvI w1 B sl lenM L.length (memoL L)) => value_at w1 B sl L (by rw [HK1.out]; omega) h (b : Int) (by rw [HK1.out]; omega)
      simp only [Int.toNat_natCast] at hV
      have hbr : b < r.length := by omega
      have hbm : b < m + 1 := by rw [← HM.out]; exact hbr
      obtain ⟨a', ha', hxb, hxbs⟩ := HR.out b hbr
      obtain rfl : a = a' := Option.some.inj ha'
      have hv := (okL_get HOK.out (i := b) (by rw [HK1.out]; omega))
      have hlb := dens_lens HLL.out b hbr
      obtain ⟨v, hve⟩ : ∃ v : Nat, L.getD b 0 = v := ⟨_, rfl⟩
      rw [hve] at hv hn hV hlb
      have hlb2 := hlb
      obtain ⟨j2, hj2⟩ : ∃ j2 : Nat, j % v = j2 := ⟨_, rfl⟩
      have hj2v : j2 < v := by rw [← hj2]; exact Nat.mod_lt _ (by omega)
      have HLT : Hid (letQ r b j2 = letQ r m i) := Lib.hid (by rw [← HLET.out]; unfold letQ; rw [hd, copies_get _ _ _ (by rw [hlb, ← hn]; exact hj), hlb, hj2])
      have hmod : (j : Int) % (v : Int) = (j2 : Int) := by rw [← hj2]; rfl
      have HV := Lib.hid hV
      have HXB := Lib.hid hxb
      have HVE := Lib.hid hve
      have HMOD := Lib.hid hmod
      have hK2 := fun w1 => kindOf_any ⟨⟨#[]⟩, (b : Int), 0, (n : Int)⟩ w1
      have hki : kindI ⟨⟨#[]⟩, (b : Int), 0, (n : Int)⟩ = 2 := kindI_pow hw (by simp only; omega)
      rw [hki] at hK2
      have HK2 := Lib.hid hK2
      clear hki hK2 hw hd hlb hlb2 hn hve hV hj2 hmod ha' hxb
      go_wp2_with fail
      refine hK.mono ?_; rintro e w1 ⟨rfl, hb1⟩
      have d0 := (HBL.out.below hb1 hsz).cell 0
      have d1 := (HBL.out.below hb1 hsz).cell 1
      have d2 := (HBL.out.below hb1 hsz).cell 2
      have d3 := (HBL.out.below hb1 hsz).cell 3
      have HB1 := Lib.hid (HB.out.trans (hb1.mono HB.out.size))
      have HBL1 := Lib.hid (HBL.out.below hb1 hsz)
      have hv1 := HV.out w1 (HENV.out.on HB1.out)
      clear c0 c1 c2 c3 hb1 hK
      go_wp2_with fail
      refine hv1.mono ?_; rintro e w' ⟨rfl, rfl⟩
      clear hv1
      go_wp2_with fail
      refine (HK2.out _).mono ?_; rintro e w2 ⟨rfl, hb2⟩
      have HB2 := Lib.hid (HB1.out.trans (hb2.mono HB1.out.size))
      have HBL2 := Lib.hid (HBL1.out.below hb2 HBL1.out.lt)
      clear d0 d1 d2 d3
      have d0 := HBL2.out.cell 0
      have d1 := HBL2.out.cell 1
      have d2 := HBL2.out.cell 2
      have d3 := HBL2.out.cell 3
      have z0 := HBL2.out.frozen 0
      have z1 := HBL2.out.frozen 1
      have z2 := HBL2.out.frozen 2
      have z3 := HBL2.out.frozen 3
      obtain ⟨g0, g1, g2, g3⟩ := HXB.out.on HB2.out (lt_of_cell HXB.out.1)
      generalize hrb : r[b] = x at *
      have HRB := Lib.hid hrb
      obtain ⟨s2, l2, q2, t2⟩ := x
      simp only at g0 g1 g2 g3 hxbs
      clear hrb hb2
      go_wp2
      go_roundg b
      case measure => exact hb
      case rel => exact ⟨j2, ⟨s2, l2, q2, t2⟩, hbr, by rw [List.getElem?_eq_getElem hbr, HRB.out], by rw [HVE.out]; exact hj2v, by rw [HMOD.out], HLT.out, HBL2.out.set4 _ _ _ _, below_set4 HB2.out (Nat.le_refl _) _ _ _ _⟩
end Go.Proofs.YtgklmcinbaghmaaGreatDoor
