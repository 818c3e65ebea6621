/-
  Our own text, in the proofs of the laws of package rope. Proved here: Concat, whatever the two lists. Conditions: the nodes lie in memory as the slices say; the listed table lies as the program lays it.
-/
import Derived.Test.YtgklmcinbaghmaaGreatDoorCe
namespace Go.Proofs.YtgklmcinbaghmaaGreatDoor
open Go Go.RowKit

set_option maxHeartbeats 4000000 in
set_option maxRecDepth 100000 in
theorem Concat_noA (A B : Option Addr) (a b : List Nd) (cap capb : Nat) (w : World) (ht : Tabs w) (hr : RopeAt w A a) (hr' : RopeAt w B b) (hm : a.length ≤ maxLen) (hl : lens a = none) :
    Calls Tryz.prog 22 #[.slice A a.length cap, .slice B b.length capb] w (RopeP w [] 20) := by
  have hM := measure_any A a cap w ht hr hm
  have HL := Lib.hid hl
  clear hl ht hr hr' hm
  go_enter Tryz.func22, Tryz.ntmps22
  go_wp2_with fail
  refine hM.mono ?_
  rintro e w1 ⟨_, hno⟩
  obtain ⟨rfl, hb⟩ := hno HL.out
  go_wp2
  go_ret2
  exact RopeP.nil hb

set_option maxHeartbeats 4000000 in
set_option maxRecDepth 100000 in
theorem Concat_noB (A B : Option Addr) (a b : List Nd) (cap capb : Nat) (L : List Nat) (w : World) (ht : Tabs w) (hr : RopeAt w A a) (hr' : RopeAt w B b) (hm : a.length ≤ maxLen) (hm' : b.length ≤ maxLen) (hl : lens a = some L) (hl' : lens b = none) :
    Calls Tryz.prog 22 #[.slice A a.length cap, .slice B b.length capb] w (RopeP w [] 20) := by
  have hM := measure_any A a cap w ht hr hm
  have HT := Lib.hid ht
  have HR' := Lib.hid hr'
  have HL := Lib.hid hl
  have HL' := Lib.hid hl'
  have HM' := Lib.hid hm'
  clear hl hl' ht hr hr' hm hm'
  go_enter Tryz.func22, Tryz.ntmps22
  go_wp2_with fail
  refine hM.mono ?_
  rintro e w1 ⟨hyes, _⟩
  obtain ⟨B1, hB1, rfl, henv, hb1⟩ := hyes L HL.out
  have HB1 := Lib.hid hb1
  clear hyes henv hb1 hM
  go_wp2_with fail
  refine (measure_any B b capb w1 (HT.out.on HB1.out) (HR'.out.on HB1.out) HM'.out).mono ?_
  rintro e w2 ⟨_, hno⟩
  obtain ⟨rfl, hb⟩ := hno HL'.out
  go_wp2
  go_ret2
  exact RopeP.nil (HB1.out.trans (hb.mono HB1.out.size))

set_option maxHeartbeats 4000000 in
set_option maxRecDepth 100000 in
theorem Concat_many (A B : Option Addr) (a b : List Nd) (cap capb : Nat) (L M : List Nat) (hl : lens a = some L) (hl' : lens b = some M) (w : World) (ht : Tabs w) (hr : RopeAt w A a) (hr' : RopeAt w B b) (h4 : 4000 < a.length + b.length + 1) :
    Calls Tryz.prog 22 #[.slice A a.length cap, .slice B b.length capb] w (RopeP w [] 2) := by
  obtain ⟨k1, k2, k3⟩ := lens_ok hl
  obtain ⟨k1', k2', k3'⟩ := lens_ok hl'
  have hM := measure_any A a cap w ht hr (by unfold maxLen; omega)
  have HT := Lib.hid ht
  have HR := Lib.hid hr
  have HR' := Lib.hid hr'
  have HL := Lib.hid hl
  have HL' := Lib.hid hl'
  have HK := Lib.hid k1
  have HK' := Lib.hid k1'
  clear hl hl' ht hr hr' k1 k1' k2 k2'
  go_enter Tryz.func22, Tryz.ntmps22
  go_wp2_with fail
  refine hM.mono ?_
  rintro e w1 ⟨hyes, _⟩
  obtain ⟨B1, hB1, rfl, henv, hb1⟩ := hyes L HL.out
  have HENV := Lib.hid henv
  have HB1 := Lib.hid hb1
  clear hyes henv hb1 hM
  go_wp2_with fail
  refine (measure_any B b capb w1 (HT.out.on HB1.out) (HR'.out.on HB1.out) (by unfold maxLen; omega)).mono ?_
  rintro e w2 ⟨hyes, _⟩
  obtain ⟨B2, hB2, rfl, henv', hb2⟩ := hyes M HL'.out
  have henv1 := HENV.out.on hb2
  have hv := value_last w2 B1 _ L (by rw [HK.out]; exact k3) henv1 ((a.length : Int) - 1) (by rw [HK.out])
  have hv' := value_last w2 B2 _ M (by rw [HK'.out]; exact k3') henv' ((b.length : Int) - 1) (by rw [HK'.out])
  have HV := Lib.hid hv
  have HV' := Lib.hid hv'
  have HB12 := Lib.hid (HB1.out.trans (hb2.mono HB1.out.size))
  clear hyes henv' hb2 henv1 hv hv'
  generalize lastN L = m at *
  generalize lastN M = m' at *
  have hd4 : decide ((4000 : Int) < (a.length : Int) + (b.length : Int) + 1) = true := by simp; omega
  go_wp2
  go_ret2
  exact RopeP.nil HB12.out

set_option maxHeartbeats 4000000 in
set_option maxRecDepth 100000 in
theorem Concat_long (A B : Option Addr) (a b : List Nd) (cap capb : Nat) (L M : List Nat) (hl : lens a = some L) (hl' : lens b = some M) (w : World) (ht : Tabs w) (hr : RopeAt w A a) (hr' : RopeAt w B b) (h4 : a.length + b.length + 1 ≤ 4000) (hs : 1152921504606846976 < (lastN L : Int) + (lastN M : Int)) :
    Calls Tryz.prog 22 #[.slice A a.length cap, .slice B b.length capb] w (RopeP w [] 2) := by
  have hs1 : (lastN L : Int) ≤ 1152921504606846976 := okL_le (lens_ok hl).2.1 _
  have hs2 : (lastN M : Int) ≤ 1152921504606846976 := okL_le (lens_ok hl').2.1 _
  obtain ⟨k1, k2, k3⟩ := lens_ok hl
  obtain ⟨k1', k2', k3'⟩ := lens_ok hl'
  have hM := measure_any A a cap w ht hr (by unfold maxLen; omega)
  have HT := Lib.hid ht
  have HR := Lib.hid hr
  have HR' := Lib.hid hr'
  have HL := Lib.hid hl
  have HL' := Lib.hid hl'
  have HK := Lib.hid k1
  have HK' := Lib.hid k1'
  clear hl hl' ht hr hr' k1 k1' k2 k2'
  go_enter Tryz.func22, Tryz.ntmps22
  go_wp2_with fail
  refine hM.mono ?_
  rintro e w1 ⟨hyes, _⟩
  obtain ⟨B1, hB1, rfl, henv, hb1⟩ := hyes L HL.out
  have HENV := Lib.hid henv
  have HB1 := Lib.hid hb1
  clear hyes henv hb1 hM
  go_wp2_with fail
  refine (measure_any B b capb w1 (HT.out.on HB1.out) (HR'.out.on HB1.out) (by unfold maxLen; omega)).mono ?_
  rintro e w2 ⟨hyes, _⟩
  obtain ⟨B2, hB2, rfl, henv', hb2⟩ := hyes M HL'.out
  have henv1 := HENV.out.on hb2
  have hv := value_last w2 B1 _ L (by rw [HK.out]; exact k3) henv1 ((a.length : Int) - 1) (by rw [HK.out])
  have hv' := value_last w2 B2 _ M (by rw [HK'.out]; exact k3') henv' ((b.length : Int) - 1) (by rw [HK'.out])
  have HV := Lib.hid hv
  have HV' := Lib.hid hv'
  have HB12 := Lib.hid (HB1.out.trans (hb2.mono HB1.out.size))
  clear hyes henv' hb2 henv1 hv hv'
  generalize lastN L = m at *
  generalize lastN M = m' at *
  have hd4 : decide ((4000 : Int) < (a.length : Int) + (b.length : Int) + 1) = false := by simp; omega
  have hd5 : decide ((1152921504606846976 : Int) < (m : Int) + (m' : Int)) = true := by simp; omega
  go_wp2_with fail
  refine HV.out.mono ?_; rintro e w' ⟨rfl, rfl⟩
  go_wp2_with fail
  refine HV'.out.mono ?_; rintro e w' ⟨rfl, rfl⟩
  go_wp2
  go_ret2
  exact RopeP.nil HB12.out

set_option maxHeartbeats 4000000 in
set_option maxRecDepth 100000 in
theorem Concat_empty (A B : Option Addr) (a b : List Nd) (cap capb : Nat) (L M : List Nat) (hl : lens a = some L) (hl' : lens b = some M) (w : World) (ht : Tabs w) (hr : RopeAt w A a) (hr' : RopeAt w B b) (hA : A = none → a = [] ∧ cap = 0) (hB : B = none → b = [] ∧ capb = 0) (h4 : a.length + b.length + 1 ≤ 4000) (hs : (lastN L : Int) + (lastN M : Int) ≤ 1152921504606846976) (he : a.length = 0 ∨ b.length = 0) :
    Calls Tryz.prog 22 #[.slice A a.length cap, .slice B b.length capb] w (RopeP w (a ++ b) 0) := by
  obtain ⟨k1, k2, k3⟩ := lens_ok hl
  obtain ⟨k1', k2', k3'⟩ := lens_ok hl'
  have hM := measure_any A a cap w ht hr (by unfold maxLen; omega)
  have HT := Lib.hid ht
  have HR := Lib.hid hr
  have HR' := Lib.hid hr'
  have HL := Lib.hid hl
  have HL' := Lib.hid hl'
  have HK := Lib.hid k1
  have HK' := Lib.hid k1'
  have HA := Lib.hid hA
  have HBB := Lib.hid hB
  clear hl hl' ht hr hr' hA hB k1 k1' k2 k2'
  go_enter Tryz.func22, Tryz.ntmps22
  go_wp2_with fail
  refine hM.mono ?_
  rintro e w1 ⟨hyes, _⟩
  obtain ⟨B1, hB1, rfl, henv, hb1⟩ := hyes L HL.out
  have HENV := Lib.hid henv
  have HB1 := Lib.hid hb1
  clear hyes henv hb1 hM
  go_wp2_with fail
  refine (measure_any B b capb w1 (HT.out.on HB1.out) (HR'.out.on HB1.out) (by unfold maxLen; omega)).mono ?_
  rintro e w2 ⟨hyes, _⟩
  obtain ⟨B2, hB2, rfl, henv', hb2⟩ := hyes M HL'.out
  have henv1 := HENV.out.on hb2
  have hv := value_last w2 B1 _ L (by rw [HK.out]; exact k3) henv1 ((a.length : Int) - 1) (by rw [HK.out])
  have hv' := value_last w2 B2 _ M (by rw [HK'.out]; exact k3') henv' ((b.length : Int) - 1) (by rw [HK'.out])
  have HV := Lib.hid hv
  have HV' := Lib.hid hv'
  have HB12 := Lib.hid (HB1.out.trans (hb2.mono HB1.out.size))
  clear hyes henv' hb2 henv1 hv hv'
  generalize lastN L = m at *
  generalize lastN M = m' at *
  have hd4 : decide ((4000 : Int) < (a.length : Int) + (b.length : Int) + 1) = false := by simp; omega
  have hd5 : decide ((1152921504606846976 : Int) < (m : Int) + (m' : Int)) = false := by simp; omega
  have hblk : Blk (w2.alloc (.cells #[.slice A a.length cap, .slice B b.length capb] 22)) w2.heap.size 22 #[.slice A a.length cap, .slice B b.length capb] := heap_alloc_new w2 _
  have hbw : Below w2.heap.size w2 (w2.alloc (.cells #[.slice A a.length cap, .slice B b.length capb] 22)) := (Below.refl _ _).alloc (Nat.le_refl _) _
  have hS := SConcat_any w2.heap.size A B a b cap capb (w2.alloc (.cells #[.slice A a.length cap, .slice B b.length capb] 22)) (hblk.cell 0) (hblk.cell 1) ((HR.out.on HB12.out).on hbw) ((HR'.out.on HB12.out).on hbw) HA.out HBB.out (by omega)
  have HS := Lib.hid hS
  have HBW := Lib.hid hbw
  have HE := Lib.hid he
  clear hS hbw hblk he
  go_wp2_with fail
  refine HV.out.mono ?_; rintro e w' ⟨rfl, rfl⟩
  go_wp2_with fail
  refine HV'.out.mono ?_; rintro e w' ⟨rfl, rfl⟩
  by_cases ha0 : a.length = 0
  · have hd6 : ((a.length : Int) == 0) = true := by rw [ha0]; rfl
    clear ha0
    go_wp2_with fail
    refine HS.out.mono ?_
    rintro e w3 ⟨A3, c3, rfl, hown, hb3⟩
    have HBF := HB12.out.trans ((HBW.out.trans (hb3.mono HBW.out.size)).mono HB12.out.size)
    go_wp2
    go_ret2
    exact ⟨A3, c3, by rw [List.length_append]; rfl, own_lower hown (Nat.le_trans HB12.out.size HBW.out.size), HBF⟩
  · have hb0 : b.length = 0 := by rcases HE.out with h | h; exact absurd h ha0; exact h
    have hd6 : ((a.length : Int) == 0) = false := by rw [beq_eq_false_iff_ne]; omega
    have hd7 : ((b.length : Int) == 0) = true := by rw [hb0]; rfl
    clear ha0 hb0
    go_wp2_with fail
    refine HS.out.mono ?_
    rintro e w3 ⟨A3, c3, rfl, hown, hb3⟩
    have HBF := HB12.out.trans ((HBW.out.trans (hb3.mono HBW.out.size)).mono HB12.out.size)
    go_wp2
    go_ret2
    exact ⟨A3, c3, by rw [List.length_append]; rfl, own_lower hown (Nat.le_trans HB12.out.size HBW.out.size), HBF⟩

end Go.Proofs.YtgklmcinbaghmaaGreatDoor
