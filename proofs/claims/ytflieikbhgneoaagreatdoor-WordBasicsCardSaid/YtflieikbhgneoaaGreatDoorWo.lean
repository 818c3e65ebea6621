/-
  Our own text, in the proofs of the laws of package word (cayleylaw01). Proved here: Conjugate returns a conjugator, or none. Conditions: the arguments read as the row says and the listed tables lie as the program lays them; none other.
-/
import Derived.Test.YtflieikbhgneoaaGreatDoorWn
namespace Go.Proofs.YtflieikbhgneoaaGreatDoor
open Go Go.RowKit

theorem formW_len (l : List UInt8) : (formW l).length = (coreW (red l)).length := by
  have := lrN_le (coreW (red l))
  unfold formW; simp; omega

def shiftN (u v : List UInt8) : Nat :=
  if (lrN (coreW (red v)) : Int) - lrN (coreW (red u)) < 0 then ((lrN (coreW (red v)) : Int) - lrN (coreW (red u)) + (coreW (red v)).length).toNat else ((lrN (coreW (red v)) : Int) - lrN (coreW (red u))).toNat
def conjX (u v : List UInt8) : List UInt8 :=
  red (conjW (red u) ++ invW ((coreW (red v)).take (shiftN u v)) ++ invW (conjW (red v)))

set_option maxHeartbeats 400000 in
theorem Conj_no1 (s t : ByteArray) (w : World) (ht : Tabs w) (hs : s.size ≤ 140737488351232) (hw : isW s.data.toList = false) :
    Calls Tryz.prog 29 #[.string s, .string t] w fun e w' => e = .returned (.tuple #[.string ⟨#[]⟩, .bool false]) ∧ w = w' := by
  have hI := isWord_any s w ht (by unfold maxLen; omega)
  rw [hw] at hI
  clear ht hw
  go_enter Tryz.func29, Tryz.ntmps29
  go_wp2_with (go_at_call 35; refine hI.mono ?_; rintro e w' ⟨rfl, rfl⟩)
  go_ret2
  exact ⟨rfl, rfl⟩

set_option maxHeartbeats 400000 in
theorem Conj_no2 (s t : ByteArray) (w : World) (ht : Tabs w) (hs : s.size ≤ 140737488351232) (ht2 : t.size ≤ 140737488351232) (hw : isW s.data.toList = true) (hv : isW t.data.toList = false) :
    Calls Tryz.prog 29 #[.string s, .string t] w fun e w' => e = .returned (.tuple #[.string ⟨#[]⟩, .bool false]) ∧ w = w' := by
  have hI := isWord_any s w ht (by unfold maxLen; omega)
  have hJ := isWord_any t w ht (by unfold maxLen; omega)
  rw [hw] at hI
  rw [hv] at hJ
  clear ht hw hv
  go_enter Tryz.func29, Tryz.ntmps29
  go_wp2_with fail
  refine hI.mono ?_; rintro e w' ⟨rfl, rfl⟩
  go_wp2_with fail
  refine hJ.mono ?_; rintro e w' ⟨rfl, rfl⟩
  go_wp2
  go_ret2
  exact ⟨rfl, rfl⟩

set_option maxHeartbeats 400000 in
theorem Conj_no3 (s t : ByteArray) (w : World) (ht : Tabs w) (hs : s.size ≤ 140737488351232) (ht2 : t.size ≤ 140737488351232) (hw : isW s.data.toList = true) (hv : isW t.data.toList = true) (hf : formW s.data.toList ≠ formW t.data.toList) :
    Calls Tryz.prog 29 #[.string s, .string t] w fun e w' => e = .returned (.tuple #[.string ⟨#[]⟩, .bool false]) ∧ Below w.heap.size w w' := by
  have hI := isWord_any s w ht (by unfold maxLen; omega)
  have hJ := isWord_any t w ht (by unfold maxLen; omega)
  have hF := Form_yes s w ht hw hs
  have hG := fun w ht => Form_yes t w ht hv ht2
  rw [hw] at hI
  rw [hv] at hJ
  generalize formW s.data.toList = F at *
  generalize formW t.data.toList = G at *
  have hd : (F == G) = false := by simpa using hf
  have HG := Lib.hid hG
  have HT := Lib.hid ht
  clear ht hw hv hf hG
  go_enter Tryz.func29, Tryz.ntmps29
  go_wp2_with fail
  refine hI.mono ?_; rintro e w' ⟨rfl, rfl⟩
  go_wp2_with fail
  refine hJ.mono ?_; rintro e w' ⟨rfl, rfl⟩
  go_wp2_with fail
  refine hF.mono ?_; rintro e w1 ⟨rfl, hb1⟩
  go_wp2_with fail
  refine (HG.out _ (HT.out.on hb1)).mono ?_; rintro e w2 ⟨rfl, hb2⟩
  go_wp2
  go_ret2
  exact ⟨rfl, hb1.trans (hb2.mono hb1.size)⟩

set_option maxHeartbeats 1000000 in
theorem Conj_yes (s t : ByteArray) (w : World) (ht : Tabs w) (hw : isW s.data.toList = true) (hv : isW t.data.toList = true) (hf : formW s.data.toList = formW t.data.toList) :
    Calls Tryz.prog 29 #[.string s, .string t] w fun e w' => e = .returned (.tuple #[.string ⟨(conjX s.data.toList t.data.toList).toArray⟩, .bool true]) ∧ Below w.heap.size w w' := by
  have hl1 := isW_len hw
  have hl2 := isW_len hv
  have hs : s.size ≤ 100000 := by simpa using hl1
  have ht2 : t.size ≤ 100000 := by simpa using hl2
  have hI := isWord_any s w ht (by unfold maxLen; omega)
  have hJ := isWord_any t w ht (by unfold maxLen; omega)
  have hF := Form_yes s w ht hw (by omega)
  have hG := fun w ht => Form_yes t w ht hv (by omega)
  have hCu := fun w ht => Cyclic_yes s w ht hw (by omega)
  have hCv := fun w ht => Cyclic_yes t w ht hv (by omega)
  have hflu := formW_len s.data.toList
  have hflv := formW_len t.data.toList
  have hru := conj_core_len (red s.data.toList)
  have hrv := conj_core_len (red t.data.toList)
  have hru' := red_len s.data.toList
  have hrv' := red_len t.data.toList
  have hLu := lrN_le (coreW (red s.data.toList))
  have hLv := lrN_le (coreW (red t.data.toList))
  have hlru := fun w ht => leastRotation_any ⟨(coreW (red s.data.toList)).toArray⟩ w ht (by rw [size_mk]; omega)
  have hlrv := fun w ht => leastRotation_any ⟨(coreW (red t.data.toList)).toArray⟩ w ht (by rw [size_mk]; omega)
  simp only [data_mk] at hlru hlrv
  have HR : Hid (conjX s.data.toList t.data.toList = red (conjW (red s.data.toList) ++ invW ((coreW (red t.data.toList)).take (shiftN s.data.toList t.data.toList)) ++ invW (conjW (red t.data.toList)))) := Lib.hid rfl
  have hsh : shiftN s.data.toList t.data.toList = if (lrN (coreW (red t.data.toList)) : Int) - lrN (coreW (red s.data.toList)) < 0 then ((lrN (coreW (red t.data.toList)) : Int) - lrN (coreW (red s.data.toList)) + (coreW (red t.data.toList)).length).toNat else ((lrN (coreW (red t.data.toList)) : Int) - lrN (coreW (red s.data.toList))).toNat := rfl
  rw [hw] at hI
  rw [hv] at hJ
  rw [hf] at hF hflu
  generalize shiftN s.data.toList t.data.toList = sh at *
  generalize formW t.data.toList = F at *
  generalize lrN (coreW (red s.data.toList)) = a at *
  generalize lrN (coreW (red t.data.toList)) = b at *
  generalize coreW (red s.data.toList) = C1 at *
  generalize coreW (red t.data.toList) = C2 at *
  generalize conjW (red s.data.toList) = D1 at *
  generalize conjW (red t.data.toList) = D2 at *
  have hlen : C1.length = C2.length := by omega
  have HLEN : C1.length ≤ C2.length := by omega
  have HT := Lib.hid ht
  have hD1 : D1.length ≤ 100000 := by omega
  have hD2 : D2.length ≤ 100000 := by omega
  have hC2 : C2.length ≤ 100000 := by omega
  have hshle : sh ≤ C2.length := by rw [hsh]; split <;> omega
  have HSH := Lib.hid hsh
  have HG := Lib.hid hG
  have H1 := Lib.hid hCu
  have H2 := Lib.hid hCv
  have H3 := Lib.hid hlru
  have H4 := Lib.hid hlrv
  have hinv1 := fun w => inverse_any ⟨(C2.take sh).toArray⟩ w (by rw [size_mk, List.length_take]; omega)
  have hinv2 := fun w => inverse_any ⟨D2.toArray⟩ w (by rw [size_mk]; omega)
  simp only [data_mk] at hinv1 hinv2
  have HI1 := Lib.hid hinv1
  have HI2 := Lib.hid hinv2
  have hred := fun w => reduce_any ⟨(D1 ++ invW (C2.take sh) ++ invW D2).toArray⟩ w (by rw [size_mk, List.length_append, List.length_append, invW_len, invW_len, List.length_take]; omega)
  simp only [data_mk] at hred
  have HRD := Lib.hid hred
  clear ht hw hv hG hCu hCv hlru hlrv hflu hflv hru hrv hru' hrv' hlen hsh hinv1 hinv2 hred hl1 hl2 hf
  go_enter Tryz.func29, Tryz.ntmps29
  go_wp2_with fail
  refine hI.mono ?_; rintro e w' ⟨rfl, rfl⟩
  go_wp2_with fail
  refine hJ.mono ?_; rintro e w' ⟨rfl, rfl⟩
  go_wp2_with fail
  refine hF.mono ?_; rintro e w1 ⟨rfl, hb1⟩
  have B1 := Lib.hid hb1
  clear hb1
  go_wp2_with fail
  refine (HG.out _ (HT.out.on B1.out)).mono ?_; rintro e w2 ⟨rfl, hb2⟩
  have B2 := Lib.hid (B1.out.trans (hb2.mono B1.out.size))
  clear hb2
  go_wp2_with fail
  refine (H1.out _ (HT.out.on B2.out)).mono ?_; rintro e w3 ⟨rfl, hb3⟩
  have B3 := Lib.hid (B2.out.trans (hb3.mono B2.out.size))
  clear hb3
  go_wp2_with fail
  refine (H2.out _ (HT.out.on B3.out)).mono ?_; rintro e w4 ⟨rfl, hb4⟩
  have B4 := Lib.hid (B3.out.trans (hb4.mono B3.out.size))
  clear hb4
  go_wp2_with fail
  refine (H4.out _ (HT.out.on B4.out)).mono ?_; rintro e w5 ⟨rfl, n5, hw5⟩
  have B5 := Lib.hid (B4.out.trans (below_drawn hw5 w.heap.size))
  clear hw5
  go_wp2_with fail
  refine (H3.out _ (HT.out.on B5.out)).mono ?_; rintro e w6 ⟨rfl, n6, hw6⟩
  have B6 := Lib.hid (B5.out.trans (below_drawn hw6 w.heap.size))
  clear hw6
  have hxx : (ByteArray.mk C2.toArray).extract 0 sh = ⟨(C2.take sh).toArray⟩ := ba_ext (by simp [ByteArray.data_extract, List.extract_eq_take_drop])
  have HXX := Lib.hid hxx
  have hyy : ByteArray.mk D1.toArray ++ ByteArray.mk (invW (C2.take sh)).toArray ++ ByteArray.mk (invW D2).toArray = ⟨(D1 ++ invW (C2.take sh) ++ invW D2).toArray⟩ := ba_ext (by simp [ByteArray.data_append])
  have HYY := Lib.hid hyy
  have hl1 : (invW (C2.take sh)).length ≤ 100000 := by rw [invW_len, List.length_take]; omega
  have hl2 : (invW D2).length ≤ 100000 := by rw [invW_len]; omega
  clear hxx hyy
  by_cases hneg : (b : Int) - (a : Int) < 0
  · have hs2 := HSH.out
    rw [if_pos hneg] at hs2
    have hcast : (b : Int) - (a : Int) + (C2.length : Int) = (sh : Int) := by omega
    clear hs2
    go_wp2_with fail
    rw [HXX.out]
    refine (HI1.out _).mono ?_; rintro e w7 ⟨rfl, hb7⟩
    have B7 := Lib.hid (B6.out.trans (hb7.mono B6.out.size))
    clear hb7
    go_wp2_with fail
    refine (HI2.out _).mono ?_; rintro e w8 ⟨rfl, hb8⟩
    have B8 := Lib.hid (B7.out.trans (hb8.mono B7.out.size))
    clear hb8
    go_wp2_with fail
    rw [HYY.out]
    refine (HRD.out _).mono ?_; rintro e w9 ⟨rfl, hb9⟩
    have B9 := Lib.hid (B8.out.trans (hb9.mono B8.out.size))
    clear hb9
    go_wp2
    go_ret2
    exact ⟨by rw [HR.out, List.append_assoc]; rfl, B9.out⟩
  · have hs2 := HSH.out
    rw [if_neg hneg] at hs2
    have hcast : (b : Int) - (a : Int) = (sh : Int) := by omega
    clear hs2
    go_wp2_with fail
    rw [HXX.out]
    refine (HI1.out _).mono ?_; rintro e w7 ⟨rfl, hb7⟩
    have B7 := Lib.hid (B6.out.trans (hb7.mono B6.out.size))
    clear hb7
    go_wp2_with fail
    refine (HI2.out _).mono ?_; rintro e w8 ⟨rfl, hb8⟩
    have B8 := Lib.hid (B7.out.trans (hb8.mono B7.out.size))
    clear hb8
    go_wp2_with fail
    rw [HYY.out]
    refine (HRD.out _).mono ?_; rintro e w9 ⟨rfl, hb9⟩
    have B9 := Lib.hid (B8.out.trans (hb9.mono B8.out.size))
    clear hb9
    go_wp2
    go_ret2
    exact ⟨by rw [HR.out, List.append_assoc]; rfl, B9.out⟩
end Go.Proofs.YtflieikbhgneoaaGreatDoor
