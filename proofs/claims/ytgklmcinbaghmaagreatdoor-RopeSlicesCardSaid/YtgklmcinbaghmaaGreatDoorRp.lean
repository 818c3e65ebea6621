/-
  Our own text, in the proofs of the laws of package rope. Proved here: At returns the letter with an index. Conditions: the nodes lie in memory as the slice says; the listed table lies as the program lays it.
-/
import Derived.Test.YtgklmcinbaghmaaGreatDoorRo
namespace Go.Proofs.YtgklmcinbaghmaaGreatDoor
open Go Go.RowKit

set_option maxHeartbeats 1000000 in
theorem At_any (A : Option Addr) (r : List Nd) (cap : Nat) (i : Int) (w : World) (ht : Tabs w) (hr : RopeAt w A r) (hm : r.length ≤ maxLen) :
    Calls Tryz.prog 16 #[.slice A r.length cap, .int .i64 i] w fun e w' => e = .returned (.tuple #[.int .u8 (atB r i).toNat, .int .i64 (atE r i)]) ∧ Below w.heap.size w w' := by
  have hM := measure_any A r cap w ht hr hm
  have HR := Lib.hid hr
  unfold maxLen at hm
  clear ht hr
  cases hl : lens r with
  | none =>
    have h1 := Lib.hid (at_none hl i)
    have HL := Lib.hid hl
    clear hl
    go_enter Tryz.func16, Tryz.ntmps16
    go_wp2_with fail
    refine hM.mono ?_
    rintro e w1 ⟨_, hno⟩
    obtain ⟨rfl, hb⟩ := hno HL.out
    go_wp2
    go_ret2
    exact ⟨by rw [h1.out.1, h1.out.2]; rfl, hb⟩
  | some L =>
    obtain ⟨k1, k2, k3⟩ := lens_ok hl
    have HL := Lib.hid hl
    have HK := Lib.hid k1
    by_cases hi0 : i < 0
    · have hd : decide (i < 0) = true := by simpa using hi0
      have h1 := Lib.hid (at_out hl i (by omega))
      clear hl k1 k2
      go_enter Tryz.func16, Tryz.ntmps16
      go_wp2_with fail
      refine hM.mono ?_
      rintro e w1 ⟨hyes, _⟩
      obtain ⟨B, hB, rfl, henv, hb⟩ := hyes L HL.out
      clear hyes henv
      go_wp2
      go_ret2
      exact ⟨by rw [h1.out.1, h1.out.2]; rfl, hb⟩
    · have hd : decide (i < 0) = false := by simpa using hi0
      obtain ⟨j, rfl⟩ : ∃ j : Nat, i = (j : Int) := ⟨i.toNat, by omega⟩
      by_cases hi1 : lastN L ≤ j
      · have hd2 : decide (lastN L ≤ j) = true := by simpa using hi1
        have h1 := Lib.hid (at_out hl j (by omega))
        clear hl k1 k2
        go_enter Tryz.func16, Tryz.ntmps16
        go_wp2_with fail
        refine hM.mono ?_
        rintro e w1 ⟨hyes, _⟩
        obtain ⟨B, hB, rfl, henv, hb⟩ := hyes L HL.out
        have hv := value_last w1 B _ L (by rw [HK.out]; exact k3) henv ((r.length : Int) - 1) (by rw [HK.out])
        have HV := Lib.hid hv
        clear hyes hv henv
        generalize lastN L = m at *
        go_wp2_with fail
        refine HV.out.mono ?_; rintro e w' ⟨rfl, rfl⟩
        go_wp2
        go_ret2
        exact ⟨by rw [h1.out.1, h1.out.2]; rfl, hb⟩
      · have hd2 : decide (lastN L ≤ j) = false := by simpa using hi1
        have h1 := Lib.hid (at_in hl j (by omega))
        obtain ⟨hp, hlast⟩ := lastN_pos hl (by omega)
        clear hl k1 k2 hlast
        go_enter Tryz.func16, Tryz.ntmps16
        go_wp2_with fail
        refine hM.mono ?_
        rintro e w1 ⟨hyes, _⟩
        obtain ⟨B, hB, rfl, henv, hb⟩ := hyes L HL.out
        have hv := value_last w1 B _ L (by rw [HK.out]; exact k3) henv ((r.length : Int) - 1) (by rw [HK.out])
        have hl2 := letterAt_any A r cap L HL.out B w1 _ henv (HR.out.on hb) hp j (by omega)
        have HV := Lib.hid hv
        have HL2 := Lib.hid hl2
        have HB := Lib.hid hb
        clear hyes hv hl2 henv hb
        generalize lastN L = m at *
        go_wp2_with fail
        refine HV.out.mono ?_; rintro e w' ⟨rfl, rfl⟩
        go_wp2_with fail
        refine HL2.out.mono ?_; rintro e w3 ⟨rfl, hb3⟩
        go_wp2
        go_ret2
        exact ⟨by rw [h1.out.1, h1.out.2]; rfl, HB.out.trans (hb3.mono HB.out.size)⟩
end Go.Proofs.YtgklmcinbaghmaaGreatDoor
