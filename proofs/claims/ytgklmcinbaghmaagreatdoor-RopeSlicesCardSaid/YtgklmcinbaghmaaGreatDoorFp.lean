/-
  Our own text, in the proof of the law RopeSlices of package rope (cayleylaw02). Proved here: Slice returns the part of the rope, or the error. Conditions: the nodes lie in memory as the slice says; the listed table lies as the program lays it.
-/
import Derived.Test.YtgklmcinbaghmaaGreatDoorFo
namespace Go.Proofs.YtgklmcinbaghmaaGreatDoor
open Go Go.RowKit

/-- How Slice ends: with a rope of which P holds, and an error. -/
def SlP (w : World) (P : List Nd → Prop) (err : Int) (e : Ending) (w' : World) : Prop :=
  ∃ R A' c', P R ∧ e = .returned (.tuple #[.slice A' R.length c', .int .i64 err]) ∧ RopeAt w' A' R ∧ Below w.heap.size w w'
theorem SlP.nil {w w' : World} (hb : Below w.heap.size w w') (err : Int) : SlP w (· = []) err (.returned (.tuple #[.slice none 0 0, .int .i64 err])) w' :=
  ⟨[], none, 0, rfl, rfl, fun i hi => absurd hi (by simp), hb⟩

set_option maxHeartbeats 1000000 in
theorem Slice_no (A : Option Addr) (a : List Nd) (cap : Nat) (i j : Int) (w : World) (ht : Tabs w) (hr : RopeAt w A a) (hm : a.length ≤ maxLen) (hl : lens a = none) :
    Calls Tryz.prog 23 #[.slice A a.length cap, .int .i64 i, .int .i64 j] w (SlP w (· = []) 20) := by
  have hM := measure_any A a cap w ht hr hm
  unfold maxLen at hm
  have HL := Lib.hid hl
  clear ht hr hl
  go_enter Tryz.func23, Tryz.ntmps23
  go_wp2_with fail
  refine hM.mono ?_
  rintro e w1 ⟨_, hno⟩
  obtain ⟨rfl, hb⟩ := hno HL.out
  go_wp2
  go_ret2
  exact SlP.nil hb 20

set_option maxHeartbeats 2000000 in
theorem Slice_arg (A : Option Addr) (a : List Nd) (cap : Nat) (i j : Int) (w : World) (ht : Tabs w) (hr : RopeAt w A a) (hm : a.length ≤ maxLen) (L : List Nat) (hl : lens a = some L) (hx : i < 0 ∨ j < i ∨ (lastN L : Int) < j) :
    Calls Tryz.prog 23 #[.slice A a.length cap, .int .i64 i, .int .i64 j] w (SlP w (· = []) 1) := by
  have hM := measure_any A a cap w ht hr hm
  unfold maxLen at hm
  have HL := Lib.hid hl
  obtain ⟨k1, k2, k3⟩ := lens_ok hl
  have HK := Lib.hid k1
  clear ht hr hl k2 k1
  go_enter Tryz.func23, Tryz.ntmps23
  go_wp2_with fail
  refine hM.mono ?_
  rintro e w1 ⟨hyes, _⟩
  obtain ⟨B, hB, rfl, henv, hb⟩ := hyes L HL.out
  by_cases hi : i < 0
  · have hd1 : decide (i < 0) = true := by simpa using hi
    clear hyes hx henv hi
    go_wp2
    go_ret2
    exact SlP.nil hb 1
  · have hd1 : decide (i < 0) = false := by simpa using hi
    by_cases hji : j < i
    · have hd2 : decide (j < i) = true := by simpa using hji
      clear hyes hx henv hi hji
      go_wp2
      go_ret2
      exact SlP.nil hb 1
    · have hd2 : decide (j < i) = false := by simpa using hji
      have hd3 : decide ((lastN L : Int) < j) = true := by simp; omega
      have HV := Lib.hid (value_last w1 B _ L (by rw [HK.out]; exact k3) henv ((a.length : Int) - 1) (by rw [HK.out]))
      clear hyes hx henv hi hji
      go_wp2_with fail
      refine HV.out.mono ?_; rintro e w' ⟨rfl, rfl⟩
      go_wp2
      go_ret2
      exact SlP.nil hb 1

set_option maxHeartbeats 2000000 in
theorem Slice_big (A : Option Addr) (a : List Nd) (cap : Nat) (i j : Int) (w : World) (ht : Tabs w) (hr : RopeAt w A a) (hm : a.length ≤ maxLen) (L : List Nat) (hl : lens a = some L) (hi : 0 ≤ i) (hij : i ≤ j) (hj : j ≤ (lastN L : Int)) (hb4 : 400 < a.length) :
    Calls Tryz.prog 23 #[.slice A a.length cap, .int .i64 i, .int .i64 j] w (SlP w (· = []) 2) := by
  have hM := measure_any A a cap w ht hr hm
  unfold maxLen at hm
  have HL := Lib.hid hl
  obtain ⟨k1, k2, k3⟩ := lens_ok hl
  have HK := Lib.hid k1
  clear ht hr hl k2 k1
  have hd1 : decide (i < 0) = false := by simpa using hi
  have hd2 : decide (j < i) = false := by simpa using hij
  have hd3 : decide ((lastN L : Int) < j) = false := by simpa using hj
  have hd4 : decide ((400 : Int) < (a.length : Int)) = true := by simp; omega
  go_enter Tryz.func23, Tryz.ntmps23
  go_wp2_with fail
  refine hM.mono ?_
  rintro e w1 ⟨hyes, _⟩
  obtain ⟨B, hB, rfl, henv, hb⟩ := hyes L HL.out
  have HV := Lib.hid (value_last w1 B _ L (by rw [HK.out]; exact k3) henv ((a.length : Int) - 1) (by rw [HK.out]))
  clear hyes henv hi hij hj hb4
  go_wp2_with fail
  refine HV.out.mono ?_; rintro e w' ⟨rfl, rfl⟩
  go_wp2
  go_ret2
  exact SlP.nil hb 2

set_option maxHeartbeats 2000000 in
theorem Slice_nil (A : Option Addr) (a : List Nd) (cap : Nat) (i : Int) (w : World) (ht : Tabs w) (hr : RopeAt w A a) (hm : a.length ≤ maxLen) (L : List Nat) (hl : lens a = some L) (hi : 0 ≤ i) (hj : i ≤ (lastN L : Int)) (hb4 : a.length ≤ 400) :
    Calls Tryz.prog 23 #[.slice A a.length cap, .int .i64 i, .int .i64 i] w (SlP w (· = []) 0) := by
  have hM := measure_any A a cap w ht hr hm
  unfold maxLen at hm
  have HL := Lib.hid hl
  obtain ⟨k1, k2, k3⟩ := lens_ok hl
  have HK := Lib.hid k1
  clear ht hr hl k2 k1
  have hd1 : decide (i < 0) = false := by simpa using hi
  have hd3 : decide ((lastN L : Int) < i) = false := by simpa using hj
  have hd4 : decide ((400 : Int) < (a.length : Int)) = false := by simp; omega
  go_enter Tryz.func23, Tryz.ntmps23
  go_wp2_with fail
  refine hM.mono ?_
  rintro e w1 ⟨hyes, _⟩
  obtain ⟨B, hB, rfl, henv, hb⟩ := hyes L HL.out
  have HV := Lib.hid (value_last w1 B _ L (by rw [HK.out]; exact k3) henv ((a.length : Int) - 1) (by rw [HK.out]))
  clear hyes henv hi hj hb4
  go_wp2_with fail
  refine HV.out.mono ?_; rintro e w' ⟨rfl, rfl⟩
  go_wp2
  go_ret2
  exact SlP.nil hb 0
end Go.Proofs.YtgklmcinbaghmaaGreatDoor
