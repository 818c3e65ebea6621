/-
  Our own text, in the proofs of the laws of package rope. Proved here: the three closures by which measure reckons lengths, and the evaluator's closure at a node that is not known yet. No condition but bounds on numbers.
-/
import Derived.Test.YtgklmcinbaghmaaGreatDoorRd
import Derived.Deep.QuietTactic
import Derived.BigQuiet
import Derived.Deep.RegionWith
namespace Go.Proofs.YtgklmcinbaghmaaGreatDoor
open Go Go.RowKit

set_option maxHeartbeats 400000 in
theorem m_leaf (s : ByteArray) (w : World) (hs : s.size ≤ maxLen) : Calls Tryz.prog 55 #[.string s] w fun e w' => e = .returned (.int .i64 s.size) ∧ w = w' := by
  unfold maxLen at hs
  go_enter Tryz.func55, Tryz.ntmps55
  go_wp2
  go_ret
  exact ⟨rfl, rfl⟩

set_option maxHeartbeats 400000 in
theorem m_join_yes (x y : Int) (w : World) (hx : 0 ≤ x) (hy : 0 ≤ y) (h : x + y ≤ 1152921504606846976) : Calls Tryz.prog 56 #[.int .i64 x, .int .i64 y] w fun e w' => e = .returned (.int .i64 (x + y)) ∧ w = w' := by
  have hd : decide (x + y ≤ 1152921504606846976) = true := by simpa using h
  go_enter Tryz.func56, Tryz.ntmps56
  go_wp2_with (go_at_call 53; refine (hold_yes _).mono ?_; rintro e w' ⟨rfl, rfl⟩)
  go_ret
  exact ⟨rfl, rfl⟩
set_option maxHeartbeats 400000 in
theorem m_join_no (x y : Int) (w : World) (hx : 0 ≤ x) (hy : 0 ≤ y) (hx2 : x ≤ 1152921504606846976) (hy2 : y ≤ 1152921504606846976) (h : 1152921504606846976 < x + y) : Calls Tryz.prog 56 #[.int .i64 x, .int .i64 y] w fun e w' => e = .panicked leaves ∧ w = w' := by
  have hd : decide (x + y ≤ 1152921504606846976) = false := by simpa using h
  go_enter Tryz.func56, Tryz.ntmps56
  go_wp2_with (go_at_call 53; refine (hold_no _).mono ?_; rintro e w' ⟨rfl, rfl⟩)
  exact ⟨rfl, rfl, rfl⟩

set_option maxHeartbeats 400000 in
theorem m_pow_yes (x t : Int) (w : World) (hx : 1 ≤ x) (ht : 1 ≤ t) (h : t ≤ 1152921504606846976 / x) : Calls Tryz.prog 57 #[.int .i64 x, .int .i64 t] w fun e w' => e = .returned (.int .i64 (x * t)) ∧ w = w' := by
  have h1 : t * x ≤ 1152921504606846976 := Int.mul_le_of_le_ediv (by omega) h
  have h2 : x * t ≤ 1152921504606846976 := by rw [Int.mul_comm]; exact h1
  have h3 : 0 ≤ x * t := Int.mul_nonneg (by omega) (by omega)
  have hd : decide (t ≤ 1152921504606846976 / x) = true := by simpa using h
  clear h1
  go_enter Tryz.func57, Tryz.ntmps57
  go_wp2_with (go_at_call 53; refine (hold_yes _).mono ?_; rintro e w' ⟨rfl, rfl⟩)
  go_ret
  exact ⟨rfl, rfl⟩
set_option maxHeartbeats 400000 in
theorem m_pow_no (x t : Int) (w : World) (hx : 1 ≤ x) (h : 1152921504606846976 / x < t) : Calls Tryz.prog 57 #[.int .i64 x, .int .i64 t] w fun e w' => e = .panicked leaves ∧ w = w' := by
  have hd : decide (t ≤ 1152921504606846976 / x) = false := by simpa using h
  go_enter Tryz.func57, Tryz.ntmps57
  go_wp2_with (go_at_call 53; refine (hold_no _).mono ?_; rintro e w' ⟨rfl, rfl⟩)
  exact ⟨rfl, rfl, rfl⟩
end Go.Proofs.YtgklmcinbaghmaaGreatDoor
