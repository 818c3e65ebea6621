/-
  Our own text, in the proofs of the laws of package word (cayleylaw01). Proved here: Power, with its errors. Conditions: the arguments read as the row says and the listed tables lie as the program lays them; none other.
-/
import Derived.Test.YtflieikbhgneoaaGreatDoorWk
namespace Go.Proofs.YtflieikbhgneoaaGreatDoor
open Go Go.RowKit

/-- The greatest number of a power. -/
def mostN (l : List UInt8) : Nat := (100000 - 2 * (conjW (red l)).length) / (coreW (red l)).length

theorem conj_core_len (l : List UInt8) : 2 * (conjW l).length + (coreW l).length = l.length := by
  have := coreN_le l
  simp [conjW, coreW]; omega

theorem toList_empty (l : List UInt8) (h : l ≠ []) : (ByteArray.mk l.toArray).toList.isEmpty = false := by
  rw [ByteArray.toList_eq]; simpa using h

theorem quo_fact (a b m : Nat) (hb : 0 < b) (h : m = a / b) : (a : Int).tdiv (b : Int) = (m : Int) := by subst h; rfl

set_option maxHeartbeats 400000 in
theorem Power_form (s : ByteArray) (n : Int) (w : World) (ht : Tabs w) (hw : isW s.data.toList = false) (hs : s.size ≤ 140737488351232) :
    Calls Tryz.prog 28 #[.string s, .int .i64 n] w fun e w' => e = .returned (.tuple #[.string ⟨#[]⟩, .int .i64 4]) ∧ w = w' := by
  have hI := isWord_any s w ht (by unfold maxLen; omega)
  rw [hw] at hI
  clear ht hw
  go_enter Tryz.func28, Tryz.ntmps28
  go_wp2_with (go_at_call 35; refine hI.mono ?_; rintro e w' ⟨rfl, rfl⟩)
  go_ret2
  exact ⟨rfl, rfl⟩

set_option maxHeartbeats 400000 in
theorem Power_triv (s : ByteArray) (n : Int) (w : World) (ht : Tabs w) (hw : isW s.data.toList = true) (hs : s.size ≤ 140737488351232) (hc : coreW (red s.data.toList) = []) :
    Calls Tryz.prog 28 #[.string s, .int .i64 n] w fun e w' => e = .returned (.tuple #[.string ⟨#[]⟩, .int .i64 0]) ∧ Below w.heap.size w w' := by
  have hI := isWord_any s w ht (by unfold maxLen; omega)
  have hC := Cyclic_yes s w ht hw hs
  rw [hw] at hI
  rw [hc] at hC
  clear ht hw hc
  go_enter Tryz.func28, Tryz.ntmps28
  go_wp2_with (first | (go_at_call 35; refine hI.mono ?_; rintro e w' ⟨rfl, rfl⟩) | (go_at_call 23; refine hC.mono ?_; rintro e w' ⟨rfl, hb⟩))
  go_ret2
  exact ⟨rfl, hb⟩

/-- What word.Power answers. -/
def powL (l : List UInt8) (n : Int) : List UInt8 := if n.natAbs ≤ mostN l then powW (coreW (red l)) (conjW (red l)) n else []
def powE (l : List UInt8) (n : Int) : Int := if n.natAbs ≤ mostN l then 0 else 2

set_option maxHeartbeats 400000 in
theorem Power_rest (s : ByteArray) (n : Int) (w : World) (ht : Tabs w) (hw : isW s.data.toList = true) (hs : s.size ≤ 140737488351232) (hc : coreW (red s.data.toList) ≠ []) :
    Calls Tryz.prog 28 #[.string s, .int .i64 n] w fun e w' => e = .returned (.tuple #[.string ⟨(powL s.data.toList n).toArray⟩, .int .i64 (powE s.data.toList n)]) ∧ Below w.heap.size w w' := by
  have hI := isWord_any s w ht (by unfold maxLen; omega)
  have hC := Cyclic_yes s w ht hw hs
  have hlen := isW_len hw
  have hl := red_len s.data.toList
  have hcc := conj_core_len (red s.data.toList)
  obtain ⟨M, hM⟩ : ∃ M, mostN s.data.toList = M := ⟨_, rfl⟩
  have hMd : M = (100000 - 2 * (conjW (red s.data.toList)).length) / (coreW (red s.data.toList)).length := hM.symm
  have hRL : powL s.data.toList n = if n.natAbs ≤ M then powW (coreW (red s.data.toList)) (conjW (red s.data.toList)) n else [] := by rw [← hM]; rfl
  have hRE : powE s.data.toList n = if n.natAbs ≤ M then 0 else 2 := by rw [← hM]; rfl
  rw [hw] at hI
  generalize coreW (red s.data.toList) = C at *
  generalize conjW (red s.data.toList) = D at *
  have hCl : 0 < C.length := List.length_pos_iff.2 hc
  have hq := quo_fact (100000 - 2 * D.length) C.length M hCl hMd
  have hMle : M ≤ 100000 := by rw [hMd]; exact Nat.le_trans (Nat.div_le_self _ _) (by omega)
  have he : C.isEmpty = false := by simpa using hc
  have hD : D.length ≤ 100000 := by omega
  have hD2 : ((100000 - 2 * D.length : Nat) : Int) = 100000 - 2 * (D.length : Int) := by omega
  rw [hD2] at hq
  have hpw := fun h w => power_any ⟨C.toArray⟩ ⟨D.toArray⟩ n w (by rw [size_mk]; omega) (by rw [size_mk]; omega) h
  simp only [data_mk] at hpw
  have hcne : C.length ≠ 0 := by omega
  have HPW := Lib.hid hpw
  clear ht hw hM hMd hcc hl hlen hD2 hpw
  by_cases hgt : (M : Int) < n
  · rw [if_neg (by omega)] at hRL hRE
    have H1 := Lib.hid hRL
    have H2 := Lib.hid hRE
    clear hRL hRE
    go_enter Tryz.func28, Tryz.ntmps28
    go_wp2_with (first | (go_at_call 35; refine hI.mono ?_; rintro e w' ⟨rfl, rfl⟩) | (go_at_call 23; refine hC.mono ?_; rintro e w' ⟨rfl, hb⟩))
    go_ret2
    exact ⟨by rw [H1.out, H2.out]; rfl, hb⟩
  · by_cases hlt : n < -(M : Int)
    · rw [if_neg (by omega)] at hRL hRE
      have H1 := Lib.hid hRL
      have H2 := Lib.hid hRE
      clear hRL hRE
      go_enter Tryz.func28, Tryz.ntmps28
      go_wp2_with (first | (go_at_call 35; refine hI.mono ?_; rintro e w' ⟨rfl, rfl⟩) | (go_at_call 23; refine hC.mono ?_; rintro e w' ⟨rfl, hb⟩))
      go_ret2
      exact ⟨by rw [H1.out, H2.out]; rfl, hb⟩
    · rw [if_pos (by omega)] at hRL hRE
      have H1 := Lib.hid hRL
      have H2 := Lib.hid hRE
      clear hRL hRE
      have hna : n.natAbs ≤ 1000000 := by omega
      go_enter Tryz.func28, Tryz.ntmps28
      go_wp2_with (first | (go_at_call 35; refine hI.mono ?_; rintro e w' ⟨rfl, rfl⟩) | (go_at_call 23; refine hC.mono ?_; rintro e w' ⟨rfl, hb⟩) | (go_at_call 46; refine (HPW.out hna _).mono ?_; rintro e w' ⟨rfl, hb2⟩))
      go_ret2
      exact ⟨by rw [H1.out, H2.out]; rfl, hb.trans (hb2.mono hb.size)⟩
end Go.Proofs.YtflieikbhgneoaaGreatDoor
