/-
  Our own text, in the proofs of the laws of package word (cayleylaw01). Proved here: Check and Is of the reference package, Reduce, and words. Conditions: the arguments read as the row says and the listed tables lie as the program lays them; none other.
-/
import Derived.Test.YtflieikbhgneoaaGreatDoorWe
namespace Go.Proofs.YtflieikbhgneoaaGreatDoor
open Go Go.RowKit

set_option maxHeartbeats 400000 in
theorem rCheck_any (k : Int) (s : ByteArray) (w : World) (hs : s.size ≤ maxLen) :
    Calls Tryz.prog 8 #[.int .i64 k, .string s] w fun e w' => e = .returned (.int .i64 (checkI k s.data.toList)) ∧ w = w' := by
  unfold maxLen at hs
  by_cases h1 : k < 1
  · have hr : checkI k s.data.toList = 1 := by simp [checkI, h1]
    have HR := Lib.hid hr
    clear hr
    go_enter Tryz.func8, Tryz.ntmps8
    go_wp2
    go_ret
    exact ⟨by rw [HR.out]; rfl, rfl⟩
  by_cases h2 : 8 < k
  · have hr : checkI k s.data.toList = 1 := by simp [checkI, h2]
    have HR := Lib.hid hr
    clear hr
    go_enter Tryz.func8, Tryz.ntmps8
    go_wp2
    go_ret
    exact ⟨by rw [HR.out]; rfl, rfl⟩
  by_cases h3 : 100000 < s.size
  · have hr : checkI k s.data.toList = 2 := by simp [checkI, h1, h2]; omega
    have HR := Lib.hid hr
    clear hr
    go_enter Tryz.func8, Tryz.ntmps8
    go_wp2
    go_ret
    exact ⟨by rw [HR.out]; rfl, rfl⟩
  have hr : checkI k s.data.toList = if s.data.toList.all (letterB k) then 0 else 4 := by
    unfold checkI; rw [if_neg (by omega), if_neg (by simpa using h3)]
  have HR := Lib.hid hr
  clear hr
  go_enter Tryz.func8, Tryz.ntmps8
  go_wp2
  go_loop [5] (fun i => ∃ n : Nat, n ≤ s.size ∧ i = .int .i64 n ∧ (s.data.toList.take n).all (letterB k) = true) (fun i => s.size - (intOf i).toNat)
  case atStart => exact ⟨0, Nat.zero_le _, rfl, rfl⟩
  case round =>
    obtain ⟨n, hn, rfl, hall⟩ := hrel
    have HA := Lib.hid hall
    clear hall
    by_cases hlt : n < s.size
    · have ha := all_take_succ s (letterB k) n hlt
      have HS := Lib.hid ha
      clear ha
      have hL := rIndex_any s[n] w
      have hib := idx_bound s[n]
      have hz : letterB k s[n] = false → s.data.toList.all (letterB k) = false := fun hb => by
        rw [List.all_eq_false]
        exact ⟨s[n], by have : s[n] = s.data.toList[n]'(by simpa using hlt) := rfl
                        rw [this]; exact List.getElem_mem _, by simpa using hb⟩
      have HZ := Lib.hid hz
      clear hz
      by_cases hb0 : 0 ≤ idx s[n]
      · by_cases hbk : idx s[n] < 2 * k
        · have Hb : Hid (letterB k s[n] = true) := Lib.hid (by simp [letterB, hb0, hbk])
          have hd1 : decide (idx s[n] < 0) = false := by simp; omega
          have hd2 : decide (2 * k ≤ idx s[n]) = false := by simp; omega
          generalize idx s[n] = p at *
          go_wp2_with (go_at_call 10; refine hL.mono ?_; rintro e w' ⟨rfl, rfl⟩)
          go_round
          case rel => exact ⟨n + 1, by omega, by go_num, by rw [HS.out, HA.out, Hb.out]; rfl⟩
          case measure => simp [intOf]; omega
        · have Hb : Hid (letterB k s[n] = false) := Lib.hid (by simp [letterB, hbk])
          have hd1 : decide (idx s[n] < 0) = false := by simp; omega
          have hd2 : 2 * k ≤ idx s[n] := by omega
          generalize idx s[n] = p at *
          go_wp2_with (go_at_call 10; refine hL.mono ?_; rintro e w' ⟨rfl, rfl⟩)
          go_ret
          exact ⟨by rw [HR.out, HZ.out Hb.out]; rfl, rfl⟩
      · have Hb : Hid (letterB k s[n] = false) := Lib.hid (by simp [letterB, hb0])
        have hb0' : idx s[n] < 0 := by omega
        generalize idx s[n] = p at *
        go_wp2_with (go_at_call 10; refine hL.mono ?_; rintro e w' ⟨rfl, rfl⟩)
        go_ret
        exact ⟨by rw [HR.out, HZ.out Hb.out]; rfl, rfl⟩
    · have hz := HA.out
      rw [List.take_of_length_le (by simp; omega)] at hz
      have HZ := Lib.hid hz
      clear hz
      go_wp2
      go_ret
      exact ⟨by rw [HR.out, if_pos HZ.out]; rfl, rfl⟩

set_option maxHeartbeats 400000 in
theorem rIs_any (s : ByteArray) (w : World) (hs : s.size ≤ maxLen) :
    Calls Tryz.prog 31 #[.string s] w fun e w' => e = .returned (.bool (isW s.data.toList)) ∧ w = w' := by
  have hC := rCheck_any 8 s w hs
  have h8 := checkI_8 s.data.toList
  have H8 := Lib.hid h8
  generalize checkI 8 s.data.toList = r at *
  clear h8
  go_enter Tryz.func31, Tryz.ntmps31
  go_wp2_with (go_at_call 8; refine hC.mono ?_; rintro e w' ⟨rfl, rfl⟩)
  go_ret
  exact ⟨by rw [← H8.out]; rfl, rfl⟩

set_option maxHeartbeats 400000 in
theorem Reduce_yes (s : ByteArray) (w : World) (ht : Tabs w) (hw : isW s.data.toList = true) (hs : s.size ≤ 140737488351232) :
    Calls Tryz.prog 15 #[.string s] w fun e w' => e = .returned (.string ⟨(red s.data.toList).toArray⟩) ∧ Below w.heap.size w w' := by
  have hI := isWord_any s w ht (by unfold maxLen; omega)
  rw [hw] at hI
  have hV := reduce_any s w hs
  clear ht hw
  go_enter Tryz.func15, Tryz.ntmps15
  go_wp2_with (first | (go_at_call 35; refine hI.mono ?_; rintro e w' ⟨rfl, rfl⟩) | (go_at_call 38; refine hV.mono ?_; rintro e w' ⟨rfl, hb⟩))
  go_ret
  exact ⟨rfl, hb⟩

set_option maxHeartbeats 400000 in
theorem Reduce_no (s : ByteArray) (w : World) (ht : Tabs w) (hw : isW s.data.toList = false) (hs : s.size ≤ 140737488351232) :
    Calls Tryz.prog 15 #[.string s] w fun e w' => e = .returned (.string ⟨#[]⟩) ∧ w = w' := by
  have hI := isWord_any s w ht (by unfold maxLen; omega)
  rw [hw] at hI
  clear ht hw
  go_enter Tryz.func15, Tryz.ntmps15
  go_wp2_with (go_at_call 35; refine hI.mono ?_; rintro e w' ⟨rfl, rfl⟩)
  go_ret
  exact ⟨rfl, rfl⟩

/-- What the law asks of its arguments: at most 1000 letters, and a word. -/
def okW (l : List UInt8) : Bool := decide (l.length ≤ 1000) && isW l

end Go.Proofs.YtflieikbhgneoaaGreatDoor
