/-
  Our own text, in the proof of the law WordBasics of package word. Proved here: Compare, Text and their kin of the reference package, at every string. Conditions: the arguments read as the row says and the listed tables lie as the program lays them; none other.
-/
import Derived.Test.YtflieikbhgneoaaGreatDoorWn
namespace Go.Proofs.YtflieikbhgneoaaGreatDoor
open Go Go.RowKit

theorem let_idx : ∀ c : UInt8, 0 ≤ idx c → let_ (idx c) = c := by
  have h : ∀ n : Nat, n < 256 → 0 ≤ idx (UInt8.ofNat n) → let_ (idx (UInt8.ofNat n)) = UInt8.ofNat n := by decide +kernel
  intro c; have := h c.toNat c.toNat_lt; simpa using this
theorem idx_inj {c d : UInt8} (hc : 0 ≤ idx c) (h : idx c = idx d) : c = d := by
  rw [← let_idx c hc, h, let_idx d (by omega)]

set_option maxHeartbeats 400000 in
theorem rReduce_no (s : ByteArray) (w : World) (hw : isW s.data.toList = false) (hs : s.size ≤ maxLen) :
    Calls Tryz.prog 16 #[.string s] w fun e w' => e = .returned (.string ⟨#[]⟩) ∧ w = w' := by
  have hI := rIs_any s w hs
  rw [hw] at hI
  clear hw
  go_enter Tryz.func16, Tryz.ntmps16
  go_wp2_with (go_at_call 31; refine hI.mono ?_; rintro e w' ⟨rfl, rfl⟩)
  go_ret
  exact ⟨rfl, rfl⟩

set_option maxHeartbeats 400000 in
theorem rInverse_no (s : ByteArray) (w : World) (hw : isW s.data.toList = false) (hs : s.size ≤ maxLen) :
    Calls Tryz.prog 14 #[.string s] w fun e w' => e = .returned (.string ⟨#[]⟩) ∧ w = w' := by
  have hI := rIs_any s w hs
  rw [hw] at hI
  clear hw
  go_enter Tryz.func14, Tryz.ntmps14
  go_wp2_with (go_at_call 31; refine hI.mono ?_; rintro e w' ⟨rfl, rfl⟩)
  go_ret
  exact ⟨rfl, rfl⟩

set_option maxHeartbeats 400000 in
theorem Text_no (s : ByteArray) (w : World) (ht : Tabs w) (hw : isW s.data.toList = false) (hs : s.size ≤ maxLen) :
    Calls Tryz.prog 19 #[.string s] w fun e w' => e = .returned (.string ⟨#[]⟩) ∧ w = w' := by
  have hI := isWord_any s w ht hs
  rw [hw] at hI
  clear ht hw
  go_enter Tryz.func19, Tryz.ntmps19
  go_wp2_with (go_at_call 35; refine hI.mono ?_; rintro e w' ⟨rfl, rfl⟩)
  go_ret
  exact ⟨rfl, rfl⟩

set_option maxHeartbeats 400000 in
theorem rText_no (s : ByteArray) (w : World) (hw : isW s.data.toList = false) (hs : s.size ≤ maxLen) :
    Calls Tryz.prog 20 #[.string s] w fun e w' => e = .returned (.string ⟨#[]⟩) ∧ w = w' := by
  have hI := rIs_any s w hs
  rw [hw] at hI
  clear hw
  go_enter Tryz.func20, Tryz.ntmps20
  go_wp2_with (go_at_call 31; refine hI.mono ?_; rintro e w' ⟨rfl, rfl⟩)
  go_ret
  exact ⟨rfl, rfl⟩

theorem lexR_drop (s t : ByteArray) (k : Nat) (h : k < s.size) (h2 : s.size = t.size) (hl : 0 ≤ idx s[k]) :
    lexI (s.data.toList.drop k) (t.data.toList.drop k) = if idx s[k] < idx t[k] then -1 else if idx t[k] < idx s[k] then 1 else lexI (s.data.toList.drop (k + 1)) (t.data.toList.drop (k + 1)) := by
  rw [lexI_drop s t k h h2]
  by_cases he : s[k] = t[k]
  · rw [if_pos he, he]
    have : ¬ idx t[k] < idx t[k] := by omega
    rw [if_neg this, if_neg this]
  · rw [if_neg he]
    have hne : idx s[k] ≠ idx t[k] := fun h => he (idx_inj hl h)
    unfold Lib.compareInt
    by_cases h1 : idx s[k] < idx t[k]
    · simp [h1]
    · have h2 : idx t[k] < idx s[k] := by omega
      simp [h1, h2]

set_option maxHeartbeats 1000000 in
theorem rCompare_any (s t : ByteArray) (w : World) (hs : s.size ≤ maxLen) (hs2 : t.size ≤ maxLen) :
    Calls Tryz.prog 18 #[.string s, .string t] w fun e w' => e = .returned (.int .i64 (cmpW s.data.toList t.data.toList)) ∧ w = w' := by
  have hI := rIs_any s w hs
  have hJ := rIs_any t w hs2
  unfold maxLen at hs hs2
  cases h1 : isW s.data.toList with
  | false =>
    rw [h1] at hI
    have HR : Hid (cmpW s.data.toList t.data.toList = 0) := Lib.hid (by simp [cmpW, h1])
    clear h1
    go_enter Tryz.func18, Tryz.ntmps18
    go_wp2_with (go_at_call 31; refine hI.mono ?_; rintro e w' ⟨rfl, rfl⟩)
    go_ret
    exact ⟨by rw [HR.out]; rfl, rfl⟩
  | true =>
  cases h2 : isW t.data.toList with
  | false =>
    rw [h1] at hI
    rw [h2] at hJ
    have HR : Hid (cmpW s.data.toList t.data.toList = 0) := Lib.hid (by simp [cmpW, h2])
    clear h1 h2
    go_enter Tryz.func18, Tryz.ntmps18
    go_wp2_with fail
    refine hI.mono ?_; rintro e w' ⟨rfl, rfl⟩
    go_wp2_with fail
    refine hJ.mono ?_; rintro e w' ⟨rfl, rfl⟩
    go_wp2
    go_ret
    exact ⟨by rw [HR.out]; rfl, rfl⟩
  | true =>
  have hlet := letter_of_isW h1
  rw [h1] at hI
  rw [h2] at hJ
  by_cases hl : s.size = t.size
  · have HR : Hid (cmpW s.data.toList t.data.toList = lexI (s.data.toList.drop 0) (t.data.toList.drop 0)) := Lib.hid (by simp [cmpW, h1, h2, hl])
    have hd : ((s.size : Int) == (t.size : Int)) = true := by simp [hl]
    have HL := Lib.hid hl
    clear h1 h2 hl
    have hle : s.size ≤ t.size := Nat.le_of_eq HL.out
    have hdn : ((s.size : Int) != (t.size : Int)) = false := by rw [bne, hd]; rfl
    have HLET := Lib.hid hlet
    clear hlet
    go_enter Tryz.func18, Tryz.ntmps18
    go_wp2_with fail
    refine hI.mono ?_; rintro e w' ⟨rfl, rfl⟩
    go_wp2_with fail
    refine hJ.mono ?_; rintro e w' ⟨rfl, rfl⟩
    clear hI hJ
    go_wp2
    go_loop [5, 6, 7] (fun i _ _ => ∃ k : Nat, k ≤ s.size ∧ i = .int .i64 k ∧ lexI (s.data.toList.drop 0) (t.data.toList.drop 0) = lexI (s.data.toList.drop k) (t.data.toList.drop k))
      (fun i _ _ => s.size - (intOf i).toNat)
    case atStart => exact ⟨0, Nat.zero_le _, rfl, rfl⟩
    case round =>
      obtain ⟨k, hk, rfl, hlex⟩ := hrel
      by_cases hlt : k < s.size
      · have hlt2 : k < t.size := by omega
        have hd := lexR_drop s t k hlt HL.out (HLET.out _ (mem_ba s k hlt))
        rw [hd] at hlex
        clear hd
        have hq1 := rIndex_any s[k] w
        have hq2 := rIndex_any t[k] w
        have hb1 := idx_bound s[k]
        have hb2 := idx_bound t[k]
        generalize idx s[k] = x at *
        generalize idx t[k] = y at *
        by_cases hxy : x < y
        · rw [if_pos hxy] at hlex
          have HX := Lib.hid hlex
          clear hlex
          go_wp2_with fail
          refine hq1.mono ?_; rintro e w' ⟨rfl, rfl⟩
          go_wp2_with fail
          refine hq2.mono ?_; rintro e w' ⟨rfl, rfl⟩
          go_wp2
          go_ret
          exact ⟨by rw [HR.out, HX.out]; rfl, rfl⟩
        · rw [if_neg hxy] at hlex
          by_cases hyx : y < x
          · rw [if_pos hyx] at hlex
            have HX := Lib.hid hlex
            clear hlex
            go_wp2_with fail
            refine hq1.mono ?_; rintro e w' ⟨rfl, rfl⟩
            go_wp2_with fail
            refine hq2.mono ?_; rintro e w' ⟨rfl, rfl⟩
            go_wp2
            go_ret
            exact ⟨by rw [HR.out, HX.out]; rfl, rfl⟩
          · rw [if_neg hyx] at hlex
            have HX := Lib.hid hlex
            clear hlex
            go_wp2_with fail
            refine hq1.mono ?_; rintro e w' ⟨rfl, rfl⟩
            go_wp2_with fail
            refine hq2.mono ?_; rintro e w' ⟨rfl, rfl⟩
            go_wp2
            go_round
            case rel => exact ⟨k + 1, by omega, by go_num, HX.out⟩
            case measure => simp [intOf]; omega
      · have hk' : k = s.size := by omega
        subst hk'
        have hz : lexI (s.data.toList.drop s.size) (t.data.toList.drop s.size) = 0 := by
          rw [List.drop_eq_nil_of_le (by simp)]; rfl
        rw [hz] at hlex
        have HX := Lib.hid hlex
        clear hz hlex
        go_wp2
        go_ret
        exact ⟨by rw [HR.out, HX.out]; rfl, rfl⟩
  · have HR : Hid (cmpW s.data.toList t.data.toList = Lib.compareInt s.size t.size) := Lib.hid (by simp [cmpW, h1, h2, hl])
    have hd : ((s.size : Int) == (t.size : Int)) = false := by rw [beq_eq_false_iff_ne]; omega
    have hdn : ((s.size : Int) != (t.size : Int)) = true := by rw [bne, hd]; rfl
    by_cases hlt : s.size < t.size
    · have hd1 : decide (s.size < t.size) = true := by simpa using hlt
      have HC : Hid (Lib.compareInt s.size t.size = -1) := Lib.hid (by unfold Lib.compareInt; simp [hlt])
      clear h1 h2 hl hlet
      go_enter Tryz.func18, Tryz.ntmps18
      go_wp2_with fail
      refine hI.mono ?_; rintro e w' ⟨rfl, rfl⟩
      go_wp2_with fail
      refine hJ.mono ?_; rintro e w' ⟨rfl, rfl⟩
      go_wp2
      go_ret
      exact ⟨by rw [HR.out, HC.out]; rfl, rfl⟩
    · have hd1 : decide (s.size < t.size) = false := by simpa using hlt
      have HC : Hid (Lib.compareInt s.size t.size = 1) := Lib.hid (by unfold Lib.compareInt; simp; omega)
      clear h1 h2 hl hlet
      go_enter Tryz.func18, Tryz.ntmps18
      go_wp2_with fail
      refine hI.mono ?_; rintro e w' ⟨rfl, rfl⟩
      go_wp2_with fail
      refine hJ.mono ?_; rintro e w' ⟨rfl, rfl⟩
      go_wp2
      go_ret
      exact ⟨by rw [HR.out, HC.out]; rfl, rfl⟩
end Go.Proofs.YtflieikbhgneoaaGreatDoor
