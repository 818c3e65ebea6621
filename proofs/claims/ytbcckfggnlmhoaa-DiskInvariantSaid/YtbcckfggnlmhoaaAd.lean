/-
  Our own text, in the proofs of the laws of package disk (cayleylaw04). Proved here: Index, inverted, IsWord of the reference. Conditions: none but bounds.
-/
import Derived.Test.YtbcckfggnlmhoaaAc
namespace Go.Proofs.Ytbcckfggnlmhoaa
open Go Go.RowKit

set_option maxHeartbeats 400000 in
theorem Index_any (k : Int) (c : UInt8) (w : World) : Calls Try.prog 72 #[.int .u8 c.toNat, .int .i64 k] w fun e w' => e = .returned (.int .i64 (idxI k c)) ∧ w = w' := by
  have hm : c.toNat < 256 := c.toNat_lt
  by_cases h97 : (97 : Int) ≤ (c.toNat : Int)
  · have hd : decide ((97 : Int) ≤ (c.toNat : Int)) = true := by simpa using h97
    have hd' : decide (97 ≤ c.toNat) = true := by simp; omega
    by_cases hk : (c.toNat : Int) - 97 < k
    · have hd2 : decide ((c.toNat : Int) - 97 < k) = true := by simpa using hk
      have HR : Hid (idxI k c = 2 * ((c.toNat : Int) - 97)) := Lib.hid (by unfold idxI; rw [if_pos ⟨h97, hk⟩])
      generalize c.toNat = m at *
      go_enter Try.func72, Try.ntmps72
      go_wp2
      go_ret
      exact ⟨ret_int HR.out.symm, rfl⟩
    · have hd2 : decide ((c.toNat : Int) - 97 < k) = false := by simpa using hk
      have hd3 : decide ((65 : Int) ≤ (c.toNat : Int)) = true := by simp; omega
      have hd3' : decide (65 ≤ c.toNat) = true := by simp; omega
      have hd4 : decide ((c.toNat : Int) - 65 < k) = false := by simp; omega
      have HR : Hid (idxI k c = -1) := Lib.hid (by unfold idxI; rw [if_neg (fun h => hk h.2), if_neg (fun h => by omega)])
      generalize c.toNat = m at *
      go_enter Try.func72, Try.ntmps72
      go_wp2
      go_ret
      exact ⟨ret_int HR.out.symm, rfl⟩
  · have hd : decide ((97 : Int) ≤ (c.toNat : Int)) = false := by simpa using h97
    have hd' : decide (97 ≤ c.toNat) = false := by simp; omega
    by_cases h65 : (65 : Int) ≤ (c.toNat : Int)
    · have hd3 : decide ((65 : Int) ≤ (c.toNat : Int)) = true := by simpa using h65
      have hd3' : decide (65 ≤ c.toNat) = true := by simp; omega
      by_cases hk : (c.toNat : Int) - 65 < k
      · have hd4 : decide ((c.toNat : Int) - 65 < k) = true := by simpa using hk
        have HR : Hid (idxI k c = 2 * ((c.toNat : Int) - 65) + 1) := Lib.hid (by unfold idxI; rw [if_neg (fun h => h97 h.1), if_pos ⟨h65, hk⟩])
        generalize c.toNat = m at *
        go_enter Try.func72, Try.ntmps72
        go_wp2
        go_ret
        exact ⟨ret_int HR.out.symm, rfl⟩
      · have hd4 : decide ((c.toNat : Int) - 65 < k) = false := by simpa using hk
        have HR : Hid (idxI k c = -1) := Lib.hid (by unfold idxI; rw [if_neg (fun h => h97 h.1), if_neg (fun h => hk h.2)])
        generalize c.toNat = m at *
        go_enter Try.func72, Try.ntmps72
        go_wp2
        go_ret
        exact ⟨ret_int HR.out.symm, rfl⟩
    · have hd3 : decide ((65 : Int) ≤ (c.toNat : Int)) = false := by simpa using h65
      have hd3' : decide (65 ≤ c.toNat) = false := by simp; omega
      have HR : Hid (idxI k c = -1) := Lib.hid (by unfold idxI; rw [if_neg (fun h => h97 h.1), if_neg (fun h => h65 h.1)])
      generalize c.toNat = m at *
      go_enter Try.func72, Try.ntmps72
      go_wp2
      go_ret
      exact ⟨ret_int HR.out.symm, rfl⟩

theorem invt_table2 : ∀ n, n < 256 → ((invt (UInt8.ofNat n)).toNat : Int) = IntKind.u8.wrap (IntKind.u8.wrap (((UInt8.ofNat n).toNat : Int) - (if 97 ≤ (UInt8.ofNat n).toNat then 97 else 65)) + (if 97 ≤ (UInt8.ofNat n).toNat then 65 else 97)) := by decide +kernel
theorem invt_wrap (c : UInt8) : ((invt c).toNat : Int) = IntKind.u8.wrap (IntKind.u8.wrap ((c.toNat : Int) - (if 97 ≤ c.toNat then 97 else 65)) + (if 97 ≤ c.toNat then 65 else 97)) :=
  all_u8 (fun c => ((invt c).toNat : Int) = IntKind.u8.wrap (IntKind.u8.wrap ((c.toNat : Int) - (if 97 ≤ c.toNat then 97 else 65)) + (if 97 ≤ c.toNat then 65 else 97))) invt_table2 c

set_option maxHeartbeats 400000 in
theorem inverted_any (c : UInt8) (w : World) : Calls Try.prog 55 #[.int .u8 c.toNat] w fun e w' => e = .returned (.int .u8 (invt c).toNat) ∧ w = w' := by
  have hm : c.toNat < 256 := c.toNat_lt
  have hw := invt_wrap c
  by_cases h97 : 97 ≤ c.toNat
  · rw [if_pos h97, if_pos h97] at hw
    have HW := Lib.hid hw
    have hd' : decide (97 ≤ c.toNat) = true := by simpa using h97
    clear hw
    generalize (invt c).toNat = r at *
    generalize c.toNat = m at *
    go_enter Try.func55, Try.ntmps55
    go_wp2
    go_ret
    refine ⟨ret_int ?_, rfl⟩
    rw [HW.out]
    show (m : Int) - 97 + 65 = (((m : Int) - 97) % 256 + 65) % 256
    omega
  · rw [if_neg h97, if_neg h97] at hw
    have HW := Lib.hid hw
    have hd' : decide (97 ≤ c.toNat) = false := by simpa using h97
    clear hw
    generalize (invt c).toNat = r at *
    generalize c.toNat = m at *
    go_enter Try.func55, Try.ntmps55
    go_wp2
    go_ret
    refine ⟨ret_int ?_, rfl⟩
    rw [HW.out]
    rfl

set_option maxHeartbeats 400000 in
theorem IsWord_any (k : Int) (s : ByteArray) (w : World) (h1 : 1 ≤ k) (h8 : k ≤ 8) (hs : s.size ≤ maxLen) :
    Calls Try.prog 71 #[.string s, .int .i64 k] w fun e w' => e = .returned (.bool (isWd k s.data.toList)) ∧ w = w' := by
  unfold maxLen at hs
  go_enter Try.func71, Try.ntmps71
  go_wp2
  go_loop [5] (fun i => ∃ n : Nat, n ≤ s.size ∧ i = .int .i64 n ∧ (s.data.toList.take n).all (letB k) = true) (fun i => s.size - (intOf i).toNat)
  case atStart => exact ⟨0, Nat.zero_le _, rfl, rfl⟩
  case round =>
    obtain ⟨n, hn, rfl, hall⟩ := hrel
    have HA := Lib.hid hall
    clear hall
    by_cases hlt : n < s.size
    · have HS := Lib.hid (all_take_succ s (letB k) n hlt)
      have HN := Lib.hid (all_no s (letB k) n hlt)
      have HL := Lib.hid (letB_idx k h1 h8 s[n])
      have hI := Index_any k s[n] w
      by_cases hi : 0 ≤ idxI k s[n]
      · have hd : decide (idxI k s[n] < 0) = false := by simpa using hi
        have HI := Lib.hid hi
        clear hi
        generalize idxI k s[n] = q at *
        go_wp2_with (go_at_call 72; refine hI.mono ?_; rintro e w' ⟨rfl, rfl⟩)
        go_round
        case rel => exact ⟨n + 1, by omega, by go_num, by rw [HS.out, HA.out, HL.out]; simpa using HI.out⟩
        case measure => simp [intOf]; omega
      · have hd : decide (idxI k s[n] < 0) = true := by simpa using hi
        have HI := Lib.hid hi
        clear hi
        generalize idxI k s[n] = q at *
        go_wp2_with (go_at_call 72; refine hI.mono ?_; rintro e w' ⟨rfl, rfl⟩)
        go_ret
        refine ⟨ret_bool ?_, rfl⟩
        unfold isWd
        rw [HN.out (by rw [HL.out]; simpa using HI.out)]; simp
    · have HZ := HA.out
      rw [List.take_of_length_le (by simp; omega)] at HZ
      have HZ := Lib.hid HZ
      have HR : Hid (isWd k s.data.toList = decide ((s.size : Int) ≤ 100000)) := Lib.hid (by
        unfold isWd; rw [HZ.out, Bool.and_true, Bool.eq_iff_iff]; simp; omega)
      go_wp2
      go_ret
      refine ⟨ret_bool ?_, rfl⟩
      rw [HR.out]
      try (simp; omega)
end Go.Proofs.Ytbcckfggnlmhoaa
