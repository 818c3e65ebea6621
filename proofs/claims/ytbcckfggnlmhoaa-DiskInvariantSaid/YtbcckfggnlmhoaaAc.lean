/-
  Our own text, in the proofs of the laws of package disk (cayleylaw04). Proved here: isWord and inverseLetter of the program; Index, IsWord, inverted of the reference. Conditions: none but bounds.
-/
import Derived.Test.YtbcckfggnlmhoaaAb
namespace Go.Proofs.Ytbcckfggnlmhoaa
open Go Go.RowKit

theorem or_u8_32 (x : UInt8) : bits BinOp.or IntKind.u8 (x.toNat : Int) 32 = ((x ||| 32).toNat : Int) := by
  have := u8_or_nat x.toNat 32 x.toNat_lt (by decide)
  rw [show ((32 : Nat) : Int) = 32 from rfl] at this
  rw [this]; simp
theorem xor_u8_32 (x : UInt8) : bits BinOp.xor IntKind.u8 (x.toNat : Int) 32 = ((invc x).toNat : Int) := by
  have := u8_xor_nat x.toNat 32 x.toNat_lt (by decide)
  rw [show ((32 : Nat) : Int) = 32 from rfl] at this
  rw [this]; simp [invc]

theorem inverseLetter_any (c : UInt8) (w : World) : Calls Try.prog 52 #[.int .u8 c.toNat] w fun e w' => e = .returned (.int .u8 (invc c).toNat) ∧ w = w' := by
  have hx := Lib.hid (xor_u8_32 c)
  go_enter Try.func52, Try.ntmps52
  go_wp2
  go_ret
  exact ⟨ret_int hx.out, rfl⟩

theorem take_snoc (s : ByteArray) (k : Nat) (h : k < s.size) : s.data.toList.take (k + 1) = s.data.toList.take k ++ [s[k]] := by
  rw [List.take_succ_eq_append_getElem (by simpa using h)]; rfl
theorem all_take_succ (s : ByteArray) (p : UInt8 → Bool) (n : Nat) (h : n < s.size) :
    (s.data.toList.take (n + 1)).all p = ((s.data.toList.take n).all p && p s[n]) := by
  rw [take_snoc s n h]; simp [List.all_append]
theorem all_no (s : ByteArray) (p : UInt8 → Bool) (n : Nat) (h : n < s.size) (hp : p s[n] = false) : s.data.toList.all p = false := by
  rw [List.all_eq_false]
  exact ⟨s[n], by have : s[n] = s.data.toList[n]'(by simpa using h) := rfl
                  rw [this]; exact List.getElem_mem _, by simp [hp]⟩

set_option maxHeartbeats 400000 in
theorem isWord_any (k : Int) (s : ByteArray) (w : World) (hs : s.size ≤ maxLen) :
    Calls Try.prog 75 #[.int .i64 k, .string s] w fun e w' => e = .returned (.bool (isWd k s.data.toList)) ∧ w = w' := by
  unfold maxLen at hs
  by_cases h3 : 100000 < s.size
  · have HR : Hid (isWd k s.data.toList = false) := Lib.hid (by simp [isWd]; omega)
    go_enter Try.func75, Try.ntmps75
    go_wp2
    go_ret
    exact ⟨ret_bool HR.out.symm, rfl⟩
  have HR : Hid (isWd k s.data.toList = s.data.toList.all (letB k)) := Lib.hid (by
    have : s.size ≤ 100000 := by omega
    simp [isWd, this])
  go_enter Try.func75, Try.ntmps75
  go_wp2
  go_loop [12] (fun i => ∃ n : Nat, n ≤ s.size ∧ i = .int .i64 n ∧ (s.data.toList.take n).all (letB k) = true) (fun i => s.size - (intOf i).toNat)
  case atStart => exact ⟨0, Nat.zero_le _, rfl, rfl⟩
  case round =>
    obtain ⟨n, hn, rfl, hall⟩ := hrel
    have HA := Lib.hid hall
    clear hall
    by_cases hlt : n < s.size
    · have HS := Lib.hid (all_take_succ s (letB k) n hlt)
      have HO := Lib.hid (or_u8_32 s[n])
      have HN := Lib.hid (all_no s (letB k) n hlt)
      have HL : Hid (letB k s[n] = (!(decide ((s[n] ||| 32).toNat < 97)) && decide (((s[n] ||| 32).toNat : Int) - 97 < k))) := Lib.hid rfl
      have ho := HO.out
      have hm : (s[n] ||| 32).toNat < 256 := (s[n] ||| 32).toNat_lt
      generalize (s[n] ||| 32).toNat = m at *
      by_cases h97 : m < 97
      · have hd : decide (m < 97) = true := by simpa using h97
        have hd2 : decide ((m : Int) < 97) = true := by simp; omega
        go_wp2
        go_ret
        refine ⟨ret_bool ?_, rfl⟩
        rw [HR.out, HN.out (by rw [HL.out, hd]; rfl)]
      · have hd2 : decide ((m : Int) < 97) = false := by simp; omega
        by_cases hk : (m : Int) - 97 < k
        · have hd3 : decide (k ≤ (m : Int) - 97) = false := by simpa using hk
          go_wp2
          go_round
          case rel => exact ⟨n + 1, by omega, by go_num, by rw [HS.out, HA.out, HL.out]; simp [hk, h97]⟩
          case measure => simp [intOf]; omega
        · have hd3 : decide (k ≤ (m : Int) - 97) = true := by simpa using hk
          go_wp2
          go_ret
          refine ⟨ret_bool ?_, rfl⟩
          rw [HR.out, HN.out (by rw [HL.out]; simp; omega)]
    · have HZ := HA.out
      rw [List.take_of_length_le (by simp; omega)] at HZ
      have HZ := Lib.hid HZ
      go_wp2
      go_ret
      exact ⟨ret_bool (by rw [HR.out, HZ.out]), rfl⟩
end Go.Proofs.Ytbcckfggnlmhoaa
