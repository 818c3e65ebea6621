/-
  Our own text, in the proofs of the laws of package word (cayleylaw01). Proved here: Index, Letter, Other of the reference package and Letter return what the tables say. Conditions: the arguments read as the row says and the listed tables lie as the program lays them; none other.
-/
import Derived.Test.YtflieikbhgneoaaGreatDoorWd
import Derived.Test.YtflieikbhgneoaaGreatDoorShelf
namespace Go.Proofs.YtflieikbhgneoaaGreatDoor
open Go Go.RowKit

theorem idx_eq (c : UInt8) : idx c = if 97 ≤ (c.toNat : Int) ∧ (c.toNat : Int) < 105 then 2 * ((c.toNat : Int) - 97) else if 65 ≤ (c.toNat : Int) ∧ (c.toNat : Int) < 73 then 2 * ((c.toNat : Int) - 65) + 1 else -1 := by
  have h : ∀ n : Nat, n < 256 → (if n < 105 then placesL.getD n 0 - 1 else -1) = if 97 ≤ (n : Int) ∧ (n : Int) < 105 then 2 * ((n : Int) - 97) else if 65 ≤ (n : Int) ∧ (n : Int) < 73 then 2 * ((n : Int) - 65) + 1 else -1 := by decide +kernel
  exact h c.toNat c.toNat_lt

/-- The letter with an index, 0 for other numbers. -/
def let_ (n : Int) : UInt8 := if n < 0 ∨ 16 ≤ n then 0 else UInt8.ofNat (lettersL.getD n.toNat 0).toNat

theorem invc_idx : ∀ c : UInt8, 0 ≤ idx c → idx (invc c) = if idx c % 2 = 0 then idx c + 1 else idx c - 1 := by
  have h : ∀ n : Nat, n < 256 → 0 ≤ idx (UInt8.ofNat n) → idx (invc (UInt8.ofNat n)) = if idx (UInt8.ofNat n) % 2 = 0 then idx (UInt8.ofNat n) + 1 else idx (UInt8.ofNat n) - 1 := by decide +kernel
  intro c; have := h c.toNat c.toNat_lt; simpa using this

set_option maxHeartbeats 400000 in
theorem rIndex_any (c : UInt8) (w : World) :
    Calls Tryz.prog 10 #[.int .u8 c.toNat] w fun e w' => e = .returned (.int .i64 (idx c)) ∧ w = w' := by
  have hb : c.toNat < 256 := c.toNat_lt
  have he := idx_eq c
  by_cases h1 : 97 ≤ (c.toNat : Int)
  · by_cases h2 : (c.toNat : Int) < 105
    · rw [if_pos ⟨h1, h2⟩] at he
      have HE := Lib.hid he
      clear he
      go_enter Tryz.func10, Tryz.ntmps10
      go_wp2
      go_ret
      exact ⟨by rw [HE.out]; exact ret_int (by omega), rfl⟩
    · rw [if_neg (by omega), if_neg (by omega)] at he
      have HE := Lib.hid he
      clear he
      go_enter Tryz.func10, Tryz.ntmps10
      go_wp2
      go_ret
      exact ⟨by rw [HE.out]; rfl, rfl⟩
  · by_cases h3 : 65 ≤ (c.toNat : Int)
    · by_cases h4 : (c.toNat : Int) < 73
      · rw [if_neg (by omega), if_pos ⟨h3, h4⟩] at he
        have HE := Lib.hid he
        clear he
        go_enter Tryz.func10, Tryz.ntmps10
        go_wp2
        go_ret
        exact ⟨by rw [HE.out]; exact ret_int (by omega), rfl⟩
      · rw [if_neg (by omega), if_neg (by omega)] at he
        have HE := Lib.hid he
        clear he
        go_enter Tryz.func10, Tryz.ntmps10
        go_wp2
        go_ret
        exact ⟨by rw [HE.out]; rfl, rfl⟩
    · rw [if_neg (by omega), if_neg (by omega)] at he
      have HE := Lib.hid he
      clear he
      go_enter Tryz.func10, Tryz.ntmps10
      go_wp2
      go_ret
      exact ⟨by rw [HE.out]; rfl, rfl⟩

set_option maxHeartbeats 400000 in
theorem rLetter_any (n : Int) (w : World) (h0 : 0 ≤ n) (h1 : n < 16) :
    Calls Tryz.prog 12 #[.int .i64 n] w fun e w' => e = .returned (.int .u8 (let_ n).toNat) ∧ w = w' := by
  have hl : ∀ n : Nat, n < 16 → ((let_ n).toNat : Int) = if n % 2 = 0 then 97 + ((n / 2 : Nat) : Int) else 65 + ((n / 2 : Nat) : Int) := by decide +kernel
  obtain ⟨m, rfl⟩ := Int.eq_ofNat_of_zero_le h0
  have hm := hl m (by omega)
  by_cases hp : m % 2 = 0
  · rw [if_pos hp] at hm
    have HM := Lib.hid hm
    have hd : ((m : Int) % 2 == 0) = true := by rw [beq_iff_eq]; omega
    clear hm hl hp
    go_enter Tryz.func12, Tryz.ntmps12
    go_wp2
    go_ret
    exact ⟨ret_int (by rw [HM.out]; omega), rfl⟩
  · rw [if_neg hp] at hm
    have HM := Lib.hid hm
    have hd : ((m : Int) % 2 == 0) = false := by rw [beq_eq_false_iff_ne]; omega
    clear hm hl hp
    go_enter Tryz.func12, Tryz.ntmps12
    go_wp2
    go_ret
    exact ⟨ret_int (by rw [HM.out]; omega), rfl⟩

set_option maxHeartbeats 400000 in
theorem rLetter_out (n : Int) (w : World) (h : n < 0 ∨ 16 ≤ n) :
    Calls Tryz.prog 12 #[.int .i64 n] w fun e w' => e = .returned (.int .u8 0) ∧ w = w' := by
  by_cases h0 : n < 0
  · clear h
    go_enter Tryz.func12, Tryz.ntmps12
    go_wp2
    go_ret
    exact ⟨rfl, rfl⟩
  · have h1 : 16 ≤ n := by omega
    clear h
    go_enter Tryz.func12, Tryz.ntmps12
    go_wp2
    go_ret
    exact ⟨rfl, rfl⟩

set_option maxHeartbeats 400000 in
theorem Letter_any (n : Int) (w : World) (ht : Tabs w) (h0 : 0 ≤ n) (h1 : n < 16) :
    Calls Tryz.prog 11 #[.int .i64 n] w fun e w' => e = .returned (.int .u8 (let_ n).toNat) ∧ w = w' := by
  have hl : ∀ n : Nat, n < 16 → ((let_ n).toNat : Int) = lettersL.getD n 0 := by decide +kernel
  obtain ⟨m, rfl⟩ := Int.eq_ofNat_of_zero_le h0
  have hm := hl m (by omega)
  have hc := ht.letters m (by omega)
  rw [← hm] at hc
  generalize (let_ ↑m) = v at *
  clear ht hl hm
  go_enter Tryz.func11, Tryz.ntmps11
  go_wp2
  go_ret
  exact ⟨rfl, rfl⟩

set_option maxHeartbeats 400000 in
theorem Letter_out (n : Int) (w : World) (h : n < 0 ∨ 16 ≤ n) :
    Calls Tryz.prog 11 #[.int .i64 n] w fun e w' => e = .returned (.int .u8 0) ∧ w = w' := by
  by_cases h0 : n < 0
  · clear h
    go_enter Tryz.func11, Tryz.ntmps11
    go_wp2
    go_ret
    exact ⟨rfl, rfl⟩
  · have h1 : 16 ≤ n := by omega
    clear h
    go_enter Tryz.func11, Tryz.ntmps11
    go_wp2
    go_ret
    exact ⟨rfl, rfl⟩

/-- cayleyref01.Other. -/
def otherc (c : UInt8) : UInt8 := if 0 ≤ idx c then invc c else 0
theorem otherc_let : ∀ c : UInt8, 0 ≤ idx c → 0 ≤ bits BinOp.xor IntKind.i64 (idx c) 1 ∧ bits BinOp.xor IntKind.i64 (idx c) 1 < 16 ∧ let_ (bits BinOp.xor IntKind.i64 (idx c) 1) = invc c := by
  have h : ∀ n : Nat, n < 256 → 0 ≤ idx (UInt8.ofNat n) → 0 ≤ bits BinOp.xor IntKind.i64 (idx (UInt8.ofNat n)) 1 ∧ bits BinOp.xor IntKind.i64 (idx (UInt8.ofNat n)) 1 < 16 ∧ let_ (bits BinOp.xor IntKind.i64 (idx (UInt8.ofNat n)) 1) = invc (UInt8.ofNat n) := by decide +kernel
  intro c; have := h c.toNat c.toNat_lt; simpa using this

set_option maxHeartbeats 400000 in
theorem rOther_any (c : UInt8) (w : World) :
    Calls Tryz.prog 37 #[.int .u8 c.toNat] w fun e w' => e = .returned (.int .u8 (otherc c).toNat) ∧ w = w' := by
  have hI := rIndex_any c w
  have hb := idx_bound c
  by_cases h0 : 0 ≤ idx c
  · have ho := otherc_let c h0
    have hL := rLetter_any _ w ho.1 ho.2.1
    have hr : let_ (bits BinOp.xor IntKind.i64 (idx c) 1) = otherc c := by rw [ho.2.2]; simp [otherc, h0]
    rw [hr] at hL
    clear hr ho
    go_enter Tryz.func37, Tryz.ntmps37
    go_wp2_with (first | (go_at_call 10; refine hI.mono ?_; rintro e w' ⟨rfl, rfl⟩) | (go_at_call 12; refine hL.mono ?_; rintro e w' ⟨rfl, rfl⟩))
    go_ret
    exact ⟨rfl, rfl⟩
  · have h1 : idx c = -1 := by omega
    have hr : otherc c = 0 := by simp [otherc, h0]
    have HR := Lib.hid hr
    rw [h1] at hI
    have hx : bits BinOp.xor IntKind.i64 (-1) 1 = -2 := by decide +kernel
    have hL := rLetter_out (-2) w (by omega)
    clear hr h1 h0 hb
    go_enter Tryz.func37, Tryz.ntmps37
    go_wp2_with (first | (go_at_call 10; refine hI.mono ?_; rintro e w' ⟨rfl, rfl⟩) | (go_at_call 12; refine hL.mono ?_; rintro e w' ⟨rfl, rfl⟩))
    go_ret
    exact ⟨by rw [HR.out]; rfl, rfl⟩
end Go.Proofs.YtflieikbhgneoaaGreatDoor
