/-
  Our own text, in the proofs of the laws of package word (cayleylaw01). Proved here: check, isWord and cancel return what the lists say. Conditions: the arguments read as the row says and the listed tables lie as the program lays them; none other.
-/
import Derived.Test.YtflieikbhgneoaaGreatDoorBase
import Derived.Laws.BitsAllLaws
namespace Go.Proofs.YtflieikbhgneoaaGreatDoor
open Go.RowKit

/-- What word.Check answers. -/
def checkI (k : Int) (l : List UInt8) : Int :=
  if k < 1 ∨ 8 < k then 1 else if 100000 < l.length then 2 else if l.all (letterB k) then 0 else 4

theorem ret_int {k : IntKind} {a b : Int} (h : a = b) : Ending.returned (.int k a) = .returned (.int k b) := by rw [h]

theorem all_take_succ (s : ByteArray) (p : UInt8 → Bool) (n : Nat) (h : n < s.size) :
    (s.data.toList.take (n + 1)).all p = ((s.data.toList.take n).all p && p s[n]) := by
  rw [List.take_succ_eq_append_getElem (by simpa using h)]
  simp [List.all_append]; rfl

theorem xor_u8 (x y : UInt8) : bits BinOp.xor IntKind.u8 (x.toNat : Int) (y.toNat : Int) = ((x ^^^ y).toNat : Int) := by
  rw [u8_xor_nat _ _ x.toNat_lt y.toNat_lt]; simp

set_option maxHeartbeats 400000 in
theorem cancel_any (x y : UInt8) (w : World) :
    Calls Tryz.prog 52 #[.int .u8 x.toNat, .int .u8 y.toNat] w fun e w' => e = .returned (.bool (x ^^^ y == 32)) ∧ w = w' := by
  go_enter Tryz.func52, Tryz.ntmps52
  go_wp2
  go_ret
  refine ⟨?_, rfl⟩
  show Ending.returned (Value.bool (bits BinOp.xor IntKind.u8 ↑x.toNat ↑y.toNat == 32)) = _
  rw [xor_u8]
  congr 2
  rw [Bool.eq_iff_iff]
  simp only [beq_iff_eq]
  constructor
  · intro h; apply UInt8.toNat_inj.1; simpa using (by exact_mod_cast h : (x ^^^ y).toNat = 32)
  · intro h; rw [h]; rfl

set_option maxHeartbeats 400000 in
theorem check_any (k : Int) (s : ByteArray) (w : World) (ht : Tabs w) (hs : s.size ≤ maxLen) :
    Calls Tryz.prog 7 #[.int .i64 k, .string s] w fun e w' => e = .returned (.int .i64 (checkI k s.data.toList)) ∧ w = w' := by
  unfold maxLen at hs
  by_cases h1 : k < 1
  · have hr : checkI k s.data.toList = 1 := by simp [checkI, h1]
    have HR := Lib.hid hr
    clear hr ht
    go_enter Tryz.func7, Tryz.ntmps7
    go_wp2
    go_ret
    exact ⟨by rw [HR.out]; rfl, rfl⟩
  by_cases h2 : 8 < k
  · have hr : checkI k s.data.toList = 1 := by simp [checkI, h2]
    have HR := Lib.hid hr
    clear hr ht
    go_enter Tryz.func7, Tryz.ntmps7
    go_wp2
    go_ret
    exact ⟨by rw [HR.out]; rfl, rfl⟩
  by_cases h3 : 100000 < s.size
  · have hr : checkI k s.data.toList = 2 := by simp [checkI, h1, h2]; omega
    have HR := Lib.hid hr
    clear hr ht
    go_enter Tryz.func7, Tryz.ntmps7
    go_wp2
    go_outline
    go_ret
    exact ⟨by rw [HR.out]; rfl, rfl⟩
  have hr : checkI k s.data.toList = if s.data.toList.all (letterB k) then 0 else 4 := by
    unfold checkI; rw [if_neg (by omega), if_neg (by simpa using h3)]
  have HR := Lib.hid hr
  clear hr
  go_enter Tryz.func7, Tryz.ntmps7
  go_wp2
  go_loop [17] (fun i => ∃ n : Nat, n ≤ s.size ∧ i = .int .i64 n ∧ (s.data.toList.take n).all (letterB k) = true) (fun i => s.size - (intOf i).toNat)
  case atStart => exact ⟨0, Nat.zero_le _, rfl, rfl⟩
  case round =>
    obtain ⟨n, hn, rfl, hall⟩ := hrel
    have HA := Lib.hid hall
    clear hall
    by_cases hlt : n < s.size
    · have ha := all_take_succ s (letterB k) n hlt
      have HS := Lib.hid ha
      clear ha
      have hL := isLetter_any k s[n] w ht (by omega) (by omega)
      clear ht
      by_cases hb : letterB k s[n] = true
      · have Hb := Lib.hid hb
        rw [hb] at hL
        clear hb
        go_wp2_with (go_at_call 34; refine hL.mono ?_; rintro e w' ⟨rfl, rfl⟩)
        go_round
        case rel => exact ⟨n + 1, by omega, by go_num, by rw [HS.out, HA.out, Hb.out]; rfl⟩
        case measure => simp [intOf]; omega
      · have hb' : letterB k s[n] = false := by simpa using hb
        have hz : s.data.toList.all (letterB k) = false := by
          rw [List.all_eq_false]
          exact ⟨s[n], by have : s[n] = s.data.toList[n]'(by simpa using hlt) := rfl
                          rw [this]; exact List.getElem_mem _, by simpa using hb⟩
        have HZ := Lib.hid hz
        rw [hb'] at hL
        clear hb hb' hz
        go_wp2_with (go_at_call 34; refine hL.mono ?_; rintro e w' ⟨rfl, rfl⟩)
        go_ret
        exact ⟨by rw [HR.out, HZ.out]; rfl, rfl⟩
    · have hz := HA.out
      rw [List.take_of_length_le (by simp; omega)] at hz
      have HZ := Lib.hid hz
      clear hz
      go_wp2
      go_ret
      exact ⟨by rw [HR.out, if_pos HZ.out]; rfl, rfl⟩

/-- A word of 8 generators. -/
def isW (l : List UInt8) : Bool := decide (l.length ≤ 100000) && l.all (letterB 8)
theorem checkI_8 (l : List UInt8) : (checkI 8 l == 0) = isW l := by
  unfold checkI isW
  rw [if_neg (by omega)]
  by_cases h : 100000 < l.length
  · rw [if_pos h]; have : ¬ l.length ≤ 100000 := by omega
    simp [this]
  · rw [if_neg h]; have : l.length ≤ 100000 := by omega
    cases l.all (letterB 8) <;> simp [this]

set_option maxHeartbeats 400000 in
theorem isWord_any (s : ByteArray) (w : World) (ht : Tabs w) (hs : s.size ≤ maxLen) :
    Calls Tryz.prog 35 #[.string s] w fun e w' => e = .returned (.bool (isW s.data.toList)) ∧ w = w' := by
  have hC := check_any 8 s w ht hs
  have h8 := checkI_8 s.data.toList
  have H8 := Lib.hid h8
  generalize checkI 8 s.data.toList = r at *
  clear h8 ht
  go_enter Tryz.func35, Tryz.ntmps35
  go_wp2_with (go_at_call 7; refine hC.mono ?_; rintro e w' ⟨rfl, rfl⟩)
  go_ret
  exact ⟨by rw [← H8.out]; rfl, rfl⟩
end Go.Proofs.YtflieikbhgneoaaGreatDoor
