/-
  Our own text, in the proofs of the laws of package pres (cayleylaw03). Proved here: Index, Letter, Other of the reference package and Letter return what the tables say; Check and Is of the reference package, Reduce, and words; Compare returns shortlex; split returns the core and the conjugator; Cyclic, and leastRotation; Form returns the cyclic form of a word. Conditions: the arguments lie in memory as the slices say; bounds; the listed tables lie as the program lays them.
-/
import Derived.Test.YteephomlnbbjeaaGreatDoorJa
import Derived.Test.YteephomlnbbjeaaGreatDoorJb
import Derived.IntWalk
set_option linter.unusedVariables false
set_option linter.unusedSimpArgs false
set_option linter.unusedSectionVars false
namespace Go.Proofs.YteephomlnbbjeaaGreatDoor
open Go Go.RowKit

theorem idx_eq (c : UInt8) : idx c = if 97 ≤ (c.toNat : Int) ∧ (c.toNat : Int) < 105 then 2 * ((c.toNat : Int) - 97) else if 65 ≤ (c.toNat : Int) ∧ (c.toNat : Int) < 73 then 2 * ((c.toNat : Int) - 65) + 1 else -1 := by
  have h : ∀ n : Nat, n < 256 → (if n < 105 then placesL.getD n 0 - 1 else -1) = if 97 ≤ (n : Int) ∧ (n : Int) < 105 then 2 * ((n : Int) - 97) else if 65 ≤ (n : Int) ∧ (n : Int) < 73 then 2 * ((n : Int) - 65) + 1 else -1 := by decide +kernel
  exact h c.toNat c.toNat_lt

/-- The letter with an index, 0 for other numbers. -/
def let_ (n : Int) : UInt8 := if n < 0 ∨ 16 ≤ n then 0 else UInt8.ofNat (lettersL.getD n.toNat 0).toNat

theorem invc_idx : ∀ c : UInt8, 0 ≤ idx c → idx (invc c) = if idx c % 2 = 0 then idx c + 1 else idx c - 1 := by
  have h : ∀ n : Nat, n < 256 → 0 ≤ idx (UInt8.ofNat n) → idx (invc (UInt8.ofNat n)) = if idx (UInt8.ofNat n) % 2 = 0 then idx (UInt8.ofNat n) + 1 else idx (UInt8.ofNat n) - 1 := by decide +kernel
  intro c; have := h c.toNat c.toNat_lt; simpa using this

set_option maxHeartbeats 400000 in
theorem rIndex_any (c : UInt8) (w : World) :
    Calls Tryz.prog 97 #[.int .u8 c.toNat] w fun e w' => e = .returned (.int .i64 (idx c)) ∧ w = w' := by
  have hb : c.toNat < 256 := c.toNat_lt
  have he := idx_eq c
  by_cases h1 : 97 ≤ (c.toNat : Int)
  · by_cases h2 : (c.toNat : Int) < 105
    · rw [if_pos ⟨h1, h2⟩] at he
      have HE := Lib.hid he
      clear he
      go_enter Tryz.func97, Tryz.ntmps97
      go_wp2
      go_ret
      exact ⟨by rw [HE.out]; exact ret_int (by omega), rfl⟩
    · rw [if_neg (by omega), if_neg (by omega)] at he
      have HE := Lib.hid he
      clear he
      go_enter Tryz.func97, Tryz.ntmps97
      go_wp2
      go_ret
      exact ⟨by rw [HE.out]; rfl, rfl⟩
  · by_cases h3 : 65 ≤ (c.toNat : Int)
    · by_cases h4 : (c.toNat : Int) < 73
      · rw [if_neg (by omega), if_pos ⟨h3, h4⟩] at he
        have HE := Lib.hid he
        clear he
        go_enter Tryz.func97, Tryz.ntmps97
        go_wp2
        go_ret
        exact ⟨by rw [HE.out]; exact ret_int (by omega), rfl⟩
      · rw [if_neg (by omega), if_neg (by omega)] at he
        have HE := Lib.hid he
        clear he
        go_enter Tryz.func97, Tryz.ntmps97
        go_wp2
        go_ret
        exact ⟨by rw [HE.out]; rfl, rfl⟩
    · rw [if_neg (by omega), if_neg (by omega)] at he
      have HE := Lib.hid he
      clear he
      go_enter Tryz.func97, Tryz.ntmps97
      go_wp2
      go_ret
      exact ⟨by rw [HE.out]; rfl, rfl⟩

set_option maxHeartbeats 400000 in
theorem rLetter_any (n : Int) (w : World) (h0 : 0 ≤ n) (h1 : n < 16) :
    Calls Tryz.prog 54 #[.int .i64 n] w fun e w' => e = .returned (.int .u8 (let_ n).toNat) ∧ w = w' := by
  have hl : ∀ n : Nat, n < 16 → ((let_ n).toNat : Int) = if n % 2 = 0 then 97 + ((n / 2 : Nat) : Int) else 65 + ((n / 2 : Nat) : Int) := by decide +kernel
  obtain ⟨m, rfl⟩ := Int.eq_ofNat_of_zero_le h0
  have hm := hl m (by omega)
  by_cases hp : m % 2 = 0
  · rw [if_pos hp] at hm
    have HM := Lib.hid hm
    have hd : ((m : Int) % 2 == 0) = true := by rw [beq_iff_eq]; omega
    clear hm hl hp
    go_enter Tryz.func54, Tryz.ntmps54
    go_wp2
    go_ret
    exact ⟨ret_int (by rw [HM.out]; omega), rfl⟩
  · rw [if_neg hp] at hm
    have HM := Lib.hid hm
    have hd : ((m : Int) % 2 == 0) = false := by rw [beq_eq_false_iff_ne]; omega
    clear hm hl hp
    go_enter Tryz.func54, Tryz.ntmps54
    go_wp2
    go_ret
    exact ⟨ret_int (by rw [HM.out]; omega), rfl⟩

set_option maxHeartbeats 400000 in
theorem rLetter_out (n : Int) (w : World) (h : n < 0 ∨ 16 ≤ n) :
    Calls Tryz.prog 54 #[.int .i64 n] w fun e w' => e = .returned (.int .u8 0) ∧ w = w' := by
  by_cases h0 : n < 0
  · clear h
    go_enter Tryz.func54, Tryz.ntmps54
    go_wp2
    go_ret
    exact ⟨rfl, rfl⟩
  · have h1 : 16 ≤ n := by omega
    clear h
    go_enter Tryz.func54, Tryz.ntmps54
    go_wp2
    go_ret
    exact ⟨rfl, rfl⟩

set_option maxHeartbeats 400000 in
theorem Letter_any (n : Int) (w : World) (ht : Tabs w) (h0 : 0 ≤ n) (h1 : n < 16) :
    Calls Tryz.prog 154 #[.int .i64 n] w fun e w' => e = .returned (.int .u8 (let_ n).toNat) ∧ w = w' := by
  have hl : ∀ n : Nat, n < 16 → ((let_ n).toNat : Int) = lettersL.getD n 0 := by decide +kernel
  obtain ⟨m, rfl⟩ := Int.eq_ofNat_of_zero_le h0
  have hm := hl m (by omega)
  have hc := ht.letters m (by omega)
  rw [← hm] at hc
  generalize (let_ ↑m) = v at *
  clear ht hl hm
  go_enter Tryz.func154, Tryz.ntmps154
  go_wp2
  go_ret
  exact ⟨rfl, rfl⟩

set_option maxHeartbeats 400000 in
theorem Letter_out (n : Int) (w : World) (h : n < 0 ∨ 16 ≤ n) :
    Calls Tryz.prog 154 #[.int .i64 n] w fun e w' => e = .returned (.int .u8 0) ∧ w = w' := by
  by_cases h0 : n < 0
  · clear h
    go_enter Tryz.func154, Tryz.ntmps154
    go_wp2
    go_ret
    exact ⟨rfl, rfl⟩
  · have h1 : 16 ≤ n := by omega
    clear h
    go_enter Tryz.func154, Tryz.ntmps154
    go_wp2
    go_ret
    exact ⟨rfl, rfl⟩

/-- cayleyref01.Other. -/
def otherc (c : UInt8) : UInt8 := if 0 ≤ idx c then invc c else 0
theorem otherc_let : ∀ c : UInt8, 0 ≤ idx c → 0 ≤ bits BinOp.xor IntKind.i64 (idx c) 1 ∧ bits BinOp.xor IntKind.i64 (idx c) 1 < 16 ∧ let_ (bits BinOp.xor IntKind.i64 (idx c) 1) = invc c := by
  have h : ∀ n : Nat, n < 256 → 0 ≤ idx (UInt8.ofNat n) → 0 ≤ bits BinOp.xor IntKind.i64 (idx (UInt8.ofNat n)) 1 ∧ bits BinOp.xor IntKind.i64 (idx (UInt8.ofNat n)) 1 < 16 ∧ let_ (bits BinOp.xor IntKind.i64 (idx (UInt8.ofNat n)) 1) = invc (UInt8.ofNat n) := by decide +kernel
  intro c; have := h c.toNat c.toNat_lt; simpa using this

set_option maxHeartbeats 400000 in
theorem rOther_any (c : UInt8) (w : World) :
    Calls Tryz.prog 96 #[.int .u8 c.toNat] w fun e w' => e = .returned (.int .u8 (otherc c).toNat) ∧ w = w' := by
  have hI := rIndex_any c w
  have hb := idx_bound c
  by_cases h0 : 0 ≤ idx c
  · have ho := otherc_let c h0
    have hL := rLetter_any _ w ho.1 ho.2.1
    have hr : let_ (bits BinOp.xor IntKind.i64 (idx c) 1) = otherc c := by rw [ho.2.2]; simp [otherc, h0]
    rw [hr] at hL
    clear hr ho
    go_enter Tryz.func96, Tryz.ntmps96
    go_wp2_with (first | (go_at_call 97; refine hI.mono ?_; rintro e w' ⟨rfl, rfl⟩) | (go_at_call 54; refine hL.mono ?_; rintro e w' ⟨rfl, rfl⟩))
    go_ret
    exact ⟨rfl, rfl⟩
  · have h1 : idx c = -1 := by omega
    have hr : otherc c = 0 := by simp [otherc, h0]
    have HR := Lib.hid hr
    rw [h1] at hI
    have hx : bits BinOp.xor IntKind.i64 (-1) 1 = -2 := by decide +kernel
    have hL := rLetter_out (-2) w (by omega)
    clear hr h1 h0 hb
    go_enter Tryz.func96, Tryz.ntmps96
    go_wp2_with (first | (go_at_call 97; refine hI.mono ?_; rintro e w' ⟨rfl, rfl⟩) | (go_at_call 54; refine hL.mono ?_; rintro e w' ⟨rfl, rfl⟩))
    go_ret
    exact ⟨by rw [HR.out]; rfl, rfl⟩
end Go.Proofs.YteephomlnbbjeaaGreatDoor

namespace Go.Proofs.YteephomlnbbjeaaGreatDoor
open Go Go.RowKit

set_option maxHeartbeats 400000 in
theorem rCheck_any (k : Int) (s : ByteArray) (w : World) (hs : s.size ≤ maxLen) :
    Calls Tryz.prog 94 #[.int .i64 k, .string s] w fun e w' => e = .returned (.int .i64 (checkI k s.data.toList)) ∧ w = w' := by
  unfold maxLen at hs
  by_cases h1 : k < 1
  · have hr : checkI k s.data.toList = 1 := by simp [checkI, h1]
    have HR := Lib.hid hr
    clear hr
    go_enter Tryz.func94, Tryz.ntmps94
    go_wp2
    go_ret
    exact ⟨by rw [HR.out]; rfl, rfl⟩
  by_cases h2 : 8 < k
  · have hr : checkI k s.data.toList = 1 := by simp [checkI, h2]
    have HR := Lib.hid hr
    clear hr
    go_enter Tryz.func94, Tryz.ntmps94
    go_wp2
    go_ret
    exact ⟨by rw [HR.out]; rfl, rfl⟩
  by_cases h3 : 100000 < s.size
  · have hr : checkI k s.data.toList = 2 := by simp [checkI, h1, h2]; omega
    have HR := Lib.hid hr
    clear hr
    go_enter Tryz.func94, Tryz.ntmps94
    go_wp2
    go_ret
    exact ⟨by rw [HR.out]; rfl, rfl⟩
  have hr : checkI k s.data.toList = if s.data.toList.all (letterB k) then 0 else 4 := by
    unfold checkI; rw [if_neg (by omega), if_neg (by simpa using h3)]
  have HR := Lib.hid hr
  clear hr
  go_enter Tryz.func94, Tryz.ntmps94
  go_wp2
  go_loop [5] (fun i => ∃ n : Nat, n ≤ s.size ∧ i = .int .i64 n ∧ (s.data.toList.take n).all (letterB k) = true) (fun i => s.size - (intOf i).toNat)
  case atStart => exact ⟨0, Nat.zero_le _, rfl, rfl⟩
  case round =>
    obtain ⟨n, hn, rfl, hall⟩ := hrel
    have HA := Lib.hid hall
    clear hall
    by_cases hlt : n < s.size
    · have ha := all_take_succ s (letterB k) n hlt
      have HS := Lib.hid ha
      clear ha
      have hL := rIndex_any s[n] w
      have hib := idx_bound s[n]
      have hz : letterB k s[n] = false → s.data.toList.all (letterB k) = false := fun hb => by
        rw [List.all_eq_false]
        exact ⟨s[n], by have : s[n] = s.data.toList[n]'(by simpa using hlt) := rfl
                        rw [this]; exact List.getElem_mem _, by simpa using hb⟩
      have HZ := Lib.hid hz
      clear hz
      by_cases hb0 : 0 ≤ idx s[n]
      · by_cases hbk : idx s[n] < 2 * k
        · have Hb : Hid (letterB k s[n] = true) := Lib.hid (by simp [letterB, hb0, hbk])
          have hd1 : decide (idx s[n] < 0) = false := by simp; omega
          have hd2 : decide (2 * k ≤ idx s[n]) = false := by simp; omega
          generalize idx s[n] = p at *
          go_wp2_with (go_at_call 97; refine hL.mono ?_; rintro e w' ⟨rfl, rfl⟩)
          go_round
          case rel => exact ⟨n + 1, by omega, by go_num, by rw [HS.out, HA.out, Hb.out]; rfl⟩
          case measure => simp [intOf]; omega
        · have Hb : Hid (letterB k s[n] = false) := Lib.hid (by simp [letterB, hbk])
          have hd1 : decide (idx s[n] < 0) = false := by simp; omega
          have hd2 : 2 * k ≤ idx s[n] := by omega
          generalize idx s[n] = p at *
          go_wp2_with (go_at_call 97; refine hL.mono ?_; rintro e w' ⟨rfl, rfl⟩)
          go_ret
          exact ⟨by rw [HR.out, HZ.out Hb.out]; rfl, rfl⟩
      · have Hb : Hid (letterB k s[n] = false) := Lib.hid (by simp [letterB, hb0])
        have hb0' : idx s[n] < 0 := by omega
        generalize idx s[n] = p at *
        go_wp2_with (go_at_call 97; refine hL.mono ?_; rintro e w' ⟨rfl, rfl⟩)
        go_ret
        exact ⟨by rw [HR.out, HZ.out Hb.out]; rfl, rfl⟩
    · have hz := HA.out
      rw [List.take_of_length_le (by simp; omega)] at hz
      have HZ := Lib.hid hz
      clear hz
      go_wp2
      go_ret
      exact ⟨by rw [HR.out, if_pos HZ.out]; rfl, rfl⟩

set_option maxHeartbeats 400000 in
theorem rIs_any (s : ByteArray) (w : World) (hs : s.size ≤ maxLen) :
    Calls Tryz.prog 95 #[.string s] w fun e w' => e = .returned (.bool (isW s.data.toList)) ∧ w = w' := by
  have hC := rCheck_any 8 s w hs
  have h8 := checkI_8 s.data.toList
  have H8 := Lib.hid h8
  generalize checkI 8 s.data.toList = r at *
  clear h8
  go_enter Tryz.func95, Tryz.ntmps95
  go_wp2_with (go_at_call 94; refine hC.mono ?_; rintro e w' ⟨rfl, rfl⟩)
  go_ret
  exact ⟨by rw [← H8.out]; rfl, rfl⟩

set_option maxHeartbeats 400000 in
theorem Reduce_yes (s : ByteArray) (w : World) (ht : Tabs w) (hw : isW s.data.toList = true) (hs : s.size ≤ 140737488351232) :
    Calls Tryz.prog 118 #[.string s] w fun e w' => e = .returned (.string ⟨(red s.data.toList).toArray⟩) ∧ Below w.heap.size w w' := by
  have hI := isWord_any s w ht (by unfold maxLen; omega)
  rw [hw] at hI
  have hV := reduce_any s w hs
  clear ht hw
  go_enter Tryz.func118, Tryz.ntmps118
  go_wp2_with (first | (go_at_call 114; refine hI.mono ?_; rintro e w' ⟨rfl, rfl⟩) | (go_at_call 125; refine hV.mono ?_; rintro e w' ⟨rfl, hb⟩))
  go_ret
  exact ⟨rfl, hb⟩

set_option maxHeartbeats 400000 in
theorem Reduce_no (s : ByteArray) (w : World) (ht : Tabs w) (hw : isW s.data.toList = false) (hs : s.size ≤ 140737488351232) :
    Calls Tryz.prog 118 #[.string s] w fun e w' => e = .returned (.string ⟨#[]⟩) ∧ w = w' := by
  have hI := isWord_any s w ht (by unfold maxLen; omega)
  rw [hw] at hI
  clear ht hw
  go_enter Tryz.func118, Tryz.ntmps118
  go_wp2_with (go_at_call 114; refine hI.mono ?_; rintro e w' ⟨rfl, rfl⟩)
  go_ret
  exact ⟨rfl, rfl⟩

/-- What the law asks of its arguments: at most 1000 letters, and a word. -/
def okW (l : List UInt8) : Bool := decide (l.length ≤ 1000) && isW l

end Go.Proofs.YteephomlnbbjeaaGreatDoor

namespace Go.Proofs.YteephomlnbbjeaaGreatDoor
open Go Go.RowKit

def lexI : List UInt8 → List UInt8 → Int
  | c :: u, d :: v => if c = d then lexI u v else Lib.compareInt (idx c) (idx d)
  | _, _ => 0
def cmpW (u v : List UInt8) : Int :=
  if isW u = true ∧ isW v = true then (if u.length = v.length then lexI u v else Lib.compareInt u.length v.length) else 0

theorem lexI_drop (s t : ByteArray) (k : Nat) (h : k < s.size) (h2 : s.size = t.size) :
    lexI (s.data.toList.drop k) (t.data.toList.drop k) = if s[k] = t[k] then lexI (s.data.toList.drop (k + 1)) (t.data.toList.drop (k + 1)) else Lib.compareInt (idx s[k]) (idx t[k]) := by
  have h1 : k < s.data.toList.length := by simpa using h
  have h2 : k < t.data.toList.length := by simp; omega
  rw [List.drop_eq_getElem_cons h1, List.drop_eq_getElem_cons h2]
  rfl


theorem index_quiet (c : UInt8) (w : World) (ht : Tabs w) (n : Nat) :
    Calls Tryz.prog 157 #[.int .u8 c.toNat] (w.drewN n) fun e w'' => e = .returned (.int .i64 (idx c)) ∧ ∃ m, w'' = w.drewN m :=
  Calls.quiet_of_same ((index_any c (w.drewN n) (ht.drewN n)).mono fun _ _ h => ⟨h.1, h.2.symm⟩)

theorem compare_quiet (x y : Int) (w : World) (n : Nat) :
    Calls Tryz.prog 156 #[.int .i64 x, .int .i64 y] (w.drewN n) fun e w'' => e = .returned (.int .i64 (Lib.compareInt x y)) ∧ ∃ m, w'' = w.drewN m :=
  Calls.quiet_of_same (Tryz.cmp_Compare_int x y (w.drewN n))

set_option maxHeartbeats 400000 in
set_option maxRecDepth 100000 in
theorem Compare_any (s t : ByteArray) (w : World) (ht : Tabs w) (hs : s.size ≤ maxLen) (hs2 : t.size ≤ maxLen) :
    Calls Tryz.prog 121 #[.string s, .string t] w fun e w' => e = .returned (.int .i64 (cmpW s.data.toList t.data.toList)) ∧ ∃ n, w' = w.drewN n := by
  have hI := isWord_any s w ht hs
  have hJ := isWord_any t w ht hs2
  have ht0 := ht
  unfold maxLen at hs hs2
  cases h1 : isW s.data.toList with
  | false =>
    rw [h1] at hI
    have HR : Hid (cmpW s.data.toList t.data.toList = 0) := Lib.hid (by simp [cmpW, h1])
    clear h1 ht
    go_enter Tryz.func121, Tryz.ntmps121
    go_wp2_with (go_at_call 114; refine hI.mono ?_; rintro e w' ⟨rfl, rfl⟩)
    go_ret
    exact ⟨by rw [HR.out]; rfl, 0, rfl⟩
  | true =>
  cases h2 : isW t.data.toList with
  | false =>
    rw [h1] at hI
    rw [h2] at hJ
    have HR : Hid (cmpW s.data.toList t.data.toList = 0) := Lib.hid (by simp [cmpW, h2])
    clear h1 h2 ht
    go_enter Tryz.func121, Tryz.ntmps121
    go_wp2_with fail
    refine hI.mono ?_; rintro e w' ⟨rfl, rfl⟩
    go_wp2_with fail
    refine hJ.mono ?_; rintro e w' ⟨rfl, rfl⟩
    go_wp2
    go_ret
    exact ⟨by rw [HR.out]; rfl, 0, rfl⟩
  | true =>
  rw [h1] at hI
  rw [h2] at hJ
  by_cases hl : s.size = t.size
  · have HR : Hid (cmpW s.data.toList t.data.toList = lexI (s.data.toList.drop 0) (t.data.toList.drop 0)) := Lib.hid (by simp [cmpW, h1, h2, hl])
    have hd : ((s.size : Int) == (t.size : Int)) = true := by simp [hl]
    have HL := Lib.hid hl
    clear h1 h2 hl
    have hle : s.size ≤ t.size := Nat.le_of_eq HL.out
    have hdn : ((s.size : Int) != (t.size : Int)) = false := by rw [bne, hd]; rfl
    go_enter Tryz.func121, Tryz.ntmps121
    go_wp2_with fail
    refine hI.mono ?_; rintro e w' ⟨rfl, rfl⟩
    go_wp2_with fail
    refine hJ.mono ?_; rintro e w' ⟨rfl, rfl⟩
    go_wp2
    go_outline
    go_loopw [26] (fun i wr => ∃ k n : Nat, k ≤ s.size ∧ i = .int .i64 k ∧ lexI (s.data.toList.drop 0) (t.data.toList.drop 0) = lexI (s.data.toList.drop k) (t.data.toList.drop k) ∧ wr = w.drewN n)
      (fun i _ => s.size - (intOf i).toNat)
    case atStart => exact ⟨0, 0, Nat.zero_le _, rfl, rfl, rfl⟩
    case round =>
      obtain ⟨k, n, hk, rfl, hlex, rfl⟩ := hrel
      have htn : Tabs (w.drewN n) := ht.drewN n
      by_cases hlt : k < s.size
      · have hlt2 : k < t.size := by omega
        have hd := lexI_drop s t k hlt HL.out
        rw [hd] at hlex
        clear hd
        have HQ1 := Lib.hid (index_quiet s[k] (w.drewN n) htn)
        have HQ2 := Lib.hid (index_quiet t[k] (w.drewN n) htn)
        have HQ3 := Lib.hid (compare_quiet (idx s[k]) (idx t[k]) (w.drewN n))
        clear ht htn hI hJ
        by_cases he : s[k] = t[k]
        · rw [if_pos he] at hlex
          have HX := Lib.hid hlex
          have hb : ((s[k].toNat : Int) != (t[k].toNat : Int)) = false := by simp [he]
          have hb2 : ((s[k].toNat : Int) == (t[k].toNat : Int)) = true := by simp [he]
          clear he hlex
          go_wp2
          go_quiet (fail)
          go_wp2
          go_roundw
          case rel => exact ⟨k + 1, n + nq, by omega, by go_num, HX.out, rfl⟩
          case measure => simp [intOf]; omega
        · rw [if_neg he] at hlex
          have HX := Lib.hid hlex
          have hne : s[k].toNat ≠ t[k].toNat := fun h => he (UInt8.toNat_inj.1 h)
          have hb2 : ((s[k].toNat : Int) == (t[k].toNat : Int)) = false := by rw [beq_eq_false_iff_ne]; omega
          have hb : ((s[k].toNat : Int) != (t[k].toNat : Int)) = true := by rw [bne, hb2]; rfl
          clear he hlex hne
          go_wp2
          go_quiet (fail)
          go_wp2
          generalize hq1 : nq = q1 at *
          clear hq1
          have ht2 : Tabs ((w.drewN n).drewN q1) := (ht0.drewN _).drewN _
          generalize hw2 : (w.drewN n).drewN q1 = w2 at *
          have HW2 := Lib.hid hw2
          have H4 := Lib.hid ht2
          have H6 := Lib.hid (compare_quiet (idx s[k]) (idx t[k]) w2)
          clear hw2 ht2 ht0
          go_quiet (first | (go_at_call 157; exact index_quiet _ w2 H4.out _) | (go_at_call 156; exact H6.out _))
          go_wp2
          go_ret
          exact ⟨by rw [HR.out, HX.out]; rfl, n + q1 + nq, by rw [← HW2.out]; simp only [World.drewN_drewN, Nat.add_assoc]⟩
      · have hk' : k = s.size := by omega
        subst hk'
        have hz : lexI (s.data.toList.drop s.size) (t.data.toList.drop s.size) = 0 := by
          rw [List.drop_eq_nil_of_le (by simp)]; rfl
        rw [hz] at hlex
        have HX := Lib.hid hlex
        clear hz hlex ht htn hI hJ
        go_wp2
        go_ret
        exact ⟨by rw [HR.out, HX.out]; rfl, n, rfl⟩
  · have HR : Hid (cmpW s.data.toList t.data.toList = Lib.compareInt s.size t.size) := Lib.hid (by simp [cmpW, h1, h2, hl])
    have hd : ((s.size : Int) == (t.size : Int)) = false := by rw [beq_eq_false_iff_ne]; omega
    have hdn : ((s.size : Int) != (t.size : Int)) = true := by rw [bne, hd]; rfl
    have hC := Tryz.cmp_Compare_int s.size t.size w
    clear h1 h2 hl ht ht0
    go_enter Tryz.func121, Tryz.ntmps121
    go_wp2_with fail
    refine hI.mono ?_; rintro e w' ⟨rfl, rfl⟩
    go_wp2_with fail
    refine hJ.mono ?_; rintro e w' ⟨rfl, rfl⟩
    go_wp2_with (go_at_call 156; refine hC.mono ?_; rintro e w' ⟨rfl, rfl⟩)
    go_ret
    exact ⟨by rw [HR.out]; rfl, 0, rfl⟩
end Go.Proofs.YteephomlnbbjeaaGreatDoor

namespace Go.Proofs.YteephomlnbbjeaaGreatDoor
open Go Go.RowKit

/-- How many letters are taken off at both ends, from the k-th on. -/
def coreF : Nat → List UInt8 → Nat → Nat
  | 0, _, k => k
  | f + 1, l, k => if 2 * k + 1 < l.length ∧ (l.getD k 0 ^^^ l.getD (l.length - 1 - k) 0 == 32) = true then coreF f l (k + 1) else k
def coreN (l : List UInt8) : Nat := coreF l.length l 0
def coreW (l : List UInt8) : List UInt8 := (l.drop (coreN l)).take (l.length - 2 * coreN l)
def conjW (l : List UInt8) : List UInt8 := l.take (coreN l)

theorem getD_ba (s : ByteArray) (k : Nat) (h : k < s.size) : s.data.toList.getD k 0 = s[k] := by
  have h1 : k < s.data.toList.length := by simpa using h
  simp [List.getD, List.getElem?_eq_getElem h1]; rfl

theorem coreF_le : ∀ f l k, 2 * k ≤ l.length → 2 * coreF f l k ≤ l.length := by
  intro f
  induction f with
  | zero => intro l k h; exact h
  | succ f ih => intro l k h; unfold coreF; split
                 · exact ih _ _ (by omega)
                 · exact h
theorem coreN_le (l : List UInt8) : 2 * coreN l ≤ l.length := coreF_le _ _ _ (by omega)

theorem ba_ext {a b : ByteArray} (h : a.data.toList = b.data.toList) : a = b := by
  cases a; cases b; simp_all [Array.toList_inj]

theorem split_end (s : ByteArray) (k m : Nat) (h : coreN s.data.toList = k) (hm : m = s.size - k) :
    Ending.returned (.tuple #[.string (s.extract k m), .string (s.extract 0 k)]) = .returned (.tuple #[.string ⟨(coreW s.data.toList).toArray⟩, .string ⟨(conjW s.data.toList).toArray⟩]) := by
  have e1 : s.extract k m = ⟨(coreW s.data.toList).toArray⟩ := by
    apply ba_ext
    have := coreN_le s.data.toList
    simp only [Array.length_toList] at this
    simp [coreW, h, ByteArray.data_extract, Array.toList_extract, List.extract_eq_take_drop]
    rw [hm]; congr 1; have : s.data.size = s.size := rfl; omega
  have e2 : s.extract 0 k = ⟨(conjW s.data.toList).toArray⟩ := by
    apply ba_ext
    simp [conjW, h, ByteArray.data_extract, Array.toList_extract, List.extract_eq_take_drop]
  rw [e1, e2]

theorem cancel_quiet (x y : UInt8) (w : World) (n : Nat) :
    Calls Tryz.prog 161 #[.int .u8 x.toNat, .int .u8 y.toNat] (w.drewN n) fun e w'' => e = .returned (.bool (x ^^^ y == 32)) ∧ ∃ m, w'' = w.drewN m :=
  Calls.quiet_of_same ((cancel_any x y (w.drewN n)).mono fun _ _ h => ⟨h.1, h.2.symm⟩)

set_option maxHeartbeats 400000 in
set_option maxRecDepth 100000 in
theorem split_any (s : ByteArray) (w : World) (hs : s.size ≤ maxLen) :
    Calls Tryz.prog 124 #[.string s] w fun e w' => e = .returned (.tuple #[.string ⟨(coreW s.data.toList).toArray⟩, .string ⟨(conjW s.data.toList).toArray⟩]) ∧ ∃ n, w' = w.drewN n := by
  unfold maxLen at hs
  go_enter Tryz.func124, Tryz.ntmps124
  go_wp2
  go_loopw [4, 5] (fun i j wr => ∃ k n : Nat, 2 * k ≤ s.size ∧ i = .int .i64 k ∧ j = .int .i64 (s.size - 1 - k) ∧ coreF (s.size - k) s.data.toList k = coreN s.data.toList ∧ wr = w.drewN n)
      (fun i _ _ => s.size - (intOf i).toNat)
  case atStart => exact ⟨0, 0, Nat.zero_le _, rfl, by go_num, by simp [coreN], rfl⟩
  case round =>
    obtain ⟨k, n, hk, rfl, rfl, hf, hw⟩ := hrel
    have HW := Lib.hid hw
    clear hw
    by_cases hlt : 2 * k + 1 < s.size
    · have hlt1 : k < s.size := by omega
      obtain ⟨m, hm⟩ : ∃ m : Nat, s.size - 1 - k = m := ⟨_, rfl⟩
      have hlt2 : m < s.size := by omega
      have hj : ((s.size : Int) - 1 - ↑k) = (m : Int) := by omega
      have hm' : s.size = k + m + 1 := by omega
      rw [hj]
      have hd : decide (k < m) = true := by simp; omega
      have hcq := cancel_quiet s[k] s[m] wr
      obtain ⟨f, hff⟩ : ∃ f, s.size - k = f + 1 := ⟨s.size - k - 1, by omega⟩
      have hff' : s.size - (k + 1) = f := by omega
      rw [hff] at hf
      unfold coreF at hf
      rw [getD_ba s k hlt1, show s.data.toList.length = s.size by simp, hm, getD_ba s _ hlt2] at hf
      by_cases hc : (s[k] ^^^ s[m] == 32) = true
      · rw [if_pos ⟨hlt, hc⟩] at hf
        rw [hc] at hcq
        have HQ := Lib.hid hcq
        have HF := Lib.hid hf
        have HFF := Lib.hid hff'
        have HM := Lib.hid hm'
        clear hf hff hff' hj hc hm hcq hm'
        go_wp2
        go_quiet ((go_at_call 161; exact HQ.out _))
        go_wp2
        go_roundw
        case rel => exact ⟨k + 1, n + nq, by omega, by go_num, by have := HM.out; go_num, by rw [HFF.out]; exact HF.out, by rw [HW.out, World.drewN_drewN]⟩
        case measure => simp [intOf]; omega
      · have hc' : (s[k] ^^^ s[m] == 32) = false := by simpa using hc
        rw [if_neg (by rw [hc']; simp)] at hf
        rw [hc'] at hcq
        have HQ := Lib.hid hcq
        have HE := Lib.hid hf
        have HM := Lib.hid hm'
        have hkm : k ≤ m + 1 := by omega
        clear hf hff hff' hc hc' hm hj hm' hcq
        go_wp2
        go_quiet ((go_at_call 161; exact HQ.out _))
        go_wp2
        generalize hq1 : nq = q1 at *
        clear hq1
        generalize hw2 : wr.drewN q1 = w2 at *
        have HW2 := Lib.hid hw2
        clear hw2
        go_quiet (fail)
        go_wp2
        go_ret2
        refine ⟨split_end s k (m + 1) HE.out.symm (by have := HM.out; omega), n + q1 + nq, by rw [← HW2.out, HW.out]; simp only [World.drewN_drewN, Nat.add_assoc]⟩
    · have he : coreN s.data.toList = k := by
        rw [← hf]
        cases s.size - k with
        | zero => rfl
        | succ f => unfold coreF; rw [if_neg (by simp; omega)]
      have HE := Lib.hid he
      clear he hf
      have hd : decide ((k : Int) < (s.size : Int) - 1 - ↑k) = false := by simp; omega
      go_wp2
      go_quiet (fail)
      go_wp2
      generalize hq1 : nq = q1 at *
      clear hq1
      generalize hw2 : wr.drewN q1 = w2 at *
      have HW2 := Lib.hid hw2
      clear hw2
      go_quiet (fail)
      go_wp2
      go_ret2
      refine ⟨?_, n + q1 + nq, by rw [← HW2.out, HW.out]; simp only [World.drewN_drewN, Nat.add_assoc]⟩
      show Ending.returned (Value.tuple #[Value.string (s.extract k ((s.size : Int) - 1 - ↑k + 1).toNat), Value.string (s.extract 0 k)]) = _
      rw [show ((s.size : Int) - 1 - ↑k + 1).toNat = s.size - k by omega]
      exact split_end s k (s.size - k) HE.out rfl
end Go.Proofs.YteephomlnbbjeaaGreatDoor

namespace Go.Proofs.YteephomlnbbjeaaGreatDoor
open Go Go.RowKit

theorem below_drawn {w w' : World} {n : Nat} (h : w' = w.drewN n) (B : Nat) : Below B w w' := by subst h; exact (Below.refl B w).drewN n

theorem data_mk (l : List UInt8) : (ByteArray.mk l.toArray).data.toList = l := rfl
theorem size_mk (l : List UInt8) : (ByteArray.mk l.toArray).size = l.length := rfl

theorem red_len (l : List UInt8) : (red l).length ≤ l.length := by simpa [red] using redR_len l

set_option maxHeartbeats 400000 in
theorem Cyclic_yes (s : ByteArray) (w : World) (ht : Tabs w) (hw : isW s.data.toList = true) (hs : s.size ≤ 140737488351232) :
    Calls Tryz.prog 73 #[.string s] w fun e w' => e = .returned (.tuple #[.string ⟨(coreW (red s.data.toList)).toArray⟩, .string ⟨(conjW (red s.data.toList)).toArray⟩]) ∧ Below w.heap.size w w' := by
  have hI := isWord_any s w ht (by unfold maxLen; omega)
  rw [hw] at hI
  have hV := reduce_any s w hs
  have hl := red_len s.data.toList
  have hl2 : (red s.data.toList).length ≤ maxLen := by unfold maxLen; simp at hl; omega
  have HS := fun w => split_any ⟨(red s.data.toList).toArray⟩ w hl2
  clear ht hw hl hl2
  generalize red s.data.toList = L at *
  go_enter Tryz.func73, Tryz.ntmps73
  go_wp2_with (first | (go_at_call 114; refine hI.mono ?_; rintro e w' ⟨rfl, rfl⟩) | (go_at_call 125; refine hV.mono ?_; rintro e w' ⟨rfl, hb⟩) | (go_at_call 124; refine (HS _).mono ?_; rintro e w' ⟨rfl, hd⟩))
  go_ret2
  obtain ⟨n, hd⟩ := hd
  exact ⟨rfl, hb.trans (below_drawn hd _)⟩

set_option maxHeartbeats 400000 in
theorem Cyclic_no (s : ByteArray) (w : World) (ht : Tabs w) (hw : isW s.data.toList = false) (hs : s.size ≤ 140737488351232) :
    Calls Tryz.prog 73 #[.string s] w fun e w' => e = .returned (.tuple #[.string ⟨#[]⟩, .string ⟨#[]⟩]) ∧ w = w' := by
  have hI := isWord_any s w ht (by unfold maxLen; omega)
  rw [hw] at hI
  clear ht hw
  go_enter Tryz.func73, Tryz.ntmps73
  go_wp2_with (go_at_call 114; refine hI.mono ?_; rintro e w' ⟨rfl, rfl⟩)
  go_ret2
  exact ⟨rfl, rfl⟩

/-- The least rotation: the candidates i, j, and how many letters they share. -/
def lrF : Nat → List UInt8 → Nat → Nat → Nat → Nat
  | 0, _, i, j, _ => min i j
  | f + 1, l, i, j, same =>
    if i < l.length ∧ j < l.length ∧ same < l.length then
      let x := idx (l.getD ((i + same) % l.length) 0)
      let y := idx (l.getD ((j + same) % l.length) 0)
      if x = y then lrF f l i j (same + 1)
      else if y < x then (if i + (same + 1) = j then lrF f l (i + (same + 1)) (j + 1) 0 else lrF f l (i + (same + 1)) j 0)
      else (if i = j + (same + 1) then lrF f l i (j + (same + 1) + 1) 0 else lrF f l i (j + (same + 1)) 0)
    else min i j
def lrN (l : List UInt8) : Nat := lrF (5 * l.length + 10) l 0 1 0

set_option maxHeartbeats 400000 in
set_option maxRecDepth 100000 in
theorem leastRotation_any (s : ByteArray) (w : World) (ht : Tabs w) (hs : s.size ≤ 1000000) :
    Calls Tryz.prog 155 #[.string s] w fun e w' => e = .returned (.int .i64 (lrN s.data.toList)) ∧ ∃ n, w' = w.drewN n := by
  go_enter Tryz.func155, Tryz.ntmps155
  go_wp2
  go_loopw [4, 5, 6] (fun i j m wr => ∃ a b c f n : Nat, i = .int .i64 a ∧ j = .int .i64 b ∧ m = .int .i64 c ∧ lrF f s.data.toList a b c = lrN s.data.toList ∧ a ≤ 2 * s.size + 1 ∧ b ≤ 2 * s.size + 1 ∧ c ≤ s.size ∧ 5 * s.size + 10 ≤ f + (a + b + c) ∧ wr = w.drewN n)
      (fun i j m _ => 5 * s.size + 10 - ((intOf i).toNat + (intOf j).toNat + (intOf m).toNat))
  case atStart => exact ⟨0, 1, 0, _, 0, rfl, rfl, rfl, rfl, by omega, by omega, by omega, by rw [Array.length_toList, show s.data.size = s.size from rfl]; omega, rfl⟩
  case round =>
    obtain ⟨a, b, c, f, n, rfl, rfl, rfl, hf, ha, hb, hc, hfu, hw⟩ := hrel
    have htw : Tabs wr := by rw [hw]; exact ht.drewN n
    have HW := Lib.hid hw
    have HT := Lib.hid htw
    clear hw ht htw
    by_cases hcond : a < s.size ∧ b < s.size ∧ c < s.size
    · obtain ⟨h1, h2, h3⟩ := hcond
      have hlen : 0 < s.size := by omega
      have hi : (a + c) % s.size < s.size := Nat.mod_lt _ hlen
      have hj : (b + c) % s.size < s.size := Nat.mod_lt _ hlen
      obtain ⟨p, hp⟩ : ∃ p : Nat, (a + c) % s.size = p := ⟨_, rfl⟩
      obtain ⟨q, hq⟩ : ∃ q : Nat, (b + c) % s.size = q := ⟨_, rfl⟩
      obtain ⟨g, rfl⟩ : ∃ g, f = g + 1 := ⟨f - 1, by omega⟩
      have hls : s.data.toList.length = s.size := by simp
      unfold lrF at hf
      rw [hls, if_pos ⟨h1, h2, h3⟩, hp, hq, getD_ba s p (by omega), getD_ba s q (by omega)] at hf
      simp only at hf
      have e1 : ((a + c : Nat) : Int).tmod (s.size : Int) = (p : Int) := by rw [← hp]; rfl
      have e2 : ((b + c : Nat) : Int).tmod (s.size : Int) = (q : Int) := by rw [← hq]; rfl
      have w1 : IntKind.i64.wrap ((a : Int) + (c : Int)) = ((a + c : Nat) : Int) := by rw [IntWalk.i64_in _ (by omega)]; omega
      have w2 : IntKind.i64.wrap ((b : Int) + (c : Int)) = ((b + c : Nat) : Int) := by rw [IntWalk.i64_in _ (by omega)]; omega
      have hz : ¬ (s.size : Int) = 0 := by omega
      have hz2 : ¬ s.size = 0 := by omega
      obtain ⟨ac, hac⟩ : ∃ ac : Nat, a + c = ac := ⟨_, rfl⟩
      obtain ⟨bc, hbc⟩ : ∃ bc : Nat, b + c = bc := ⟨_, rfl⟩
      rw [hac] at e1 w1
      rw [hbc] at e2 w2
      clear hac hbc
      rw [hp] at hi
      rw [hq] at hj
      have hpx := idx_bound s[p]
      have hqx := idx_bound s[q]
      have gfin : ∀ (r a' b' c' : Nat), lrF g s.data.toList a' b' c' = lrN s.data.toList → a' ≤ 2 * s.size + 1 → b' ≤ 2 * s.size + 1 → c' ≤ s.size → a + b + c + 1 ≤ a' + b' + c' →
          ∃ a b c f n : Nat, Value.int .i64 (a' : Int) = .int .i64 a ∧ Value.int .i64 (b' : Int) = .int .i64 b ∧ Value.int .i64 (c' : Int) = .int .i64 c ∧ lrF f s.data.toList a b c = lrN s.data.toList ∧ a ≤ 2 * s.size + 1 ∧ b ≤ 2 * s.size + 1 ∧ c ≤ s.size ∧ 5 * s.size + 10 ≤ f + (a + b + c) ∧ wr.drewN r = w.drewN n :=
        fun r a' b' c' h1 h2 h3 h4 h5 => ⟨a', b', c', g, n + r, rfl, rfl, rfl, h1, h2, h3, h4, by omega, by rw [HW.out, World.drewN_drewN]⟩
      have GFIN := Lib.hid gfin
      clear gfin hfu
      by_cases hxy : idx s[p] = idx s[q]
      · rw [if_pos hxy] at hf
        have HF := Lib.hid hf
        have hd : (idx s[p] == idx s[q]) = true := by simp [hxy]
        clear hf
        have HX := Lib.hid hxy
        clear hxy hp hq hls
        go_wp2
        go_quiet ((go_at_call 157; exact index_quiet _ wr HT.out _))
        go_wp2
        go_roundw
        case rel =>
          have := GFIN.out nq a b (c + 1) HF.out (by omega) (by omega) (by omega) (by omega)
          simpa using this
        case measure => simp [intOf]; omega
      · rw [if_neg hxy] at hf
        have hd : (idx s[p] == idx s[q]) = false := by simp [hxy]
        by_cases hyx : idx s[q] < idx s[p]
        · rw [if_pos hyx] at hf
          by_cases hab : a + (c + 1) = b
          · rw [if_pos hab] at hf
            have HF := Lib.hid hf
            have hd3 : ((a : Int) + ((c : Int) + 1) == (b : Int)) = true := by rw [beq_iff_eq]; omega
            have HAB := Lib.hid hab
            clear hf hxy hp hq hls hab
            go_wp2
            go_quiet ((go_at_call 157; exact index_quiet _ wr HT.out _))
            go_wp2
            go_roundw
            case rel =>
              have := GFIN.out nq (a + (c + 1)) (b + 1) 0 HF.out (by omega) (by omega) (by omega) (by omega)
              simpa using this
            case measure => simp [intOf]; omega
          · rw [if_neg hab] at hf
            have HF := Lib.hid hf
            have hd3 : ((a : Int) + ((c : Int) + 1) == (b : Int)) = false := by rw [beq_eq_false_iff_ne]; omega
            have HAB := Lib.hid hab
            clear hf hxy hp hq hls hab
            go_wp2
            go_quiet ((go_at_call 157; exact index_quiet _ wr HT.out _))
            go_wp2
            go_roundw
            case rel =>
              have := GFIN.out nq (a + (c + 1)) b 0 HF.out (by omega) (by omega) (by omega) (by omega)
              simpa using this
            case measure => simp [intOf]; omega
        · rw [if_neg hyx] at hf
          by_cases hab : a = b + (c + 1)
          · rw [if_pos hab] at hf
            have HF := Lib.hid hf
            have hd3 : ((a : Int) == (b : Int) + ((c : Int) + 1)) = true := by rw [beq_iff_eq]; omega
            have HAB := Lib.hid hab
            clear hf hxy hp hq hls hab
            go_wp2
            go_quiet ((go_at_call 157; exact index_quiet _ wr HT.out _))
            go_wp2
            go_roundw
            case rel =>
              have := GFIN.out nq a (b + (c + 1) + 1) 0 HF.out (by omega) (by omega) (by omega) (by omega)
              simpa using this
            case measure => simp [intOf]; omega
          · rw [if_neg hab] at hf
            have HF := Lib.hid hf
            have hd3 : ((a : Int) == (b : Int) + ((c : Int) + 1)) = false := by rw [beq_eq_false_iff_ne]; omega
            have HAB := Lib.hid hab
            clear hf hxy hp hq hls hab
            go_wp2
            go_quiet ((go_at_call 157; exact index_quiet _ wr HT.out _))
            go_wp2
            go_roundw
            case rel =>
              have := GFIN.out nq a (b + (c + 1)) 0 HF.out (by omega) (by omega) (by omega) (by omega)
              simpa using this
            case measure => simp [intOf]; omega
    · have he : min a b = lrN s.data.toList := by
        rw [← hf]
        cases f with
        | zero => rfl
        | succ f => unfold lrF; rw [if_neg (by simpa using hcond)]
      have HE := Lib.hid he
      clear he hf hfu
      by_cases h1 : a < s.size
      · by_cases h2 : b < s.size
        · have h3 : s.size ≤ c := by omega
          clear hcond
          go_wp2
          go_ret
          exact ⟨by rw [← HE.out]; exact ret_int (by omega), n, HW.out⟩
        · clear hcond
          go_wp2
          go_ret
          exact ⟨by rw [← HE.out]; exact ret_int (by omega), n, HW.out⟩
      · clear hcond
        go_wp2
        go_ret
        exact ⟨by rw [← HE.out]; exact ret_int (by omega), n, HW.out⟩
end Go.Proofs.YteephomlnbbjeaaGreatDoor

namespace Go.Proofs.YteephomlnbbjeaaGreatDoor
open Go Go.RowKit

theorem lrF_le : ∀ f l i j c, min i j ≤ l.length → lrF f l i j c ≤ l.length := by
  intro f
  induction f with
  | zero => intro l i j c h; exact h
  | succ f ih =>
    intro l i j c h
    unfold lrF
    split
    · rename_i hc
      obtain ⟨h1, h2, h3⟩ := hc
      simp only
      split
      · exact ih _ _ _ _ h
      · split
        · split
          · exact ih _ _ _ _ (by omega)
          · exact ih _ _ _ _ (by omega)
        · split
          · exact ih _ _ _ _ (by omega)
          · exact ih _ _ _ _ (by omega)
    · exact h
theorem lrN_le (l : List UInt8) : lrN l ≤ l.length := lrF_le _ _ _ _ _ (by omega)

theorem coreW_len (l : List UInt8) : (coreW l).length ≤ l.length := by unfold coreW; simp; omega

/-- The cyclic form. -/
def formW (l : List UInt8) : List UInt8 := (coreW (red l)).drop (lrN (coreW (red l))) ++ (coreW (red l)).take (lrN (coreW (red l)))

theorem isW_len {l : List UInt8} (h : isW l = true) : l.length ≤ 100000 := by simp [isW] at h; exact h.1

set_option maxHeartbeats 400000 in
theorem Form_yes (s : ByteArray) (w : World) (ht : Tabs w) (hw : isW s.data.toList = true) (hs : s.size ≤ 140737488351232) :
    Calls Tryz.prog 120 #[.string s] w fun e w' => e = .returned (.string ⟨(formW s.data.toList).toArray⟩) ∧ Below w.heap.size w w' := by
  have hC := Cyclic_yes s w ht hw hs
  have hlen := isW_len hw
  have hl := red_len s.data.toList
  have hl2 := coreW_len (red s.data.toList)
  have hle := lrN_le (coreW (red s.data.toList))
  have HR : Hid (formW s.data.toList = (coreW (red s.data.toList)).drop (lrN (coreW (red s.data.toList))) ++ (coreW (red s.data.toList)).take (lrN (coreW (red s.data.toList)))) := Lib.hid rfl
  have HS := fun w ht => leastRotation_any ⟨(coreW (red s.data.toList)).toArray⟩ w ht (by rw [size_mk]; omega)
  rw [data_mk] at HS
  generalize hcc : coreW (red s.data.toList) = C at *
  generalize conjW (red s.data.toList) = D at *
  generalize lrN C = r at *
  have HT := Lib.hid ht
  have HH := Lib.hid HS
  clear hw hcc ht HS
  go_enter Tryz.func120, Tryz.ntmps120
  go_wp2_with (first | (go_at_call 73; refine hC.mono ?_; rintro e w' ⟨rfl, hb⟩) | (go_at_call 155; refine (HH.out _ (HT.out.on hb)).mono ?_; rintro e w' ⟨rfl, hd⟩))
  generalize hwb : (ByteArray.mk C.toArray) = cb at *
  have hz1 : r ≤ cb.size := by rw [← hwb]; exact hle
  have HWB := Lib.hid hwb
  clear hwb
  have hsz : cb.size ≤ 1000000 := by rw [← HWB.out, size_mk]; simp at hl hlen; omega
  have hadd : ∀ w, (Op.stringOp .add (cb.extract r cb.size) (cb.extract 0 r)).run Tryz.prog w = .ok (.string (cb.extract r cb.size ++ cb.extract 0 r)) w := fun w => run_string_add_sum w _ _ (by simp; omega)
  obtain ⟨n, hd⟩ := hd
  have HD := Lib.hid hd
  have HB := Lib.hid hb
  clear hd hb hC
  go_quiet (fail)
  go_wp2
  go_ret
  refine ⟨?_, (HB.out.trans (below_drawn HD.out _)).drewN nq⟩
  rw [HR.out]
  have e : cb.extract r cb.size ++ cb.extract 0 r = ⟨(C.drop r ++ C.take r).toArray⟩ := by
    rw [← HWB.out]
    apply ba_ext
    simp only [ByteArray.data_append, ByteArray.data_extract, Array.toList_append, Array.toList_extract, List.extract_eq_take_drop, size_mk, List.drop_zero, Nat.sub_zero]
    rw [List.take_of_length_le (by simp)]
  rw [← e]
  rfl
end Go.Proofs.YteephomlnbbjeaaGreatDoor
