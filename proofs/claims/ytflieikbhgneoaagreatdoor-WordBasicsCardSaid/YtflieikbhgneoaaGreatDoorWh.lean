/-
  Our own text, in the proofs of the laws of package word (cayleylaw01). Proved here: split returns the core and the conjugator. Conditions: the arguments read as the row says and the listed tables lie as the program lays them; none other.
-/
import Derived.Test.YtflieikbhgneoaaGreatDoorWg
namespace Go.Proofs.YtflieikbhgneoaaGreatDoor
open Go Go.RowKit

/-- How many letters are taken off at both ends, from the k-th on. -/
def coreF : Nat → List UInt8 → Nat → Nat
  | 0, _, k => k
  | f + 1, l, k => if 2 * k + 1 < l.length ∧ (l.getD k 0 ^^^ l.getD (l.length - 1 - k) 0 == 32) = true then coreF f l (k + 1) else k
def coreN (l : List UInt8) : Nat := coreF l.length l 0
def coreW (l : List UInt8) : List UInt8 := (l.drop (coreN l)).take (l.length - 2 * coreN l)
def conjW (l : List UInt8) : List UInt8 := l.take (coreN l)

theorem getD_ba (s : ByteArray) (k : Nat) (h : k < s.size) : s.data.toList.getD k 0 = s[k] := by
  have h1 : k < s.data.toList.length := by simpa using h
  simp [List.getD, List.getElem?_eq_getElem h1]; rfl

theorem coreF_le : ∀ f l k, 2 * k ≤ l.length → 2 * coreF f l k ≤ l.length := by
  intro f
  induction f with
  | zero => intro l k h; exact h
  | succ f ih => intro l k h; unfold coreF; split
                 · exact ih _ _ (by omega)
                 · exact h
theorem coreN_le (l : List UInt8) : 2 * coreN l ≤ l.length := coreF_le _ _ _ (by omega)

theorem ba_ext {a b : ByteArray} (h : a.data.toList = b.data.toList) : a = b := by
  cases a; cases b; simp_all [Array.toList_inj]

theorem split_end (s : ByteArray) (k m : Nat) (h : coreN s.data.toList = k) (hm : m = s.size - k) :
    Ending.returned (.tuple #[.string (s.extract k m), .string (s.extract 0 k)]) = .returned (.tuple #[.string ⟨(coreW s.data.toList).toArray⟩, .string ⟨(conjW s.data.toList).toArray⟩]) := by
  have e1 : s.extract k m = ⟨(coreW s.data.toList).toArray⟩ := by
    apply ba_ext
    have := coreN_le s.data.toList
    simp only [Array.length_toList] at this
    simp [coreW, h, ByteArray.data_extract, Array.toList_extract, List.extract_eq_take_drop]
    rw [hm]; congr 1; have : s.data.size = s.size := rfl; omega
  have e2 : s.extract 0 k = ⟨(conjW s.data.toList).toArray⟩ := by
    apply ba_ext
    simp [conjW, h, ByteArray.data_extract, Array.toList_extract, List.extract_eq_take_drop]
  rw [e1, e2]

theorem cancel_quiet (x y : UInt8) (w : World) (n : Nat) :
    Calls Tryz.prog 52 #[.int .u8 x.toNat, .int .u8 y.toNat] (w.drewN n) fun e w'' => e = .returned (.bool (x ^^^ y == 32)) ∧ ∃ m, w'' = w.drewN m :=
  Calls.quiet_of_same ((cancel_any x y (w.drewN n)).mono fun _ _ h => ⟨h.1, h.2.symm⟩)

set_option maxHeartbeats 400000 in
set_option maxRecDepth 100000 in
theorem split_any (s : ByteArray) (w : World) (hs : s.size ≤ maxLen) :
    Calls Tryz.prog 43 #[.string s] w fun e w' => e = .returned (.tuple #[.string ⟨(coreW s.data.toList).toArray⟩, .string ⟨(conjW s.data.toList).toArray⟩]) ∧ ∃ n, w' = w.drewN n := by
  unfold maxLen at hs
  go_enter Tryz.func43, Tryz.ntmps43
  go_wp2
  go_loopw [4, 5] (fun i j wr => ∃ k n : Nat, 2 * k ≤ s.size ∧ i = .int .i64 k ∧ j = .int .i64 (s.size - 1 - k) ∧ coreF (s.size - k) s.data.toList k = coreN s.data.toList ∧ wr = w.drewN n)
      (fun i _ _ => s.size - (intOf i).toNat)
  case atStart => exact ⟨0, 0, Nat.zero_le _, rfl, by go_num, by simp [coreN], rfl⟩
  case round =>
    obtain ⟨k, n, hk, rfl, rfl, hf, hw⟩ := hrel
    have HW := Lib.hid hw
    clear hw
    by_cases hlt : 2 * k + 1 < s.size
    · have hlt1 : k < s.size := by omega
      obtain ⟨m, hm⟩ : ∃ m : Nat, s.size - 1 - k = m := ⟨_, rfl⟩
      have hlt2 : m < s.size := by omega
      have hj : ((s.size : Int) - 1 - ↑k) = (m : Int) := by omega
      have hm' : s.size = k + m + 1 := by omega
      rw [hj]
      have hd : decide (k < m) = true := by simp; omega
      have hcq := cancel_quiet s[k] s[m] wr
      obtain ⟨f, hff⟩ : ∃ f, s.size - k = f + 1 := ⟨s.size - k - 1, by omega⟩
      have hff' : s.size - (k + 1) = f := by omega
      rw [hff] at hf
      unfold coreF at hf
      rw [getD_ba s k hlt1, show s.data.toList.length = s.size by simp, hm, getD_ba s _ hlt2] at hf
      by_cases hc : (s[k] ^^^ s[m] == 32) = true
      · rw [if_pos ⟨hlt, hc⟩] at hf
        rw [hc] at hcq
        have HQ := Lib.hid hcq
        have HF := Lib.hid hf
        have HFF := Lib.hid hff'
        have HM := Lib.hid hm'
        clear hf hff hff' hj hc hm hcq hm'
        go_wp2
        go_quiet ((go_at_call 52; exact HQ.out _))
        go_wp2
        go_roundw
        case rel => exact ⟨k + 1, n + nq, by omega, by go_num, by have := HM.out; go_num, by rw [HFF.out]; exact HF.out, by rw [HW.out, World.drewN_drewN]⟩
        case measure => simp [intOf]; omega
      · have hc' : (s[k] ^^^ s[m] == 32) = false := by simpa using hc
        rw [if_neg (by rw [hc']; simp)] at hf
        rw [hc'] at hcq
        have HQ := Lib.hid hcq
        have HE := Lib.hid hf
        have HM := Lib.hid hm'
        have hkm : k ≤ m + 1 := by omega
        clear hf hff hff' hc hc' hm hj hm' hcq
        go_wp2
        go_quiet ((go_at_call 52; exact HQ.out _))
        go_wp2
        generalize hq1 : nq = q1 at *
        clear hq1
        generalize hw2 : wr.drewN q1 = w2 at *
        have HW2 := Lib.hid hw2
        clear hw2
        go_quiet (fail)
        go_wp2
        go_ret2
        refine ⟨split_end s k (m + 1) HE.out.symm (by have := HM.out; omega), n + q1 + nq, by rw [← HW2.out, HW.out]; simp only [World.drewN_drewN, Nat.add_assoc]⟩
    · have he : coreN s.data.toList = k := by
        rw [← hf]
        cases s.size - k with
        | zero => rfl
        | succ f => unfold coreF; rw [if_neg (by simp; omega)]
      have HE := Lib.hid he
      clear he hf
      have hd : decide ((k : Int) < (s.size : Int) - 1 - ↑k) = false := by simp; omega
      go_wp2
      go_quiet (fail)
      go_wp2
      generalize hq1 : nq = q1 at *
      clear hq1
      generalize hw2 : wr.drewN q1 = w2 at *
      have HW2 := Lib.hid hw2
      clear hw2
      go_quiet (fail)
      go_wp2
      go_ret2
      refine ⟨?_, n + q1 + nq, by rw [← HW2.out, HW.out]; simp only [World.drewN_drewN, Nat.add_assoc]⟩
      show Ending.returned (Value.tuple #[Value.string (s.extract k ((s.size : Int) - 1 - ↑k + 1).toNat), Value.string (s.extract 0 k)]) = _
      rw [show ((s.size : Int) - 1 - ↑k + 1).toNat = s.size - k by omega]
      exact split_end s k (s.size - k) HE.out rfl
end Go.Proofs.YtflieikbhgneoaaGreatDoor
