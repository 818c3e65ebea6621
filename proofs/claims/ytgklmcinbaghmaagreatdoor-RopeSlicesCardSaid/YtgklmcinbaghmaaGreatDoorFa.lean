/-
  Our own text, in the proof of the law RopeSlices of package rope (cayleylaw02). Proved here: ropes that grow by a node: a leaf, a join, a power; their lengths and words. No condition.
-/
import Derived.Test.YtgklmcinbaghmaaGreatDoorEc
namespace Go.Proofs.YtgklmcinbaghmaaGreatDoor
open Go Go.RowKit

theorem lens_of_R {o : List Nd} {M : List Nat} (h : lensR o = some M) (hl : o.length ≤ 4000) : lens o = some M := by unfold lens; rw [if_pos hl]; exact h
theorem R_of_lens {o : List Nd} {M : List Nat} (h : lens o = some M) : lensR o = some M := by
  unfold lens at h
  split at h
  · exact h
  · cases h

/-- A valid rope whose node idx has the word u. -/
def Has (o : List Nd) (idx : Nat) (u : List UInt8) : Prop := idx < o.length ∧ (dens o).getD idx [] = u
theorem lensS (r : List Nd) (x : Nd) : lensR (r ++ [x]) = stepL (lensR r) x := by unfold lensR; rw [List.foldl_append]; rfl
theorem densS (r : List Nd) (x : Nd) : (dens (r ++ [x])).getD r.length [] = denOf (dens r) x := by
  rw [dens_append]
  have := dens_len r
  simp [List.getD, List.getElem?_append_right (show (dens r).length ≤ r.length by omega), this]
theorem Has.more {o : List Nd} {idx : Nat} {u : List UInt8} (h : Has o idx u) (t : List Nd) : Has (o ++ t) idx u := by
  refine ⟨by simp; have := h.1; omega, ?_⟩
  have := dens_pre (o ++ t) o.length idx h.1 (by simp)
  rw [this, List.take_left' rfl]
  exact h.2
theorem Has.len {o : List Nd} {M : List Nat} (hM : lens o = some M) {idx : Nat} {u : List UInt8} (h : Has o idx u) : M.getD idx 0 = u.length := by
  rw [← dens_lens hM idx h.1, h.2]

/-- One node more: still valid, and what its word is. -/
structure Grown (o : List Nd) (x : Nd) (u : List UInt8) : Prop where
  valid : ∃ M, lens (o ++ [x]) = some M
  has : Has (o ++ [x]) o.length u

theorem grown_of {o : List Nd} {M : List Nat} (hM : lens o = some M) {x : Nd} {n : Nat} (hl : o.length + 1 ≤ 4000) (hn : lenOf M x = some n) (u : List UInt8) (hu : denOf (dens o) x = u) : Grown o x u := by
  refine ⟨⟨M ++ [n], ?_⟩, ⟨by simp, by rw [densS]; exact hu⟩⟩
  refine lens_of_R ?_ (by simp; omega)
  rw [lensS, R_of_lens hM]
  simp [stepL, hn]

theorem grown_leaf {o : List Nd} {M : List Nat} (hM : lens o = some M) (hl : o.length + 1 ≤ 4000) (s : ByteArray) (hs : leafB s.data.toList = true) (h0 : s.data.toList ≠ []) : Grown o ⟨s, 0, 0, 0⟩ s.data.toList := by
  refine grown_of hM hl (n := s.size) (lenOf_leaf ?_ h0) _ ?_
  · unfold nodeB
    rw [if_neg h0]
    simp [hs]
  · unfold denOf
    rw [if_neg h0]

theorem grown_join {o : List Nd} {M : List Nat} (hM : lens o = some M) (hl : o.length + 1 ≤ 4000) {i j : Nat} {u v : List UInt8} (hi : Has o i u) (hj : Has o j v) (hb : (u.length : Int) + v.length ≤ 1152921504606846976) :
    Grown o ⟨⟨#[]⟩, (i : Int), (j : Int), 0⟩ (u ++ v) := by
  have hML := (lens_ok hM).1
  have e1 := hi.len hM
  have e2 := hj.len hM
  have b1 := hi.1
  have b2 := hj.1
  refine grown_of hM hl (n := u.length + v.length) ?_ _ ?_
  · rw [lenOf_join (x := ⟨⟨#[]⟩, (i : Int), (j : Int), 0⟩) ?_ rfl rfl]
    · show (if ((M.getD ((i : Int).toNat) 0 : Nat) : Int) + ((M.getD ((j : Int).toNat) 0 : Nat) : Int) ≤ 1152921504606846976 then some (M.getD ((i : Int).toNat) 0 + M.getD ((j : Int).toNat) 0) else none) = _
      rw [Int.toNat_natCast, Int.toNat_natCast, e1, e2, if_pos hb]
    · unfold nodeB
      simp only [if_true]
      simp [belowB]
      omega
  · unfold denOf
    simp only [if_true]
    rw [Int.toNat_natCast, Int.toNat_natCast, hi.2, hj.2]

theorem grown_pow {o : List Nd} {M : List Nat} (hM : lens o = some M) (hl : o.length + 1 ≤ 4000) {i t : Nat} {u : List UInt8} (hi : Has o i u) (ht : 1 ≤ t) (hu : 1 ≤ u.length) (hb : (t : Int) * u.length ≤ 1152921504606846976) :
    Grown o ⟨⟨#[]⟩, (i : Int), 0, (t : Int)⟩ (copies t u) := by
  have hML := (lens_ok hM).1
  have e1 := hi.len hM
  have b1 := hi.1
  have ht0 : ¬ (t : Int) = 0 := by omega
  have hdiv : (t : Int) ≤ 1152921504606846976 / (u.length : Int) := Int.le_ediv_of_mul_le (by omega) hb
  refine grown_of hM hl (n := u.length * t) ?_ _ ?_
  · rw [lenOf_pow (x := ⟨⟨#[]⟩, (i : Int), 0, (t : Int)⟩) ?_ rfl ht0]
    · show (if (t : Int) ≤ 1152921504606846976 / ((M.getD ((i : Int).toNat) 0 : Nat) : Int) then some (M.getD ((i : Int).toNat) 0 * (t : Int).toNat) else none) = _
      rw [Int.toNat_natCast, Int.toNat_natCast, e1, if_pos hdiv]
    · unfold nodeB
      simp only [if_true, if_neg ht0]
      simp [belowB]
      omega
  · unfold denOf
    simp only [if_true, if_neg ht0]
    rw [Int.toNat_natCast, Int.toNat_natCast, hi.2]

/-- The letters from i to j - 1. -/
def cutW (u : List UInt8) (i j : Nat) : List UInt8 := (u.drop i).take (j - i)
theorem cutW_all (u : List UInt8) : cutW u 0 u.length = u := by simp [cutW]
theorem cutW_len (u : List UInt8) (i j : Nat) (hij : i ≤ j) (hj : j ≤ u.length) : (cutW u i j).length = j - i := by simp [cutW]; omega
theorem cutW_left (u v : List UInt8) (i j : Nat) (hj : j ≤ u.length) : cutW (u ++ v) i j = cutW u i j := by
  unfold cutW
  by_cases hi : i ≤ u.length
  · rw [List.drop_append_of_le_length hi, List.take_append_of_le_length (by simp; omega)]
  · rw [show j - i = 0 by omega, List.take_zero, List.take_zero]
theorem cutW_right (u v : List UInt8) (i j : Nat) (hi : u.length ≤ i) (hij : i ≤ j) : cutW (u ++ v) i j = cutW v (i - u.length) (j - u.length) := by
  unfold cutW
  rw [List.drop_append, List.drop_of_length_le hi, List.nil_append, show j - u.length - (i - u.length) = j - i by omega]
theorem cutW_both (u v : List UInt8) (i j : Nat) (hi : i ≤ u.length) (hj : u.length ≤ j) : cutW (u ++ v) i j = cutW u i u.length ++ cutW v 0 (j - u.length) := by
  unfold cutW
  rw [List.drop_append_of_le_length hi, List.take_append, List.drop_zero]
  congr 1
  · rw [List.take_of_length_le (by simp; omega), List.take_of_length_le (by simp)]
  · congr 1; simp; omega
end Go.Proofs.YtgklmcinbaghmaaGreatDoor
