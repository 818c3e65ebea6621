/-
  Our own text, in the proofs of the laws of package rope. Proved here: the lengths of a rope's nodes, as a function on lists. No condition.
-/
import Derived.Test.YtgklmcinbaghmaaGreatDoorRg
namespace Go.Proofs.YtgklmcinbaghmaaGreatDoor
open Go Go.RowKit

/-- The length of a node, by the lengths of the elder ones; none if it is no node, or too long. -/
def lenOf (L : List Nat) (x : Nd) : Option Nat :=
  if nodeB x L.length = true then
    (if x.word.data.toList = [] then
      (if x.t = 0 then (if ((L.getD x.l.toNat 0 : Nat) : Int) + ((L.getD x.r.toNat 0 : Nat) : Int) ≤ 1152921504606846976 then some (L.getD x.l.toNat 0 + L.getD x.r.toNat 0) else none)
      else (if x.t ≤ 1152921504606846976 / ((L.getD x.l.toNat 0 : Nat) : Int) then some (L.getD x.l.toNat 0 * x.t.toNat) else none))
    else some x.word.size)
  else none
def stepL (o : Option (List Nat)) (x : Nd) : Option (List Nat) := o.bind fun L => (lenOf L x).map fun n => L ++ [n]
def lensR (r : List Nd) : Option (List Nat) := r.foldl stepL (some [])
def lens (r : List Nd) : Option (List Nat) := if r.length ≤ 4000 then lensR r else none

theorem foldl_none (r : List Nd) : r.foldl stepL none = none := by
  induction r with
  | nil => rfl
  | cons x t ih => exact ih
theorem lensR_take (r : List Nd) (k : Nat) (h : k < r.length) : lensR (r.take (k + 1)) = stepL (lensR (r.take k)) r[k] := by
  unfold lensR
  rw [List.take_succ_eq_append_getElem h, List.foldl_append]; rfl
theorem lensR_none (r : List Nd) (k : Nat) (h : lensR (r.take k) = none) : lensR r = none := by
  have : r = r.take k ++ r.drop k := (List.take_append_drop k r).symm
  rw [this]
  unfold lensR at h ⊢
  rw [List.foldl_append, h, foldl_none]

/-- Each length is from 1 to 2^60. -/
def okL (L : List Nat) : Prop := ∀ n ∈ L, 1 ≤ n ∧ (n : Int) ≤ 1152921504606846976
theorem okL_get {L : List Nat} (h : okL L) {i : Nat} (hi : i < L.length) : 1 ≤ L.getD i 0 ∧ ((L.getD i 0 : Nat) : Int) ≤ 1152921504606846976 := by
  have e : L.getD i 0 = L[i] := by simp [List.getD, List.getElem?_eq_getElem hi]
  rw [e]; exact h _ (List.getElem_mem _)
theorem okL_le {L : List Nat} (h : okL L) (i : Nat) : ((L.getD i 0 : Nat) : Int) ≤ 1152921504606846976 := by
  by_cases hi : i < L.length
  · exact (okL_get h hi).2
  · have e : L.getD i 0 = 0 := by rw [List.getD, List.getElem?_eq_none (by omega)]; rfl
    rw [e]; omega

theorem belowB_iff {o a : Int} (h : belowB o a = true) : 0 ≤ o ∧ o < a := by simpa [belowB] using h
theorem nodeB_join {x : Nd} {k : Int} (h : nodeB x k = true) (hw : x.word.data.toList = []) (ht : x.t = 0) : (0 ≤ x.l ∧ x.l < k) ∧ (0 ≤ x.r ∧ x.r < k) := by
  simp only [nodeB, if_pos hw, if_pos ht, Bool.and_eq_true] at h
  exact ⟨belowB_iff h.1, belowB_iff h.2⟩
theorem nodeB_pow {x : Nd} {k : Int} (h : nodeB x k = true) (hw : x.word.data.toList = []) (ht : x.t ≠ 0) : (0 ≤ x.l ∧ x.l < k) ∧ 0 < x.t ∧ x.r = 0 := by
  simp only [nodeB, if_pos hw, if_neg ht, Bool.and_eq_true, decide_eq_true_eq] at h
  exact ⟨belowB_iff h.1.2, h.1.1, h.2⟩
theorem nodeB_leaf {x : Nd} {k : Int} (h : nodeB x k = true) (hw : x.word.data.toList ≠ []) : leafB x.word.data.toList = true ∧ x.l = 0 ∧ x.r = 0 ∧ x.t = 0 := by
  simp only [nodeB, if_neg hw, Bool.and_eq_true, decide_eq_true_eq] at h
  exact ⟨h.1.1.1, h.1.1.2, h.1.2, h.2⟩
theorem leafB_size {s : ByteArray} (h : leafB s.data.toList = true) : s.size ≤ 100 := by
  simp [leafB] at h; exact h.1
theorem size_pos {s : ByteArray} (h : s.data.toList ≠ []) : 1 ≤ s.size := by
  rcases Nat.eq_zero_or_pos s.size with h0 | h0
  · exact absurd (by have : s.data.toList.length = 0 := h0
                     exact List.length_eq_zero_iff.1 this) h
  · exact h0

theorem lenOf_ok {L : List Nat} (h : okL L) {x : Nd} {n : Nat} (hn : lenOf L x = some n) : 1 ≤ n ∧ (n : Int) ≤ 1152921504606846976 := by
  unfold lenOf at hn
  split at hn
  · rename_i hb
    split at hn
    · rename_i hw
      split at hn
      · rename_i ht
        obtain ⟨h1, h2⟩ := nodeB_join hb hw ht
        split at hn
        · have := okL_get h (i := x.l.toNat) (by omega)
          cases hn; omega
        · cases hn
      · rename_i ht
        obtain ⟨h1, h2, h3⟩ := nodeB_pow hb hw ht
        split at hn
        · rename_i hle
          have h4 := okL_get h (i := x.l.toNat) (by omega)
          cases hn
          have h5 : x.t * ((L.getD x.l.toNat 0 : Nat) : Int) ≤ 1152921504606846976 := Int.mul_le_of_le_ediv (by omega) hle
          have h6 : (((L.getD x.l.toNat 0 * x.t.toNat : Nat)) : Int) = x.t * ((L.getD x.l.toNat 0 : Nat) : Int) := by
            rw [Int.natCast_mul, Int.toNat_of_nonneg (by omega), Int.mul_comm]
          exact ⟨Nat.mul_pos h4.1 (by omega), by rw [h6]; exact h5⟩
        · cases hn
    · rename_i hw
      have h1 := leafB_size (nodeB_leaf hb hw).1
      have h2 := size_pos hw
      cases hn; omega
  · cases hn

theorem stepL_some {o : Option (List Nat)} {x : Nd} {M : List Nat} (h : stepL o x = some M) : ∃ L n, o = some L ∧ lenOf L x = some n ∧ M = L ++ [n] := by
  unfold stepL at h
  cases o with
  | none => cases h
  | some L =>
    simp only [Option.bind_some] at h
    cases hl : lenOf L x with
    | none => rw [hl] at h; cases h
    | some n => rw [hl] at h; cases h; exact ⟨L, n, rfl, hl, rfl⟩

theorem lensR_ok (r : List Nd) : ∀ k, k ≤ r.length → ∀ L, lensR (r.take k) = some L → L.length = k ∧ okL L := by
  intro k
  induction k with
  | zero => intro _ L hL; cases hL; exact ⟨rfl, fun n hn => by simp at hn⟩
  | succ k ih =>
    intro hk L hL
    rw [lensR_take r k (by omega)] at hL
    obtain ⟨M, n, hM, hn, rfl⟩ := stepL_some hL
    obtain ⟨h1, h2⟩ := ih (by omega) M hM
    refine ⟨by simp [h1], fun m hm => ?_⟩
    rcases List.mem_append.1 hm with hm | hm
    · exact h2 m hm
    · simp at hm; subst hm; exact lenOf_ok h2 hn
theorem lens_ok {r : List Nd} {L : List Nat} (h : lens r = some L) : L.length = r.length ∧ okL L ∧ r.length ≤ 4000 := by
  unfold lens at h
  split at h
  · rename_i hl
    have := lensR_ok r r.length (Nat.le_refl _) L (by rw [List.take_of_length_le (Nat.le_refl _)]; exact h)
    exact ⟨this.1, this.2, hl⟩
  · cases h

/-- What the map of lengths holds. -/
def memoL (L : List Nat) : Int → Option Value := fun j => if 0 ≤ j ∧ j < L.length then some (.int .i64 ((L.getD j.toNat 0 : Nat) : Int)) else none
theorem memoL_nil : memoL [] = fun _ => none := by
  funext j; unfold memoL; rw [if_neg (by simp)]
theorem memoL_put (L : List Nat) (n : Nat) : putF (memoL L) (L.length : Int) (.int .i64 (n : Int)) = memoL (L ++ [n]) := by
  funext j
  unfold putF memoL
  by_cases h : j = (L.length : Int)
  · subst h
    rw [if_pos rfl, if_pos (by simp; omega)]
    simp [List.getD]
  · rw [if_neg h]
    by_cases h2 : 0 ≤ j ∧ j < L.length
    · rw [if_pos h2, if_pos (by simp; omega)]
      have : j.toNat < L.length := by omega
      simp [List.getD, List.getElem?_append_left this]
    · rw [if_neg h2, if_neg (by simp; omega)]
theorem memoL_at {L : List Nat} {j : Int} (h : 0 ≤ j ∧ j < L.length) : memoL L j = some (.int .i64 ((L.getD j.toNat 0 : Nat) : Int)) := by
  unfold memoL; rw [if_pos h]
theorem memoL_out {L : List Nat} {j : Int} (h : ¬ (0 ≤ j ∧ j < L.length)) : memoL L j = none := by
  unfold memoL; rw [if_neg h]
end Go.Proofs.YtgklmcinbaghmaaGreatDoor
