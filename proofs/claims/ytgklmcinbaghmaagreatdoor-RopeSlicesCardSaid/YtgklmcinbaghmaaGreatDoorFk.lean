/-
  Our own text, in the proof of the law RopeSlices of package rope (cayleylaw02). Proved here: parts of a power: the end of a copy, whole ones, the beginning of one. No condition.
-/
import Derived.Test.YtgklmcinbaghmaaGreatDoorFj
namespace Go.Proofs.YtgklmcinbaghmaaGreatDoor
open Go Go.RowKit

theorem copies_add (x y : Nat) (u : List UInt8) : copies (x + y) u = copies x u ++ copies y u := by
  induction x with
  | zero => simp [copies]
  | succ x ih => rw [Nat.succ_add, copies_succ, copies_succ, ih, List.append_assoc]
theorem copies_zero (u : List UInt8) : copies 0 u = [] := rfl

theorem cut_shift (t q : Nat) (u : List UInt8) (hq : q ≤ t) (i j : Nat) (hi : q * u.length ≤ i) (hij : i ≤ j) : cutW (copies t u) i j = cutW (copies (t - q) u) (i - q * u.length) (j - q * u.length) := by
  have e : copies t u = copies q u ++ copies (t - q) u := by rw [← copies_add]; congr 1; omega
  rw [e, cutW_right _ _ _ _ (by rw [copies_len]; exact hi) hij, copies_len]

theorem div_lt_of {i j t n : Nat} (hij : i < j) (hj : j ≤ t * n) : i / n < t := by
  rw [Nat.div_lt_iff_lt_mul (by
    rcases Nat.eq_zero_or_pos n with h | h
    · subst h; simp at hj; omega
    · exact h)]
  omega

theorem cut_single {t : Nat} {u : List UInt8} {i j : Nat} (hij : i < j) (hj : j ≤ t * u.length) (h : j - i / u.length * u.length ≤ u.length) : cutW (copies t u) i j = cutW u (i - i / u.length * u.length) (j - i / u.length * u.length) := by
  have h1 := div_lt_of hij hj
  have h2 : i / u.length * u.length ≤ i := Nat.div_mul_le_self _ _
  rw [cut_shift t (i / u.length) u (by omega) i j h2 (by omega)]
  have e : copies (t - i / u.length) u = u ++ copies (t - i / u.length - 1) u := by
    have : t - i / u.length = (t - i / u.length - 1) + 1 := by omega
    rw [this, copies_succ]; rfl
  rw [e, cutW_left _ _ _ _ h]

/-- The beginning of a power. -/
theorem cut_prefix {m : Nat} {u : List UInt8} {J : Nat} (hu : 1 ≤ u.length) (hJ : J ≤ m * u.length) : cutW (copies m u) 0 J = copies (J / u.length) u ++ (if 0 < J % u.length then cutW u 0 (J % u.length) else []) := by
  have hdm := Nat.div_add_mod J u.length
  have hq : J / u.length ≤ m := by
    rw [Nat.div_le_iff_le_mul_add_pred hu]
    rw [Nat.mul_comm] at hJ
    omega
  have e : copies m u = copies (J / u.length) u ++ copies (m - J / u.length) u := by rw [← copies_add]; congr 1; omega
  have hl : (copies (J / u.length) u).length = J / u.length * u.length := copies_len _ _
  have hle : J / u.length * u.length ≤ J := Nat.div_mul_le_self _ _
  have hmod : J - J / u.length * u.length = J % u.length := by rw [Nat.mul_comm] at hle ⊢; omega
  rw [e, cutW_both _ _ _ _ (Nat.zero_le _) (by rw [hl]; exact hle), cutW_all, hl, hmod]
  congr 1
  by_cases h0 : 0 < J % u.length
  · rw [if_pos h0]
    have hlt : J / u.length < m := by
      rcases Nat.lt_or_ge (J / u.length) m with h | h
      · exact h
      · have h1 : m * u.length ≤ J / u.length * u.length := Nat.mul_le_mul_right _ h
        omega
    have e2 : copies (m - J / u.length) u = u ++ copies (m - J / u.length - 1) u := by
      have : m - J / u.length = (m - J / u.length - 1) + 1 := by omega
      rw [this, copies_succ]; rfl
    rw [e2, cutW_left _ _ _ _ (by have := Nat.mod_lt J hu; omega)]
  · rw [if_neg h0, show J % u.length = 0 by omega]
    simp [cutW]

theorem cut_parts {t : Nat} {u : List UInt8} {i j : Nat} (hu : 1 ≤ u.length) (hij : i < j) (hj : j ≤ t * u.length) (h : u.length < j - i / u.length * u.length) :
    cutW (copies t u) i j = (if 0 < i % u.length then cutW u (i % u.length) u.length else []) ++ copies (j / u.length - (i + u.length - 1) / u.length) u ++ (if 0 < j % u.length then cutW u 0 (j % u.length) else []) ∧ (i + u.length - 1) / u.length ≤ j / u.length := by
  have h1 := div_lt_of hij hj
  have h2 : i / u.length * u.length ≤ i := Nat.div_mul_le_self _ _
  have hmi : i - i / u.length * u.length = i % u.length := by have := Nat.div_add_mod i u.length; rw [Nat.mul_comm] at this; omega
  have hil := Nat.mod_lt i hu
  rw [cut_shift t (i / u.length) u (by omega) i j h2 (by omega), hmi]
  have hdiv : ∀ q, q * u.length ≤ j → (j - q * u.length) / u.length = j / u.length - q ∧ (j - q * u.length) % u.length = j % u.length := by
    intro q hq
    constructor
    · rw [Nat.mul_comm q u.length]
      first
        | exact Nat.sub_mul_div_of_le j u.length q (by rw [Nat.mul_comm]; exact hq)
        | (rw [Nat.mul_comm u.length q]; exact Nat.sub_mul_div_of_le j u.length q (by rw [Nat.mul_comm]; exact hq))
    · rw [Nat.mul_comm q u.length]
      exact Nat.sub_mul_mod (by rw [Nat.mul_comm]; exact hq)
  by_cases h0 : 0 < i % u.length
  · have hc : (i + u.length - 1) / u.length = i / u.length + 1 := by
      have e : i + u.length - 1 = (i % u.length - 1) + u.length * (i / u.length + 1) := by
        have := Nat.div_add_mod i u.length
        rw [Nat.mul_add, Nat.mul_one]
        omega
      rw [e, Nat.add_mul_div_left _ _ hu, Nat.div_eq_of_lt (by omega), Nat.zero_add]
    have hle : (i / u.length + 1) * u.length ≤ j := by rw [Nat.add_mul, Nat.one_mul]; omega
    obtain ⟨d1, d2⟩ := hdiv _ hle
    have e2 : copies (t - i / u.length) u = u ++ copies (t - i / u.length - 1) u := by
      have : t - i / u.length = (t - i / u.length - 1) + 1 := by omega
      rw [this, copies_succ]; rfl
    rw [e2, cutW_both _ _ _ _ (by omega) (by omega), if_pos h0, hc]
    have e3 : j - i / u.length * u.length - u.length = j - (i / u.length + 1) * u.length := by rw [Nat.add_mul, Nat.one_mul]; omega
    rw [e3, cut_prefix hu ?_, d1, d2, List.append_assoc]
    · refine ⟨rfl, ?_⟩
      rw [Nat.le_div_iff_mul_le hu]; exact hle
    · have : (t - i / u.length - 1) * u.length = t * u.length - (i / u.length + 1) * u.length := by rw [Nat.sub_sub, Nat.sub_mul]
      rw [this]; omega
  · have h00 : i % u.length = 0 := by omega
    have hc : (i + u.length - 1) / u.length = i / u.length := by
      have e : i + u.length - 1 = (u.length - 1) + u.length * (i / u.length) := by
        have := Nat.div_add_mod i u.length
        omega
      rw [e, Nat.add_mul_div_left _ _ hu, Nat.div_eq_of_lt (by omega), Nat.zero_add]
    have hle : i / u.length * u.length ≤ j := by omega
    obtain ⟨d1, d2⟩ := hdiv _ hle
    rw [if_neg h0, h00, hc, cut_prefix hu ?_, d1, d2, List.nil_append]
    · refine ⟨rfl, ?_⟩
      rw [Nat.le_div_iff_mul_le hu]; exact hle
    · rw [Nat.sub_mul]; omega
end Go.Proofs.YtgklmcinbaghmaaGreatDoor
