/-
  Our own text, in the proof of the law RopeChecks of package rope (cayleylaw02). Proved here: exponent sums of words, as lists of eight numbers. No condition.
-/
import Derived.Test.YtgklmcinbaghmaaGreatDoorRz
namespace Go.Proofs.YtgklmcinbaghmaaGreatDoor
open Go Go.RowKit

/-- What a letter adds to the sum of the g-th generator. -/
def incI (g : Nat) (c : UInt8) : Int := if idx c = 2 * (g : Int) then 1 else if idx c = 2 * (g : Int) + 1 then -1 else 0
def sumG (g : Nat) : List UInt8 → Int
  | [] => 0
  | c :: l => incI g c + sumG g l
theorem sumG_append (g : Nat) (l m : List UInt8) : sumG g (l ++ m) = sumG g l + sumG g m := by
  induction l with
  | nil => simp [sumG]
  | cons c l ih => simp only [List.cons_append, sumG, ih]; omega
theorem sumG_copies (g n : Nat) (l : List UInt8) : sumG g (copies n l) = (n : Int) * sumG g l := by
  induction n with
  | zero => simp [copies, sumG]
  | succ n ih => rw [copies_succ, sumG_append, ih, Int.natCast_add, Int.add_mul]; simp; omega
theorem incI_bound (g : Nat) (c : UInt8) : -1 ≤ incI g c ∧ incI g c ≤ 1 := by
  unfold incI; split
  · omega
  · split <;> omega
theorem sumG_bound (g : Nat) (l : List UInt8) : -(l.length : Int) ≤ sumG g l ∧ sumG g l ≤ (l.length : Int) := by
  induction l with
  | nil => simp [sumG]
  | cons c l ih => have := incI_bound g c; simp only [sumG, List.length_cons]; omega

/-- The exponent sums of a word. -/
def sumW (l : List UInt8) : List Int := (List.range 8).map fun g => sumG g l
theorem sumW_len (l : List UInt8) : (sumW l).length = 8 := by simp [sumW]
theorem sumW_get (l : List UInt8) (g : Nat) (h : g < 8) : (sumW l).getD g 0 = sumG g l := by
  simp [sumW, List.getD, h]
theorem sumW_nil : sumW [] = [0, 0, 0, 0, 0, 0, 0, 0] := rfl
def addS (S T : List Int) : List Int := List.zipWith (· + ·) S T
theorem sumW_append (l m : List UInt8) : sumW (l ++ m) = addS (sumW l) (sumW m) := by
  unfold sumW addS
  simp only [sumG_append]
  rfl
def mulS (S : List Int) (n : Int) : List Int := S.map (· * n)
theorem sumW_copies (n : Nat) (l : List UInt8) : sumW (copies n l) = mulS (sumW l) (n : Int) := by
  unfold sumW mulS
  rw [List.map_map]
  congr 1
  funext g
  simp only [sumG_copies, Function.comp]
  exact Int.mul_comm _ _

theorem eight {S : List Int} (h : S.length = 8) : ∃ a0 a1 a2 a3 a4 a5 a6 a7, S = [a0, a1, a2, a3, a4, a5, a6, a7] := by
  match S, h with
  | [a0, a1, a2, a3, a4, a5, a6, a7], _ => exact ⟨a0, a1, a2, a3, a4, a5, a6, a7, rfl⟩

/-- A letter more. -/
theorem sumW_snoc (l : List UInt8) (c : UInt8) (j : Nat) (d : Int) (hj : j < 8) (hd : d = 0 ∨ d = 1) (hc : idx c = 2 * (j : Int) + d) :
    sumW (l ++ [c]) = (sumW l).set j (sumG j l + (1 - 2 * d)) := by
  apply List.ext_getElem
  · simp [sumW]
  · intro g h1 h2
    simp only [sumW_len] at h1
    have e1 : (sumW (l ++ [c]))[g] = sumG g (l ++ [c]) := by simp [sumW]
    have e2 : ((sumW l).set j (sumG j l + (1 - 2 * d)))[g] = if j = g then sumG j l + (1 - 2 * d) else sumG g l := by
      rw [List.getElem_set]
      simp [sumW]
    refine Eq.trans e1 (Eq.trans ?_ e2.symm)
    rw [sumG_append]
    simp only [sumG]
    unfold incI
    rw [hc]
    by_cases hg : j = g
    · subst hg
      rw [if_pos rfl]
      rcases hd with rfl | rfl
      · rw [if_pos (by omega)]; omega
      · rw [if_neg (by omega), if_pos rfl]; omega
    · rw [if_neg hg, if_neg (by rcases hd with rfl | rfl <;> omega), if_neg (by rcases hd with rfl | rfl <;> omega)]
      omega

theorem letter_split (c : UInt8) (h : letterB 8 c = true) : ∃ (j : Nat) (d : Int), j < 8 ∧ (d = 0 ∨ d = 1) ∧ idx c = 2 * (j : Int) + d ∧ idx c / 2 = (j : Int) ∧ idx c % 2 = d := by
  unfold letterB at h
  rw [Bool.and_eq_true, decide_eq_true_eq, decide_eq_true_eq] at h
  refine ⟨(idx c / 2).toNat, idx c % 2, by omega, by omega, by omega, by omega, rfl⟩

/-- The sums of a node of a valid rope: what it is. -/
def nodeS (r : List Nd) (k : Nat) : List Int := sumW ((dens r).getD k [])
theorem nodeS_len (r : List Nd) (k : Nat) : (nodeS r k).length = 8 := sumW_len _
theorem nodeS_bound {r : List Nd} {L : List Nat} (h : lens r = some L) (k : Nat) (hk : k < r.length) : ∀ x ∈ nodeS r k, -1152921504606846976 ≤ x ∧ x ≤ 1152921504606846976 := by
  intro x hx
  obtain ⟨g, _, rfl⟩ := List.mem_map.1 hx
  have h1 := sumG_bound g ((dens r).getD k [])
  have h2 := dens_lens h k hk
  have h3 := okL_le (lens_ok h).2.1 k
  rw [h2] at h1
  omega
end Go.Proofs.YtgklmcinbaghmaaGreatDoor
