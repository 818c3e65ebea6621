/-
  Our own text, in the proofs of the laws of package rope. Proved here: Concat in one contract, and what RopeConcats compares, as facts of lists. Conditions: the nodes lie in memory as the slices say; the listed table lies as the program lays it.
-/
import Derived.Test.YtgklmcinbaghmaaGreatDoorCf
namespace Go.Proofs.YtgklmcinbaghmaaGreatDoor
open Go Go.RowKit

/-- Whether a concatenation is too long. -/
def catBig (L M : List Nat) (n m : Nat) : Prop := 4000 < n + m + 1 ∨ 1152921504606846976 < (lastN L : Int) + (lastN M : Int)
instance (L M : List Nat) (n m : Nat) : Decidable (catBig L M n m) := inferInstanceAs (Decidable (_ ∨ _))
/-- What Concat returns. -/
def catRope (a b : List Nd) : List Nd :=
  match lens a, lens b with
  | some L, some M => if catBig L M a.length b.length then [] else if a.length = 0 ∨ b.length = 0 then a ++ b else catR a b
  | _, _ => []
def catErr (a b : List Nd) : Int :=
  match lens a, lens b with
  | some L, some M => if catBig L M a.length b.length then 2 else 0
  | _, _ => 20

theorem Concat_any (A B : Option Addr) (a b : List Nd) (cap capb : Nat) (w : World) (ht : Tabs w) (hr : RopeAt w A a) (hr' : RopeAt w B b) (hA : A = none → a = [] ∧ cap = 0) (hB : B = none → b = [] ∧ capb = 0) (hm : a.length ≤ maxLen) (hm' : b.length ≤ maxLen) :
    Calls Tryz.prog 22 #[.slice A a.length cap, .slice B b.length capb] w (RopeP w (catRope a b) (catErr a b)) := by
  cases hl : lens a with
  | none =>
    have e : catRope a b = [] ∧ catErr a b = 20 := by unfold catRope catErr; rw [hl]; exact ⟨rfl, rfl⟩
    rw [e.1, e.2]
    exact Concat_noA A B a b cap capb w ht hr hr' hm hl
  | some L =>
    cases hl' : lens b with
    | none =>
      have e : catRope a b = [] ∧ catErr a b = 20 := by unfold catRope catErr; rw [hl, hl']; exact ⟨rfl, rfl⟩
      rw [e.1, e.2]
      exact Concat_noB A B a b cap capb L w ht hr hr' hm hm' hl hl'
    | some M =>
      by_cases hb : catBig L M a.length b.length
      · have e : catRope a b = [] ∧ catErr a b = 2 := by unfold catRope catErr; rw [hl, hl']; simp only [if_pos hb]; exact ⟨trivial, trivial⟩
        rw [e.1, e.2]
        by_cases h4 : 4000 < a.length + b.length + 1
        · exact Concat_many A B a b cap capb L M hl hl' w ht hr hr' h4
        · exact Concat_long A B a b cap capb L M hl hl' w ht hr hr' (by omega) (by rcases hb with h | h; exact absurd h h4; exact h)
      · have h4 : a.length + b.length + 1 ≤ 4000 := by
          rcases Nat.lt_or_ge 4000 (a.length + b.length + 1) with h | h
          · exact absurd (.inl h) hb
          · exact h
        have hs : (lastN L : Int) + (lastN M : Int) ≤ 1152921504606846976 := by
          rcases Int.lt_or_le 1152921504606846976 ((lastN L : Int) + (lastN M : Int)) with h | h
          · exact absurd (.inr h) hb
          · exact h
        by_cases he : a.length = 0 ∨ b.length = 0
        · have e : catRope a b = a ++ b ∧ catErr a b = 0 := by unfold catRope catErr; rw [hl, hl']; simp only [if_neg hb, if_pos he]; exact ⟨trivial, trivial⟩
          rw [e.1, e.2]
          exact Concat_empty A B a b cap capb L M hl hl' w ht hr hr' hA hB h4 hs he
        · have e : catRope a b = catR a b ∧ catErr a b = 0 := by unfold catRope catErr; rw [hl, hl']; simp only [if_neg hb, if_neg he]; exact ⟨trivial, trivial⟩
          rw [e.1, e.2]
          exact Concat_main A B a b cap capb L M hl hl' w ht hr hr' (fun h => (hA h).1) (by omega) (by omega) h4 hs

theorem atB_word {r : List Nd} {L : List Nat} (h : lens r = some L) (i : Nat) (hi : i < lastN L) : atB r (i : Int) = (wordOf r).getD i 0 := by
  rw [(at_in h i hi).1]; rfl
theorem lens_zero' {r : List Nd} {L : List Nat} (h : lens r = some L) : lastN L = 0 ↔ r.length = 0 := by
  obtain ⟨k1, k2, k3⟩ := lens_ok h
  constructor
  · intro h0
    by_cases hz : r.length = 0
    · exact hz
    · have := (okL_get k2 (show L.length - 1 < L.length by omega)).1
      unfold lastN at h0; omega
  · intro h0
    have : L = [] := List.length_eq_zero_iff.1 (by omega)
    rw [this]; rfl

/-- What RopeConcats compares. -/
structure CatOk (a b : List Nd) (L M : List Nat) (R : List Nd) (K : List Nat) : Prop where
  lens : lens R = some K
  size : lastN K = lastN L + lastN M
  len : R.length ≤ a.length + b.length + 1
  left : ∀ i : Nat, i < lastN L → atB R (i : Int) = atB a (i : Int)
  right : ∀ i : Nat, lastN L ≤ i → i < lastN K → atB R (i : Int) = atB b ((i : Int) - (lastN L : Int))

theorem cat_ok {a b : List Nd} {L M : List Nat} (hl : lens a = some L) (hl' : lens b = some M) (hb : ¬ catBig L M a.length b.length) : ∃ K, CatOk a b L M (catRope a b) K := by
  have h4 : a.length + b.length + 1 ≤ 4000 := by
    rcases Nat.lt_or_ge 4000 (a.length + b.length + 1) with h | h
    · exact absurd (.inl h) hb
    · exact h
  have hs : (lastN L : Int) + (lastN M : Int) ≤ 1152921504606846976 := by
    rcases Int.lt_or_le 1152921504606846976 ((lastN L : Int) + (lastN M : Int)) with h | h
    · exact absurd (.inr h) hb
    · exact h
  have z1 := lens_zero' hl
  have z2 := lens_zero' hl'
  by_cases he : a.length = 0 ∨ b.length = 0
  · have e : catRope a b = a ++ b := by unfold catRope; rw [hl, hl']; simp only [if_neg hb, if_pos he]
    rw [e]
    rcases he with he | he
    · have h0 := z1.2 he
      obtain rfl := List.length_eq_zero_iff.1 he
      exact ⟨M, by simpa using hl', by omega, by simp, fun i hi => by omega, fun i _ hi => by simp [h0]⟩
    · have h0 := z2.2 he
      obtain rfl := List.length_eq_zero_iff.1 he
      exact ⟨L, by simpa using hl, by omega, by simp, fun i hi => by simp, fun i h1 hi => by omega⟩
  · have e : catRope a b = catR a b := by unfold catRope; rw [hl, hl']; simp only [if_neg hb, if_neg he]
    rw [e]
    obtain ⟨h1, h2⟩ := lens_cat hl hl' (by omega) (by omega) h4 hs
    have hwa := wordOf_len hl
    have hwb := wordOf_len hl'
    have hK : lastN (L ++ M ++ [lastN L + lastN M]) = lastN L + lastN M := lastN_snoc _ _
    refine ⟨_, h1, hK, by rw [cat_len]; exact Nat.le_refl _, fun i hi => ?_, fun i hi1 hi2 => ?_⟩
    · rw [atB_word h1 i (by rw [hK]; omega), atB_word hl i hi, h2, app_getL _ _ _ (by omega)]
    · rw [hK] at hi2
      have e1 : (i : Int) - (lastN L : Int) = ((i - lastN L : Nat) : Int) := by omega
      rw [e1, atB_word h1 i (by rw [hK]; omega), atB_word hl' _ (by omega), h2, app_getR _ _ _ (by omega), hwa]
end Go.Proofs.YtgklmcinbaghmaaGreatDoor
