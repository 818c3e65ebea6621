/-
  Our own text, in the proofs of the laws of package rope. Proved here: what RopePowers compares, as facts of lists. No condition.
-/
import Derived.Test.YtgklmcinbaghmaaDoorSa
namespace Go.Proofs.YtgklmcinbaghmaaDoor
open Go Go.RowKit

/-- The exponent without its sign, as the law has it. -/
def tmI (n : Int) : Int := if n = -9223372036854775808 then 9223372036854775807 else if n < 0 then -n else n
/-- Whether the law awaits that the power is too long. -/
def pwBig (s : Nat) (len : Nat) (n : Int) : Prop := (0 < s ∧ 1152921504606846976 / (s : Int) < tmI n) ∨ 4000 < len + 1

theorem lens_zero {r : List Nd} {L : List Nat} (h : lens r = some L) : lastN L = 0 ↔ r.length = 0 := by
  obtain ⟨k1, k2, k3⟩ := lens_ok h
  constructor
  · intro h0
    by_cases hz : r.length = 0
    · exact hz
    · have := (okL_get k2 (show L.length - 1 < L.length by omega)).1
      unfold lastN at h0; omega
  · intro h0
    have : L = [] := List.length_eq_zero_iff.1 (by omega)
    rw [this]; rfl

theorem pw_big {r : List Nd} {L : List Nat} (h : lens r = some L) (n : Int) (hn : -9223372036854775808 ≤ n ∧ n ≤ 9223372036854775807) (hb : pwBig (lastN L) r.length n) : powErr r n = 2 ∧ powRope r n = [] := by
  unfold powErr powRope
  rw [h]
  simp only
  by_cases h4 : 4000 < r.length + 1
  · rw [if_pos h4, if_pos (.inl h4)]; exact ⟨rfl, rfl⟩
  · rcases hb with ⟨hs, hq⟩ | hb
    · have hz : r.length ≠ 0 := fun hz => by have := (lens_zero h).2 hz; omega
      have h1 : 1152921504606846976 / (lastN L : Int) ≤ 1152921504606846976 := Int.ediv_le_self _ (by omega)
      have h0 : 0 ≤ 1152921504606846976 / (lastN L : Int) := Int.ediv_nonneg (by omega) (by omega)
      have hpb : powBig L n = true := by
        unfold powBig
        simp only [Bool.or_eq_true, decide_eq_true_eq]
        generalize 1152921504606846976 / (lastN L : Int) = q at *
        unfold tmI at hq
        split at hq
        · right; omega
        · split at hq
          · right; omega
          · left; omega
      have hn0 : n ≠ 0 := by
        intro h0'
        subst h0'
        have : tmI 0 = 0 := rfl
        omega
      rw [if_neg h4, if_neg (by omega), if_pos hpb, if_pos (.inr (.inr (.inr hpb)))]
      exact ⟨rfl, rfl⟩
    · exact absurd hb h4

theorem atB_in {r : List Nd} {L : List Nat} (h : lens r = some L) (i : Nat) (hi : i < lastN L) : atB r (i : Int) = letQ r (r.length - 1) i := (at_in h i hi).1

theorem inv_at {r : List Nd} {L : List Nat} (h : lens r = some L) (i : Nat) (hi : i < lastN L) : atB (r.map invN) (i : Int) = invc (atB r ((lastN L : Int) - 1 - (i : Int))) := by
  have hw := wordOf_len h
  have e : (lastN L : Int) - 1 - (i : Int) = ((lastN L - 1 - i : Nat) : Int) := by omega
  rw [e, atB_in (lens_inv h) i hi, atB_in h _ (by omega), List.length_map, letQ_inv r i (by omega), hw]

theorem invRope_some {r : List Nd} {L : List Nat} (h : lens r = some L) : invRope r = r.map invN := by unfold invRope; rw [h]

structure PwOk (r : List Nd) (L : List Nat) (n : Int) (R : List Nd) (K : List Nat) : Prop where
  lens : lens R = some K
  size : (lastN K : Int) = tmI n * (lastN L : Int)
  len : R.length ≤ r.length + 1
  zero : n = 0 → R.length = 0
  pos : 0 < lastN K → 0 < lastN L
  up : ¬ n < 0 → ∀ i : Nat, i < lastN K → atB R (i : Int) = atB r ((i : Int) % (lastN L : Int))
  down : n < 0 → ∀ i : Nat, i < lastN K → atB R (i : Int) = invc (atB r ((lastN L : Int) - 1 - (i : Int) % (lastN L : Int)))

theorem pw_ok {r : List Nd} {L : List Nat} (h : lens r = some L) (n : Int) (hn : -9223372036854775808 ≤ n ∧ n ≤ 9223372036854775807) (hb : ¬ pwBig (lastN L) r.length n) : powErr r n = 0 ∧ ∃ K, PwOk r L n (powRope r n) K := by
  obtain ⟨k1, k2, k3⟩ := lens_ok h
  have h4 : ¬ 4000 < r.length + 1 := fun h => hb (.inr h)
  unfold powErr powRope
  rw [h]
  simp only
  by_cases hz : r.length = 0 ∨ n = 0
  · rw [if_neg h4, if_pos hz, if_pos (by rcases hz with hz | hz; exact .inr (.inl hz); exact .inr (.inr (.inl hz)))]
    refine ⟨rfl, [], by rfl, ?_, by simp, fun _ => rfl, fun hp => by simp [lastN] at hp, fun _ i hi => by simp [lastN] at hi, fun _ i hi => by simp [lastN] at hi⟩
    rcases hz with hz | hz
    · rw [(lens_zero h).2 hz]; simp [lastN]
    · subst hz; simp [lastN, tmI]
  · have hz1 : r.length ≠ 0 := fun h => hz (.inl h)
    have hz2 : n ≠ 0 := fun h => hz (.inr h)
    have hs : 0 < lastN L := Nat.pos_of_ne_zero fun h0 => hz1 ((lens_zero h).1 h0)
    have hq : tmI n ≤ 1152921504606846976 / (lastN L : Int) := by
      rcases Int.lt_or_le (1152921504606846976 / (lastN L : Int)) (tmI n) with h' | h'
      · exact absurd (.inl ⟨hs, h'⟩) hb
      · exact h'
    have h1 : 1152921504606846976 / (lastN L : Int) ≤ 1152921504606846976 := Int.ediv_le_self _ (by omega)
    have htm : tmI n = if n < 0 then -n else n := by
      unfold tmI at hq ⊢
      split
      · rename_i hm; rw [if_pos hm] at hq; omega
      · rfl
    have hpb : powBig L n = false := by
      unfold powBig
      generalize 1152921504606846976 / (lastN L : Int) = q at *
      rw [htm] at hq
      simp only [Bool.or_eq_false_iff, decide_eq_false_iff_not]
      split at hq <;> omega
    rw [if_neg h4, if_neg hz, if_neg (by rw [hpb]; simp), if_neg (by rw [hpb]; simp; exact ⟨by omega, fun h => hz1 (by rw [h]; rfl), hz2⟩)]
    refine ⟨rfl, ?_⟩
    rw [← htm]
    have hm : 0 < tmI n := by rw [htm]; split <;> omega
    have hw := wordOf_len h
    by_cases hneg : n < 0
    · rw [if_pos hneg]
      have hl := lens_pow (lens_inv h) (by simp; omega) (tmI n) hm hq (by simp; omega)
      rw [List.length_map] at hl
      refine ⟨_, hl, ?_, by simp, fun h0 => absurd h0 hz2, fun _ => hs, fun h' => absurd hneg h', fun _ i hi => ?_⟩
      · rw [lastN_snoc]; push_cast; rw [Int.toNat_of_nonneg (by omega), Int.mul_comm]
      · rw [lastN_snoc] at hi
        have hmod : i % lastN L < lastN L := Nat.mod_lt _ hs
        have e1 : (lastN L : Int) - 1 - (i : Int) % (lastN L : Int) = (lastN L : Int) - 1 - ((i % lastN L : Nat) : Int) := by push_cast; rfl
        rw [e1, ← inv_at h _ hmod, atB_in hl i (by rw [lastN_snoc]; exact hi), atB_in (lens_inv h) _ hmod]
        have hp := letQ_pow (r.map invN) (by simp; omega) (tmI n) i hm (by rw [wordOf_inv, invW_length, hw, Nat.mul_comm]; exact hi)
        rw [wordOf_inv, invW_length, hw, List.length_map] at hp
        rw [List.length_append, List.length_map, List.length_singleton, Nat.add_sub_cancel]
        exact hp
    · rw [if_neg hneg]
      have hl := lens_pow h (by omega) (tmI n) hm hq (by omega)
      refine ⟨_, hl, ?_, by simp, fun h0 => absurd h0 hz2, fun _ => hs, fun _ i hi => ?_, fun h' => absurd h' hneg⟩
      · rw [lastN_snoc]; push_cast; rw [Int.toNat_of_nonneg (by omega), Int.mul_comm]
      · rw [lastN_snoc] at hi
        have hmod : i % lastN L < lastN L := Nat.mod_lt _ hs
        have e1 : (i : Int) % (lastN L : Int) = ((i % lastN L : Nat) : Int) := by push_cast; rfl
        rw [e1, atB_in h _ hmod, atB_in hl i (by rw [lastN_snoc]; exact hi)]
        have hp := letQ_pow r (by omega) (tmI n) i hm (by rw [hw, Nat.mul_comm]; exact hi)
        rw [hw] at hp
        rw [List.length_append, List.length_singleton, Nat.add_sub_cancel]
        exact hp
end Go.Proofs.YtgklmcinbaghmaaDoor
