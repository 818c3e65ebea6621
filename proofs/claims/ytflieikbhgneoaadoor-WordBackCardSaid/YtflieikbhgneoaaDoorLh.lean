/-
  Our own text, in the proofs of the laws of package word (cayleylaw01). Proved here: the period that Root takes, on lists of bytes: a list is the power of its first period, and a power of a list without a smaller period has that list's length as its period. Conditions: the lists are not empty.
-/
import Derived.Test.YtflieikbhgneoaaDoorLc
import Derived.Test.YtflieikbhgneoaaDoorWq
namespace Go.Proofs.YtflieikbhgneoaaDoor

/-- Cyclic reading. -/
def cyc (l : List UInt8) (p : Nat) : UInt8 := l.getD (p % l.length) 0
theorem cyc_lt {l : List UInt8} {p : Nat} (h : p < l.length) : cyc l p = l.getD p 0 := by unfold cyc; rw [Nat.mod_eq_of_lt h]
/-- k is a period of the cyclic row. -/
def Per (l : List UInt8) (k : Nat) : Prop := ∀ p, cyc l (p + k) = cyc l p
theorem per_len (l : List UInt8) : Per l l.length := fun p => by unfold cyc; rw [Nat.add_mod_right]
theorem Per.mul {l : List UInt8} {k : Nat} (h : Per l k) : ∀ m p, cyc l (p + m * k) = cyc l p
  | 0, p => by simp
  | m + 1, p => by rw [Nat.succ_mul, ← Nat.add_assoc, h, h.mul m p]
theorem Per.modL {l : List UInt8} {k q : Nat} (h : Per l k) (g : Per l q) : Per l (k % q) := fun p => by
  have h1 := g.mul (k / q) (p + k % q)
  have h2 := Nat.mod_add_div k q
  have h3 : q * (k / q) = k / q * q := Nat.mul_comm _ _
  rw [← h1, show p + k % q + k / q * q = p + k by omega]
  exact h p
theorem Per.zero (l : List UInt8) : Per l 0 := fun _ => rfl
theorem Per.gcd {l : List UInt8} : ∀ {k q : Nat}, Per l k → Per l q → Per l (Nat.gcd k q) := by
  intro k
  induction k using Nat.strongRecOn with
  | ind k ih =>
    intro q h g
    by_cases hk : k = 0
    · subst hk; simpa using g
    · rw [Nat.gcd_rec]
      exact ih (q % k) (Nat.mod_lt _ (by omega)) (g.modL h) h

theorem rotL_K (l : List UInt8) (k : Nat) : rotL l k = rotK l (l.length - k) := rfl
theorem rot_per {l : List UInt8} {k : Nat} (hk : k ≤ l.length) : rotL l k = l ↔ Per l k := by
  rw [rotL_K]
  constructor
  · intro h p
    by_cases hn : l.length = 0
    · have : k = 0 := by omega
      subst this; rfl
    · have hm := Nat.mod_lt (p + k) (show 0 < l.length by omega)
      have e := rotK_getD l (l.length - k) ((p + k) % l.length) (by omega) hm
      rw [h] at e
      show l.getD ((p + k) % l.length) 0 = l.getD (p % l.length) 0
      rw [e, Nat.add_mod_mod, show l.length - k + (p + k) = p + l.length by omega, Nat.add_mod_right]
  · intro h
    apply ext_getD (rotK_len _ _)
    intro t ht
    rw [rotK_len] at ht
    rw [rotK_getD l _ t (by omega) ht]
    have := h (l.length - k + t)
    rw [show l.length - k + t + k = t + l.length by omega] at this
    rw [per_len l t] at this
    rw [cyc_lt ht] at this
    rw [this]; rfl

/-- What perN is. -/
structure IsPer (l : List UInt8) (k : Nat) : Prop where
  pos : 1 ≤ k
  le : k ≤ l.length
  dvd : l.length % k = 0
  per : Per l k
theorem perP_iff {l : List UInt8} {k : Nat} (h1 : 1 ≤ k) (h2 : k ≤ l.length) : perP l k = true ↔ IsPer l k := by
  unfold perP
  simp only [Bool.and_eq_true, decide_eq_true_eq, beq_iff_eq]
  rw [rot_per h2]
  exact ⟨fun h => ⟨h1, h2, h.1, h.2⟩, fun h => ⟨h.dvd, h.per⟩⟩
theorem perN_is {l : List UInt8} (hl : l ≠ []) : IsPer l (perN l) ∧ ∀ k, IsPer l k → perN l ≤ k := by
  have hn : 0 < l.length := List.length_pos_iff.2 hl
  have hfull : IsPer l l.length := ⟨hn, Nat.le_refl _, Nat.mod_self _, per_len l⟩
  unfold perN
  cases hf : (List.range' 1 l.length).find? (perP l) with
  | none =>
    have := List.find?_eq_none.1 hf l.length (by simp [List.mem_range']; exact ⟨l.length - 1, by omega, by omega⟩)
    exact absurd ((perP_iff hn (Nat.le_refl _)).2 hfull) this
  | some k =>
    have h1 := List.find?_some hf
    have h2 := List.mem_of_find?_eq_some hf
    simp only [List.mem_range'_1] at h2
    refine ⟨(perP_iff h2.1 (by omega)).1 h1, fun k' hk' => ?_⟩
    show k ≤ k'
    refine Nat.le_of_not_lt fun hlt => ?_
    obtain ⟨_, l1, l2, hsplit, hall⟩ := List.find?_eq_some_iff_append.1 hf
    have hmem : k' ∈ List.range' 1 l.length := by
      simp only [List.mem_range'_1]; exact ⟨hk'.pos, by have := hk'.le; omega⟩
    have hsorted : (List.range' 1 l.length).Pairwise (· < ·) := List.pairwise_lt_range'
    rw [hsplit] at hmem hsorted
    rw [List.mem_append, List.mem_cons] at hmem
    rcases hmem with hm | rfl | hm
    · have := hall k' hm
      rw [(perP_iff hk'.pos hk'.le).2 hk'] at this
      simp at this
    · omega
    · have := (List.pairwise_append.1 hsorted).2.1
      have := (List.pairwise_cons.1 this).1 k' hm
      omega
end Go.Proofs.YtflieikbhgneoaaDoor
