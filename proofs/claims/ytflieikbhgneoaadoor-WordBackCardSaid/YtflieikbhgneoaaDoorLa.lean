/-
  Our own text, in the proofs of the laws of package word (cayleylaw01). Proved here: the search for the least rotation finds a rotation that none is less than, on lists of bytes. Conditions: the list is not empty.
-/
import Derived.Test.YtflieikbhgneoaaDoorMb
namespace Go.Proofs.YtflieikbhgneoaaDoor

/-! Rotations of a periodic row A of n numbers. -/
def RLt (A : Nat → Int) (n a b : Nat) : Prop := ∃ m, m < n ∧ (∀ t, t < m → A (a + t) = A (b + t)) ∧ A (a + m) < A (b + m)
def NonMin (A : Nat → Int) (n k : Nat) : Prop := ∃ k', RLt A n k' k

theorem RLt.trans {A : Nat → Int} {n a b c : Nat} (h : RLt A n a b) (k : RLt A n b c) : RLt A n a c := by
  obtain ⟨m, hm, he, hl⟩ := h
  obtain ⟨m', hm', he', hl'⟩ := k
  rcases Nat.lt_trichotomy m m' with p | p | p
  · exact ⟨m, hm, fun t ht => (he t ht).trans (he' t (by omega)), by rw [← he' m p]; exact hl⟩
  · subst p; exact ⟨m, hm, fun t ht => (he t ht).trans (he' t ht), Int.lt_trans hl hl'⟩
  · exact ⟨m', hm', fun t ht => (he t (by omega)).trans (he' t ht), by rw [he m' p]; exact hl'⟩
theorem RLt.irrefl {A : Nat → Int} {n a : Nat} (h : RLt A n a a) : False := by
  obtain ⟨m, _, _, hl⟩ := h; omega
theorem RLt.same {A : Nat → Int} {n a b c : Nat} (h : RLt A n a b) (k : ∀ t, t < n → A (b + t) = A (c + t)) : RLt A n a c := by
  obtain ⟨m, hm, he, hl⟩ := h
  exact ⟨m, hm, fun t ht => (he t ht).trans (k t (by omega)), by rw [← k m hm]; exact hl⟩
theorem RLt.same' {A : Nat → Int} {n a b c : Nat} (h : RLt A n a b) (k : ∀ t, t < n → A (a + t) = A (c + t)) : RLt A n c b := by
  obtain ⟨m, hm, he, hl⟩ := h
  exact ⟨m, hm, fun t ht => (k t (by omega)).symm.trans (he t ht), by rw [← k m hm]; exact hl⟩

theorem per_mul {A : Nat → Int} {n : Nat} (hp : ∀ p, A (p + n) = A p) : ∀ k p, A (p + k * n) = A p
  | 0, p => by simp
  | k + 1, p => by rw [Nat.succ_mul, ← Nat.add_assoc, hp, per_mul hp k]
theorem per_mod {A : Nat → Int} {n : Nat} (hp : ∀ p, A (p + n) = A p) (p t : Nat) : A (p % n + t) = A (p + t) := by
  have h := per_mul hp (p / n) (p % n + t)
  rw [← h]
  congr 1
  have h1 := Nat.mod_add_div p n
  have h2 : n * (p / n) = p / n * n := Nat.mul_comm _ _
  omega

/-- There is a least one. -/
theorem least_ex (A : Nat → Int) (n : Nat) : ∀ m, 0 < m → ∃ k, k < m ∧ ∀ k', k' < m → ¬ RLt A n k' k := by
  intro m
  induction m with
  | zero => intro h; omega
  | succ m ih =>
    intro _
    by_cases h0 : m = 0
    · subst h0
      refine ⟨0, by omega, fun k' hk h => ?_⟩
      obtain rfl : k' = 0 := by omega
      exact h.irrefl
    · obtain ⟨k, hk, hb⟩ := ih (by omega)
      by_cases hl : RLt A n m k
      · refine ⟨m, by omega, fun k' hk' h => ?_⟩
        by_cases e : k' = m
        · subst e; exact h.irrefl
        · exact hb k' (by omega) (h.trans hl)
      · refine ⟨k, by omega, fun k' hk' h => ?_⟩
        by_cases e : k' = m
        · subst e; exact hl h
        · exact hb k' (by omega) h
theorem min_ex {A : Nat → Int} {n : Nat} (hp : ∀ p, A (p + n) = A p) (hn : 0 < n) : ∃ k, k < n ∧ ¬ NonMin A n k := by
  obtain ⟨k, hk, hb⟩ := least_ex A n n hn
  refine ⟨k, hk, fun ⟨k', h⟩ => hb (k' % n) (Nat.mod_lt _ hn) (h.same' fun t _ => (per_mod hp k' t).symm)⟩
/-- Two least ones are alike. -/
theorem least_same {A : Nat → Int} {n a b : Nat} (h1 : ¬ RLt A n a b) (h2 : ¬ RLt A n b a) : ∀ t, t < n → A (a + t) = A (b + t) := by
  intro t
  induction t using Nat.strongRecOn with
  | ind t ih =>
    intro ht
    rcases Int.lt_trichotomy (A (a + t)) (A (b + t)) with p | p | p
    · exact absurd ⟨t, ht, fun s hs => ih s hs (by omega), p⟩ h1
    · exact p
    · exact absurd ⟨t, ht, fun s hs => (ih s hs (by omega)).symm, p⟩ h2

/-- What the search keeps. -/
structure Sr (A : Nat → Int) (n i j c : Nat) : Prop where
  ne : i ≠ j
  lt : min i j < n
  eq : ∀ t, t < c → A (i + t) = A (j + t)
  out : ∀ k, k < max i j → k ≠ i → k ≠ j → NonMin A n k

theorem Sr.swap {A : Nat → Int} {n i j c : Nat} (h : Sr A n i j c) : Sr A n j i c :=
  ⟨h.ne.symm, by have := h.lt; omega, fun t ht => (h.eq t ht).symm, fun k h1 h2 h3 => h.out k (by omega) h3 h2⟩
theorem Sr.next {A : Nat → Int} {n i j c : Nat} (h : Sr A n i j c) (e : A (i + c) = A (j + c)) : Sr A n i j (c + 1) :=
  ⟨h.ne, h.lt, fun t ht => by by_cases q : t = c; exact q ▸ e; exact h.eq t (by omega), h.out⟩
theorem Sr.gone {A : Nat → Int} {n i j c : Nat} (h : Sr A n i j c) (hc : c < n) (hl : A (j + c) < A (i + c)) (t : Nat) (ht : t ≤ c) : NonMin A n (i + t) := by
  refine ⟨j + t, c - t, by omega, fun s hs => ?_, ?_⟩
  · have := h.eq (t + s) (by omega)
    rw [← Nat.add_assoc, ← Nat.add_assoc] at this
    exact this.symm
  · rw [show j + t + (c - t) = j + c by omega, show i + t + (c - t) = i + c by omega]; exact hl
theorem Sr.skip {A : Nat → Int} {n i j c : Nat} (h : Sr A n i j c) (hj : j < n) (hc : c < n) (hl : A (j + c) < A (i + c)) (hne : i + (c + 1) ≠ j) : Sr A n (i + (c + 1)) j 0 := by
  refine ⟨hne, by omega, fun t ht => by omega, fun k h1 h2 h3 => ?_⟩
  by_cases q : k < max i j ∧ k ≠ i
  · exact h.out k q.1 q.2 h3
  · have : k = i + (k - i) := by omega
    rw [this]
    exact h.gone hc hl _ (by omega)
theorem Sr.skip2 {A : Nat → Int} {n i j c : Nat} (h : Sr A n i j c) (hj : j < n) (hc : c < n) (hl : A (j + c) < A (i + c)) (he : i + (c + 1) = j) : Sr A n (i + (c + 1)) (j + 1) 0 := by
  refine ⟨by omega, by omega, fun t ht => by omega, fun k h1 h2 h3 => ?_⟩
  by_cases q : k = i
  · subst q; exact h.gone hc hl 0 (by omega)
  · exact h.out k (by omega) q (by omega)

/-- The end of the search. -/
theorem Sr.done {A : Nat → Int} {n i j c : Nat} (hp : ∀ p, A (p + n) = A p) (hn : 0 < n) (h : Sr A n i j c) (hend : ¬ (i < n ∧ j < n ∧ c < n)) : ¬ NonMin A n (min i j) := by
  have key : ∀ {i j c : Nat}, Sr A n i j c → i < j → ¬ (i < n ∧ j < n ∧ c < n) → ¬ NonMin A n i := by
    intro i j c h hij hend
    obtain ⟨k0, hk0, hm⟩ := min_ex hp hn
    by_cases hj : j < n
    · have hi : i < n := by omega
      have hc : n ≤ c := by omega
      have hall : ∀ p, A (p + (j - i)) = A p := by
        intro p
        have h1 : A (i + ((p + (n - i)) % n)) = A (j + ((p + (n - i)) % n)) := h.eq _ (Nat.lt_of_lt_of_le (Nat.mod_lt _ hn) hc)
        rw [Nat.add_comm i, Nat.add_comm j, per_mod hp, per_mod hp] at h1
        rw [show p + (n - i) + i = p + n by omega, show p + (n - i) + j = p + (j - i) + n by omega, hp, hp] at h1
        exact h1.symm
      by_cases hki : k0 < i
      · exact absurd (h.out k0 (by omega) (by omega) (by omega)) hm
      · have hd : 0 < j - i := by omega
        have hmod := Nat.mod_lt (k0 - i) hd
        have hsame : ∀ t, t < n → A (i + (k0 - i) % (j - i) + t) = A (k0 + t) := by
          intro t _
          have := per_mod (n := j - i) hall (k0 - i) (i + t)
          rw [show i + (k0 - i) % (j - i) + t = (k0 - i) % (j - i) + (i + t) by omega, this]
          congr 1; omega
        have hnm : ¬ NonMin A n (i + (k0 - i) % (j - i)) := fun ⟨k', hk'⟩ => hm ⟨k', hk'.same hsame⟩
        by_cases hz : (k0 - i) % (j - i) = 0
        · rwa [hz] at hnm
        · exact absurd (h.out _ (by omega) (by omega) (by omega)) hnm
    · by_cases e : k0 = i
      · exact e ▸ hm
      · exact absurd (h.out k0 (by omega) e (by omega)) hm
  by_cases hij : i < j
  · rw [Nat.min_eq_left (by omega)]; exact key h hij hend
  · have := h.ne
    rw [Nat.min_eq_right (by omega)]
    exact key h.swap (by omega) (by omega)

/-- The row of a list. -/
def rowA (l : List UInt8) (p : Nat) : Int := idx (l.getD (p % l.length) 0)
theorem rowA_per (l : List UInt8) (p : Nat) : rowA l (p + l.length) = rowA l p := by unfold rowA; rw [Nat.add_mod_right]

theorem lrF_min (l : List UInt8) (hn : 0 < l.length) : ∀ f i j c, 3 * l.length + 3 ≤ f + (i + j + c) → Sr (rowA l) l.length i j c → ¬ NonMin (rowA l) l.length (lrF f l i j c) := by
  intro f
  induction f with
  | zero =>
    intro i j c hf h
    exact h.done (rowA_per l) hn (by omega)
  | succ f ih =>
    intro i j c hf h
    unfold lrF
    split
    · rename_i hc
      obtain ⟨hi, hj, hcc⟩ := hc
      simp only
      change ¬ NonMin (rowA l) l.length (if rowA l (i + c) = rowA l (j + c) then _ else if rowA l (j + c) < rowA l (i + c) then _ else _)
      split
      · rename_i e; exact ih _ _ _ (by omega) (h.next e)
      · rename_i e
        split
        · rename_i hl
          split
          · rename_i he; exact ih _ _ _ (by omega) (h.skip2 hj hcc hl he)
          · rename_i he; exact ih _ _ _ (by omega) (h.skip hj hcc hl he)
        · rename_i hl
          have hl' : rowA l (i + c) < rowA l (j + c) := by omega
          split
          · rename_i he
            have q := h.swap.skip2 hi hcc hl' he.symm
            rw [← he] at q
            exact ih _ _ _ (by omega) (show Sr (rowA l) l.length i (j + (c + 1) + 1) 0 by rw [← he]; exact q)
          · rename_i he
            exact ih _ _ _ (by omega) (h.swap.skip hi hcc hl' (fun q => he q.symm)).swap
    · rename_i hc
      exact h.done (rowA_per l) hn hc

theorem lrN_min (l : List UInt8) (hn : 0 < l.length) : ¬ NonMin (rowA l) l.length (lrN l) := by
  refine lrF_min l hn _ 0 1 0 (by omega) ⟨by omega, by omega, fun t ht => by omega, fun k h1 h2 h3 => by omega⟩
end Go.Proofs.YtflieikbhgneoaaDoor
