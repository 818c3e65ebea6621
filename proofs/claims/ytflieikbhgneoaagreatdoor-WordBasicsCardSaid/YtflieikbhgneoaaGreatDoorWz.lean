/-
  Our own text, in the proofs of the laws of package word (cayleylaw01). Proved here: a factor of an expression takes at least one byte. Conditions: the arguments read as the row says and the listed tables lie as the program lays them; none other.
-/
import Derived.Test.YtflieikbhgneoaaGreatDoorWy
namespace Go.Proofs.YtflieikbhgneoaaGreatDoor
open Go Go.RowKit

/-- What is left is less. -/
theorem fit_ok {n : Int} {v t v' t' : List UInt8} (h : fitF n (.ok v t) = .ok v' t') : v' = v ∧ t' = t := by
  unfold fitF at h; split at h
  · cases h; exact ⟨rfl, rfl⟩
  · cases h
theorem pow_ok {w t v' t' : List UInt8} (h : powF w t = .ok v' t') : t'.length ≤ t.length := by
  obtain ⟨_, rfl⟩ := fit_ok h
  exact Nat.le_trans (exR_len _) (exRest_len _)

theorem shrinks : ∀ f, (∀ t v t2, baseF f t = some (.ok v t2) → t2.length < t.length) ∧ (∀ t v t2, factorF f t = some (.ok v t2) → t2.length < t.length) ∧
    (∀ t v t2, exprF f t = some (.ok v t2) → t2.length < t.length) ∧ (∀ p n t v t2, loopF f p n t = some (.ok v t2) → t2.length ≤ t.length) := by
  intro f
  induction f with
  | zero => refine ⟨?_, ?_, ?_, ?_⟩ <;> intros <;> simp_all [baseF, factorF, exprF, loopF]
  | succ f ih =>
    obtain ⟨iB, iF, iE, iL⟩ := ih
    refine ⟨?_, ?_, ?_, ?_⟩
    · intro t v t2 h
      unfold baseF at h
      have ht := trim_len t
      cases hc : trim t with
      | nil => rw [hc] at h; simp at h
      | cons c t1 =>
        rw [hc] at h ht
        simp only [List.length_cons] at ht h
        split at h
        · cases h; omega
        split at h
        · split at h
          · rename_i v0 t0 he
            have := iE _ _ _ he
            have h3 := trim_len t0
            split at h
            · rename_i c3 t3 h4
              cases h
              rw [h4] at h3; simp at h3; omega
            · cases h
          · have := iE _ _ _ h; omega
        split at h
        · split at h
          · rename_i v0 t0 he
            have := iE _ _ _ he
            have h3 := trim_len t0
            split at h
            · rename_i c3 t3 h4
              rw [h4] at h3; simp at h3
              split at h
              · rename_i v5 t5 he5
                have := iE _ _ _ he5
                have h6 := trim_len t5
                split at h
                · rename_i c7 t7 h7
                  rw [h7] at h6; simp at h6
                  simp only [Option.some.injEq] at h
                  obtain ⟨_, rfl⟩ := fit_ok h
                  omega
                · cases h
              · have := iE _ _ _ h; omega
            · cases h
          · have := iE _ _ _ h; omega
        split at h
        · cases h; omega
        · cases h
    · intro t v t2 h
      unfold factorF at h
      split at h
      · rename_i v0 t0 he
        have := iB _ _ _ he
        have h3 := trim_len t0
        split at h
        · rename_i c t3 h4
          rw [h4] at h3; simp at h3
          split at h
          · simp only [Option.some.injEq] at h
            have := pow_ok h
            omega
          · cases h; simp; omega
        · cases h; simp; omega
      · have := iB _ _ _ h; omega
    · intro t v t2 h
      unfold exprF at h
      split at h
      · rename_i v0 t0 he
        have := iF _ _ _ he
        have h3 := trim_len t0
        split at h
        · cases h; omega
        · have := iL _ _ _ _ _ h; omega
      · have := iF _ _ _ h; omega
    · intro p n t v t2 h
      unfold loopF at h
      have h3 := trim_len t
      split at h
      · cases h; omega
      split at h
      · rename_i v0 t0 he
        have := iF _ _ _ he
        split at h
        · have := iL _ _ _ _ _ h; omega
        · cases h
      · have := iF _ _ _ h; omega
end Go.Proofs.YtflieikbhgneoaaGreatDoor
