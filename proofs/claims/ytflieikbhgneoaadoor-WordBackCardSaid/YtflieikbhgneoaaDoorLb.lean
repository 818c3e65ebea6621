/-
  Our own text, in the proofs of the laws of package word (cayleylaw01). Proved here: rotations of a list of letters have the same least rotation, on lists of bytes. Conditions: none.
-/
import Derived.Test.YtflieikbhgneoaaDoorLa
namespace Go.Proofs.YtflieikbhgneoaaDoor

def rotK (l : List UInt8) (k : Nat) : List UInt8 := l.drop k ++ l.take k
theorem rotK_len (l : List UInt8) (k : Nat) : (rotK l k).length = l.length := by unfold rotK; simp; omega
theorem rotK_getD (l : List UInt8) (k t : Nat) (hk : k ≤ l.length) (ht : t < l.length) : (rotK l k).getD t 0 = l.getD ((k + t) % l.length) 0 := by
  unfold rotK
  simp only [List.getD]
  congr 1
  by_cases h : t < l.length - k
  · rw [List.getElem?_append_left (by simp; omega), List.getElem?_drop, Nat.mod_eq_of_lt (by omega)]
  · rw [List.getElem?_append_right (by simp; omega), List.getElem?_take, if_pos (by simp; omega)]
    congr 1
    have e : k + t = (k + t - l.length) + l.length := by omega
    rw [e, Nat.add_mod_right, Nat.mod_eq_of_lt (by omega)]
    simp; omega
theorem formW_rot (l : List UInt8) : formW l = rotK (coreW (red l)) (lrN (coreW (red l))) := rfl

theorem getD_ltr {l : List UInt8} (h : Ltr l) (k : Nat) (hk : k < l.length) : 0 ≤ idx (l.getD k 0) := by
  have : l.getD k 0 = l[k] := by simp [List.getD, hk]
  rw [this]; exact h _ (List.getElem_mem hk)
theorem ext_getD {a b : List UInt8} (hl : a.length = b.length) (h : ∀ t, t < a.length → a.getD t 0 = b.getD t 0) : a = b := by
  apply List.ext_getElem hl
  intro i h1 h2
  have := h i h1
  simpa [List.getD, h1, h2] using this

/-- ONE LEAST ROTATION. -/
theorem form_rot (K : List UInt8) (hK : Ltr K) (s : Nat) (hs : s ≤ K.length) : rotK (rotK K s) (lrN (rotK K s)) = rotK K (lrN K) := by
  by_cases hn : K.length = 0
  · have : K = [] := List.eq_nil_of_length_eq_zero hn
    subst this
    simp [rotK]
  · have hn' : 0 < K.length := by omega
    obtain ⟨K', hK'⟩ : ∃ K', K' = rotK K s := ⟨_, rfl⟩
    rw [← hK']
    have hl : K'.length = K.length := by rw [hK']; exact rotK_len K s
    have hrow : ∀ p, rowA K' p = rowA K (p + s) := by
      intro p
      have hm := Nat.mod_lt p hn'
      unfold rowA
      rw [hl, hK', rotK_getD K s _ hs hm]
      congr 2
      rw [Nat.add_comm s, Nat.mod_add_mod]
    have m1 := lrN_min K hn'
    have m2 := lrN_min K' (by omega)
    have b1 := lrN_le K
    have b2 := lrN_le K'
    rw [hl] at m2 b2
    generalize lrN K = r at *
    generalize lrN K' = r' at *
    have hp := rowA_per K
    have n1 : ¬ RLt (rowA K) K.length (r' + s) r := fun h => m1 ⟨_, h⟩
    have n2 : ¬ RLt (rowA K) K.length r (r' + s) := by
      rintro ⟨m, hm, he, hlt⟩
      refine m2 ⟨r + (K.length - s), m, hm, fun t ht => ?_, ?_⟩
      · rw [hrow, hrow, show r + (K.length - s) + t + s = r + t + K.length by omega, hp, he t ht]
        congr 1; omega
      · rw [hrow, hrow, show r + (K.length - s) + m + s = r + m + K.length by omega, hp, show r' + m + s = r' + s + m by omega]
        exact hlt
    have hsame := least_same n1 n2
    apply ext_getD (by rw [rotK_len, rotK_len, hl])
    intro t ht
    rw [rotK_len, hl] at ht
    rw [rotK_getD K' r' t (by omega) (by omega), rotK_getD K r t b1 ht, hl]
    have h1 := Nat.mod_lt (r' + t) hn'
    have h2 := Nat.mod_lt (r + t) hn'
    have e := hsame t ht
    have e' : rowA K' (r' + t) = rowA K (r + t) := by rw [hrow, ← e]; congr 1; omega
    unfold rowA at e'
    rw [hl] at e'
    refine (idx_inj _ _ (getD_ltr hK _ h2) e'.symm).symm
end Go.Proofs.YtflieikbhgneoaaDoor
