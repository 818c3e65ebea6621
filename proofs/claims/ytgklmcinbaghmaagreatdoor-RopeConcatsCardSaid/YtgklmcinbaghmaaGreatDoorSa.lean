/-
  Our own text, in the proofs of the laws of package rope. Proved here: the lengths and the words of an inverse rope and of a power. No condition.
-/
import Derived.Test.YtgklmcinbaghmaaGreatDoorRz
namespace Go.Proofs.YtgklmcinbaghmaaGreatDoor
open Go Go.RowKit

theorem invW_nil : invW [] = [] := rfl
theorem invW_length (l : List UInt8) : (invW l).length = l.length := by simp [invW]
theorem invW_app (l m : List UInt8) : invW (l ++ m) = invW m ++ invW l := by simp [invW]
theorem invW_copies (n : Nat) (l : List UInt8) : invW (copies n l) = copies n (invW l) := by
  have hs : ∀ (k : Nat) (m : List UInt8), copies k m ++ m = m ++ copies k m := by
    intro k m
    induction k with
    | zero => simp [copies]
    | succ k ih => rw [copies_succ, List.append_assoc, ih]
  induction n with
  | zero => rfl
  | succ n ih => rw [copies_succ, copies_succ, invW_app, ih, hs]
theorem invW_nil_iff (l : List UInt8) : invW l = [] ↔ l = [] := by
  rw [← List.length_eq_zero_iff, ← List.length_eq_zero_iff, invW_length]
theorem invW_get (l : List UInt8) (i : Nat) (h : i < l.length) : (invW l).getD i 0 = invc (l.getD (l.length - 1 - i) 0) := by
  unfold invW
  rw [List.getD, List.getD, List.getElem?_reverse (by simpa using h)]
  simp only [List.length_map, List.getElem?_map]
  rw [List.getElem?_eq_getElem (show l.length - 1 - i < l.length by omega)]
  rfl
theorem map_getD_inv (D : List (List UInt8)) (i : Nat) : (D.map invW).getD i [] = invW (D.getD i []) := by
  simp only [List.getD, List.getElem?_map]
  cases D[i]? with
  | none => rfl
  | some x => rfl

theorem denOf_inv (D : List (List UInt8)) (x : Nd) : denOf (D.map invW) (invN x) = invW (denOf D x) := by
  unfold invN denOf
  by_cases hw : x.word.data.toList = []
  · by_cases ht : x.t = 0
    · simp only [if_pos hw, if_pos ht, map_getD_inv, invW_app]
    · simp only [if_pos hw, if_neg ht, map_getD_inv, invW_copies]
  · rw [if_neg hw, if_neg hw]
    have h2 : ¬ invW x.word.data.toList = [] := fun h => hw ((invW_nil_iff _).1 h)
    simp only
    rw [if_neg h2]
theorem dens_inv (r : List Nd) : dens (r.map invN) = (dens r).map invW := by
  have : ∀ k, k ≤ r.length → dens ((r.take k).map invN) = (dens (r.take k)).map invW := by
    intro k
    induction k with
    | zero => intro _; rfl
    | succ k ih =>
      intro h
      rw [List.take_succ_eq_append_getElem (by omega), List.map_append, List.map_cons, List.map_nil, dens_append, dens_append, ih (by omega), denOf_inv]
      simp
  have h := this r.length (Nat.le_refl _)
  rw [List.take_of_length_le (Nat.le_refl _)] at h
  exact h

theorem letterB_invc (c : UInt8) (h : letterB 8 c = true) : letterB 8 (invc c) = true := by
  have : ∀ n : Fin 256, letterB 8 (UInt8.ofNat n.val) = true → letterB 8 (invc (UInt8.ofNat n.val)) = true := by decide +kernel
  have hc : UInt8.ofNat c.toNat = c := by simp
  have := this ⟨c.toNat, c.toNat_lt⟩
  simp only [hc] at this
  exact this h
theorem leafB_inv (l : List UInt8) (h : leafB l = true) : leafB (invW l) = true := by
  simp only [leafB, Bool.and_eq_true, decide_eq_true_eq, List.all_eq_true] at h ⊢
  refine ⟨by rw [invW_length]; exact h.1, ?_⟩
  intro c hc
  simp only [invW, List.mem_reverse, List.mem_map] at hc
  obtain ⟨d, hd, rfl⟩ := hc
  exact letterB_invc d (h.2 d hd)

theorem nodeB_inv {x : Nd} {k : Int} (h : nodeB x k = true) : nodeB (invN x) k = true := by
  unfold nodeB at h
  unfold invN nodeB
  by_cases hw : x.word.data.toList = []
  · by_cases ht : x.t = 0
    · simp only [if_pos hw, if_pos ht, Bool.and_eq_true] at h ⊢
      exact ⟨h.2, h.1⟩
    · simp only [if_pos hw, if_neg ht] at h ⊢
      exact h
  · have h2 : ¬ invW x.word.data.toList = [] := fun h => hw ((invW_nil_iff _).1 h)
    simp only [if_neg hw, if_neg h2, Bool.and_eq_true] at h ⊢
    exact ⟨⟨⟨leafB_inv _ h.1.1.1, h.1.1.2⟩, h.1.2⟩, h.2⟩
theorem lenOf_inv {L : List Nat} {x : Nd} {n : Nat} (h : lenOf L x = some n) : lenOf L (invN x) = some n := by
  have hb := lenOf_node h
  unfold lenOf at h ⊢
  rw [if_pos hb] at h
  rw [if_pos (nodeB_inv hb)]
  unfold invN
  by_cases hw : x.word.data.toList = []
  · by_cases ht : x.t = 0
    · simp only [if_pos hw, if_pos ht] at h ⊢
      rw [Int.add_comm, Nat.add_comm]; exact h
    · simp only [if_pos hw, if_neg ht] at h ⊢
      exact h
  · have h2 : ¬ invW x.word.data.toList = [] := fun h => hw ((invW_nil_iff _).1 h)
    rw [if_neg hw] at h ⊢
    simp only
    rw [if_neg h2]
    rw [← h]
    congr 1
    show (invW x.word.data.toList).toArray.size = x.word.data.size
    simp [invW_length]
theorem lens_inv {r : List Nd} {L : List Nat} (h : lens r = some L) : lens (r.map invN) = some L := by
  have h3 := (lens_ok h).2.2
  unfold lens at h ⊢
  rw [if_pos h3] at h
  rw [List.length_map, if_pos h3]
  have : ∀ k, k ≤ r.length → ∀ M, lensR (r.take k) = some M → lensR ((r.take k).map invN) = some M := by
    intro k
    induction k with
    | zero => intro _ M hM; exact hM
    | succ k ih =>
      intro hk M hM
      rw [lensR_take r k (by omega)] at hM
      obtain ⟨N, n, hN, hn, rfl⟩ := stepL_some hM
      have h1 := ih (by omega) N hN
      rw [List.take_succ_eq_append_getElem (by omega), List.map_append, List.map_cons, List.map_nil]
      unfold lensR at h1 ⊢
      rw [List.foldl_append, h1]
      simp only [List.foldl_cons, List.foldl_nil, stepL, Option.bind_some, lenOf_inv hn, Option.map_some]
  have h0 := this r.length (Nat.le_refl _) L (by rw [List.take_of_length_le (Nat.le_refl _)]; exact h)
  rw [List.take_of_length_le (Nat.le_refl _)] at h0
  exact h0

theorem lens_snoc {r : List Nd} {L : List Nat} (h : lens r = some L) (x : Nd) {n : Nat} (hn : lenOf L x = some n) (h4 : r.length + 1 ≤ 4000) : lens (r ++ [x]) = some (L ++ [n]) := by
  have h3 := (lens_ok h).2.2
  unfold lens at h ⊢
  rw [if_pos h3] at h
  rw [List.length_append, if_pos (by simpa using h4)]
  unfold lensR at h ⊢
  rw [List.foldl_append, h]
  simp only [List.foldl_cons, List.foldl_nil, stepL, Option.bind_some, hn, Option.map_some]
theorem lastN_snoc (L : List Nat) (n : Nat) : lastN (L ++ [n]) = n := by simp [lastN, List.getD]
/-- A power on top of a rope. -/
theorem lens_pow {r : List Nd} {L : List Nat} (h : lens r = some L) (hr : 0 < r.length) (m : Int) (hm : 0 < m) (hq : m ≤ 1152921504606846976 / (lastN L : Int)) (h4 : r.length + 1 ≤ 4000) :
    lens (r ++ [⟨⟨#[]⟩, (r.length : Int) - 1, 0, m⟩]) = some (L ++ [lastN L * m.toNat]) := by
  obtain ⟨k1, k2, k3⟩ := lens_ok h
  refine lens_snoc h _ ?_ h4
  have hb : nodeB ⟨⟨#[]⟩, (r.length : Int) - 1, 0, m⟩ L.length = true := by
    unfold nodeB belowB
    rw [if_pos rfl, if_neg (by simp only; omega)]
    simp only [Bool.and_eq_true, decide_eq_true_eq]
    exact ⟨⟨hm, by omega, by omega⟩, trivial⟩
  have ht : ((r.length : Int) - 1).toNat = L.length - 1 := by omega
  have hl : L.getD (L.length - 1) 0 = lastN L := rfl
  unfold lenOf
  rw [if_pos hb, if_pos rfl]
  simp only [ht, hl]
  rw [if_neg (by omega), if_pos hq]
theorem letQ_pow (r : List Nd) (hr : 0 < r.length) (m : Int) (i : Nat) (hm : 0 < m) (hi : i < m.toNat * (wordOf r).length) :
    letQ (r ++ [⟨⟨#[]⟩, (r.length : Int) - 1, 0, m⟩]) r.length i = letQ r (r.length - 1) (i % (wordOf r).length) := by
  unfold letQ
  rw [dens_append]
  have hD : (dens r ++ [denOf (dens r) ⟨⟨#[]⟩, (r.length : Int) - 1, 0, m⟩]).getD r.length [] = copies m.toNat (wordOf r) := by
    have : (dens r).length = r.length := dens_len r
    rw [List.getD, List.getElem?_append_right (by omega), this]
    simp only [Nat.sub_self, List.getElem?_cons_zero, Option.getD_some]
    unfold denOf
    rw [if_pos rfl, if_neg (by simp only; omega)]
    have : ((r.length : Int) - 1).toNat = r.length - 1 := by omega
    simp only [this]
    rfl
  rw [hD, copies_get _ _ _ hi]
  rfl
theorem wordOf_inv (r : List Nd) : wordOf (r.map invN) = invW (wordOf r) := by
  unfold wordOf
  rw [dens_inv, map_getD_inv, List.length_map]
theorem letQ_inv (r : List Nd) (i : Nat) (h : i < (wordOf r).length) : letQ (r.map invN) (r.length - 1) i = invc (letQ r (r.length - 1) ((wordOf r).length - 1 - i)) := by
  unfold letQ
  rw [dens_inv, map_getD_inv]
  exact invW_get _ _ h
end Go.Proofs.YtgklmcinbaghmaaGreatDoor
