/-
  Our own text, in the proofs of the laws of package rope. Proved here: the words of a rope's nodes, as lists of letters; their lengths. No condition.
-/
import Derived.Test.YtgklmcinbaghmaaGreatDoorRl
namespace Go.Proofs.YtgklmcinbaghmaaGreatDoor
open Go Go.RowKit

/-- Copies of a list. -/
def copies (n : Nat) (l : List UInt8) : List UInt8 := (List.replicate n l).flatten
theorem copies_succ (n : Nat) (l : List UInt8) : copies (n + 1) l = l ++ copies n l := by simp [copies, List.replicate_succ]
theorem copies_len (n : Nat) (l : List UInt8) : (copies n l).length = n * l.length := by simp [copies]
theorem copies_get (n : Nat) (l : List UInt8) : ∀ i, i < n * l.length → (copies n l).getD i 0 = l.getD (i % l.length) 0 := by
  induction n with
  | zero => intro i hi; simp at hi
  | succ n ih =>
    intro i hi
    rw [copies_succ]
    by_cases h : i < l.length
    · rw [Nat.mod_eq_of_lt h]
      simp [List.getD, List.getElem?_append_left h]
    · have h1 : l.length ≤ i := Nat.not_lt.1 h
      have hz : i - l.length < n * l.length := by rw [Nat.succ_mul] at hi; omega
      have := ih (i - l.length) hz
      have hm : (i - l.length) % l.length = i % l.length := by rw [← Nat.mod_eq_sub_mod h1]
      rw [hm] at this
      rw [← this]
      simp [List.getD, List.getElem?_append_right h1]
theorem app_getL (l m : List UInt8) (i : Nat) (h : i < l.length) : (l ++ m).getD i 0 = l.getD i 0 := by simp [List.getD, List.getElem?_append_left h]
theorem app_getR (l m : List UInt8) (i : Nat) (h : l.length ≤ i) : (l ++ m).getD i 0 = m.getD (i - l.length) 0 := by simp [List.getD, List.getElem?_append_right h]

/-- The word of a node, by the words of others. -/
def denOf (D : List (List UInt8)) (x : Nd) : List UInt8 :=
  if x.word.data.toList = [] then (if x.t = 0 then D.getD x.l.toNat [] ++ D.getD x.r.toNat [] else copies x.t.toNat (D.getD x.l.toNat [])) else x.word.data.toList
def dens (r : List Nd) : List (List UInt8) := r.foldl (fun D x => D ++ [denOf D x]) []
theorem dens_append (r : List Nd) (x : Nd) : dens (r ++ [x]) = dens r ++ [denOf (dens r) x] := by simp [dens]
theorem dens_take (r : List Nd) (k : Nat) (h : k < r.length) : dens (r.take (k + 1)) = dens (r.take k) ++ [denOf (dens (r.take k)) r[k]] := by
  rw [List.take_succ_eq_append_getElem h, dens_append]
theorem dens_len (r : List Nd) : (dens r).length = r.length := by
  have : ∀ k, k ≤ r.length → (dens (r.take k)).length = k := by
    intro k
    induction k with
    | zero => intro _; rfl
    | succ k ih => intro h; rw [dens_take r k (by omega), List.length_append, ih (by omega)]; rfl
  have h := this r.length (Nat.le_refl _)
  rw [List.take_of_length_le (Nat.le_refl _)] at h
  exact h
/-- What is known of a node stays. -/
theorem dens_pre (r : List Nd) (k i : Nat) (hi : i < k) (hk : k ≤ r.length) : (dens r).getD i [] = (dens (r.take k)).getD i [] := by
  have : ∀ d, k + d ≤ r.length → (dens (r.take (k + d))).getD i [] = (dens (r.take k)).getD i [] := by
    intro d
    induction d with
    | zero => intro _; rfl
    | succ d ih =>
      intro h
      rw [← ih (by omega), ← Nat.add_assoc, dens_take r (k + d) (by omega)]
      have : i < (dens (r.take (k + d))).length := by rw [dens_len]; simp; omega
      simp [List.getD, List.getElem?_append_left this]
  have h := this (r.length - k) (by omega)
  rw [show k + (r.length - k) = r.length by omega, List.take_of_length_le (Nat.le_refl _)] at h
  exact h
theorem dens_at (r : List Nd) (k : Nat) (h : k < r.length) : (dens r).getD k [] = denOf (dens (r.take k)) r[k] := by
  rw [dens_pre r (k + 1) k (by omega) (by omega), dens_take r k h]
  have : (dens (r.take k)).length = k := by rw [dens_len]; simp; omega
  simp [List.getD, List.getElem?_append_right (show (dens (r.take k)).length ≤ k by omega), this]

theorem lens_pre (r : List Nd) : ∀ k, k ≤ r.length → ∀ L, lensR (r.take k) = some L → ∀ j, j < k → ∃ M, lensR (r.take j) = some M ∧ lenOf M (r.getD j ⟨⟨#[]⟩, 0, 0, 0⟩) = some (L.getD j 0) ∧ M = L.take j := by
  intro k
  induction k with
  | zero => intro _ _ _ j hj; omega
  | succ k ih =>
    intro hk L hL j hj
    rw [lensR_take r k (by omega)] at hL
    obtain ⟨M, n, hM, hn, rfl⟩ := stepL_some hL
    have hMl := (lensR_ok r k (by omega) M hM).1
    by_cases h : j < k
    · obtain ⟨N, h1, h2, h3⟩ := ih (by omega) M hM j h
      refine ⟨N, h1, ?_, ?_⟩
      · rw [h2]; simp [List.getD, List.getElem?_append_left (show j < M.length by omega)]
      · rw [h3, List.take_append_of_le_length (by omega)]
    · obtain rfl : j = k := by omega
      refine ⟨M, hM, ?_, ?_⟩
      · have e : r.getD j ⟨⟨#[]⟩, 0, 0, 0⟩ = r[j] := by simp [List.getD, List.getElem?_eq_getElem (show j < r.length by omega)]
        rw [e, hn]
        simp [List.getD, List.getElem?_append_right (show M.length ≤ j by omega), hMl]
      · rw [List.take_append_of_le_length (by omega), List.take_of_length_le (by omega)]

/-- A node of a valid rope. -/
theorem lens_node {r : List Nd} {L : List Nat} (h : lens r = some L) (k : Nat) (hk : k < r.length) : lenOf (L.take k) r[k] = some (L.getD k 0) ∧ (L.take k).length = k := by
  obtain ⟨h1, h2, h3⟩ := lens_ok h
  unfold lens at h
  rw [if_pos h3] at h
  have h0 : lensR (r.take r.length) = some L := by rw [List.take_of_length_le (Nat.le_refl _)]; exact h
  obtain ⟨M, _, hm, rfl⟩ := lens_pre r r.length (Nat.le_refl _) L h0 k hk
  have e : r.getD k ⟨⟨#[]⟩, 0, 0, 0⟩ = r[k] := by simp [List.getD, List.getElem?_eq_getElem hk]
  rw [e] at hm
  exact ⟨hm, by simp; omega⟩

theorem lenOf_node {L : List Nat} {x : Nd} {n : Nat} (h : lenOf L x = some n) : nodeB x L.length = true := by
  unfold lenOf at h
  split at h
  · assumption
  · cases h

theorem take_getD (L : List Nat) (k i : Nat) (h : i < k) : (L.take k).getD i 0 = L.getD i 0 := by
  simp [List.getD, List.getElem?_take, h]

theorem dens_lens {r : List Nd} {L : List Nat} (h : lens r = some L) : ∀ k, k < r.length → ((dens r).getD k []).length = L.getD k 0 := by
  intro k
  induction k using Nat.strongRecOn with
  | ind k ih =>
    intro hk
    obtain ⟨hn, hl⟩ := lens_node h k hk
    have hb := lenOf_node hn
    rw [hl] at hb
    rw [dens_at r k hk]
    have hpre : ∀ i, i < k → (dens (r.take k)).getD i [] = (dens r).getD i [] := fun i hi => (dens_pre r k i hi (by omega)).symm
    generalize r[k] = x at *
    unfold denOf
    by_cases hw : x.word.data.toList = []
    · rw [if_pos hw]
      by_cases ht : x.t = 0
      · rw [if_pos ht]
        obtain ⟨h1, h2⟩ := nodeB_join hb hw ht
        rw [lenOf_join (by rw [hl]; exact hb) hw ht] at hn
        split at hn
        · simp only [Option.some.injEq] at hn
          rw [take_getD _ _ _ (by omega), take_getD _ _ _ (by omega)] at hn
          rw [List.length_append, hpre _ (by omega), hpre _ (by omega), ih _ (by omega) (by omega), ih _ (by omega) (by omega)]
          exact hn
        · cases hn
      · rw [if_neg ht]
        obtain ⟨h1, h2, h3⟩ := nodeB_pow hb hw ht
        rw [lenOf_pow (by rw [hl]; exact hb) hw ht] at hn
        split at hn
        · simp only [Option.some.injEq] at hn
          rw [take_getD _ _ _ (by omega)] at hn
          rw [copies_len, hpre _ (by omega), ih _ (by omega) (by omega), Nat.mul_comm]
          exact hn
        · cases hn
    · rw [if_neg hw]
      rw [lenOf_leaf (by rw [hl]; exact hb) hw] at hn
      simp only [Option.some.injEq] at hn
      rw [← hn]; rfl

/-- A node of a valid rope: what it is, and its word. -/
inductive NodeIs (r : List Nd) (L : List Nat) (k : Nat) (x : Nd) : Prop
  | leaf (hw : x.word.data.toList ≠ []) (hl : leafB x.word.data.toList = true) (h1 : x.l = 0) (h2 : x.r = 0) (h3 : x.t = 0) (hd : (dens r).getD k [] = x.word.data.toList)
  | join (hw : x.word.data.toList = []) (a b : Nat) (ha : a < k) (hb : b < k) (h1 : x.l = a) (h2 : x.r = b) (h3 : x.t = 0) (hd : (dens r).getD k [] = (dens r).getD a [] ++ (dens r).getD b []) (hn : L.getD k 0 = L.getD a 0 + L.getD b 0)
  | pow (hw : x.word.data.toList = []) (a n : Nat) (ha : a < k) (hn0 : 1 ≤ n) (h1 : x.l = a) (h2 : x.r = 0) (h3 : x.t = n) (hd : (dens r).getD k [] = copies n ((dens r).getD a [])) (hn : L.getD k 0 = n * L.getD a 0)

theorem node_is {r : List Nd} {L : List Nat} (h : lens r = some L) (k : Nat) (hk : k < r.length) : NodeIs r L k r[k] := by
  obtain ⟨hn, hl⟩ := lens_node h k hk
  have hb := lenOf_node hn
  rw [hl] at hb
  have hd := dens_at r k hk
  have hpre : ∀ i, i < k → (dens (r.take k)).getD i [] = (dens r).getD i [] := fun i hi => (dens_pre r k i hi (by omega)).symm
  generalize r[k] = x at *
  unfold denOf at hd
  by_cases hw : x.word.data.toList = []
  · rw [if_pos hw] at hd
    by_cases ht : x.t = 0
    · rw [if_pos ht] at hd
      obtain ⟨h1, h2⟩ := nodeB_join hb hw ht
      rw [lenOf_join (by rw [hl]; exact hb) hw ht] at hn
      split at hn
      · simp only [Option.some.injEq] at hn
        rw [take_getD _ _ _ (by omega), take_getD _ _ _ (by omega)] at hn
        rw [hpre _ (by omega), hpre _ (by omega)] at hd
        exact .join hw x.l.toNat x.r.toNat (by omega) (by omega) (by omega) (by omega) ht hd hn.symm
      · cases hn
    · rw [if_neg ht] at hd
      obtain ⟨h1, h2, h3⟩ := nodeB_pow hb hw ht
      rw [lenOf_pow (by rw [hl]; exact hb) hw ht] at hn
      split at hn
      · simp only [Option.some.injEq] at hn
        rw [take_getD _ _ _ (by omega)] at hn
        rw [hpre _ (by omega)] at hd
        exact .pow hw x.l.toNat x.t.toNat (by omega) (by omega) (by omega) h3 (by omega) hd (by rw [Nat.mul_comm]; exact hn.symm)
      · cases hn
  · rw [if_neg hw] at hd
    obtain ⟨h1, h2, h3, h4⟩ := nodeB_leaf hb hw
    exact .leaf hw h1 h2 h3 h4 hd
end Go.Proofs.YtgklmcinbaghmaaGreatDoor
