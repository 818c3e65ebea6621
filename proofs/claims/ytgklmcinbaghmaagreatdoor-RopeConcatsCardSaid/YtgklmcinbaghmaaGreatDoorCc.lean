/-
  Our own text, in the proofs of the laws of package rope. Proved here: the lengths and the words of a concatenation. No condition.
-/
import Derived.Test.YtgklmcinbaghmaaGreatDoorCb
namespace Go.Proofs.YtgklmcinbaghmaaGreatDoor
open Go Go.RowKit

theorem getD_app {α : Type} (L M : List α) (d : α) (l : Int) (h : 0 ≤ l) : (L ++ M).getD (l + (L.length : Int)).toNat d = M.getD l.toNat d := by
  have e : (l + (L.length : Int)).toNat = l.toNat + L.length := by omega
  rw [e, List.getD, List.getElem?_append_right (by omega), Nat.add_sub_cancel]
  rfl

theorem nodeB_mov {x : Nd} {m k : Nat} (h : nodeB x (m : Int) = true) : nodeB (movN k x) ((k + m : Nat) : Int) = true := by
  unfold nodeB at h
  unfold movN nodeB
  by_cases hw : x.word.data.toList = []
  · by_cases ht : x.t = 0
    · simp only [if_pos hw, if_pos ht, belowB, Bool.and_eq_true, decide_eq_true_eq] at h ⊢
      omega
    · simp only [if_pos hw, if_neg ht, belowB, Bool.and_eq_true, decide_eq_true_eq] at h ⊢
      omega
  · simp only [if_neg hw] at h ⊢
    exact h

theorem lenOf_mov {L M : List Nat} {x : Nd} {n : Nat} (h : lenOf M x = some n) : lenOf (L ++ M) (movN L.length x) = some n := by
  have hb := lenOf_node h
  have hb' := nodeB_mov (k := L.length) hb
  unfold lenOf at h ⊢
  rw [if_pos hb] at h
  rw [List.length_append, if_pos hb']
  unfold movN
  by_cases hw : x.word.data.toList = []
  · by_cases ht : x.t = 0
    · obtain ⟨h1, h2⟩ := nodeB_join hb hw ht
      simp only [if_pos hw, if_pos ht] at h ⊢
      rw [getD_app _ _ _ _ h1.1, getD_app _ _ _ _ h2.1]
      exact h
    · obtain ⟨h1, h2, h3⟩ := nodeB_pow hb hw ht
      simp only [if_pos hw, if_neg ht] at h ⊢
      rw [getD_app _ _ _ _ h1.1]
      exact h
  · simp only [if_neg hw] at h ⊢
    exact h

theorem denOf_mov {D E : List (List UInt8)} {x : Nd} {m : Int} (hb : nodeB x m = true) : denOf (D ++ E) (movN D.length x) = denOf E x := by
  unfold denOf movN
  by_cases hw : x.word.data.toList = []
  · by_cases ht : x.t = 0
    · obtain ⟨h1, h2⟩ := nodeB_join hb hw ht
      simp only [if_pos hw, if_pos ht]
      rw [getD_app _ _ _ _ h1.1, getD_app _ _ _ _ h2.1]
    · obtain ⟨h1, h2, h3⟩ := nodeB_pow hb hw ht
      simp only [if_pos hw, if_neg ht]
      rw [getD_app _ _ _ _ h1.1]
  · simp only [if_neg hw]

theorem lensR_mov {a b : List Nd} {L M : List Nat} (h : lens a = some L) (h' : lens b = some M) : ∀ k, k ≤ b.length → lensR (a ++ (b.take k).map (movN a.length)) = some (L ++ M.take k) ∧ dens (a ++ (b.take k).map (movN a.length)) = dens a ++ dens (b.take k) := by
  have ha : lensR a = some L := by unfold lens at h; rw [if_pos (lens_ok (show lens a = some L from h)).2.2] at h; exact h
  have hL := (lens_ok h).1
  have hM := (lens_ok h').1
  intro k
  induction k with
  | zero => intro _; exact ⟨by simpa using ha, by simp [dens]⟩
  | succ k ih =>
    intro hk
    obtain ⟨h1, h2⟩ := ih (by omega)
    obtain ⟨hn, hl⟩ := lens_node h' k (by omega)
    have hb := lenOf_node hn
    rw [List.take_succ_eq_append_getElem (show k < b.length by omega), List.map_append, List.map_singleton, ← List.append_assoc]
    constructor
    · have h3 : lenOf (L ++ M.take k) (movN a.length b[k]) = some (M.getD k 0) := by rw [← hL]; exact lenOf_mov hn
      unfold lensR at h1 ⊢
      rw [List.foldl_append, h1]
      simp only [List.foldl_cons, List.foldl_nil, stepL, Option.bind_some, h3, Option.map_some]
      rw [List.take_succ_eq_append_getElem (show k < M.length by omega), List.append_assoc]
      have : M.getD k 0 = M[k] := by simp [List.getD, List.getElem?_eq_getElem (show k < M.length by omega)]
      rw [this]
    · rw [dens_append, h2, dens_append]
      have h3 := denOf_mov (D := dens a) (E := dens (b.take k)) hb
      rw [dens_len] at h3
      rw [h3, List.append_assoc]

theorem cat_len (a b : List Nd) : (catR a b).length = a.length + b.length + 1 := by simp [catR]; omega

/-- The lengths of a concatenation, and its word. -/
theorem lens_cat {a b : List Nd} {L M : List Nat} (h : lens a = some L) (h' : lens b = some M) (ha : 0 < a.length) (hb : 0 < b.length) (h4 : a.length + b.length + 1 ≤ 4000) (hs : (lastN L : Int) + (lastN M : Int) ≤ 1152921504606846976) :
    lens (catR a b) = some (L ++ M ++ [lastN L + lastN M]) ∧ wordOf (catR a b) = wordOf a ++ wordOf b := by
  obtain ⟨h1, h2⟩ := lensR_mov h h' b.length (Nat.le_refl _)
  have hL := (lens_ok h).1
  have hM := (lens_ok h').1
  rw [List.take_of_length_le (Nat.le_refl _)] at h1 h2
  rw [List.take_of_length_le (by omega)] at h1
  have e1 : ((a.length : Int) - 1).toNat = a.length - 1 := by omega
  have e2 : ((a.length : Int) + (b.length : Int) - 1).toNat = a.length + (b.length - 1) := by omega
  constructor
  · have hlen := cat_len a b
    unfold lens
    rw [if_pos (by omega)]
    unfold catR
    unfold lensR at h1 ⊢
    rw [List.foldl_append, h1]
    have g1 : (L ++ M).getD (a.length - 1) 0 = lastN L := by
      rw [List.getD, List.getElem?_append_left (by omega)]
      unfold lastN; rw [hL]; rfl
    have g2 : (L ++ M).getD (a.length + (b.length - 1)) 0 = lastN M := by
      rw [List.getD, List.getElem?_append_right (by omega)]
      unfold lastN; rw [hM, hL, Nat.add_sub_cancel_left]; rfl
    have hn : lenOf (L ++ M) ⟨⟨#[]⟩, (a.length : Int) - 1, (a.length : Int) + (b.length : Int) - 1, 0⟩ = some (lastN L + lastN M) := by
      have hbn : nodeB ⟨⟨#[]⟩, (a.length : Int) - 1, (a.length : Int) + (b.length : Int) - 1, 0⟩ ((L ++ M).length : Int) = true := by
        unfold nodeB belowB
        rw [if_pos rfl, if_pos rfl, List.length_append]
        simp only [Bool.and_eq_true, decide_eq_true_eq]
        omega
      unfold lenOf
      rw [if_pos hbn, if_pos rfl, if_pos rfl]
      simp only [e1, e2, g1, g2]
      rw [if_pos hs]
    simp only [List.foldl_cons, List.foldl_nil, stepL, Option.bind_some, hn, Option.map_some]
  · unfold wordOf
    rw [cat_len]
    unfold catR
    rw [dens_append, h2]
    have d1 := dens_len a
    have d2 := dens_len b
    have g1 : (dens a ++ dens b).getD (a.length - 1) [] = (dens a).getD (a.length - 1) [] := by
      rw [List.getD, List.getElem?_append_left (by omega)]; rfl
    have g2 : (dens a ++ dens b).getD (a.length + (b.length - 1)) [] = (dens b).getD (b.length - 1) [] := by
      rw [List.getD, List.getElem?_append_right (by omega), d1, Nat.add_sub_cancel_left]; rfl
    rw [Nat.add_sub_cancel, List.getD, List.getElem?_append_right (by simp; omega)]
    have : a.length + b.length - (dens a ++ dens b).length = 0 := by simp; omega
    rw [this]
    simp only [List.getElem?_cons_zero, Option.getD_some]
    unfold denOf
    rw [if_pos rfl, if_pos rfl]
    simp only [e1, e2, g1, g2]
end Go.Proofs.YtgklmcinbaghmaaGreatDoor
