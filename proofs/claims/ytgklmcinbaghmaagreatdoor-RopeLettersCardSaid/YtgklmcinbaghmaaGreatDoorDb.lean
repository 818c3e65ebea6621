/-
  Our own text, in the proof of the law RopeLetters of package rope (cayleylaw02). Proved here: the rope that Of makes of a word's parts is valid, and has the word. No condition.
-/
import Derived.Test.YtgklmcinbaghmaaGreatDoorDa
namespace Go.Proofs.YtgklmcinbaghmaaGreatDoor
open Go Go.RowKit

theorem snoc_ind {α : Type} {P : List α → Prop} (h0 : P []) (hs : ∀ l s, P l → P (l ++ [s])) (l : List α) : P l := by
  have : ∀ m : List α, P m.reverse := by
    intro m
    induction m with
    | nil => exact h0
    | cons a t ih => rw [List.reverse_cons]; exact hs _ _ ih
  have := this l.reverse
  rwa [List.reverse_reverse] at this

/-- The leaf of a word. -/
def leafN (s : ByteArray) : Nd := ⟨s, 0, 0, 0⟩
/-- The join of two nodes. -/
def joinN (a b : Int) : Nd := ⟨⟨#[]⟩, a, b, 0⟩
/-- One part more. -/
def addC (r : List Nd) (s : ByteArray) : List Nd := if r = [] then [leafN s] else r ++ [leafN s, joinN ((r.length : Int) - 1) (r.length : Int)]
def ofC (l : List ByteArray) : List Nd := l.foldl addC []
theorem ofC_snoc (l : List ByteArray) (s : ByteArray) : ofC (l ++ [s]) = addC (ofC l) s := by simp [ofC]
theorem ofC_len (l : List ByteArray) : (ofC l).length = 2 * l.length - 1 := by
  induction l using snoc_ind with
  | h0 => rfl
  | hs l s ih =>
    rw [ofC_snoc]
    unfold addC
    by_cases h : ofC l = []
    · rw [if_pos h]
      rw [h] at ih
      simp at ih ⊢
      omega
    · rw [if_neg h]
      have : 0 < (ofC l).length := List.length_pos_iff.2 h
      simp at ih ⊢
      omega
theorem ofC_nil {l : List ByteArray} : ofC l = [] ↔ l = [] := by
  constructor
  · intro h
    have := ofC_len l
    rw [h] at this
    cases l with
    | nil => rfl
    | cons a t => simp at this; omega
  · rintro rfl; rfl

theorem lensR_snoc (r : List Nd) (x : Nd) : lensR (r ++ [x]) = stepL (lensR r) x := by unfold lensR; rw [List.foldl_append]; rfl

theorem dens_last (r : List Nd) (x : Nd) : (dens (r ++ [x])).getD r.length [] = denOf (dens r) x := by
  rw [dens_append]
  have := dens_len r
  simp [List.getD, List.getElem?_append_right (show (dens r).length ≤ r.length by omega), this]

theorem leaf_len (L : List Nat) (s : ByteArray) (hs : leafB s.data.toList = true) (h0 : s.data.toList ≠ []) : lenOf L (leafN s) = some s.size := by
  refine lenOf_leaf ?_ h0
  unfold nodeB leafN
  rw [if_neg h0]
  simp [hs]

/-- What the rope of parts is. -/
structure OfIs (l : List ByteArray) : Prop where
  lens : ∃ L, lensR (ofC l) = some L ∧ L.length = (ofC l).length ∧ lastN L = ((l.map fun s => s.data.toList).flatten).length
  word : wordOf (ofC l) = (l.map fun s => s.data.toList).flatten

theorem lastN_snoc (L : List Nat) (n : Nat) : lastN (L ++ [n]) = n := by simp [lastN, List.getD]

theorem of_is (l : List ByteArray) (h : ∀ s ∈ l, leafB s.data.toList = true ∧ s.data.toList ≠ []) (hl : l.length ≤ 1000) : OfIs l := by
  induction l using snoc_ind with
  | h0 => exact ⟨⟨[], rfl, rfl, rfl⟩, rfl⟩
  | hs l s ih =>
    obtain ⟨⟨L, h1, h2, h3⟩, h4⟩ := ih (fun x hx => h x (by simp [hx])) (by simp at hl; omega)
    obtain ⟨g1, g2⟩ := h s (by simp)
    have hsz : s.data.toList.length = s.size := rfl
    have hlf : lensR (ofC l ++ [leafN s]) = some (L ++ [s.size]) := by
      rw [lensR_snoc, h1]; simp [stepL, leaf_len L s g1 g2]
    have hbig : ((l.map fun s => s.data.toList).flatten).length ≤ 100 * l.length := by
      rw [List.length_flatten, List.map_map]
      have : ∀ m : List ByteArray, (∀ x ∈ m, x.data.toList.length ≤ 100) → (m.map ((List.length) ∘ fun s => s.data.toList)).sum ≤ 100 * m.length := by
        intro m hm
        induction m with
        | nil => simp
        | cons a t ih =>
          have ha := hm a (by simp)
          have := ih (fun x hx => hm x (by simp [hx]))
          simp only [List.map_cons, List.sum_cons, List.length_cons, Function.comp] at this ⊢
          omega
      exact this l fun x hx => leafB_size (h x (by simp [hx])).1
    by_cases h0 : l = []
    · subst h0
      have e : ofC ([] ++ [s]) = [leafN s] := rfl
      refine ⟨⟨[s.size], ?_, by rw [e]; rfl, ?_⟩, ?_⟩
      · rw [e]; exact (by have := hlf; cases h1; exact this)
      · simp [lastN, hsz]
      · rw [e]
        show (dens [leafN s]).getD 0 [] = _
        have := dens_last [] (leafN s)
        simp only [List.nil_append, List.length_nil] at this
        rw [this]
        unfold denOf leafN
        rw [if_neg g2]
        simp
    · have hne : ofC l ≠ [] := fun hh => h0 (ofC_nil.1 hh)
      have hpos : 0 < (ofC l).length := List.length_pos_iff.2 hne
      have e : ofC (l ++ [s]) = (ofC l ++ [leafN s]) ++ [joinN (((ofC l).length : Int) - 1) ((ofC l).length : Int)] := by
        rw [ofC_snoc, addC, if_neg hne]; simp
      generalize ofC l = r at *
      have hL1 : (L ++ [s.size]).length = r.length + 1 := by simp [h2]
      have d1 : (L ++ [s.size]).getD (((r.length : Int) - 1).toNat) 0 = lastN L := by
        have : ((r.length : Int) - 1).toNat = L.length - 1 := by omega
        rw [this]
        unfold lastN
        simp [List.getD, List.getElem?_append_left (show L.length - 1 < L.length by omega)]
      have d2 : (L ++ [s.size]).getD (((r.length : Int)).toNat) 0 = s.size := by
        have : ((r.length : Int)).toNat = L.length := by omega
        rw [this]
        simp [List.getD]
      have s100 := leafB_size g1
      have hsum : ((lastN L : Nat) : Int) + (s.size : Int) ≤ 1152921504606846976 := by
        rw [h3]
        simp at hl
        omega
      have hj : lenOf (L ++ [s.size]) (joinN ((r.length : Int) - 1) (r.length : Int)) = some (lastN L + s.size) := by
        rw [lenOf_join (x := joinN ((r.length : Int) - 1) (r.length : Int)) ?_ rfl rfl]
        · show (if (((L ++ [s.size]).getD (((r.length : Int) - 1).toNat) 0 : Nat) : Int) + (((L ++ [s.size]).getD (((r.length : Int)).toNat) 0 : Nat) : Int) ≤ 1152921504606846976 then some ((L ++ [s.size]).getD (((r.length : Int) - 1).toNat) 0 + (L ++ [s.size]).getD (((r.length : Int)).toNat) 0) else none) = _
          rw [d1, d2, if_pos hsum]
        · unfold nodeB joinN
          simp only [if_true]
          simp [belowB]
          omega
      refine ⟨⟨L ++ [s.size] ++ [lastN L + s.size], ?_, by rw [e]; simp [h2], ?_⟩, ?_⟩
      · rw [e, lensR_snoc, hlf]; simp [stepL, hj]
      · rw [lastN_snoc, h3]; simp [hsz]
      · rw [e]
        unfold wordOf
        have hlen : ((r ++ [leafN s]) ++ [joinN ((r.length : Int) - 1) (r.length : Int)]).length - 1 = (r ++ [leafN s]).length := by simp
        rw [hlen, dens_last]
        unfold denOf joinN
        simp only [if_true]
        have q1 : (dens (r ++ [leafN s])).getD (((r.length : Int) - 1).toNat) [] = wordOf r := by
          have : ((r.length : Int) - 1).toNat = r.length - 1 := by omega
          rw [this, dens_pre (r ++ [leafN s]) r.length (r.length - 1) (by omega) (by simp)]
          simp [wordOf]
        have q2 : (dens (r ++ [leafN s])).getD (((r.length : Int)).toNat) [] = s.data.toList := by
          rw [Int.toNat_natCast, dens_last]
          unfold denOf leafN
          rw [if_neg g2]
        rw [q1, q2, h4]
        simp
end Go.Proofs.YtgklmcinbaghmaaGreatDoor
