/-
  Our own text, in the proofs of the laws of package word (cayleylaw01). Proved here: edits of a word by pairs of inverse neighbours keep its free reduction, on lists of bytes. Conditions: none.
-/
import Derived.Test.YtflieikbhgneoaaDoorYa
namespace Go.Proofs.YtflieikbhgneoaaDoor
open Go Go.RowKit

/-- A pair of inverse neighbours, put in or taken out. -/
theorem red_pair (a b : List UInt8) (c : UInt8) : red (a ++ c :: invc c :: b) = red (a ++ b) := by
  show (run [] (a ++ c :: invc c :: b)).reverse = (run [] (a ++ b)).reverse
  rw [run_app, run_app]
  show (run (stp (stp (run [] a) c) (invc c)) b).reverse = _
  rw [stp_stp (Redd.run (r := []) trivial a)]

/-- An edit: place, letter, removal. -/
structure Ed where
  at_ : Int
  lt : Int
  rm : Bool

def remB (w : List UInt8) (x : Ed) : Bool := decide (0 ≤ x.at_) && decide (x.at_ < (w.length : Int) - 1) && (w.getD x.at_.toNat 0 == otherc (w.getD (x.at_.toNat + 1) 0))
def insB (w : List UInt8) (x : Ed) : Bool := decide (0 ≤ x.at_) && decide (x.at_ ≤ (w.length : Int)) && decide (0 ≤ x.lt) && decide (x.lt < 16)
def stepE (w : List UInt8) (x : Ed) : List UInt8 :=
  if x.rm = true then (if remB w x = true then w.take x.at_.toNat ++ w.drop (x.at_.toNat + 2) else w)
  else (if insB w x = true then w.take x.at_.toNat ++ let_ x.lt :: invc (let_ x.lt) :: w.drop x.at_.toNat else w)

theorem let_idx : ∀ n : Int, 0 ≤ n → n < 16 → idx (let_ n) = n := by
  have h : ∀ n : Nat, n < 16 → idx (let_ n) = n := by decide +kernel
  intro n h0 h1
  have := h n.toNat (by omega)
  rwa [show ((n.toNat : Nat) : Int) = n by omega] at this
theorem let_letter {n : Int} (h0 : 0 ≤ n) (h1 : n < 16) : letterB 8 (let_ n) = true := by
  unfold letterB; rw [let_idx n h0 h1]; simp; omega

theorem stepE_all {w : List UInt8} (hw : w.all (letterB 8) = true) (x : Ed) : (stepE w x).all (letterB 8) = true := by
  unfold stepE
  rw [List.all_eq_true] at hw
  split
  · split
    · rw [List.all_append, Bool.and_eq_true, List.all_eq_true, List.all_eq_true]
      exact ⟨fun c hc => hw c (List.mem_of_mem_take hc), fun c hc => hw c (List.mem_of_mem_drop hc)⟩
    · rw [List.all_eq_true]; exact hw
  · split
    · rename_i h
      unfold insB at h
      simp only [Bool.and_eq_true, decide_eq_true_eq] at h
      rw [List.all_append, List.all_cons, List.all_cons, Bool.and_eq_true, Bool.and_eq_true, Bool.and_eq_true, List.all_eq_true, List.all_eq_true]
      exact ⟨fun c hc => hw c (List.mem_of_mem_take hc), let_letter h.1.2 h.2, letterB_invc (let_letter h.1.2 h.2), fun c hc => hw c (List.mem_of_mem_drop hc)⟩
    · rw [List.all_eq_true]; exact hw
theorem stepE_len (w : List UInt8) (x : Ed) : (stepE w x).length ≤ w.length + 2 := by
  unfold stepE
  split
  · split
    · rw [List.length_append, List.length_take, List.length_drop]; omega
    · omega
  · split
    · rw [List.length_append, List.length_cons, List.length_cons, List.length_take, List.length_drop]; omega
    · omega
theorem stepE_red {w : List UInt8} (hw : w.all (letterB 8) = true) (x : Ed) : red (stepE w x) = red w := by
  unfold stepE
  split
  · split
    · rename_i h
      unfold remB at h
      simp only [Bool.and_eq_true, decide_eq_true_eq, beq_iff_eq] at h
      obtain ⟨⟨h0, h1⟩, h2⟩ := h
      obtain ⟨n, hn⟩ : ∃ n : Nat, x.at_.toNat = n := ⟨_, rfl⟩
      rw [hn] at h2 ⊢
      have hl : n + 1 < w.length := by omega
      have e1 : w.getD n 0 = w[n] := by simp [List.getD, show n < w.length by omega]
      have e2 : w.getD (n + 1) 0 = w[n + 1] := by simp [List.getD, hl]
      rw [e1, e2] at h2
      have hlt := List.all_eq_true.1 hw w[n + 1] (List.getElem_mem hl)
      have h3 : w[n] = invc w[n + 1] := by
        rw [h2]; unfold otherc letterB at *
        simp only [Bool.and_eq_true, decide_eq_true_eq] at hlt
        rw [if_pos hlt.1]
      have e : w = w.take n ++ w[n] :: invc w[n] :: w.drop (n + 2) := by
        conv => lhs; rw [← List.take_append_drop n w]
        congr 1
        rw [List.drop_eq_getElem_cons (show n < w.length by omega), List.drop_eq_getElem_cons hl, h3, invc_invc]
      conv => rhs; rw [e]
      exact (red_pair _ _ _).symm
    · rfl
  · split
    · conv => rhs; rw [← List.take_append_drop x.at_.toNat w]
      exact red_pair _ _ _
    · rfl

/-- All the edits. -/
def edited (w : List UInt8) (l : List Ed) : List UInt8 := l.foldl stepE w
theorem edited_all {w : List UInt8} (hw : w.all (letterB 8) = true) : ∀ l, (edited w l).all (letterB 8) = true := by
  intro l
  induction l generalizing w with
  | nil => exact hw
  | cons x l ih => exact ih (stepE_all hw x)
theorem edited_len (w : List UInt8) (l : List Ed) : (edited w l).length ≤ w.length + 2 * l.length := by
  induction l generalizing w with
  | nil => simp [edited]
  | cons x l ih => have := ih (stepE w x); have := stepE_len w x; simp only [edited, List.foldl_cons, List.length_cons] at *; omega
theorem edited_red {w : List UInt8} (hw : w.all (letterB 8) = true) (l : List Ed) : red (edited w l) = red w := by
  induction l generalizing w with
  | nil => rfl
  | cons x l ih => exact (ih (stepE_all hw x)).trans (stepE_red hw x)

/-- The lengths part by an even number. -/
theorem stp_par (r : List UInt8) (c : UInt8) : (stp r c).length % 2 = (r.length + 1) % 2 := by
  cases r with
  | nil => rfl
  | cons x t => rw [stp_cons]; split <;> simp; omega
theorem run_par : ∀ (l r : List UInt8), (run r l).length % 2 = (r.length + l.length) % 2
  | [], r => by simp [run]
  | c :: l, r => by
    have h1 := run_par l (stp r c)
    have h2 := stp_par r c
    show (run (stp r c) l).length % 2 = _
    rw [h1, List.length_cons]; omega
theorem red_par (l : List UInt8) : (l.length - (red l).length) % 2 = 0 := by
  have h := run_par l []
  have hl := red_len l
  have e : (red l).length = (run [] l).length := by unfold red; rw [List.length_reverse]; rfl
  rw [e] at hl ⊢
  simp at h
  omega
theorem redd_rev_aux : ∀ (l r : List UInt8), Redd (l.reverse ++ r) → ∀ i (h : i + 1 < l.length), l[i] ≠ invc l[i + 1] := by
  intro l
  induction l with
  | nil => intro r _ i h; simp at h
  | cons a l ih =>
    intro r h i hi
    cases i with
    | succ i =>
      rw [List.reverse_cons, List.append_assoc] at h
      simpa using ih (a :: r) h i (by simpa using hi)
    | zero =>
      cases l with
      | nil => simp at hi
      | cons b l =>
        rw [List.reverse_cons, List.reverse_cons, List.append_assoc, List.append_assoc] at h
        have : ∀ (p q : List UInt8), Redd (p ++ q) → Redd q := by
          intro p
          induction p with
          | nil => intro q h; exact h
          | cons a p ih => intro q h; exact ih q (Redd.tail h)
        have h2 := this _ _ h
        exact ne_invc h2.1
theorem red_nb (l : List UInt8) (i : Nat) (h : i + 1 < (red l).length) : (red l)[i] ≠ invc (red l)[i + 1] := by
  refine redd_rev_aux (red l) [] ?_ i h
  unfold red
  rw [List.reverse_reverse, List.append_nil]
  exact redd_redR l
end Go.Proofs.YtflieikbhgneoaaDoor
