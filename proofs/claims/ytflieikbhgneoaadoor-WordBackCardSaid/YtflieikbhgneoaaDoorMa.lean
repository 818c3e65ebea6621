/-
  Our own text, in the proofs of the laws of package word (cayleylaw01). Proved here: the laws of the free group, on lists of bytes. Conditions: the arguments read as the row says and the listed tables lie as the program lays them; none other.
-/
import Derived.Test.YtflieikbhgneoaaDoorXf
namespace Go.Proofs.YtflieikbhgneoaaDoor

/-! THE FREE GROUP's LAWS, on lists. -/

theorem invc_invc (c : UInt8) : invc (invc c) = c := by
  unfold invc; rw [UInt8.xor_assoc]; simp
theorem can_iff (x c : UInt8) : (x ^^^ c == 32) = decide (x = invc c) := by
  rw [Bool.eq_iff_iff]; simp only [beq_iff_eq, decide_eq_true_eq]
  unfold invc
  constructor
  · intro h
    have : (x ^^^ c) ^^^ c = 32 ^^^ c := by rw [h]
    rw [UInt8.xor_assoc] at this; simp at this
    rw [this, UInt8.xor_comm]
  · intro h
    rw [h, UInt8.xor_comm c 32, UInt8.xor_assoc]; simp

/-- No neighbours that are inverse to each other. -/
def Redd : List UInt8 → Prop
  | a :: b :: t => a ≠ invc b ∧ Redd (b :: t)
  | _ => True
theorem Redd.tail {a : UInt8} {t : List UInt8} (h : Redd (a :: t)) : Redd t := by
  cases t with
  | nil => trivial
  | cons b t => exact h.2
theorem stp_cons (x : UInt8) (t : List UInt8) (c : UInt8) : stp (x :: t) c = if x = invc c then t else c :: x :: t := by
  unfold stp; simp only [can_iff, decide_eq_true_eq]
theorem ne_invc {a b : UInt8} (h : a ≠ invc b) : b ≠ invc a := fun e => h (by rw [e, invc_invc])
theorem Redd.stp {r : List UInt8} (h : Redd r) (c : UInt8) : Redd (stp r c) := by
  cases r with
  | nil => exact trivial
  | cons x t =>
    rw [stp_cons]; split
    · exact h.tail
    · rename_i hn
      exact ⟨ne_invc hn, h⟩
theorem stp_stp {r : List UInt8} (h : Redd r) (c : UInt8) : Go.Proofs.YtflieikbhgneoaaDoor.stp (Go.Proofs.YtflieikbhgneoaaDoor.stp r c) (invc c) = r := by
  cases r with
  | nil => simp [Go.Proofs.YtflieikbhgneoaaDoor.stp, can_iff, invc_invc]
  | cons x t =>
    rw [stp_cons]; split
    · rename_i e
      subst e
      cases t with
      | nil => rfl
      | cons b t =>
        rw [stp_cons, if_neg]
        rw [invc_invc]
        intro e
        exact h.1 (by rw [e])
    · rw [stp_cons, if_pos (by rw [invc_invc])]
abbrev run (r l : List UInt8) : List UInt8 := l.foldl stp r
theorem run_app (r a b : List UInt8) : run r (a ++ b) = run (run r a) b := List.foldl_append
theorem Redd.run {r : List UInt8} (h : Redd r) : ∀ l, Redd (run r l)
  | [] => h
  | c :: l => Redd.run (h.stp c) l
theorem redd_redR (l : List UInt8) : Redd (redR l) := Redd.run (r := []) trivial l
theorem red_snoc (l : List UInt8) (c : UInt8) : redR (l ++ [c]) = stp (redR l) c := by simp [redR]
theorem run_red_snoc {r : List UInt8} (h : Redd r) (l : List UInt8) (c : UInt8) (ih : run r (red l) = run r l) : run r (red (l ++ [c])) = run r (l ++ [c]) := by
  rw [run_app, ← ih]
  show run r (redR (l ++ [c])).reverse = run (run r (redR l).reverse) [c]
  rw [red_snoc]
  cases hs : redR l with
  | nil => simp [stp, run]
  | cons x t =>
    rw [stp_cons]; split
    · rename_i hx
      rw [List.reverse_cons, run_app]
      have h2 := Redd.run h t.reverse
      have h3 := stp_stp h2 x
      rw [hx, invc_invc] at h3
      rw [hx]
      exact h3.symm
    · rw [List.reverse_cons, run_app]
theorem run_red {r : List UInt8} (h : Redd r) (l : List UInt8) : run r (red l) = run r l := by
  have : ∀ m : List UInt8, run r (red m.reverse) = run r m.reverse := by
    intro m
    induction m with
    | nil => rfl
    | cons c m ih => rw [List.reverse_cons]; exact run_red_snoc h _ c ih
  simpa using this l.reverse
theorem redR_app (a b : List UInt8) : redR (a ++ b) = run (redR a) b := run_app [] a b
theorem redR_red (l : List UInt8) : redR (red l) = redR l := run_red (r := []) trivial l
theorem red_red (l : List UInt8) : red (red l) = red l := by show (redR (red l)).reverse = red l; rw [redR_red]; rfl
theorem red_app_red (a b : List UInt8) : red (a ++ red b) = red (a ++ b) := by
  unfold red; rw [redR_app, redR_app, show (redR b).reverse = red b from rfl, run_red (redd_redR a)]
theorem red_red_app (a b : List UInt8) : red (red a ++ b) = red (a ++ b) := by
  unfold red; rw [redR_app, redR_app, show (redR a).reverse = red a from rfl, redR_red]

theorem invW_app (a b : List UInt8) : invW (a ++ b) = invW b ++ invW a := by simp [invW]
theorem invW_invW (a : List UInt8) : invW (invW a) = a := by
  unfold invW; rw [List.map_reverse, List.reverse_reverse, List.map_map]
  have : invc ∘ invc = id := funext invc_invc
  rw [this]; simp
theorem invW_cons (c : UInt8) (a : List UInt8) : invW (c :: a) = invW a ++ [invc c] := by simp [invW]
theorem run_inv {r : List UInt8} (h : Redd r) (u : List UInt8) : run r (u ++ invW u) = r := by
  induction u generalizing r with
  | nil => rfl
  | cons c u ih =>
    rw [invW_cons, List.cons_append, ← List.append_assoc]
    show run (stp r c) ((u ++ invW u) ++ [invc c]) = r
    rw [run_app, ih (h.stp c)]
    exact stp_stp h c
theorem red_inv (u : List UInt8) : red (u ++ invW u) = [] := by
  show (run [] (u ++ invW u)).reverse = []
  rw [run_inv (r := []) trivial]; rfl
theorem red_inv' (u : List UInt8) : red (invW u ++ u) = [] := by have := red_inv (invW u); rwa [invW_invW] at this
theorem red_assoc (u v w : List UInt8) : red (red (u ++ v) ++ w) = red (u ++ red (v ++ w)) := by rw [red_red_app, red_app_red, List.append_assoc]
theorem red_invW_red (l : List UInt8) : red (invW (red l)) = red (invW l) := by
  have h1 : red (invW (red l) ++ l) = [] := by rw [← red_app_red]; exact red_inv' _
  have h2 : red (invW (red l) ++ (l ++ invW l)) = red (invW (red l)) := by
    rw [← red_app_red, red_inv]; simp
  rw [← h2, ← List.append_assoc, ← red_red_app, h1]; rfl
end Go.Proofs.YtflieikbhgneoaaDoor
