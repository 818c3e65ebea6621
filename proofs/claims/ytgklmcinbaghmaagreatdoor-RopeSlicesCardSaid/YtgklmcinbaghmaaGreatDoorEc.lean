/-
  Our own text, in the proof of the law RopeChecks of package rope (cayleylaw02). Proved here: facts for the evaluator's closure at arrays of sums: what it knows, and what its memory keeps. No condition.
-/
import Derived.Test.YtgklmcinbaghmaaGreatDoorEb
import Derived.Deep.RegionHeld3
namespace Go.Proofs.YtgklmcinbaghmaaGreatDoor
open Go Go.RowKit

abbrev EnvS := Env 59 63 96 56
abbrev sumM : Array Value := #[.func (.func 31) #[] #[], .func (.func 33) #[] #[], .func (.func 34) #[] #[]]

/-- What is known is right. -/
def KnowS (r : List Nd) (f : Int → Option Value) : Prop := ∀ j : Int, f j = none ∨ (0 ≤ j ∧ j < r.length ∧ f j = some (aggS (nodeS r j.toNat)))
/-- How many nodes are known. -/
def cntF (len : Nat) (f : Int → Option Value) : Nat := (List.range len).countP fun j : Nat => (f (j : Int)).isSome
theorem cntF_le (len : Nat) (f : Int → Option Value) : cntF len f ≤ len := by
  have := List.countP_le_length (p := fun j : Nat => (f (j : Int)).isSome) (l := List.range len)
  simpa [cntF] using this
theorem countP_put (f : Int → Option Value) (k : Nat) (v : Value) (hf : f k = none) : ∀ len, (List.range len).countP (fun j : Nat => (putF f k v (j : Int)).isSome) = (List.range len).countP (fun j : Nat => (f (j : Int)).isSome) + if k < len then 1 else 0 := by
  intro len
  induction len with
  | zero => simp
  | succ len ih =>
    rw [List.range_succ, List.countP_append, List.countP_append, ih]
    simp only [List.countP_singleton]
    unfold putF
    by_cases h : len = k
    · subst h
      rw [if_pos rfl, hf, if_neg (Nat.lt_irrefl len), if_pos (Nat.lt_succ_self len)]
      simp
    · rw [if_neg (show ¬ (len : Int) = (k : Int) by omega)]
      by_cases h2 : k < len
      · rw [if_pos h2, if_pos (show k < len + 1 by omega)]; omega
      · rw [if_neg h2, if_neg (show ¬ k < len + 1 by omega)]; omega
theorem cntF_put {f : Int → Option Value} {k len : Nat} (v : Value) (hf : f k = none) (hk : k < len) : cntF len (putF f k v) = cntF len f + 1 := by
  unfold cntF; rw [countP_put f k v hf len, if_pos hk]
theorem KnowS.put {r : List Nd} {f : Int → Option Value} (h : KnowS r f) (k : Nat) (hk : k < r.length) : KnowS r (putF f k (aggS (nodeS r k))) := by
  intro j
  unfold putF
  by_cases hj : j = k
  · subst hj
    rw [if_pos rfl]
    exact .inr ⟨by omega, by omega, by simp⟩
  · rw [if_neg hj]; exact h j
theorem KnowS.nil (r : List Nd) : KnowS r (fun _ => none) := fun _ => .inl rfl

theorem Env.same' {c : FuncId} {tm tk tf : TypeId} {w w' : World} {B : Nat} {sl : Value} {ms : Array Value} {n : Nat} {f : Int → Option Value} (h : Env c tm tk tf w B sl ms n f) (hb : ∀ i, B ≤ i → i ≤ B + 4 → w'.heap[i]? = w.heap[i]?) : Env c tm tk tf w' B sl ms n f :=
  ⟨(hb _ (by omega) (by omega)).trans h.rope, (hb _ (by omega) (by omega)).trans h.mean, (hb _ (by omega) (by omega)).trans h.known, (hb _ (by omega) (by omega)).trans h.self, h.memo.block (hb _ (by omega) (by omega))⟩
theorem Env.gb {c : FuncId} {tm tk tf : TypeId} {w w' : World} {B : Nat} {sl : Value} {ms : Array Value} {n : Nat} {f : Int → Option Value} (h : Env c tm tk tf w B sl ms n f) {row : Option Nat} (hg : w.grownBy w' row) (hr : ∀ g, row = some g → B + 4 < g) : Env c tm tk tf w' B sl ms n f :=
  h.same' fun i hi hl => hg.block i (by have := h.lt; omega) (fun e => by have := hr i e.symm; omega)
end Go.Proofs.YtgklmcinbaghmaaGreatDoor
