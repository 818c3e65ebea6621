/-
  Our own text, in the proof of the law RopeSlices of package rope (cayleylaw02). Proved here: what a slicer keeps in memory; add puts a node behind the others. No condition but bounds.
-/
import Derived.Test.YtgklmcinbaghmaaGreatDoorFa
namespace Go.Proofs.YtgklmcinbaghmaaGreatDoor
open Go Go.RowKit

/-- The meaning by which a slicer keeps whole nodes. -/
abbrev slM (P Q : Nat) : Array Value := #[.func (.func 65) #[] #[.pointer (some ⟨P, 0, none⟩)], .func (.func 67) #[.pointer (some ⟨Q, 0, none⟩)] #[], .func (.func 68) #[.pointer (some ⟨Q, 0, none⟩)] #[]]

/-- A slicer in memory: over the rope a, with o put out so far; its memory of kept nodes is f. -/
structure Slc (w : World) (base Q P Bm B : Nat) (A : Option Addr) (cap : Nat) (a : List Nd) (L : List Nat) (o : List Nd) (Ao : Option Addr) (co : Nat) (n : Nat) (f : Int → Option Value) : Prop where
  q : Blk w Q 85 #[.slice A a.length cap, envV 76 Bm, envV 76 B, .slice Ao o.length co]
  p : Blk w P 81 #[.pointer (some ⟨Q, 0, none⟩)]
  own : w.ownsRow base 68 4 (.slice Ao o.length co) o.length (nodesC o)
  len : EnvI w Bm (.slice A a.length cap) lenM L.length (memoL L)
  keep : EnvI w B (.slice A a.length cap) (slM P Q) n f
  rope : RopeAt w A a
  ropeB : ∀ ad, A = some ad → ad.block < base
  baseQ : base ≤ Q
  size : w.heap.size ≤ w.heap.size

/-- The block of the row that is put out. -/
def rowOf (Ao : Option Addr) : Option Nat := Ao.map (·.block)

/-- What a call of the slicer keeps: all but the slicer's struct, its memory, and the row put out. -/
structure SGrow (Q B : Nat) (R R' : Option Nat) (w w' : World) : Prop where
  os : w'.os = w.os
  tape : w'.tape = w.tape
  output : w'.output = w.output
  size : w.heap.size ≤ w'.heap.size
  block : ∀ b, b < w.heap.size → b ≠ Q → b ≠ B + 2 → some b ≠ R → w'.heap[b]? = w.heap[b]?
  row : R' = R ∨ ∃ g, R' = some g ∧ w.heap.size ≤ g
theorem SGrow.refl (Q B : Nat) (R : Option Nat) (w : World) : SGrow Q B R R w w := ⟨rfl, rfl, rfl, Nat.le_refl _, fun _ _ _ _ _ => rfl, .inl rfl⟩
theorem SGrow.trans {Q B : Nat} {R R1 R2 : Option Nat} {w w1 w2 : World} (h : SGrow Q B R R1 w w1) (k : SGrow Q B R1 R2 w1 w2) : SGrow Q B R R2 w w2 := by
  refine ⟨k.os.trans h.os, k.tape.trans h.tape, k.output.trans h.output, Nat.le_trans h.size k.size, fun b hb h1 h2 h3 => ?_, ?_⟩
  · rw [k.block b (by have := h.size; omega) h1 h2 ?_, h.block b hb h1 h2 h3]
    rcases h.row with e | ⟨g, e, hg⟩
    · rw [e]; exact h3
    · rw [e]; intro e2; cases e2; omega
  · rcases k.row with e | ⟨g, e, hg⟩
    · rw [e]; exact h.row
    · exact .inr ⟨g, e, by have := h.size; omega⟩
theorem SGrow.of_below {Q B : Nat} {R : Option Nat} {w w' : World} (h : Below w.heap.size w w') : SGrow Q B R R w w' := ⟨h.os, h.tape, h.output, h.size, fun b hb _ _ _ => h.block b hb, .inl rfl⟩

theorem own_row {w : World} {base n c : Nat} {A : Option Addr} {xs : List Value} (h : w.ownsRow base 68 4 (.slice A n c) n xs) : ∀ g, rowOf A = some g → base ≤ g ∧ ∃ cur fz, w.heap[g]? = some (.cells cur 68 fz) := by
  intro g hg
  rcases h.2 with ⟨hv, _⟩ | ⟨g', c', cur, hv, hb, hh, _⟩
  · simp only [Value.slice.injEq] at hv
    rw [hv.1] at hg; cases hg
  · simp only [Value.slice.injEq, true_and] at hv
    rw [hv.1] at hg
    simp [rowOf] at hg
    subst hg
    exact ⟨hb, cur, _, hh⟩
theorem own_block {A : Option Addr} {n c : Nat} {w : World} {base : Nat} {xs : List Value} (h : w.ownsRow base 68 4 (.slice A n c) n xs) : (Value.slice A n c).ownBlock = rowOf A := by
  rcases h.2 with ⟨hv, _⟩ | ⟨g', c', cur, hv, hb, hh, _⟩
  · rw [hv]
    simp only [Value.slice.injEq] at hv
    rw [hv.1]; rfl
  · simp only [Value.slice.injEq, true_and] at hv
    rw [hv.1, hv.2]; rfl

theorem Env.blocks {c : FuncId} {tm tk tf : TypeId} {w w' : World} {B : Nat} {sl : Value} {ms : Array Value} {n : Nat} {f : Int → Option Value} (h : Env c tm tk tf w B sl ms n f) (hb : ∀ i, B ≤ i → i ≤ B + 4 → w'.heap[i]? = w.heap[i]?) : Env c tm tk tf w' B sl ms n f := h.same' hb
/-- None of a closure's blocks is a row of nodes. -/
theorem env_row {w : World} {B : Nat} {sl : Value} {ms : Array Value} {n : Nat} {f : Int → Option Value} (h : EnvI w B sl ms n f) {g : Nat} {cur : Array Value} {fz : Nat × Nat} (hg : w.heap[g]? = some (.cells cur 68 fz)) : ¬ (B ≤ g ∧ g ≤ B + 4) := by
  rintro ⟨h1, h2⟩
  have hcase : g = B ∨ g = B + 1 ∨ g = B + 2 ∨ g = B + 3 ∨ g = B + 4 := by omega
  rcases hcase with rfl | rfl | rfl | rfl | rfl
  · have := (show w.heap[g]? = _ from h.rope).symm.trans hg; simp at this
  · have := (show w.heap[B + 1]? = _ from h.mean).symm.trans hg; simp at this
  · obtain ⟨D, _, ⟨es, clock, e, _⟩, _⟩ := h.memo
    rw [hg] at e; cases e
  · have := (show w.heap[B + 3]? = _ from h.known).symm.trans hg; simp at this
  · have := (show w.heap[B + 4]? = _ from h.self).symm.trans hg; simp at this
end Go.Proofs.YtgklmcinbaghmaaGreatDoor
