/-
  Our own text, in the proof of the law RopeChecks of package rope (cayleylaw02). Proved here: the evaluator's closure at arrays of sums, at a node that is known, and at a leaf. Conditions: the rope lies in memory below the closure's own blocks.
-/
import Derived.Test.YtgklmcinbaghmaaGreatDoorEc
namespace Go.Proofs.YtgklmcinbaghmaaGreatDoor
open Go Go.RowKit

/-- Eight zero cells. -/
abbrev zCells : Array Value := #[.int .i64 0, .int .i64 0, .int .i64 0, .int .i64 0, .int .i64 0, .int .i64 0, .int .i64 0, .int .i64 0]
/-- The world behind the first two variables. -/
abbrev two (w : World) : World := (w.alloc (.cells zCells 55)).alloc (.cells zCells 55)
theorem two_new (w : World) : Blk (two w) w.heap.size 55 (cellsS zs) ∧ Blk (two w) (w.heap.size + 1) 55 (cellsS zs) ∧ Below w.heap.size w (two w) ∧ (two w).heap.size = w.heap.size + 2 := by
  have b0 := (Blk.new w 55 (cellsS zs)).alloc (.cells (cellsS zs) 55)
  have b1 := Blk.new (w.alloc (.cells (cellsS zs) 55)) 55 (cellsS zs)
  simp only [World.size_alloc] at b1
  exact ⟨b0, b1, ((Below.refl _ w).alloc (Nat.le_refl _) _).alloc (by simp) _, by simp⟩
abbrev argsS (k : Int) (B : Nat) : Array Value := #[.int .i64 k, .pointer (some ⟨B + 3, 0, none⟩), .pointer (some ⟨B, 0, none⟩), .pointer (some ⟨B + 1, 0, none⟩), .pointer (some ⟨B + 4, 0, none⟩)]
/-- How the closure ends: nodes behind this one are as known as they were. -/
def ValP (r : List Nd) (B : Nat) (sl : Value) (w : World) (k : Nat) (f : Int → Option Value) (e : Ending) (w' : World) : Prop :=
  e = .returned (aggS (nodeS r k)) ∧ ∃ n' f', EnvS w' B sl sumM n' f' ∧ KnowS r f' ∧ n' ≤ cntF r.length f' ∧ (∀ j : Int, (k : Int) < j → f' j = f j) ∧ w.grownBy w' (some (B + 2))
theorem below_gb {w w' : World} {B : Nat} (h : w.grownBy w' (some (B + 2))) (hB : B ≤ w.heap.size) : Below B w w' := (Below.refl B w).grown h hB (fun k e => by cases e; omega)

set_option maxHeartbeats 2000000 in
set_option maxRecDepth 100000 in
/-- What is known, or the node ahead of all. -/
theorem val_hit (S : List Int) (hS : S.length = 8) (B : Nat) (sl : Value) (ms : Array Value) (k : Int) (n : Nat) (f : Int → Option Value) (w : World) (h : EnvS w B sl ms n f) (hk : (Lit.int .i64 k).wf = true) (hf : f k = some (aggS S)) :
    Calls Tryz.prog 59 (argsS k B) w fun e w' => e = .returned (aggS S) ∧ Below w.heap.size w w' := by
  have h1 := h.on ((Below.refl w.heap.size w).alloc (Nat.le_refl _) (.cells zCells 55))
  have hl := h1.memo.look_some Tryz.underlying96 (zero55 _) k hk hf
  have hc : (w.alloc (.cells zCells 55)).cell? ⟨B + 3, 0, none⟩ = some (.map (some (B + 2))) := h1.known.cell 0
  obtain ⟨b0, b1, hB0, _⟩ := two_new w
  clear h h1 hf
  go_enter Tryz.func59, Tryz.ntmps59
  go_wp2_with (first
    | (with_reducible refine store_blk rfl (.tmp 7) (.tmp 14) rfl (w.heap.size + 1) S rfl rfl zs b1 rfl hS ?_; intro w3 b3 g3; have b0' := b0.gb g3 (by simp))
    | (with_reducible refine load_blk rfl (.tmp 7) rfl (w.heap.size + 1) S rfl b3 hS ?_)
    | (with_reducible refine store_blk rfl (.tmp 6) (.tmp 21) rfl w.heap.size S rfl rfl zs b0' rfl hS ?_; intro w4 b4 g4))
  refine bodyPost_ret (v := aggS S) (results_cell_row Tryz.results59 _ _ w.heap.size 55 _ (0, 0) (.array 8 3) rfl b4 und55 rfl (size_of hS)) rfl ⟨rfl, ?_⟩
  have hb3 := hB0.grown g3 hB0.size (fun g e => by cases e; omega)
  exact hb3.grown g4 hb3.size (fun g e => by cases e; omega)

set_option maxHeartbeats 2000000 in
set_option maxRecDepth 100000 in
theorem val_neg (B : Nat) (sl : Value) (ms : Array Value) (k : Int) (n : Nat) (f : Int → Option Value) (w : World) (h : EnvS w B sl ms n f) (hk : (Lit.int .i64 k).wf = true) (hf : f k = none) (hk0 : k < 0) :
    Calls Tryz.prog 59 (argsS k B) w fun e w' => e = .returned (aggS zs) ∧ Below w.heap.size w w' := by
  have h1 := h.on ((Below.refl w.heap.size w).alloc (Nat.le_refl _) (.cells zCells 55))
  have hl := h1.memo.look_none Tryz.underlying96 (zero55 _) k hk hf
  have hc : (w.alloc (.cells zCells 55)).cell? ⟨B + 3, 0, none⟩ = some (.map (some (B + 2))) := h1.known.cell 0
  obtain ⟨b0, b1, hB0, _⟩ := two_new w
  clear h h1 hf
  go_enter Tryz.func59, Tryz.ntmps59
  go_wp2_with (first
    | (with_reducible refine store_blk rfl (.tmp 7) (.tmp 14) rfl (w.heap.size + 1) zs rfl rfl zs b1 rfl rfl ?_; intro w3 b3 g3; have b0' := b0.gb g3 (by simp))
    | (with_reducible refine load_blk rfl (.tmp 7) rfl (w.heap.size + 1) zs rfl b3 rfl ?_)
    | (with_reducible refine store_blk rfl (.tmp 6) (.tmp 21) rfl w.heap.size zs rfl rfl zs b0' rfl rfl ?_; intro w4 b4 g4))
  refine bodyPost_ret (v := aggS zs) (results_cell_row Tryz.results59 _ _ w.heap.size 55 _ (0, 0) (.array 8 3) rfl b4 und55 rfl (size_of rfl)) rfl ⟨rfl, ?_⟩
  have hb3 := hB0.grown g3 hB0.size (fun g e => by cases e; omega)
  exact hb3.grown g4 hb3.size (fun g e => by cases e; omega)
end Go.Proofs.YtgklmcinbaghmaaGreatDoor
