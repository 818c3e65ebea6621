/-
  Our own text, in the proofs of the laws of package rope. Proved here: slices.Grow of a nil list of nodes. Conditions: at most 4000 nodes are asked for.
-/
import Derived.Test.YtgklmcinbaghmaaGreatDoorCc
import Derived.Lib.AppendZeros
namespace Go.Proofs.YtgklmcinbaghmaaGreatDoor
open Go Go.RowKit

def GrowP (w : World) (e : Ending) (w' : World) : Prop :=
  ∃ A cap, e = .returned (.slice A 0 cap) ∧ w'.ownsRow w.heap.size 68 4 (.slice A 0 cap) 0 (nodesC []) ∧ Below w.heap.size w w'

set_option maxHeartbeats 1000000 in
set_option maxRecDepth 100000 in
theorem Grow_any (n : Nat) (hn : n ≤ 4000) (w : World) : Calls Tryz.prog 64 #[.slice none 0 0, .int .i64 (n : Int)] w (GrowP w) := by
  by_cases h0 : n = 0
  · subst h0
    go_enter Tryz.func64, Tryz.ntmps64
    go_wp2
    go_ret
    exact ⟨none, 0, rfl, World.ownsRow_nil _ _ _ _, Below.refl _ _⟩
  · obtain ⟨i0, hi, hz0, hz1, hz2⟩ := info_parts Tryz.info68
    have hr := Lib.run_append_nil_zeros (P := Tryz.prog) w 22 3 22 68 i0 (.agg #[.string ⟨#[]⟩, .int .i64 0, .int .i64 0, .int .i64 0]) .i64 .i64 Tryz.underlying22 Tryz.underlying3 hi hz0 n (by omega) (by rw [hz1]; decide) (by omega) (by rw [hz2]; omega)
    have hcm : grownCap w n 0 68 ≤ maxLen := grownCap_le_maxLen w n 0 68 (by unfold maxLen; omega)
    have hge : n ≤ grownCap w n 0 68 := grownCap_ge w n 0 68
    generalize grownCap w n 0 68 = c at *
    generalize hZ : (Builtin.zeroCells (Value.cells (.agg #[.string ⟨#[]⟩, .int .i64 0, .int .i64 0, .int .i64 0])) n ++ Builtin.zeroCells (Value.cells (.agg #[.string ⟨#[]⟩, .int .i64 0, .int .i64 0, .int .i64 0])) (c - n)) = Z at hr
    have hZs : Z.size = c * 4 := by rw [← hZ]; simp [size_zeroCells, Value.cells]; omega
    have hown : (w.drew.alloc (.cells Z 68)).ownsRow w.heap.size 68 4 (.slice (some ⟨w.heap.size, 0, none⟩) 0 c) 0 (nodesC []) :=
      ⟨rfl, .inr ⟨w.heap.size, c, Z, rfl, Nat.le_refl _, heap_alloc_new w.drew _, Nat.zero_le _, hcm, hZs, by simp [nodesC]⟩⟩
    have hb : Below w.heap.size w (w.drew.alloc (.cells Z 68)) := ((Below.refl w.heap.size w).drewN 1).alloc (Nat.le_refl _) _
    have HO := Lib.hid hown
    have HB := Lib.hid hb
    have HRR := Lib.hid hr
    have hn1 : 1 ≤ n := by omega
    clear hown hb hZ hZs hcm hi hz0 hz1 hz2 hr h0
    go_enter Tryz.func64, Tryz.ntmps64
    go_wp2_with (at_builtin; refine Lib.wpList_append_run _ rfl _ _ _ _ rfl _ _ rfl rfl _ _ HRR.out ?_)
    go_ret
    exact ⟨_, c, rfl, HO.out, HB.out⟩
end Go.Proofs.YtgklmcinbaghmaaGreatDoor
