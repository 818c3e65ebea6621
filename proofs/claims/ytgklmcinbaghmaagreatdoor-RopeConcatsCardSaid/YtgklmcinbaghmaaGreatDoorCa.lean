/-
  Our own text, in the proofs of the laws of package rope. Proved here: moved returns the node for a place behind others. Conditions: the node's references are small; none other.
-/
import Derived.Test.YtgklmcinbaghmaaGreatDoorSa
namespace Go.Proofs.YtgklmcinbaghmaaGreatDoor
open Go Go.RowKit

/-- A node behind k others. -/
def movN (k : Nat) (x : Nd) : Nd := if x.word.data.toList = [] then (if x.t = 0 then ⟨x.word, x.l + k, x.r + k, x.t⟩ else ⟨x.word, x.l + k, x.r, x.t⟩) else x

theorem blk_set_ne {w : World} {g : Nat} {t : TypeId} {cs : Array Value} (h : Blk w g t cs) (p : Addr) (u : Value) (hp : g ≠ p.block) : Blk (w.setCell p u) g t cs :=
  (heap_setCell_ne w p u g hp).trans h
/-- The node's block, and the result's, behind the first call. -/
theorem moved_key (s : ByteArray) (l r t : Int) (w w1 : World) (h : Below ((w.alloc (.cells #[.string s, .int .i64 l, .int .i64 r, .int .i64 t] 68)).alloc (.cells #[.string ⟨#[]⟩, .int .i64 0, .int .i64 0, .int .i64 0] 68)).heap.size ((w.alloc (.cells #[.string s, .int .i64 l, .int .i64 r, .int .i64 t] 68)).alloc (.cells #[.string ⟨#[]⟩, .int .i64 0, .int .i64 0, .int .i64 0] 68)) w1) :
    Blk w1 w.heap.size 68 #[.string s, .int .i64 l, .int .i64 r, .int .i64 t] ∧ Blk w1 (w.heap.size + 1) 68 #[.string ⟨#[]⟩, .int .i64 0, .int .i64 0, .int .i64 0] ∧ Below w.heap.size w w1 := by
  have hz : (w.alloc (.cells #[.string s, .int .i64 l, .int .i64 r, .int .i64 t] 68)).heap.size = w.heap.size + 1 := by simp
  have hz2 : ((w.alloc (.cells #[.string s, .int .i64 l, .int .i64 r, .int .i64 t] 68)).alloc (.cells #[.string ⟨#[]⟩, .int .i64 0, .int .i64 0, .int .i64 0] 68)).heap.size = w.heap.size + 2 := by simp
  have hB0 : Below w.heap.size w ((w.alloc (.cells #[.string s, .int .i64 l, .int .i64 r, .int .i64 t] 68)).alloc (.cells #[.string ⟨#[]⟩, .int .i64 0, .int .i64 0, .int .i64 0] 68)) := ((Below.refl _ _).alloc (Nat.le_refl _) _).alloc (by rw [hz]; omega) _
  have hblk : Blk (w.alloc (.cells #[.string s, .int .i64 l, .int .i64 r, .int .i64 t] 68)) w.heap.size 68 #[.string s, .int .i64 l, .int .i64 r, .int .i64 t] := heap_alloc_new w _
  have hb0 : Below (w.heap.size + 1) (w.alloc (.cells #[.string s, .int .i64 l, .int .i64 r, .int .i64 t] 68)) ((w.alloc (.cells #[.string s, .int .i64 l, .int .i64 r, .int .i64 t] 68)).alloc (.cells #[.string ⟨#[]⟩, .int .i64 0, .int .i64 0, .int .i64 0] 68)) := (Below.refl _ _).alloc (by rw [hz]; exact Nat.le_refl _) _
  have hblk2 : Blk ((w.alloc (.cells #[.string s, .int .i64 l, .int .i64 r, .int .i64 t] 68)).alloc (.cells #[.string ⟨#[]⟩, .int .i64 0, .int .i64 0, .int .i64 0] 68)) (w.heap.size + 1) 68 #[.string ⟨#[]⟩, .int .i64 0, .int .i64 0, .int .i64 0] := by
    have := heap_alloc_new (w.alloc (.cells #[.string s, .int .i64 l, .int .i64 r, .int .i64 t] 68)) (.cells #[.string ⟨#[]⟩, .int .i64 0, .int .i64 0, .int .i64 0] 68)
    rw [hz] at this
    exact this
  exact ⟨(hblk.below hb0 (by omega)).below h (by rw [hz2]; omega), hblk2.below h (by rw [hz2]; omega), hB0.trans (h.mono hB0.size)⟩

set_option maxHeartbeats 4000000 in
theorem moved_any (x : Nd) (k : Nat) (w : World) (hk : k ≤ 4000) (hb : x.word.data.toList = [] → (0 ≤ x.l ∧ x.l ≤ 4000) ∧ (0 ≤ x.r ∧ x.r ≤ 4000)) :
    Calls Tryz.prog 45 #[x.val, .int .i64 (k : Int)] w fun e w' => e = .returned (movN k x).val ∧ Below w.heap.size w w' := by
  obtain ⟨s, l, r, t⟩ := x
  have hK := kindOf_any ⟨s, l, r, t⟩ ((w.alloc (.cells #[.string s, .int .i64 l, .int .i64 r, .int .i64 t] 68)).alloc (.cells #[.string ⟨#[]⟩, .int .i64 0, .int .i64 0, .int .i64 0] 68))
  have KEY := Lib.hid (moved_key s l r t w)
  by_cases hw : s.data.toList = []
  · obtain ⟨⟨l0, l1⟩, ⟨r0, r1⟩⟩ := hb hw
    simp only at l0 l1 r0 r1
    have hwl : IntKind.i64.wrap (l + (k : Int)) = l + (k : Int) := IntWalk.i64_in _ (by omega)
    have hwr : IntKind.i64.wrap (r + (k : Int)) = r + (k : Int) := IntWalk.i64_in _ (by omega)
    clear hb
    by_cases ht : t = 0
    · rw [kindI_join hw ht] at hK
      have HR : Hid (movN k ⟨s, l, r, t⟩ = ⟨s, l + (k : Int), r + (k : Int), t⟩) := Lib.hid (by simp [movN, hw, ht])
      clear hw ht l0 l1 r0 r1
      go_enter Tryz.func45, Tryz.ntmps45
      go_wp2_with fail
      refine hK.mono ?_; rintro e w1 ⟨rfl, hb1⟩
      obtain ⟨k1, k2, hB⟩ := KEY.out w1 hb1
      have c0 : w1.cell? ⟨w.heap.size, 0, none⟩ = some (.string s) := k1.cell 0
      have c1 : w1.cell? ⟨w.heap.size, 1, none⟩ = some (.int .i64 l) := k1.cell 1
      have c2 : w1.cell? ⟨w.heap.size, 2, none⟩ = some (.int .i64 r) := k1.cell 2
      have c3 : w1.cell? ⟨w.heap.size, 3, none⟩ = some (.int .i64 t) := k1.cell 3
      have d0 : w1.cell? ⟨w.heap.size + 1, 0, none⟩ = some (.string ⟨#[]⟩) := k2.cell 0
      have d1 : w1.cell? ⟨w.heap.size + 1, 1, none⟩ = some (.int .i64 0) := k2.cell 1
      have d2 : w1.cell? ⟨w.heap.size + 1, 2, none⟩ = some (.int .i64 0) := k2.cell 2
      have d3 : w1.cell? ⟨w.heap.size + 1, 3, none⟩ = some (.int .i64 0) := k2.cell 3
      have y1 := k1.frozen 1
      have y2 := k1.frozen 2
      have z0 := k2.frozen 0
      have z1 := k2.frozen 1
      have z2 := k2.frozen 2
      have z3 := k2.frozen 3
      have HB := Lib.hid hB
      have HK1 := Lib.hid k1
      have HK2 := Lib.hid k2
      clear k1 k2 hB hb1 hK
      go_wp2
      have hf := (blk_set_ne (blk_set_ne HK2.out ⟨w.heap.size, 1, none⟩ (.int .i64 (l + (k : Int))) (by simp)) ⟨w.heap.size, 2, none⟩ (.int .i64 (r + (k : Int))) (by simp)).set4 (.string s) (.int .i64 (l + (k : Int))) (.int .i64 (r + (k : Int))) (.int .i64 t)
      have hbf := below_set4 ((((HB.out).setCell (p := ⟨w.heap.size, 1, none⟩) (Nat.le_refl _) (.int .i64 (l + (k : Int))))).setCell (p := ⟨w.heap.size, 2, none⟩) (Nat.le_refl _) (.int .i64 (r + (k : Int)))) (show w.heap.size ≤ w.heap.size + 1 by omega) (.string s) (.int .i64 (l + (k : Int))) (.int .i64 (r + (k : Int))) (.int .i64 t)
      generalize ((((((w1.setCell ⟨w.heap.size, 1, none⟩ (.int .i64 (l + (k : Int)))).setCell ⟨w.heap.size, 2, none⟩ (.int .i64 (r + (k : Int)))).setCell ⟨w.heap.size + 1, 0, none⟩ (.string s)).setCell ⟨w.heap.size + 1, 1, none⟩ (.int .i64 (l + (k : Int)))).setCell ⟨w.heap.size + 1, 2, none⟩ (.int .i64 (r + (k : Int)))).setCell ⟨w.heap.size + 1, 3, none⟩ (.int .i64 t)) = w2 at *
      have e0 : w2.cell? ⟨w.heap.size + 1, 0, none⟩ = some (.string s) := hf.cell 0
      have e1 : w2.cell? ⟨w.heap.size + 1, 1, none⟩ = some (.int .i64 (l + (k : Int))) := hf.cell 1
      have e2 : w2.cell? ⟨w.heap.size + 1, 2, none⟩ = some (.int .i64 (r + (k : Int))) := hf.cell 2
      have e3 : w2.cell? ⟨w.heap.size + 1, 3, none⟩ = some (.int .i64 t) := hf.cell 3
      clear hf c0 c1 c2 c3 d0 d1 d2 d3 y1 y2 z0 z1 z2 z3
      refine bodyPost_ret (v := .agg #[.string s, .int .i64 (l + (k : Int)), .int .i64 (r + (k : Int)), .int .i64 t]) ?_ rfl ⟨by rw [HR.out], hbf⟩
      simp [results, Tryz.results45, go_sem, e0, e1, e2, e3]
    · rw [kindI_pow hw ht] at hK
      have HR : Hid (movN k ⟨s, l, r, t⟩ = ⟨s, l + (k : Int), r, t⟩) := Lib.hid (by simp [movN, hw, ht])
      clear hw ht l0 l1 r0 r1
      go_enter Tryz.func45, Tryz.ntmps45
      go_wp2_with fail
      refine hK.mono ?_; rintro e w1 ⟨rfl, hb1⟩
      obtain ⟨k1, k2, hB⟩ := KEY.out w1 hb1
      have c0 : w1.cell? ⟨w.heap.size, 0, none⟩ = some (.string s) := k1.cell 0
      have c1 : w1.cell? ⟨w.heap.size, 1, none⟩ = some (.int .i64 l) := k1.cell 1
      have c2 : w1.cell? ⟨w.heap.size, 2, none⟩ = some (.int .i64 r) := k1.cell 2
      have c3 : w1.cell? ⟨w.heap.size, 3, none⟩ = some (.int .i64 t) := k1.cell 3
      have d0 : w1.cell? ⟨w.heap.size + 1, 0, none⟩ = some (.string ⟨#[]⟩) := k2.cell 0
      have d1 : w1.cell? ⟨w.heap.size + 1, 1, none⟩ = some (.int .i64 0) := k2.cell 1
      have d2 : w1.cell? ⟨w.heap.size + 1, 2, none⟩ = some (.int .i64 0) := k2.cell 2
      have d3 : w1.cell? ⟨w.heap.size + 1, 3, none⟩ = some (.int .i64 0) := k2.cell 3
      have y1 := k1.frozen 1
      have y2 := k1.frozen 2
      have z0 := k2.frozen 0
      have z1 := k2.frozen 1
      have z2 := k2.frozen 2
      have z3 := k2.frozen 3
      have HB := Lib.hid hB
      have HK1 := Lib.hid k1
      have HK2 := Lib.hid k2
      clear k1 k2 hB hb1 hK
      go_wp2
      have hf := (blk_set_ne HK2.out ⟨w.heap.size, 1, none⟩ (.int .i64 (l + (k : Int))) (by simp)).set4 (.string s) (.int .i64 (l + (k : Int))) (.int .i64 (r)) (.int .i64 t)
      have hbf := below_set4 ((HB.out).setCell (p := ⟨w.heap.size, 1, none⟩) (Nat.le_refl _) (.int .i64 (l + (k : Int)))) (show w.heap.size ≤ w.heap.size + 1 by omega) (.string s) (.int .i64 (l + (k : Int))) (.int .i64 (r)) (.int .i64 t)
      generalize (((((w1.setCell ⟨w.heap.size, 1, none⟩ (.int .i64 (l + (k : Int)))).setCell ⟨w.heap.size + 1, 0, none⟩ (.string s)).setCell ⟨w.heap.size + 1, 1, none⟩ (.int .i64 (l + (k : Int)))).setCell ⟨w.heap.size + 1, 2, none⟩ (.int .i64 (r))).setCell ⟨w.heap.size + 1, 3, none⟩ (.int .i64 t)) = w2 at *
      have e0 : w2.cell? ⟨w.heap.size + 1, 0, none⟩ = some (.string s) := hf.cell 0
      have e1 : w2.cell? ⟨w.heap.size + 1, 1, none⟩ = some (.int .i64 (l + (k : Int))) := hf.cell 1
      have e2 : w2.cell? ⟨w.heap.size + 1, 2, none⟩ = some (.int .i64 (r)) := hf.cell 2
      have e3 : w2.cell? ⟨w.heap.size + 1, 3, none⟩ = some (.int .i64 t) := hf.cell 3
      clear hf c0 c1 c2 c3 d0 d1 d2 d3 y1 y2 z0 z1 z2 z3
      refine bodyPost_ret (v := .agg #[.string s, .int .i64 (l + (k : Int)), .int .i64 (r), .int .i64 t]) ?_ rfl ⟨by rw [HR.out], hbf⟩
      simp [results, Tryz.results45, go_sem, e0, e1, e2, e3]
  · rw [kindI_leaf hw] at hK
    have HR : Hid (movN k ⟨s, l, r, t⟩ = ⟨s, l, r, t⟩) := Lib.hid (by simp [movN, hw])
    clear hw hb
    go_enter Tryz.func45, Tryz.ntmps45
    go_wp2_with fail
    refine hK.mono ?_; rintro e w1 ⟨rfl, hb1⟩
    obtain ⟨k1, k2, hB⟩ := KEY.out w1 hb1
    have c0 : w1.cell? ⟨w.heap.size, 0, none⟩ = some (.string s) := k1.cell 0
    have c1 : w1.cell? ⟨w.heap.size, 1, none⟩ = some (.int .i64 l) := k1.cell 1
    have c2 : w1.cell? ⟨w.heap.size, 2, none⟩ = some (.int .i64 r) := k1.cell 2
    have c3 : w1.cell? ⟨w.heap.size, 3, none⟩ = some (.int .i64 t) := k1.cell 3
    have d0 : w1.cell? ⟨w.heap.size + 1, 0, none⟩ = some (.string ⟨#[]⟩) := k2.cell 0
    have d1 : w1.cell? ⟨w.heap.size + 1, 1, none⟩ = some (.int .i64 0) := k2.cell 1
    have d2 : w1.cell? ⟨w.heap.size + 1, 2, none⟩ = some (.int .i64 0) := k2.cell 2
    have d3 : w1.cell? ⟨w.heap.size + 1, 3, none⟩ = some (.int .i64 0) := k2.cell 3
    have y1 := k1.frozen 1
    have y2 := k1.frozen 2
    have z0 := k2.frozen 0
    have z1 := k2.frozen 1
    have z2 := k2.frozen 2
    have z3 := k2.frozen 3
    have HB := Lib.hid hB
    have HK1 := Lib.hid k1
    have HK2 := Lib.hid k2
    clear k1 k2 hB hb1 hK
    go_wp2
    have hf := HK2.out.set4 (.string s) (.int .i64 l) (.int .i64 r) (.int .i64 t)
    have hbf := below_set4 HB.out (show w.heap.size ≤ w.heap.size + 1 by omega) (.string s) (.int .i64 l) (.int .i64 r) (.int .i64 t)
    generalize ((((w1.setCell ⟨w.heap.size + 1, 0, none⟩ (.string s)).setCell ⟨w.heap.size + 1, 1, none⟩ (.int .i64 l)).setCell ⟨w.heap.size + 1, 2, none⟩ (.int .i64 r)).setCell ⟨w.heap.size + 1, 3, none⟩ (.int .i64 t)) = w2 at *
    have e0 : w2.cell? ⟨w.heap.size + 1, 0, none⟩ = some (.string s) := hf.cell 0
    have e1 : w2.cell? ⟨w.heap.size + 1, 1, none⟩ = some (.int .i64 l) := hf.cell 1
    have e2 : w2.cell? ⟨w.heap.size + 1, 2, none⟩ = some (.int .i64 r) := hf.cell 2
    have e3 : w2.cell? ⟨w.heap.size + 1, 3, none⟩ = some (.int .i64 t) := hf.cell 3
    clear hf c0 c1 c2 c3 d0 d1 d2 d3 y1 y2 z0 z1 z2 z3
    refine bodyPost_ret (v := .agg #[.string s, .int .i64 (l), .int .i64 (r), .int .i64 t]) ?_ rfl ⟨by rw [HR.out], hbf⟩
    simp [results, Tryz.results45, go_sem, e0, e1, e2, e3]
end Go.Proofs.YtgklmcinbaghmaaGreatDoor
