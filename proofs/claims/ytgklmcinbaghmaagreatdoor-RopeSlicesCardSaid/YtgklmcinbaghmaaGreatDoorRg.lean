/-
  Our own text, in the proofs of the laws of package rope. Proved here: the evaluator's closure, by measure's meaning, at a node that is too long. Conditions: the node lies in memory below the closure's own blocks.
-/
import Derived.Test.YtgklmcinbaghmaaGreatDoorRf
import Derived.StillTailTactics
namespace Go.Proofs.YtgklmcinbaghmaaGreatDoor
open Go Go.RowKit

theorem value_hit_s (w : World) (B : Nat) (sl : Value) (ms : Array Value) (n : Nat) (f : Int → Option Value) (h : EnvI w B sl ms n f) (k v : Int) (hk : (Lit.int .i64 k).wf = true) (hf : f k = some (.int .i64 v)) :
    Calls Tryz.prog 76 #[.int .i64 k, .pointer (some ⟨B + 3, 0, none⟩), .pointer (some ⟨B, 0, none⟩), .pointer (some ⟨B + 1, 0, none⟩), .pointer (some ⟨B + 4, 0, none⟩)] w fun e w' => e = .returned (.int .i64 v) ∧ w' = w :=
  (value_hit w B sl ms n f h k v hk hf).mono fun _ _ h => ⟨h.1, h.2.symm⟩

set_option maxHeartbeats 1000000 in
set_option maxRecDepth 100000 in
theorem value_pow_no (w : World) (B : Nat) (a : Addr) (len cap : Nat) (n : Nat) (f : Int → Option Value) (h : EnvI w B (.slice (some a) len cap) lenM n f) (k : Nat) (hk : k < len) (hlen : len ≤ 4000) (hn : n ≤ 4000) (hf : f k = none)
    (x : Nd) (hx : NodeAt w (a.add (k * 4)) x) (hword : x.word.data.toList = []) (ht : 1 ≤ x.t) (hwl : (Lit.int .i64 x.l).wf = true) (p : Int) (hp : f x.l = some (.int .i64 p)) (hp0 : 1 ≤ p) (hle : 1152921504606846976 / p < x.t) :
    Calls Tryz.prog 76 #[.int .i64 k, .pointer (some ⟨B + 3, 0, none⟩), .pointer (some ⟨B, 0, none⟩), .pointer (some ⟨B + 1, 0, none⟩), .pointer (some ⟨B + 4, 0, none⟩)] w fun e w' =>
      e = .panicked leaves ∧ Below B w w' := by
  have hl := h.memo.look_none Tryz.underlying102 (zero3 w) k (wf_nat (by omega)) hf
  have hc : w.cell? ⟨B + 3, 0, none⟩ = some (.map (some (B + 2))) := h.known.cell 0
  have hc2 : w.cell? ⟨B, 0, none⟩ = some (.slice (some a) len cap) := h.rope.cell 0
  have hlt := h.lt
  obtain ⟨s, l, r, t⟩ := x
  have hB0 : Below w.heap.size w (w.alloc (.cells #[.string s, .int .i64 l, .int .i64 r, .int .i64 t] 68)) := (Below.refl _ _).alloc (Nat.le_refl _) _
  have hK := kindOf_any ⟨s, l, r, t⟩ (w.alloc (.cells #[.string s, .int .i64 l, .int .i64 r, .int .i64 t] 68))
  rw [kindI_pow hword (show t ≠ 0 from by have h1 : 1 ≤ t := ht; omega)] at hK
  have hblk : Blk (w.alloc (.cells #[.string s, .int .i64 l, .int .i64 r, .int .i64 t] 68)) w.heap.size 68 #[.string s, .int .i64 l, .int .i64 r, .int .i64 t] := heap_alloc_new w _
  obtain ⟨f0, f1, f2, f3⟩ := hx
  simp only at f0 f1 f2 f3 hwl hp ht hle 
  have H := Lib.hid h
  have HB0 := Lib.hid hB0
  have HBLK := Lib.hid hblk
  have HF := Lib.hid hf
  have HP := Lib.hid hp
  have HT := Lib.hid ht
  clear h hB0 hf hword hblk hp
  go_enter Tryz.func76, Tryz.ntmps76
  go_wp2_with fail
  refine hK.mono ?_; rintro e w1 ⟨rfl, hb⟩
  have hsz : (w.alloc (.cells #[.string s, .int .i64 l, .int .i64 r, .int .i64 t] 68)).heap.size = w.heap.size + 1 := by simp
  have h1 := H.out.on (HB0.out.trans (hb.mono HB0.out.size))
  have c4 : w1.cell? ⟨B + 1, 2, none⟩ = some (.func (.func 57) #[] #[]) := h1.mean.cell 2
  have c5 : w1.cell? ⟨w.heap.size, 0, none⟩ = some (.string s) := (HBLK.out.below hb (by omega)).cell 0
  have c7 : w1.cell? ⟨w.heap.size, 1, none⟩ = some (.int .i64 l) := (HBLK.out.below hb (by omega)).cell 1
  have c8 : w1.cell? ⟨w.heap.size, 2, none⟩ = some (.int .i64 r) := (HBLK.out.below hb (by omega)).cell 2
  have c9 : w1.cell? ⟨w.heap.size, 3, none⟩ = some (.int .i64 t) := (HBLK.out.below hb (by omega)).cell 3
  have c6 : w1.cell? ⟨B + 3, 0, none⟩ = some (.map (some (B + 2))) := h1.known.cell 0
  have ca : w1.cell? ⟨B + 4, 0, none⟩ = some (envV 76 B) := h1.self.cell 0
  have hb1 := HB0.out.trans (hb.mono HB0.out.size)
  have H1 := Lib.hid h1
  have HB1 := Lib.hid hb1
  have hV1 := Lib.hid (value_hit_s w1.drew B _ _ _ _ (h1.on (Below.refl _ w1).drew) l p hwl HP.out)
  have hM := Lib.hid (fun w => m_pow_no p t w hp0 hle)
  have HBB := Lib.hid (show Below B w w1 from HB1.out.mono (by omega))
  clear h1 hb1 hb hl hc hc2 f0 f1 f2 f3 hK
  go_wp2
  refine wp_region_still_tail 8 (by kernel_rfl) (by kernel_rfl) ?_
  change wpStill _ _ (World.drew w1) _ _ _
  simp only [List.take_succ_cons, List.take_zero, List.drop_succ_cons, List.drop_zero]
  repeat still_step
  still_call (hV1.out)
  repeat still_step
  refine wpStill_nil ?_
  change wpList _ _ _ _ _ (World.drew w1)
  go_wp2_with (go_at_call 57; refine (hM.out _).mono ?_; rintro e w2 ⟨rfl, rfl⟩)
  exact ⟨rfl, rfl, HBB.out.drew⟩

set_option maxHeartbeats 1000000 in
set_option maxRecDepth 100000 in
theorem value_join_no (w : World) (B : Nat) (a : Addr) (len cap : Nat) (n : Nat) (f : Int → Option Value) (h : EnvI w B (.slice (some a) len cap) lenM n f) (k : Nat) (hk : k < len) (hlen : len ≤ 4000) (hn : n ≤ 4000) (hf : f k = none)
    (x : Nd) (hx : NodeAt w (a.add (k * 4)) x) (hword : x.word.data.toList = []) (ht : x.t = 0) (hwl : (Lit.int .i64 x.l).wf = true) (hwr : (Lit.int .i64 x.r).wf = true) (p q : Int) (hp : f x.l = some (.int .i64 p)) (hq : f x.r = some (.int .i64 q)) (hp0 : 0 ≤ p) (hq0 : 0 ≤ q) (hp1 : p ≤ 1152921504606846976) (hq1 : q ≤ 1152921504606846976) (hle : 1152921504606846976 < p + q) :
    Calls Tryz.prog 76 #[.int .i64 k, .pointer (some ⟨B + 3, 0, none⟩), .pointer (some ⟨B, 0, none⟩), .pointer (some ⟨B + 1, 0, none⟩), .pointer (some ⟨B + 4, 0, none⟩)] w fun e w' =>
      e = .panicked leaves ∧ Below B w w' := by
  have hl := h.memo.look_none Tryz.underlying102 (zero3 w) k (wf_nat (by omega)) hf
  have hc : w.cell? ⟨B + 3, 0, none⟩ = some (.map (some (B + 2))) := h.known.cell 0
  have hc2 : w.cell? ⟨B, 0, none⟩ = some (.slice (some a) len cap) := h.rope.cell 0
  have hlt := h.lt
  obtain ⟨s, l, r, t⟩ := x
  have hB0 : Below w.heap.size w (w.alloc (.cells #[.string s, .int .i64 l, .int .i64 r, .int .i64 t] 68)) := (Below.refl _ _).alloc (Nat.le_refl _) _
  have hK := kindOf_any ⟨s, l, r, t⟩ (w.alloc (.cells #[.string s, .int .i64 l, .int .i64 r, .int .i64 t] 68))
  rw [kindI_join hword ht] at hK
  have hblk : Blk (w.alloc (.cells #[.string s, .int .i64 l, .int .i64 r, .int .i64 t] 68)) w.heap.size 68 #[.string s, .int .i64 l, .int .i64 r, .int .i64 t] := heap_alloc_new w _
  obtain ⟨f0, f1, f2, f3⟩ := hx
  simp only at f0 f1 f2 f3 hwl hp ht hle hwr hq
  have H := Lib.hid h
  have HB0 := Lib.hid hB0
  have HBLK := Lib.hid hblk
  have HF := Lib.hid hf
  have HP := Lib.hid hp
  have HQ := Lib.hid hq
  clear h hB0 hf hword hblk hp hq ht
  go_enter Tryz.func76, Tryz.ntmps76
  go_wp2_with fail
  refine hK.mono ?_; rintro e w1 ⟨rfl, hb⟩
  have hsz : (w.alloc (.cells #[.string s, .int .i64 l, .int .i64 r, .int .i64 t] 68)).heap.size = w.heap.size + 1 := by simp
  have h1 := H.out.on (HB0.out.trans (hb.mono HB0.out.size))
  have c4 : w1.cell? ⟨B + 1, 1, none⟩ = some (.func (.func 56) #[] #[]) := h1.mean.cell 1
  have c5 : w1.cell? ⟨w.heap.size, 0, none⟩ = some (.string s) := (HBLK.out.below hb (by omega)).cell 0
  have c7 : w1.cell? ⟨w.heap.size, 1, none⟩ = some (.int .i64 l) := (HBLK.out.below hb (by omega)).cell 1
  have c8 : w1.cell? ⟨w.heap.size, 2, none⟩ = some (.int .i64 r) := (HBLK.out.below hb (by omega)).cell 2
  have c9 : w1.cell? ⟨w.heap.size, 3, none⟩ = some (.int .i64 t) := (HBLK.out.below hb (by omega)).cell 3
  have c6 : w1.cell? ⟨B + 3, 0, none⟩ = some (.map (some (B + 2))) := h1.known.cell 0
  have ca : w1.cell? ⟨B + 4, 0, none⟩ = some (envV 76 B) := h1.self.cell 0
  have hb1 := HB0.out.trans (hb.mono HB0.out.size)
  have H1 := Lib.hid h1
  have HB1 := Lib.hid hb1
  have hV1 := Lib.hid (value_hit_s w1.drew B _ _ _ _ (h1.on (Below.refl _ w1).drew) l p hwl HP.out)
  have hV2 := Lib.hid (value_hit_s w1.drew B _ _ _ _ (h1.on (Below.refl _ w1).drew) r q hwr HQ.out)
  have hM := Lib.hid (fun w => m_join_no p q w hp0 hq0 hp1 hq1 hle)
  have HBB := Lib.hid (show Below B w w1 from HB1.out.mono (by omega))
  clear h1 hb1 hb hl hc hc2 f0 f1 f2 f3 hK
  go_wp2
  refine wp_region_still_tail 10 (by kernel_rfl) (by kernel_rfl) ?_
  change wpStill _ _ (World.drew w1) _ _ _
  simp only [List.take_succ_cons, List.take_zero, List.drop_succ_cons, List.drop_zero]
  repeat still_step
  still_call (hV1.out)
  repeat still_step
  still_call (hV2.out)
  repeat still_step
  refine wpStill_nil ?_
  change wpList _ _ _ _ _ (World.drew w1)
  go_wp2_with (go_at_call 56; refine (hM.out _).mono ?_; rintro e w2 ⟨rfl, rfl⟩)
  exact ⟨rfl, rfl, HBB.out.drew⟩
end Go.Proofs.YtgklmcinbaghmaaGreatDoor
