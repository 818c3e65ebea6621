/-
  Our own text, in the proofs of the laws of package rope. Proved here: the evaluator's closure, by measure's meaning, at a node that is not known yet, whose parts are. Conditions: the node lies in memory below the closure's own blocks.
-/
import Derived.Test.YtgklmcinbaghmaaGreatDoorRe
namespace Go.Proofs.YtgklmcinbaghmaaGreatDoor
open Go Go.RowKit

/-- The nodes of a rope lie from a on. -/
def NodeAt (w : World) (a : Addr) (x : Nd) : Prop :=
  w.cell? a = some (.string x.word) ∧ w.cell? ⟨a.block, a.off + 1, none⟩ = some (.int .i64 x.l) ∧ w.cell? ⟨a.block, a.off + 2, none⟩ = some (.int .i64 x.r) ∧ w.cell? ⟨a.block, a.off + 3, none⟩ = some (.int .i64 x.t)
theorem NodeAt.on {w w' : World} {a : Addr} {x : Nd} {B : Nat} (h : NodeAt w a x) (hb : Below B w w') (ha : a.block < B) : NodeAt w' a x :=
  ⟨(hb.cell ha).trans h.1, (hb.cell (p := ⟨a.block, a.off + 1, none⟩) ha).trans h.2.1, (hb.cell (p := ⟨a.block, a.off + 2, none⟩) ha).trans h.2.2.1, (hb.cell (p := ⟨a.block, a.off + 3, none⟩) ha).trans h.2.2.2⟩

abbrev lenM : Array Value := #[.func (.func 55) #[] #[], .func (.func 56) #[] #[], .func (.func 57) #[] #[]]

theorem wf_nat {k : Nat} (h : k ≤ 4000) : (Lit.int .i64 (k : Int)).wf = true := WalkArith.wf_i64 (by omega)

set_option maxHeartbeats 1000000 in
set_option maxRecDepth 100000 in
theorem value_leaf (w : World) (B : Nat) (a : Addr) (len cap : Nat) (n : Nat) (f : Int → Option Value) (h : EnvI w B (.slice (some a) len cap) lenM n f) (k : Nat) (hk : k < len) (hlen : len ≤ 4000) (hn : n ≤ 4000) (hf : f k = none)
    (x : Nd) (hx : NodeAt w (a.add (k * 4)) x) (ha : (a.add (k * 4)).block < B) (hword : x.word.data.toList ≠ []) (hs : x.word.size ≤ maxLen) :
    Calls Tryz.prog 76 #[.int .i64 k, .pointer (some ⟨B + 3, 0, none⟩), .pointer (some ⟨B, 0, none⟩), .pointer (some ⟨B + 1, 0, none⟩), .pointer (some ⟨B + 4, 0, none⟩)] w fun e w' =>
      e = .returned (.int .i64 x.word.size) ∧ EnvI w' B (.slice (some a) len cap) lenM (n + 1) (putF f k (.int .i64 x.word.size)) ∧ Below B w w' := by
  have hl := h.memo.look_none Tryz.underlying102 (zero3 w) k (wf_nat (by omega)) hf
  have hc : w.cell? ⟨B + 3, 0, none⟩ = some (.map (some (B + 2))) := h.known.cell 0
  have hc2 : w.cell? ⟨B, 0, none⟩ = some (.slice (some a) len cap) := h.rope.cell 0
  have hlt := h.lt
  obtain ⟨s, l, r, t⟩ := x
  have hB0 : Below w.heap.size w (w.alloc (.cells #[.string s, .int .i64 l, .int .i64 r, .int .i64 t] 68)) := (Below.refl _ _).alloc (Nat.le_refl _) _
  have hK := kindOf_any ⟨s, l, r, t⟩ (w.alloc (.cells #[.string s, .int .i64 l, .int .i64 r, .int .i64 t] 68))
  rw [kindI_leaf hword] at hK
  have hblk : Blk (w.alloc (.cells #[.string s, .int .i64 l, .int .i64 r, .int .i64 t] 68)) w.heap.size 68 #[.string s, .int .i64 l, .int .i64 r, .int .i64 t] := heap_alloc_new w _
  obtain ⟨f0, f1, f2, f3⟩ := hx
  simp only at f0 f1 f2 f3 hs
  have H := Lib.hid h
  have HB0 := Lib.hid hB0
  have HBLK := Lib.hid hblk
  have HF := Lib.hid hf
  clear h hB0 hf ha hword hblk
  go_enter Tryz.func76, Tryz.ntmps76
  go_wp2_with fail
  refine hK.mono ?_; rintro e w1 ⟨rfl, hb⟩
  have hsz : (w.alloc (.cells #[.string s, .int .i64 l, .int .i64 r, .int .i64 t] 68)).heap.size = w.heap.size + 1 := by simp
  have h1 := H.out.on (HB0.out.trans (hb.mono HB0.out.size))
  have c4 : w1.cell? ⟨B + 1, 0, none⟩ = some (.func (.func 55) #[] #[]) := h1.mean.cell 0
  have c5 : w1.cell? ⟨w.heap.size, 0, none⟩ = some (.string s) := (HBLK.out.below hb (by omega)).cell 0
  have c6 : w1.cell? ⟨B + 3, 0, none⟩ = some (.map (some (B + 2))) := h1.known.cell 0
  have hb1 := HB0.out.trans (hb.mono HB0.out.size)
  have H1 := Lib.hid h1
  have HB1 := Lib.hid hb1
  have hM := m_leaf s w1 hs
  clear h1 hb1 hb hl hc hc2 f0 f1 f2 f3 hK
  go_wp2_with (first | (go_at_call 55; refine hM.mono ?_; rintro e w' ⟨rfl, rfl⟩) | (at_mapUpdate; refine wpList_mapUpdate_memo w1 rfl _ _ _ 102 rfl 3 Tryz.underlying102 (B + 2) n f rfl H1.out.memo (by unfold maxLen; omega) k rfl (wf_nat (by omega)) (.int .i64 s.size) rfl ?_; intro w2 hm2 hg2))
  go_ret
  refine ⟨rfl, H1.out.put hg2 hm2, ?_⟩
  have := HB1.out
  exact (this.mono (by omega)).grown hg2 (by have := this.size; omega) (fun k hk => by cases hk; omega)

theorem _root_.Go.RowKit.Below.drewN {B : Nat} {a w : World} (h : Below B a w) (n : Nat) : Below B a (w.drewN n) := ⟨h.os, h.tape, h.output, h.size, h.block⟩
theorem hit_quiet (w : World) (B : Nat) (sl : Value) (ms : Array Value) (n : Nat) (f : Int → Option Value) (h : EnvI w B sl ms n f) (k v : Int) (hk : (Lit.int .i64 k).wf = true) (hf : f k = some (.int .i64 v)) (m : Nat) :
    Calls Tryz.prog 76 #[.int .i64 k, .pointer (some ⟨B + 3, 0, none⟩), .pointer (some ⟨B, 0, none⟩), .pointer (some ⟨B + 1, 0, none⟩), .pointer (some ⟨B + 4, 0, none⟩)] (w.drewN m) fun e w' => e = .returned (.int .i64 v) ∧ ∃ q, w' = w.drewN q :=
  Calls.quiet_of_same ((value_hit (w.drewN m) B sl ms n f (h.on ((Below.refl _ w).drewN m)) k v hk hf).mono fun _ _ h => ⟨h.1, h.2.symm⟩)


set_option maxHeartbeats 1000000 in
set_option maxRecDepth 100000 in
theorem value_join_yes (w : World) (B : Nat) (a : Addr) (len cap : Nat) (n : Nat) (f : Int → Option Value) (h : EnvI w B (.slice (some a) len cap) lenM n f) (k : Nat) (hk : k < len) (hlen : len ≤ 4000) (hn : n ≤ 4000) (hf : f k = none)
    (x : Nd) (hx : NodeAt w (a.add (k * 4)) x) (hword : x.word.data.toList = []) (ht : x.t = 0) (hwl : (Lit.int .i64 x.l).wf = true) (hwr : (Lit.int .i64 x.r).wf = true) (p q : Int) (hp : f x.l = some (.int .i64 p)) (hq : f x.r = some (.int .i64 q)) (hp0 : 0 ≤ p) (hq0 : 0 ≤ q) (hle : p + q ≤ 1152921504606846976) :
    Calls Tryz.prog 76 #[.int .i64 k, .pointer (some ⟨B + 3, 0, none⟩), .pointer (some ⟨B, 0, none⟩), .pointer (some ⟨B + 1, 0, none⟩), .pointer (some ⟨B + 4, 0, none⟩)] w fun e w' =>
      e = .returned (.int .i64 (p + q)) ∧ EnvI w' B (.slice (some a) len cap) lenM (n + 1) (putF f k (.int .i64 (p + q))) ∧ Below B w w' := by
  have hl := h.memo.look_none Tryz.underlying102 (zero3 w) k (wf_nat (by omega)) hf
  have hc : w.cell? ⟨B + 3, 0, none⟩ = some (.map (some (B + 2))) := h.known.cell 0
  have hc2 : w.cell? ⟨B, 0, none⟩ = some (.slice (some a) len cap) := h.rope.cell 0
  have hlt := h.lt
  obtain ⟨s, l, r, t⟩ := x
  have hB0 : Below w.heap.size w (w.alloc (.cells #[.string s, .int .i64 l, .int .i64 r, .int .i64 t] 68)) := (Below.refl _ _).alloc (Nat.le_refl _) _
  have hK := kindOf_any ⟨s, l, r, t⟩ (w.alloc (.cells #[.string s, .int .i64 l, .int .i64 r, .int .i64 t] 68))
  rw [kindI_join hword ht] at hK
  have hblk : Blk (w.alloc (.cells #[.string s, .int .i64 l, .int .i64 r, .int .i64 t] 68)) w.heap.size 68 #[.string s, .int .i64 l, .int .i64 r, .int .i64 t] := heap_alloc_new w _
  obtain ⟨f0, f1, f2, f3⟩ := hx
  simp only at f0 f1 f2 f3 hwl hp ht hle hwr hq
  have H := Lib.hid h
  have HB0 := Lib.hid hB0
  have HBLK := Lib.hid hblk
  have HF := Lib.hid hf
  have HP := Lib.hid hp
  have HQ := Lib.hid hq
  clear h hB0 hf hword hblk hp hq ht
  go_enter Tryz.func76, Tryz.ntmps76
  go_wp2_with fail
  refine hK.mono ?_; rintro e w1 ⟨rfl, hb⟩
  have hsz : (w.alloc (.cells #[.string s, .int .i64 l, .int .i64 r, .int .i64 t] 68)).heap.size = w.heap.size + 1 := by simp
  have h1 := H.out.on (HB0.out.trans (hb.mono HB0.out.size))
  have c4 : w1.cell? ⟨B + 1, 1, none⟩ = some (.func (.func 56) #[] #[]) := h1.mean.cell 1
  have c5 : w1.cell? ⟨w.heap.size, 0, none⟩ = some (.string s) := (HBLK.out.below hb (by omega)).cell 0
  have c7 : w1.cell? ⟨w.heap.size, 1, none⟩ = some (.int .i64 l) := (HBLK.out.below hb (by omega)).cell 1
  have c8 : w1.cell? ⟨w.heap.size, 2, none⟩ = some (.int .i64 r) := (HBLK.out.below hb (by omega)).cell 2
  have c9 : w1.cell? ⟨w.heap.size, 3, none⟩ = some (.int .i64 t) := (HBLK.out.below hb (by omega)).cell 3
  have c6 : w1.cell? ⟨B + 3, 0, none⟩ = some (.map (some (B + 2))) := h1.known.cell 0
  have ca : w1.cell? ⟨B + 4, 0, none⟩ = some (envV 76 B) := h1.self.cell 0
  have hb1 := HB0.out.trans (hb.mono HB0.out.size)
  have H1 := Lib.hid h1
  have HB1 := Lib.hid hb1
  have hV1 := Lib.hid (hit_quiet w1 B _ _ _ _ h1 l p hwl HP.out)
  have hV2 := Lib.hid (hit_quiet w1 B _ _ _ _ h1 r q hwr HQ.out)
  have hM := Lib.hid (fun m => Calls.quiet_of_same ((m_join_yes p q (w1.drewN m) hp0 hq0 hle).mono fun _ _ h => ⟨h.1, h.2.symm⟩))
  clear h1 hb1 hb hl hc hc2 f0 f1 f2 f3 hK
  go_wp2
  go_quiet (first | (go_at_call 76; first | with_reducible exact hV1.out _ | with_reducible exact hV2.out _) | (go_at_call 56; exact hM.out _))
  go_wp2_with (at_mapUpdate; refine wpList_mapUpdate_memo _ rfl _ _ _ 102 rfl 3 Tryz.underlying102 (B + 2) n f rfl (H1.out.on ((Below.refl _ w1).drewN nq)).memo (by unfold maxLen; omega) k rfl (wf_nat (by omega)) (.int .i64 (p + q)) rfl ?_; intro w2 hm2 hg2)
  go_ret
  have hbq := HB1.out.drewN nq
  refine ⟨rfl, (H1.out.on ((Below.refl _ w1).drewN nq)).put hg2 hm2, ?_⟩
  exact (hbq.mono (by omega)).grown hg2 (by have := hbq.size; omega) (fun k hk => by cases hk; omega)

set_option maxHeartbeats 1000000 in
set_option maxRecDepth 100000 in
theorem value_pow_yes (w : World) (B : Nat) (a : Addr) (len cap : Nat) (n : Nat) (f : Int → Option Value) (h : EnvI w B (.slice (some a) len cap) lenM n f) (k : Nat) (hk : k < len) (hlen : len ≤ 4000) (hn : n ≤ 4000) (hf : f k = none)
    (x : Nd) (hx : NodeAt w (a.add (k * 4)) x) (hword : x.word.data.toList = []) (ht : 1 ≤ x.t) (hwl : (Lit.int .i64 x.l).wf = true) (p : Int) (hp : f x.l = some (.int .i64 p)) (hp0 : 1 ≤ p) (hle : x.t ≤ 1152921504606846976 / p) :
    Calls Tryz.prog 76 #[.int .i64 k, .pointer (some ⟨B + 3, 0, none⟩), .pointer (some ⟨B, 0, none⟩), .pointer (some ⟨B + 1, 0, none⟩), .pointer (some ⟨B + 4, 0, none⟩)] w fun e w' =>
      e = .returned (.int .i64 (p * x.t)) ∧ EnvI w' B (.slice (some a) len cap) lenM (n + 1) (putF f k (.int .i64 (p * x.t))) ∧ Below B w w' := by
  have hl := h.memo.look_none Tryz.underlying102 (zero3 w) k (wf_nat (by omega)) hf
  have hc : w.cell? ⟨B + 3, 0, none⟩ = some (.map (some (B + 2))) := h.known.cell 0
  have hc2 : w.cell? ⟨B, 0, none⟩ = some (.slice (some a) len cap) := h.rope.cell 0
  have hlt := h.lt
  obtain ⟨s, l, r, t⟩ := x
  have hB0 : Below w.heap.size w (w.alloc (.cells #[.string s, .int .i64 l, .int .i64 r, .int .i64 t] 68)) := (Below.refl _ _).alloc (Nat.le_refl _) _
  have hK := kindOf_any ⟨s, l, r, t⟩ (w.alloc (.cells #[.string s, .int .i64 l, .int .i64 r, .int .i64 t] 68))
  rw [kindI_pow hword (show t ≠ 0 from by have h1 : 1 ≤ t := ht; omega)] at hK
  have hblk : Blk (w.alloc (.cells #[.string s, .int .i64 l, .int .i64 r, .int .i64 t] 68)) w.heap.size 68 #[.string s, .int .i64 l, .int .i64 r, .int .i64 t] := heap_alloc_new w _
  obtain ⟨f0, f1, f2, f3⟩ := hx
  simp only at f0 f1 f2 f3 hwl hp ht hle 
  have H := Lib.hid h
  have HB0 := Lib.hid hB0
  have HBLK := Lib.hid hblk
  have HF := Lib.hid hf
  have HP := Lib.hid hp
  have HT := Lib.hid ht
  clear h hB0 hf hword hblk hp
  go_enter Tryz.func76, Tryz.ntmps76
  go_wp2_with fail
  refine hK.mono ?_; rintro e w1 ⟨rfl, hb⟩
  have hsz : (w.alloc (.cells #[.string s, .int .i64 l, .int .i64 r, .int .i64 t] 68)).heap.size = w.heap.size + 1 := by simp
  have h1 := H.out.on (HB0.out.trans (hb.mono HB0.out.size))
  have c4 : w1.cell? ⟨B + 1, 2, none⟩ = some (.func (.func 57) #[] #[]) := h1.mean.cell 2
  have c5 : w1.cell? ⟨w.heap.size, 0, none⟩ = some (.string s) := (HBLK.out.below hb (by omega)).cell 0
  have c7 : w1.cell? ⟨w.heap.size, 1, none⟩ = some (.int .i64 l) := (HBLK.out.below hb (by omega)).cell 1
  have c8 : w1.cell? ⟨w.heap.size, 2, none⟩ = some (.int .i64 r) := (HBLK.out.below hb (by omega)).cell 2
  have c9 : w1.cell? ⟨w.heap.size, 3, none⟩ = some (.int .i64 t) := (HBLK.out.below hb (by omega)).cell 3
  have c6 : w1.cell? ⟨B + 3, 0, none⟩ = some (.map (some (B + 2))) := h1.known.cell 0
  have ca : w1.cell? ⟨B + 4, 0, none⟩ = some (envV 76 B) := h1.self.cell 0
  have hb1 := HB0.out.trans (hb.mono HB0.out.size)
  have H1 := Lib.hid h1
  have HB1 := Lib.hid hb1
  have hV1 := Lib.hid (hit_quiet w1 B _ _ _ _ h1 l p hwl HP.out)
  have hM := Lib.hid (fun m => Calls.quiet_of_same ((m_pow_yes p t (w1.drewN m) hp0 HT.out hle).mono fun _ _ h => ⟨h.1, h.2.symm⟩))
  clear h1 hb1 hb hl hc hc2 f0 f1 f2 f3 hK
  go_wp2
  go_quiet (first | (go_at_call 76; first | with_reducible exact hV1.out _) | (go_at_call 57; exact hM.out _))
  go_wp2_with (at_mapUpdate; refine wpList_mapUpdate_memo _ rfl _ _ _ 102 rfl 3 Tryz.underlying102 (B + 2) n f rfl (H1.out.on ((Below.refl _ w1).drewN nq)).memo (by unfold maxLen; omega) k rfl (wf_nat (by omega)) (.int .i64 (p * t)) rfl ?_; intro w2 hm2 hg2)
  go_ret
  have hbq := HB1.out.drewN nq
  refine ⟨rfl, (H1.out.on ((Below.refl _ w1).drewN nq)).put hg2 hm2, ?_⟩
  exact (hbq.mono (by omega)).grown hg2 (by have := hbq.size; omega) (fun k hk => by cases hk; omega)

end Go.Proofs.YtgklmcinbaghmaaGreatDoor
