/-
  Our own text, in the proofs of the laws of package rope. Proved here: measure returns a closure over all lengths of a valid rope, and ErrRope for others. Conditions: the nodes lie in memory as the slice says; the listed table lies as the program lays it.
-/
import Derived.Test.YtgklmcinbaghmaaGreatDoorRh
import Derived.Defers
import Derived.Recover
import Derived.Laws.Pointers
namespace Go.Proofs.YtgklmcinbaghmaaGreatDoor
open Go Go.RowKit

/-- A rope lies where its slice says. -/
def RopeAt (w : World) (A : Option Addr) (r : List Nd) : Prop :=
  ∀ i (h : i < r.length), ∃ a, A = some a ∧ NodeAt w (a.add (i * 4)) r[i] ∧ r[i].word.size ≤ maxLen
theorem RopeAt.on {w w' : World} {A : Option Addr} {r : List Nd} (h : RopeAt w A r) (hb : Below w.heap.size w w') : RopeAt w' A r := by
  intro i hi
  obtain ⟨a, ha, h1, h2⟩ := h i hi
  exact ⟨a, ha, h1.on hb (lt_of_cell h1.1), h2⟩

theorem catch_panicking (p q : Nat) (v : Value) (y : Int) (older : List PanicEntry) (w : World) (hc : w.cell? ⟨p, 0, none⟩ = some v) (hz : w.frozen? ⟨p, 0, none⟩ = false) (hc2 : w.cell? ⟨q, 0, none⟩ = some (.int .i64 y)) (hz2 : w.frozen? ⟨q, 0, none⟩ = false) (hpq : p ≠ q) :
    CallsD Tryz.prog 52 #[.pointer (some ⟨p, 0, none⟩), .pointer (some ⟨q, 0, none⟩)] (.panicking ({ v := .iface 23 (.int .i64 20), recovered := false } :: older)) w fun e u' w' =>
      e = .returned (.tuple #[]) ∧ u' = .panicking ({ v := .iface 23 (.int .i64 20), recovered := true } :: older) ∧ w' = (w.setCell ⟨p, 0, none⟩ .nilFunc).setCell ⟨q, 0, none⟩ (.int .i64 20) := by
  refine callsD_of_wpS Tryz.func52 rfl fun c₀ cs hu => ?_
  apply wpS_seq
  apply wpS_region
  simp [wpOpsS, go_sem, recoverD, hu, Tryz.ntmps52, Exit.thenS]
  refine wpS_of_wp ?_
  generalize hm : ({ fn := c₀.fn, tmps := c₀.tmps, todo := c₀.todo, defers := c₀.defers, mode := FrameMode.panicking ({ v := Value.iface 23 (Value.int IntKind.i64 20), recovered := true } :: older), kind := c₀.kind, roundOf := c₀.roundOf } : Frame) = c1
  have hQ : ∀ a w', a.defers = [] → w' = (w.setCell ⟨p, 0, none⟩ .nilFunc).setCell ⟨q, 0, none⟩ (.int .i64 20) → bodyPostS Tryz.prog Tryz.f52 c₀ cs (fun e u' w' => e = Ending.returned (Value.tuple #[]) ∧ u' = FrameMode.panicking ({ v := Value.iface 23 (Value.int IntKind.i64 20), recovered := true } :: older) ∧ w' = (w.setCell ⟨p, 0, none⟩ .nilFunc).setCell ⟨q, 0, none⟩ (.int .i64 20)) Exit.normal a (c1 :: cs) w' := by
    rintro a w' ha rfl
    refine ⟨ha, _, by rw [← hm], .tuple #[], ?_, rfl, rfl, rfl⟩
    simp [results, Tryz.results52, go_sem]
  clear hm
  change Code.wp _ _ _ { tmps := #[.pointer (some ⟨p, 0, none⟩), .pointer (some ⟨q, 0, none⟩), .iface 23 (.int .i64 20), .bool true], defers := [] } w
  generalize hQQ : (fun (e : Exit) (a' : Act) (w' : World) => bodyPostS Tryz.prog Tryz.f52 c₀ cs (fun e u' w' => e = Ending.returned (Value.tuple #[]) ∧ u' = FrameMode.panicking ({ v := Value.iface 23 (Value.int IntKind.i64 20), recovered := true } :: older) ∧ w' = (w.setCell ⟨p, 0, none⟩ .nilFunc).setCell ⟨q, 0, none⟩ (.int .i64 20)) e a' (c1 :: cs) w') = Q
  have hQ2 : ∀ a w', a.defers = [] → w' = (w.setCell ⟨p, 0, none⟩ .nilFunc).setCell ⟨q, 0, none⟩ (.int .i64 20) → Q .normal a w' := by rw [← hQQ]; exact hQ
  have HQ := Lib.hid hQ2
  have hc3 : (w.setCell ⟨p, 0, none⟩ .nilFunc).cell? ⟨q, 0, none⟩ = some (.int .i64 y) := by rw [World.cell?_setCell_other _ _ _ _ (by simp [hpq]), hc2]
  have hz3 : (w.setCell ⟨p, 0, none⟩ .nilFunc).frozen? ⟨q, 0, none⟩ = false := by rw [World.frozen?_setCell]; exact hz2
  clear hQQ hQ hQ2 hu
  go_wp2
  exact HQ.out _ _ rfl rfl

theorem catch_idle (p q : Addr) (w : World) :
    CallsD Tryz.prog 52 #[.pointer (some p), .pointer (some q)] .returning w fun e u' w' => e = .returned (.tuple #[]) ∧ u' = .returning ∧ w' = w := by
  refine callsD_of_wpS Tryz.func52 rfl fun c₀ cs hu => ?_
  apply wpS_seq
  apply wpS_region
  simp [wpOpsS, go_sem, recoverD, hu, Tryz.ntmps52, Exit.thenS]
  refine wpS_of_wp ?_
  have hQ : ∀ a, a.defers = [] → bodyPostS Tryz.prog Tryz.f52 c₀ cs (fun e u' w' => e = Ending.returned (Value.tuple #[]) ∧ u' = FrameMode.returning ∧ w' = w) Exit.normal a (c₀ :: cs) w := by
    intro a ha
    refine ⟨ha, FrameMode.returning, by rw [← hu], .tuple #[], ?_, rfl, rfl, rfl⟩
    simp [results, Tryz.results52, go_sem]
  clear hu
  change Code.wp _ _ _ { tmps := #[.pointer (some p), .pointer (some q), Value.nilIface, .bool false], defers := [] } w
  generalize hQQ : (fun (e : Exit) (a' : Act) (w' : World) => bodyPostS Tryz.prog Tryz.f52 c₀ cs (fun e u' w' => e = Ending.returned (Value.tuple #[]) ∧ u' = FrameMode.returning ∧ w' = w) e a' (c₀ :: cs) w') = Q
  have hQ2 : ∀ a, a.defers = [] → Q .normal a w := by rw [← hQQ]; exact hQ
  have HQ := Lib.hid hQ2
  clear hQQ hQ hQ2
  go_wp2
  exact HQ.out _ rfl

/-- The world behind measure's two results' blocks. -/
structure Two (w w0 : World) (v : Value) (n : Int) : Prop where
  below : Below w.heap.size w w0
  size : w.heap.size + 2 ≤ w0.heap.size
  c1 : w0.cell? ⟨w.heap.size, 0, none⟩ = some v
  f1 : w0.frozen? ⟨w.heap.size, 0, none⟩ = false
  c2 : w0.cell? ⟨w.heap.size + 1, 0, none⟩ = some (.int .i64 n)
  f2 : w0.frozen? ⟨w.heap.size + 1, 0, none⟩ = false
theorem Two.on {w w0 w1 : World} {v : Value} {n : Int} {B : Nat} (h : Two w w0 v n) (hb : Below B w0 w1) (hB : w.heap.size + 2 ≤ B) : Two w w1 v n where
  below := h.below.trans (hb.mono (by omega))
  size := Nat.le_trans h.size hb.size
  c1 := (hb.cell (p := ⟨_, 0, none⟩) (by simp; omega)).trans h.c1
  f1 := (hb.frozen (p := ⟨_, 0, none⟩) (by simp; omega)).trans h.f1
  c2 := (hb.cell (p := ⟨_, 0, none⟩) (by simp; omega)).trans h.c2
  f2 := (hb.frozen (p := ⟨_, 0, none⟩) (by simp; omega)).trans h.f2
theorem Two.set1 {w w0 : World} {v v' : Value} {n : Int} (h : Two w w0 v n) : Two w (w0.setCell ⟨w.heap.size, 0, none⟩ v') v' n where
  below := h.below.setCell (p := ⟨w.heap.size, 0, none⟩) (Nat.le_refl _) _
  size := by have := h.size; simpa [World.setCell] using this
  c1 := World.cell?_setCell_same' _ _ _ (by rw [h.c1]; rfl)
  f1 := by rw [World.frozen?_setCell]; exact h.f1
  c2 := by rw [World.cell?_setCell_other _ _ _ _ (by simp)]; exact h.c2
  f2 := by rw [World.frozen?_setCell]; exact h.f2
theorem Two.set2 {w w0 : World} {v : Value} {n n' : Int} (h : Two w w0 v n) : Two w (w0.setCell ⟨w.heap.size + 1, 0, none⟩ (.int .i64 n')) v n' where
  below := h.below.setCell (p := ⟨w.heap.size + 1, 0, none⟩) (Nat.le_succ _) _
  size := by have := h.size; simpa [World.setCell] using this
  c1 := by rw [World.cell?_setCell_other _ _ _ _ (by simp)]; exact h.c1
  f1 := by rw [World.frozen?_setCell]; exact h.f1
  c2 := World.cell?_setCell_same' _ _ _ (by rw [h.c2]; rfl)
  f2 := by rw [World.frozen?_setCell]; exact h.f2
theorem cell_of_block {w : World} {b : Nat} {v : Value} {T : TypeId} (h : w.heap[b]? = some (.cells #[v] T)) : w.cell? ⟨b, 0, none⟩ = some v ∧ w.frozen? ⟨b, 0, none⟩ = false := by
  constructor
  · simp only [World.cell?, h]; rfl
  · simp only [World.frozen?, h]; rfl
theorem Two.start (w : World) : Two w ((w.alloc (.cells #[.nilFunc] 50)).alloc (.cells #[.int .i64 0] 23)) .nilFunc 0 := by
  have e1 : (w.alloc (.cells #[.nilFunc] 50)).heap.size = w.heap.size + 1 := by simp only [World.size_alloc]
  have e2 : ((w.alloc (.cells #[.nilFunc] 50)).alloc (.cells #[.int .i64 0] 23)).heap.size = w.heap.size + 2 := by simp only [World.size_alloc]
  have hb1 := (Below.refl w.heap.size w).alloc (Nat.le_refl _) (.cells #[.nilFunc] 50)
  have hb2 := (Below.refl _ (w.alloc (.cells #[.nilFunc] 50))).alloc (Nat.le_refl _) (.cells #[.int .i64 0] 23)
  have h1 : ((w.alloc (.cells #[.nilFunc] 50)).alloc (.cells #[.int .i64 0] 23)).heap[w.heap.size]? = some (.cells #[.nilFunc] 50) := by
    rw [hb2.block _ (by omega)]; exact heap_alloc_new w _
  have h2 : ((w.alloc (.cells #[.nilFunc] 50)).alloc (.cells #[.int .i64 0] 23)).heap[w.heap.size + 1]? = some (.cells #[.int .i64 0] 23) := by
    rw [← e1]; exact heap_alloc_new _ _
  exact ⟨hb1.trans (hb2.mono hb1.size), by omega, (cell_of_block h1).1, (cell_of_block h1).2, (cell_of_block h2).1, (cell_of_block h2).2⟩

/-- How measure ends at what is no rope. -/
def MeasNo (w : World) (e : Ending) (w' : World) : Prop := e = .returned (.tuple #[.nilFunc, .int .i64 20]) ∧ Below w.heap.size w w'
/-- How measure ends at a rope with the lengths L. -/
def MeasYes (w : World) (sl : Value) (L : List Nat) (e : Ending) (w' : World) : Prop :=
  ∃ B, w.heap.size ≤ B ∧ e = .returned (.tuple #[envV 76 B, .int .i64 0]) ∧ EnvI w' B sl lenM L.length (memoL L) ∧ Below w.heap.size w w'

set_option maxHeartbeats 1000000 in
set_option maxRecDepth 100000 in
theorem measure_big (A : Option Addr) (n cap : Nat) (w : World) (hn : 4000 < n) (hm : n ≤ maxLen) :
    Calls Tryz.prog 28 #[.slice A n cap] w (MeasNo w) := by
  have h1 := hmf
  have hd : decide ((n : Int) ≤ 4000) = false := by simp; omega
  unfold maxLen at hm
  go_enter_defers Tryz.func28, Tryz.ntmps28
  go_wp2_with fail
  have hT0 := Two.start w
  generalize hw0 : (w.alloc (.cells #[.nilFunc] 50)).alloc (.cells #[.int .i64 0] 23) = w0 at *
  clear hw0
  refine (hold_no _).mono ?_
  rintro e w1 ⟨rfl, rfl⟩
  go_wp2
  refine leaves_cons (f := 52) (args := #[.pointer (some ⟨w.heap.size, 0, none⟩), .pointer (some ⟨w.heap.size + 1, 0, none⟩)]) (by simp) (by simp [go_sem]) ?_
  refine (catch_panicking w.heap.size (w.heap.size + 1) .nilFunc 0 [] _ hT0.c1 hT0.f1 hT0.c2 hT0.f2 (by omega)).mono ?_
  rintro e u' w'' ⟨rfl, rfl, rfl⟩
  have hT2 := (hT0.set1 (v' := .nilFunc)).set2 (n' := 20)
  generalize (w0.setCell ⟨w.heap.size, 0, none⟩ .nilFunc).setCell ⟨w.heap.size + 1, 0, none⟩ (.int .i64 20) = w2 at *
  have h1 := hT2.c1
  have h2 := hT2.c2
  simp [Leaves, settle, results, Tryz.results28, go_sem, h1, h2]
  exact ⟨rfl, hT2.below⟩

/-- What measure says of a list of nodes. -/
def MeasPost (w : World) (sl : Value) (r : List Nd) (e : Ending) (w' : World) : Prop :=
  (∀ L, lens r = some L → MeasYes w sl L e w') ∧ (lens r = none → MeasNo w e w')
theorem MeasPost.no {w : World} {sl : Value} {r : List Nd} {e : Ending} {w' : World} (h : lens r = none) (k : MeasNo w e w') : MeasPost w sl r e w' :=
  ⟨fun L hL => (by rw [h] at hL; cases hL), fun _ => k⟩
theorem MeasPost.yes {w : World} {sl : Value} {r : List Nd} {e : Ending} {w' : World} {L : List Nat} (h : lens r = some L) (k : MeasYes w sl L e w') : MeasPost w sl r e w' :=
  ⟨fun M hM => (by rw [h] at hM; cases hM; exact k), fun hn => (by rw [h] at hn; cases hn)⟩

theorem lens_no {r : List Nd} {k : Nat} {L : List Nat} (hk : k < r.length) (hL : lensR (r.take k) = some L) (hn : lenOf L r[k] = none) : lens r = none := by
  unfold lens
  split
  · refine lensR_none r (k + 1) ?_
    rw [lensR_take r k hk, hL]
    simp [stepL, hn]
  · rfl

theorem Env.same {c : FuncId} {tm tk tf : TypeId} {w w' : World} {B : Nat} {sl : Value} {ms : Array Value} {n : Nat} {f : Int → Option Value} (h : Env c tm tk tf w B sl ms n f) (hb : ∀ i, B ≤ i → w'.heap[i]? = w.heap[i]?) : Env c tm tk tf w' B sl ms n f :=
  ⟨(hb _ (by omega)).trans h.rope, (hb _ (by omega)).trans h.mean, (hb _ (by omega)).trans h.known, (hb _ (by omega)).trans h.self, h.memo.block (hb _ (by omega))⟩
theorem heap_setCell_ne (w : World) (p : Addr) (u : Value) (i : Nat) (h : i ≠ p.block) : (w.setCell p u).heap[i]? = w.heap[i]? := by
  simp only [World.setCell]
  rw [Array.getElem?_modify, if_neg (fun e => h e.symm)]
theorem lenOf_leaf {L : List Nat} {x : Nd} (h : nodeB x L.length = true) (hw : x.word.data.toList ≠ []) : lenOf L x = some x.word.size := by
  unfold lenOf; rw [if_pos h, if_neg hw]
theorem lenOf_join {L : List Nat} {x : Nd} (h : nodeB x L.length = true) (hw : x.word.data.toList = []) (ht : x.t = 0) :
    lenOf L x = if ((L.getD x.l.toNat 0 : Nat) : Int) + ((L.getD x.r.toNat 0 : Nat) : Int) ≤ 1152921504606846976 then some (L.getD x.l.toNat 0 + L.getD x.r.toNat 0) else none := by
  unfold lenOf; rw [if_pos h, if_pos hw, if_pos ht]
theorem lenOf_pow {L : List Nat} {x : Nd} (h : nodeB x L.length = true) (hw : x.word.data.toList = []) (ht : x.t ≠ 0) :
    lenOf L x = if x.t ≤ 1152921504606846976 / ((L.getD x.l.toNat 0 : Nat) : Int) then some (L.getD x.l.toNat 0 * x.t.toNat) else none := by
  unfold lenOf; rw [if_pos h, if_pos hw, if_neg ht]
theorem lenOf_bad {L : List Nat} {x : Nd} (h : nodeB x L.length = false) : lenOf L x = none := by
  unfold lenOf; rw [if_neg (by simp [h])]

/-- What the closure does at the next node. -/
theorem value_next (w : World) (B : Nat) (a : Addr) (len cap : Nat) (L : List Nat) (hL : okL L) (h : EnvI w B (.slice (some a) len cap) lenM L.length (memoL L)) (hk : L.length < len) (hlen : len ≤ 4000)
    (x : Nd) (hx : NodeAt w (a.add (L.length * 4)) x) (hs : x.word.size ≤ maxLen) (hb : nodeB x L.length = true) (ha : (a.add (L.length * 4)).block < B) :
    (∀ n, lenOf L x = some n → Calls Tryz.prog 76 #[.int .i64 (L.length : Int), .pointer (some ⟨B + 3, 0, none⟩), .pointer (some ⟨B, 0, none⟩), .pointer (some ⟨B + 1, 0, none⟩), .pointer (some ⟨B + 4, 0, none⟩)] w fun e w' =>
      e = .returned (.int .i64 (n : Int)) ∧ EnvI w' B (.slice (some a) len cap) lenM (L.length + 1) (memoL (L ++ [n])) ∧ Below B w w') ∧
    (lenOf L x = none → Calls Tryz.prog 76 #[.int .i64 (L.length : Int), .pointer (some ⟨B + 3, 0, none⟩), .pointer (some ⟨B, 0, none⟩), .pointer (some ⟨B + 1, 0, none⟩), .pointer (some ⟨B + 4, 0, none⟩)] w fun e w' =>
      e = .panicked leaves ∧ Below B w w') := by
  have hf : memoL L (L.length : Int) = none := memoL_out (by omega)
  by_cases hw : x.word.data.toList = []
  · by_cases ht : x.t = 0
    · obtain ⟨h1, h2⟩ := nodeB_join hb hw ht
      have hp := memoL_at (L := L) h1
      have hq := memoL_at (L := L) h2
      rw [lenOf_join hb hw ht]
      have g1 := okL_le hL x.l.toNat
      have g2 := okL_le hL x.r.toNat
      constructor
      · intro n hn
        split at hn
        · rename_i hle
          cases hn
          have := value_join_yes w B a len cap L.length (memoL L) h L.length hk hlen (by omega) hf x hx hw ht (WalkArith.wf_i64 (by omega)) (WalkArith.wf_i64 (by omega)) _ _ hp hq (by omega) (by omega) hle
          refine this.mono ?_
          rintro e w' ⟨rfl, k1, k2⟩
          refine ⟨by congr 2, ?_, k2⟩
          rw [← memoL_put]
          exact k1
        · cases hn
      · intro hn
        split at hn
        · cases hn
        · rename_i hle
          exact value_join_no w B a len cap L.length (memoL L) h L.length hk hlen (by omega) hf x hx hw ht (WalkArith.wf_i64 (by omega)) (WalkArith.wf_i64 (by omega)) _ _ hp hq (by omega) (by omega) g1 g2 (by omega)
    · obtain ⟨h1, h2, h3⟩ := nodeB_pow hb hw ht
      have hp := memoL_at (L := L) h1
      rw [lenOf_pow hb hw ht]
      have g1 := okL_get hL (i := x.l.toNat) (by omega)
      constructor
      · intro n hn
        split at hn
        · rename_i hle
          cases hn
          have := value_pow_yes w B a len cap L.length (memoL L) h L.length hk hlen (by omega) hf x hx hw (by omega) (WalkArith.wf_i64 (by omega)) _ hp (by omega) hle
          have hmul : (((L.getD x.l.toNat 0 : Nat) : Int)) * x.t = ((L.getD x.l.toNat 0 * x.t.toNat : Nat) : Int) := by
            rw [Int.natCast_mul, Int.toNat_of_nonneg (by omega)]
          rw [hmul] at this
          refine this.mono ?_
          rintro e w' ⟨rfl, k1, k2⟩
          refine ⟨rfl, ?_, k2⟩
          rw [← memoL_put]
          exact k1
        · cases hn
      · intro hn
        split at hn
        · cases hn
        · rename_i hle
          exact value_pow_no w B a len cap L.length (memoL L) h L.length hk hlen (by omega) hf x hx hw (by omega) (WalkArith.wf_i64 (by omega)) _ hp (by omega) (by omega)
  · rw [lenOf_leaf hb hw]
    constructor
    · intro n hn
      cases hn
      have := value_leaf w B a len cap L.length (memoL L) h L.length hk hlen (by omega) hf x hx ha hw hs
      refine this.mono ?_
      rintro e w' ⟨rfl, k1, k2⟩
      refine ⟨rfl, ?_, k2⟩
      rw [← memoL_put]
      exact k1
    · intro hn; cases hn

set_option maxHeartbeats 4000000 in
set_option maxRecDepth 100000 in
theorem measure_loop (A : Option Addr) (r : List Nd) (cap : Nat) (w : World) (ht : Tabs w) (hr : RopeAt w A r) (hn : r.length ≤ 4000) :
    Calls Tryz.prog 28 #[.slice A r.length cap] w (MeasPost w (.slice A r.length cap) r) := by
  have h1 := hmf
  have hd : decide ((r.length : Int) ≤ 4000) = true := by simp; omega
  have HR := Lib.hid hr
  have HT := Lib.hid ht
  clear hr ht
  go_enter_defers Tryz.func28, Tryz.ntmps28
  go_wp2_with fail
  have hT0 := Two.start w
  generalize hw0 : (w.alloc (.cells #[.nilFunc] 50)).alloc (.cells #[.int .i64 0] 23) = w0 at *
  clear hw0
  refine (hold_yes _).mono ?_
  rintro e w1 ⟨rfl, rfl⟩
  go_wp2_with fail
  refine (evaluatorI_any A r.length cap _ _ _ w0 hn).mono ?_
  rintro e w1 ⟨rfl, he1, hb1⟩
  have hT1 := hT0.on hb1 hT0.size
  have hsz := hT0.size
  generalize hB : w0.heap.size = B at *
  have c1 := hT1.c1
  have f1 := hT1.f1
  have hT2 := hT1.set1 (v' := envV 76 B)
  have he2 : EnvI (w1.setCell ⟨w.heap.size, 0, none⟩ (envV 76 B)) B (.slice A r.length cap) lenM 0 (memoL []) := by
    rw [memoL_nil]
    exact he1.same fun i hi => heap_setCell_ne _ _ _ _ (by simp; omega)
  have hT0s := hT2.size
  go_wp2
  change Code.wp _ _ _ _ (w1.setCell ⟨w.heap.size, 0, none⟩ (envV 76 B))
  clear c1 f1
  generalize w1.setCell ⟨w.heap.size, 0, none⟩ (envV 76 B) = w2 at *
  have H2 := Lib.hid hT2
  have HE2 := Lib.hid he2
  clear hT0 hT1 hT2 he1 he2 hb1 hd h1
  have hB2 : w.heap.size + 2 ≤ B := by omega
  clear hsz hB
  go_loopw [4, 5, 16] (fun _ _ i wr => ∃ (k : Nat) (L : List Nat), k ≤ r.length ∧ L.length = k ∧ okL L ∧ i = .int .i64 (k : Int) ∧ lensR (r.take k) = some L ∧ EnvI wr B (.slice A r.length cap) lenM k (memoL L) ∧ Two w wr (envV 76 B) 0)
    (fun _ _ i _ => r.length - (intOf i).toNat)
  case atStart => exact ⟨0, [], Nat.zero_le _, rfl, fun n hn => (by simp at hn), rfl, rfl, HE2.out, H2.out⟩
  case round =>
    obtain ⟨k, L, hk, hkL, hok, rfl, hlen, henv, htwo⟩ := hrel
    clear H2 HE2
    have HOK := Lib.hid hok
    have HLEN := Lib.hid hlen
    have HTWO := Lib.hid htwo
    have hBr := henv.lt
    by_cases hlt : k < r.length
    · obtain ⟨a, rfl, hx, hxs⟩ := HR.out k hlt
      have hlenx := lens_no (L := L) hlt hlen
      have HLX := Lib.hid hlenx
      have htk := lensR_take r k hlt
      rw [hlen] at htk
      have HTK := Lib.hid htk
      have hx1 := hx.on htwo.below (lt_of_cell hx.1)
      have hab : (a.add (k * 4)).block < w.heap.size := lt_of_cell hx.1
      have hAll : ∀ w', Below w.heap.size w w' → NodeAt w' (a.add (k * 4)) r[k] := fun w' hb => hx.on hb hab
      have HALL := Lib.hid hAll
      have HENV := Lib.hid henv
      have HKL := Lib.hid hkL
      clear hlenx htk hx hAll henv hkL hok hlen htwo
      generalize r[k] = x at *
      obtain ⟨s, l, q, t⟩ := x
      obtain ⟨f0, f1, f2, f3⟩ := hx1
      simp only at f0 f1 f2 f3 hxs
      have hB0 : Below wr.heap.size wr (wr.alloc (.cells #[.string s, .int .i64 l, .int .i64 q, .int .i64 t] 68)) := (Below.refl _ _).alloc (Nat.le_refl _) _
      have hblk : Blk (wr.alloc (.cells #[.string s, .int .i64 l, .int .i64 q, .int .i64 t] 68)) wr.heap.size 68 #[.string s, .int .i64 l, .int .i64 q, .int .i64 t] := heap_alloc_new wr _
      have hT := (HT.out.on HTWO.out.below).on hB0
      have hI := isNode_any ⟨s, l, q, t⟩ (k : Int) (wr.alloc (.cells #[.string s, .int .i64 l, .int .i64 q, .int .i64 t] 68)) hT hxs
      have HB0 := Lib.hid hB0
      have HBLK := Lib.hid hblk
      clear hT hB0 hblk
      cases hnb : nodeB ⟨s, l, q, t⟩ (k : Int) with
      | false =>
        rw [hnb] at hI
        have HNO := Lib.hid (HLX.out (lenOf_bad (by rw [HKL.out]; exact hnb)))
        clear hnb
        go_wp2_with fail
        refine hI.mono ?_; rintro e w3 ⟨rfl, hb⟩
        have T3 := HTWO.out.on (HB0.out.trans (hb.mono HB0.out.size)) (by omega)
        clear hI f0 f1 f2 f3
        go_wp2_with fail
        refine (hold_no _).mono ?_; rintro e w3' ⟨rfl, rfl⟩
        go_wp2
        refine leaves_cons (f := 52) (args := #[.pointer (some ⟨w.heap.size, 0, none⟩), .pointer (some ⟨w.heap.size + 1, 0, none⟩)]) (by simp) (by simp [go_sem]) ?_
        refine (catch_panicking w.heap.size (w.heap.size + 1) (envV 76 B) 0 [] _ T3.c1 T3.f1 T3.c2 T3.f2 (by omega)).mono ?_
        rintro e u' w'' ⟨rfl, rfl, rfl⟩
        have T4 := (T3.set1 (v' := .nilFunc)).set2 (n' := 20)
        generalize (w3.setCell ⟨w.heap.size, 0, none⟩ .nilFunc).setCell ⟨w.heap.size + 1, 0, none⟩ (.int .i64 20) = w4 at *
        have g1 := T4.c1
        have g2 := T4.c2
        simp [Leaves, settle, results, Tryz.results28, go_sem, g1, g2]
        exact MeasPost.no HNO.out ⟨rfl, T4.below⟩
      | true =>
        rw [hnb] at hI
        have HNB := Lib.hid hnb
        clear hnb
        go_wp2_with fail
        refine hI.mono ?_; rintro e w3 ⟨rfl, hb⟩
        have hb3 := HB0.out.trans (hb.mono HB0.out.size)
        have T3 := HTWO.out.on hb3 (by omega)
        have henv3 := HENV.out.on hb3
        have hx3 := HALL.out w3 T3.below
        have hb3s := hb3.size
        have hv := value_next w3 B a r.length cap L HOK.out (by rw [HKL.out]; exact henv3) (by rw [HKL.out]; exact hlt) hn ⟨s, l, q, t⟩ (by rw [HKL.out]; exact hx3) hxs (by rw [HKL.out]; exact HNB.out) (by rw [HKL.out]; omega)
        rw [HKL.out] at hv
        have g1 := T3.c1
        have HT3 := Lib.hid T3
        have HV := Lib.hid hv
        have HB3 := Lib.hid hb3
        clear hI f0 f1 f2 f3 hb hb3 T3 henv3 hx3 hv
        go_wp2_with fail
        refine (hold_yes _).mono ?_; rintro e w3' ⟨rfl, rfl⟩
        cases hln : lenOf L ⟨s, l, q, t⟩ with
        | none =>
          have hv := HV.out.2 hln
          have HNO := Lib.hid (HLX.out hln)
          clear hln
          go_wp2_with fail
          clear g1
          refine hv.mono ?_; rintro e w3 ⟨rfl, hb⟩
          have T3 := HT3.out.on hb hB2
          clear hv
          go_wp2
          refine leaves_cons (f := 52) (args := #[.pointer (some ⟨w.heap.size, 0, none⟩), .pointer (some ⟨w.heap.size + 1, 0, none⟩)]) (by simp) (by simp [go_sem]) ?_
          refine (catch_panicking w.heap.size (w.heap.size + 1) (envV 76 B) 0 [] _ T3.c1 T3.f1 T3.c2 T3.f2 (by omega)).mono ?_
          rintro e u' w'' ⟨rfl, rfl, rfl⟩
          have T4 := (T3.set1 (v' := .nilFunc)).set2 (n' := 20)
          generalize (w3.setCell ⟨w.heap.size, 0, none⟩ .nilFunc).setCell ⟨w.heap.size + 1, 0, none⟩ (.int .i64 20) = w4 at *
          have g1 := T4.c1
          have g2 := T4.c2
          simp [Leaves, settle, results, Tryz.results28, go_sem, g1, g2]
          exact MeasPost.no HNO.out ⟨rfl, T4.below⟩
        | some n =>
          have hv := HV.out.1 n hln
          have HLN := Lib.hid hln
          clear hln
          go_wp2_with fail
          clear g1
          refine hv.mono ?_; rintro e w4 ⟨rfl, henv4, hb⟩
          have H4 := Lib.hid henv4
          have HB4 := Lib.hid hb
          clear hv henv4 hb
          go_wp2
          go_roundw
          case rel => exact ⟨k + 1, L ++ [n], by omega, by simp [HKL.out], fun m hm => (by rcases List.mem_append.1 hm with hm | hm; exact HOK.out m hm; simp at hm; subst hm; exact lenOf_ok HOK.out HLN.out), by go_num, by rw [HTK.out]; simp [stepL, HLN.out], H4.out, HT3.out.on HB4.out hB2⟩
          case measure => simp [intOf]; omega
    · have hk' : k = r.length := by omega
      subst hk'
      rw [List.take_of_length_le (Nat.le_refl _)] at hlen
      have hlens : lens r = some L := by unfold lens; rw [if_pos hn]; exact hlen
      have HLENS := Lib.hid hlens
      have HENV := Lib.hid henv
      have HKL := Lib.hid hkL
      have g1 := htwo.c1
      have g2 := htwo.c2
      have g3 := htwo.f1
      have g4 := htwo.f2
      have T2 := (htwo.set1 (v' := envV 76 B)).set2 (n' := 0)
      have hc3 : (wr.setCell ⟨w.heap.size, 0, none⟩ (envV 76 B)).cell? ⟨w.heap.size + 1, 0, none⟩ = some (.int .i64 0) := by rw [World.cell?_setCell_other _ _ _ _ (by simp), g2]
      have henv2 : EnvI ((wr.setCell ⟨w.heap.size, 0, none⟩ (envV 76 B)).setCell ⟨w.heap.size + 1, 0, none⟩ (.int .i64 0)) B (.slice A r.length cap) lenM r.length (memoL L) :=
        henv.same fun i hi => by rw [heap_setCell_ne _ _ _ _ (by simp; omega), heap_setCell_ne _ _ _ _ (by simp; omega)]
      clear hlens hlen henv hkL hok htwo
      go_wp2
      change Leaves _ _ _ _ _ _ ((wr.setCell ⟨w.heap.size, 0, none⟩ (envV 76 B)).setCell ⟨w.heap.size + 1, 0, none⟩ (.int .i64 0))
      clear g1 g2 g3 g4 hc3
      generalize (wr.setCell ⟨w.heap.size, 0, none⟩ (envV 76 B)).setCell ⟨w.heap.size + 1, 0, none⟩ (.int .i64 0) = w4 at *
      refine leaves_cons (f := 52) (args := #[.pointer (some ⟨w.heap.size, 0, none⟩), .pointer (some ⟨w.heap.size + 1, 0, none⟩)]) (by simp) (by simp [go_sem]) ?_
      refine (catch_idle _ _ w4).mono ?_
      rintro e u' w'' ⟨rfl, rfl, rfl⟩
      have g1 := T2.c1
      have g2 := T2.c2
      simp [Leaves, settle, results, Tryz.results28, go_sem, g1, g2]
      exact MeasPost.yes HLENS.out ⟨B, by omega, rfl, by rw [HKL.out]; exact henv2, T2.below⟩

theorem measure_any (A : Option Addr) (r : List Nd) (cap : Nat) (w : World) (ht : Tabs w) (hr : RopeAt w A r) (hm : r.length ≤ maxLen) :
    Calls Tryz.prog 28 #[.slice A r.length cap] w (MeasPost w (.slice A r.length cap) r) := by
  by_cases hn : r.length ≤ 4000
  · exact measure_loop A r cap w ht hr hn
  · exact (measure_big A r.length cap w (by omega) hm).mono fun _ _ h => MeasPost.no (by unfold lens; rw [if_neg hn]) h
end Go.Proofs.YtgklmcinbaghmaaGreatDoor
