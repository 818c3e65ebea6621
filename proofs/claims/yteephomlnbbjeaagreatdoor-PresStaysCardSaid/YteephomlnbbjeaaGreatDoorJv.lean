/-
  Our own text, in the proofs of the laws of package pres (cayleylaw03). Proved here: the deferred closure of Parse; Parse, in its five ways; expression of the reader of package pres; add of the reader, and quotient, of package pres. Conditions: the arguments lie in memory as the slices say; bounds; the listed tables lie as the program lays them.
-/
import Derived.Test.YteephomlnbbjeaaGreatDoorJu
import Derived.Defers
import Derived.Recover
import Derived.Laws.Pointers
import Derived.Test.YteephomlnbbjeaaGreatDoorJs
set_option linter.unusedVariables false
set_option linter.unusedSimpArgs false
set_option linter.unusedSectionVars false
namespace Go.Proofs.YteephomlnbbjeaaGreatDoor
open Go Go.RowKit

theorem catch_panicking (p q : Nat) (x : ByteArray) (y : Int) (n : Int) (older : List PanicEntry) (w : World) (hc : w.cell? ⟨p, 0, none⟩ = some (.string x)) (hz : w.frozen? ⟨p, 0, none⟩ = false) (hc2 : w.cell? ⟨q, 0, none⟩ = some (.int .i64 y)) (hz2 : w.frozen? ⟨q, 0, none⟩ = false) (hpq : p ≠ q)  :
    CallsD Tryz.prog 208 #[.pointer (some ⟨p, 0, none⟩), .pointer (some ⟨q, 0, none⟩)] (.panicking ({ v := .iface 27 (.int .i64 n), recovered := false } :: older)) w fun e u' w' =>
      e = .returned (.tuple #[]) ∧ u' = .panicking ({ v := .iface 27 (.int .i64 n), recovered := true } :: older) ∧  ∃ k, w' = ((w.setCell ⟨p, 0, none⟩ (.string ⟨#[]⟩)).setCell ⟨q, 0, none⟩ (.int .i64 n)).drewN k := by
  refine callsD_of_wpS Tryz.func208 rfl fun c₀ cs hu => ?_
  apply wpS_seq
  apply wpS_region
  simp [wpOpsS, go_sem, recoverD, hu, Tryz.ntmps208, Exit.thenS]
  refine wpS_of_wp ?_
  generalize hm : ({ fn := c₀.fn, tmps := c₀.tmps, todo := c₀.todo, defers := c₀.defers, mode := FrameMode.panicking ({ v := Value.iface 27 (Value.int IntKind.i64 n), recovered := true } :: older), kind := c₀.kind, roundOf := c₀.roundOf } : Frame) = c1
  have hQ : ∀ a w', a.defers = [] → (∃ k, w' = ((w.setCell ⟨p, 0, none⟩ (.string ⟨#[]⟩)).setCell ⟨q, 0, none⟩ (.int .i64 n)).drewN k) → bodyPostS Tryz.prog Tryz.f208 c₀ cs (fun e u' w' => e = Ending.returned (Value.tuple #[]) ∧ u' = FrameMode.panicking ({ v := Value.iface 27 (Value.int IntKind.i64 n), recovered := true } :: older) ∧ ∃ k, w' = ((w.setCell ⟨p, 0, none⟩ (.string ⟨#[]⟩)).setCell ⟨q, 0, none⟩ (.int .i64 n)).drewN k) Exit.normal a (c1 :: cs) w' := by
    rintro a w' ha ⟨k, rfl⟩
    refine ⟨ha, _, by rw [← hm], .tuple #[], ?_, rfl, rfl, k, rfl⟩
    simp [results, Tryz.results208, go_sem]
  clear hm
  change Code.wp _ _ _ { tmps := #[.pointer (some ⟨p, 0, none⟩), .pointer (some ⟨q, 0, none⟩), .iface 27 (.int .i64 n), .iface 27 (.int .i64 n), undef, undef, undef, undef], defers := [] } w
  generalize hQQ : (fun (e : Exit) (a' : Act) (w' : World) => bodyPostS Tryz.prog Tryz.f208 c₀ cs (fun e u' w' => e = Ending.returned (Value.tuple #[]) ∧ u' = FrameMode.panicking ({ v := Value.iface 27 (Value.int IntKind.i64 n), recovered := true } :: older) ∧ ∃ k, w' = ((w.setCell ⟨p, 0, none⟩ (.string ⟨#[]⟩)).setCell ⟨q, 0, none⟩ (.int .i64 n)).drewN k) e a' (c1 :: cs) w') = Q
  have hQ2 : ∀ a w', a.defers = [] → (∃ k, w' = ((w.setCell ⟨p, 0, none⟩ (.string ⟨#[]⟩)).setCell ⟨q, 0, none⟩ (.int .i64 n)).drewN k) → Q .normal a w' := by rw [← hQQ]; exact hQ
  have HQ := Lib.hid hQ2
  clear hQQ hQ hQ2 hu
  have hta : ∀ (w : World), (Instr.typeAssert (.iface 27 (.int .i64 n)) 20 27 false).run Tryz.prog w = .ok (.int .i64 n) w := fun w => by kernel_rfl
  go_wp2
  go_region
  exact HQ.out _ _ rfl ⟨1, rfl⟩

theorem catch_idle (p q : Addr) (w : World) :
    CallsD Tryz.prog 208 #[.pointer (some p), .pointer (some q)] .returning w fun e u' w' => e = .returned (.tuple #[]) ∧ u' = .returning ∧ w' = w := by
  refine callsD_of_wpS Tryz.func208 rfl fun c₀ cs hu => ?_
  apply wpS_seq
  apply wpS_region
  simp [wpOpsS, go_sem, recoverD, hu, Tryz.ntmps208, Exit.thenS]
  refine wpS_of_wp ?_
  have hQ : ∀ a, a.defers = [] → bodyPostS Tryz.prog Tryz.f208 c₀ cs (fun e u' w' => e = Ending.returned (Value.tuple #[]) ∧ u' = FrameMode.returning ∧ w' = w) Exit.normal a (c₀ :: cs) w := by
    intro a ha
    refine ⟨ha, FrameMode.returning, by rw [← hu], .tuple #[], ?_, rfl, rfl, rfl⟩
    simp [results, Tryz.results208, go_sem]
  clear hu
  change Code.wp _ _ _ { tmps := #[.pointer (some p), .pointer (some q), Value.nilIface, Value.nilIface, undef, undef, undef, undef], defers := [] } w
  generalize hQQ : (fun (e : Exit) (a' : Act) (w' : World) => bodyPostS Tryz.prog Tryz.f208 c₀ cs (fun e u' w' => e = Ending.returned (Value.tuple #[]) ∧ u' = FrameMode.returning ∧ w' = w) e a' (c₀ :: cs) w') = Q
  have hQ2 : ∀ a, a.defers = [] → Q .normal a w := by rw [← hQQ]; exact hQ
  have HQ := Lib.hid hQ2
  clear hQQ hQ hQ2
  go_wp2
  exact HQ.out _ rfl
end Go.Proofs.YteephomlnbbjeaaGreatDoor

namespace Go.Proofs.YteephomlnbbjeaaGreatDoor
open Go Go.RowKit

/-- How Parse ends. -/
def ParsePost (w : World) (v : List UInt8) (n : Int) (e : Ending) (w' : World) : Prop :=
  e = .returned (.tuple #[.string ⟨v.toArray⟩, .int .i64 n]) ∧ Below w.heap.size w w'

/-- The world behind Parse's two results' blocks. -/
structure Two (w w0 : World) (v : List UInt8) (n : Int) : Prop where
  below : Below w.heap.size w w0
  size : w.heap.size + 2 ≤ w0.heap.size
  c1 : w0.cell? ⟨w.heap.size, 0, none⟩ = some (.string ⟨v.toArray⟩)
  f1 : w0.frozen? ⟨w.heap.size, 0, none⟩ = false
  c2 : w0.cell? ⟨w.heap.size + 1, 0, none⟩ = some (.int .i64 n)
  f2 : w0.frozen? ⟨w.heap.size + 1, 0, none⟩ = false

theorem Two.on {w w0 w1 : World} {v : List UInt8} {n : Int} (h : Two w w0 v n) (hb : Below w0.heap.size w0 w1) : Two w w1 v n where
  below := h.below.trans (hb.mono h.below.size)
  size := Nat.le_trans h.size hb.size
  c1 := (hb.cell (p := ⟨_, 0, none⟩) (by have := h.size; simp; omega)).trans h.c1
  f1 := (hb.frozen (p := ⟨_, 0, none⟩) (by have := h.size; simp; omega)).trans h.f1
  c2 := (hb.cell (p := ⟨_, 0, none⟩) (by have := h.size; simp; omega)).trans h.c2
  f2 := (hb.frozen (p := ⟨_, 0, none⟩) (by have := h.size; simp; omega)).trans h.f2

theorem Two.set {w w0 : World} {v v' : List UInt8} {n n' : Int} (h : Two w w0 v n) : Two w ((w0.setCell ⟨w.heap.size, 0, none⟩ (.string ⟨v'.toArray⟩)).setCell ⟨w.heap.size + 1, 0, none⟩ (.int .i64 n')) v' n' where
  below := (h.below.setCell (p := ⟨w.heap.size, 0, none⟩) (Nat.le_refl _) _).setCell (p := ⟨w.heap.size + 1, 0, none⟩) (Nat.le_succ _) _
  size := by have := h.size; simpa [World.setCell] using this
  c1 := by
    rw [World.cell?_setCell_other _ _ _ _ (by simp)]
    exact World.cell?_setCell_same' _ _ _ (by rw [h.c1]; rfl)
  f1 := by rw [World.frozen?_setCell, World.frozen?_setCell]; exact h.f1
  c2 := World.cell?_setCell_same' _ _ _ (by rw [World.cell?_setCell_other _ _ _ _ (by simp), h.c2]; rfl)
  f2 := by rw [World.frozen?_setCell, World.frozen?_setCell]; exact h.f2
theorem Two.drewN {w w0 : World} {v : List UInt8} {n : Int} (h : Two w w0 v n) (k : Nat) : Two w (w0.drewN k) v n :=
  ⟨h.below.drewN k, h.size, h.c1, h.f1, h.c2, h.f2⟩

theorem cell_of_block {w : World} {b : Nat} {v : Value} {T : TypeId} (h : w.heap[b]? = some (.cells #[v] T)) : w.cell? ⟨b, 0, none⟩ = some v ∧ w.frozen? ⟨b, 0, none⟩ = false := by
  constructor
  · simp only [World.cell?, h]; rfl
  · simp only [World.frozen?, h]; rfl

theorem Two.start (w : World) : Two w ((w.alloc (.cells #[.string ⟨#[]⟩] 9)).alloc (.cells #[.int .i64 0] 27)) [] 0 := by
  have e1 : (w.alloc (.cells #[.string ⟨#[]⟩] 9)).heap.size = w.heap.size + 1 := by simp only [World.size_alloc]
  have e2 : ((w.alloc (.cells #[.string ⟨#[]⟩] 9)).alloc (.cells #[.int .i64 0] 27)).heap.size = w.heap.size + 2 := by simp only [World.size_alloc]
  have hb1 := (Below.refl w.heap.size w).alloc (Nat.le_refl _) (.cells #[.string ⟨#[]⟩] 9)
  have hb2 := (Below.refl _ (w.alloc (.cells #[.string ⟨#[]⟩] 9))).alloc (Nat.le_refl _) (.cells #[.int .i64 0] 27)
  have h1 : ((w.alloc (.cells #[.string ⟨#[]⟩] 9)).alloc (.cells #[.int .i64 0] 27)).heap[w.heap.size]? = some (.cells #[.string ⟨#[]⟩] 9) := by
    rw [hb2.block _ (by omega)]; exact heap_alloc_new w _
  have h2 : ((w.alloc (.cells #[.string ⟨#[]⟩] 9)).alloc (.cells #[.int .i64 0] 27)).heap[w.heap.size + 1]? = some (.cells #[.int .i64 0] 27) := by
    rw [← e1]; exact heap_alloc_new _ _
  exact ⟨hb1.trans (hb2.mono hb1.size), by omega, (cell_of_block h1).1, (cell_of_block h1).2, (cell_of_block h2).1, (cell_of_block h2).2⟩

set_option maxHeartbeats 1000000 in
theorem parse_form (k : Int) (l : List UInt8) (w : World) (ht : Tabs w) (hk0 : 1 ≤ k) (hk : k ≤ 8) (hs : l.length ≤ 1000000) (f : Nat) (hr : outF f k ⟨l, 0, [], 0⟩ = some none) :
    Calls Tryz.prog 182 #[.int .i64 k, .string ⟨l.toArray⟩] w (ParsePost w [] 4) := by
  have hmf : ∀ (fn : Fn) (first cap : Array Value) (w : World), (Instr.makeFunc fn first cap).run Tryz.prog w = .ok (.func fn first cap) w := fun _ _ _ _ => rfl
  have HT := Lib.hid ht
  have HR := Lib.hid hr
  clear ht hr
  go_enter_defers Tryz.func182, Tryz.ntmps182
  go_wp2_with fail
  have hT0 := Two.start w
  generalize hw0 : (w.alloc (.cells #[.string ⟨#[]⟩] 9)).alloc (.cells #[.int .i64 0] 27) = w0 at *
  clear hw0
  refine (mostOpen_any l k w0 (HT.out.on hT0.below) (by omega) hk hs f none HR.out).mono ?_
  rintro e w1 ⟨hb1, rfl⟩
  go_wp2
  have hT1 := hT0.on hb1
  refine leaves_cons (f := 208) (args := #[.pointer (some ⟨w.heap.size, 0, none⟩), .pointer (some ⟨w.heap.size + 1, 0, none⟩)]) (by simp) (by simp [go_sem]) ?_
  refine (catch_panicking w.heap.size (w.heap.size + 1) ⟨#[]⟩ 0 4 [] w1 hT1.c1 hT1.f1 hT1.c2 hT1.f2 (by omega)).mono ?_
  rintro e u' w'' ⟨rfl, rfl, n, rfl⟩
  have hT2 := (hT1.set (v' := []) (n' := 4)).drewN n
  change Two w (((w1.setCell ⟨w.heap.size, 0, none⟩ (.string ⟨#[]⟩)).setCell ⟨w.heap.size + 1, 0, none⟩ (.int .i64 4)).drewN n) [] 4 at hT2
  generalize ((w1.setCell ⟨w.heap.size, 0, none⟩ (.string ⟨#[]⟩)).setCell ⟨w.heap.size + 1, 0, none⟩ (.int .i64 4)).drewN n = w2 at *
  have h1 := hT2.c1
  have h2 := hT2.c2
  simp [Leaves, settle, results, Tryz.results182, go_sem, h1, h2]
  exact ⟨rfl, hT2.below⟩
set_option maxHeartbeats 1000000 in
theorem parse_limit (k : Int) (l : List UInt8) (w : World) (ht : Tabs w) (hk0 : 1 ≤ k) (hk : k ≤ 8) (hs : l.length ≤ 1000000) (f : Nat) (m : Int) (hr : outF f k ⟨l, 0, [], 0⟩ = some (some m)) (hm : 100000 < l.length ∨ 21 < m) :
    Calls Tryz.prog 182 #[.int .i64 k, .string ⟨l.toArray⟩] w (ParsePost w [] 2) := by
  have hmf : ∀ (fn : Fn) (first cap : Array Value) (w : World), (Instr.makeFunc fn first cap).run Tryz.prog w = .ok (.func fn first cap) w := fun _ _ _ _ => rfl
  have HT := Lib.hid ht
  have HR := Lib.hid hr
  have HM := Lib.hid hm
  clear ht hr hm
  go_enter_defers Tryz.func182, Tryz.ntmps182
  go_wp2_with fail
  have hT0 := Two.start w
  generalize hw0 : (w.alloc (.cells #[.string ⟨#[]⟩] 9)).alloc (.cells #[.int .i64 0] 27) = w0 at *
  clear hw0
  refine (mostOpen_any l k w0 (HT.out.on hT0.below) (by omega) hk hs f _ HR.out).mono ?_
  rintro e w1 ⟨hb1, rfl⟩
  have hT1 := hT0.on hb1
  have h1 := hT1.c1
  have h2 := hT1.c2
  have h3 := hT1.f1
  have h4 := hT1.f2
  have hT2 := hT1.set (v' := []) (n' := 2)
  have hc3 : (w1.setCell ⟨w.heap.size, 0, none⟩ (.string ⟨#[]⟩)).cell? ⟨w.heap.size + 1, 0, none⟩ = some (.int .i64 0) := by rw [World.cell?_setCell_other _ _ _ _ (by simp), h2]
  by_cases hA : 100000 < l.length
  · have hd : decide (100000 < l.length) = true := by simpa using hA
    go_wp2
    change Two w ((w1.setCell ⟨w.heap.size, 0, none⟩ (.string ⟨#[]⟩)).setCell ⟨w.heap.size + 1, 0, none⟩ (.int .i64 2)) [] 2 at hT2
    clear hc3
    generalize ((w1.setCell ⟨w.heap.size, 0, none⟩ (.string ⟨#[]⟩)).setCell ⟨w.heap.size + 1, 0, none⟩ (.int .i64 2)) = w2 at *
    refine leaves_cons (f := 208) (args := #[.pointer (some ⟨w.heap.size, 0, none⟩), .pointer (some ⟨w.heap.size + 1, 0, none⟩)]) (by simp) (by simp [go_sem]) ?_
    refine (catch_idle _ _ w2).mono ?_
    rintro e u' w'' ⟨rfl, rfl, rfl⟩
    clear h1 h2 h3 h4
    have h1 := hT2.c1
    have h2 := hT2.c2
    simp [Leaves, settle, results, Tryz.results182, go_sem, h1, h2]
    exact ⟨rfl, hT2.below⟩
  · have hd : decide (100000 < l.length) = false := by simpa using hA
    have hd2 : decide (21 < m) = true := by have := HM.out; simp; omega
    go_wp2
    change Two w ((w1.setCell ⟨w.heap.size, 0, none⟩ (.string ⟨#[]⟩)).setCell ⟨w.heap.size + 1, 0, none⟩ (.int .i64 2)) [] 2 at hT2
    clear hc3
    generalize ((w1.setCell ⟨w.heap.size, 0, none⟩ (.string ⟨#[]⟩)).setCell ⟨w.heap.size + 1, 0, none⟩ (.int .i64 2)) = w2 at *
    refine leaves_cons (f := 208) (args := #[.pointer (some ⟨w.heap.size, 0, none⟩), .pointer (some ⟨w.heap.size + 1, 0, none⟩)]) (by simp) (by simp [go_sem]) ?_
    refine (catch_idle _ _ w2).mono ?_
    rintro e u' w'' ⟨rfl, rfl, rfl⟩
    clear h1 h2 h3 h4
    have h1 := hT2.c1
    have h2 := hT2.c2
    simp [Leaves, settle, results, Tryz.results182, go_sem, h1, h2]
    exact ⟨rfl, hT2.below⟩

set_option maxHeartbeats 1000000 in
theorem parse_arg (k : Int) (l : List UInt8) (w : World) (hk : k < 1 ∨ 8 < k) :
    Calls Tryz.prog 182 #[.int .i64 k, .string ⟨l.toArray⟩] w (ParsePost w [] 1) := by
  have hT0 := Two.start w
  generalize hw0 : (w.alloc (.cells #[.string ⟨#[]⟩] 9)).alloc (.cells #[.int .i64 0] 27) = w1 at *
  have h1 := hT0.c1
  have h2 := hT0.c2
  have h3 := hT0.f1
  have h4 := hT0.f2
  have hT2 := hT0.set (v' := []) (n' := 1)
  have hc3 : (w1.setCell ⟨w.heap.size, 0, none⟩ (.string ⟨#[]⟩)).cell? ⟨w.heap.size + 1, 0, none⟩ = some (.int .i64 0) := by rw [World.cell?_setCell_other _ _ _ _ (by simp), h2]
  change Two w ((w1.setCell ⟨w.heap.size, 0, none⟩ (.string ⟨#[]⟩)).setCell ⟨w.heap.size + 1, 0, none⟩ (.int .i64 1)) [] 1 at hT2
  by_cases hA : k < 1
  · go_enter_defers Tryz.func182, Tryz.ntmps182
    go_wp2
    generalize ((w1.setCell ⟨w.heap.size, 0, none⟩ (.string ⟨#[]⟩)).setCell ⟨w.heap.size + 1, 0, none⟩ (.int .i64 1)) = w2 at *
    clear h1 h2 h3 h4 hc3
    have h1 := hT2.c1
    have h2 := hT2.c2
    simp [bodyPostD, Leaves, settle, results, Tryz.results182, go_sem, h1, h2]
    exact ⟨rfl, hT2.below⟩
  · have hB : 8 < k := by omega
    go_enter_defers Tryz.func182, Tryz.ntmps182
    go_wp2
    generalize ((w1.setCell ⟨w.heap.size, 0, none⟩ (.string ⟨#[]⟩)).setCell ⟨w.heap.size + 1, 0, none⟩ (.int .i64 1)) = w2 at *
    clear h1 h2 h3 h4 hc3
    have h1 := hT2.c1
    have h2 := hT2.c2
    simp [bodyPostD, Leaves, settle, results, Tryz.results182, go_sem, h1, h2]
    exact ⟨rfl, hT2.below⟩

set_option maxHeartbeats 1000000 in
theorem parse_ok (k : Int) (l : List UInt8) (w : World) (ht : Tabs w) (hk0 : 1 ≤ k) (hk : k ≤ 8) (hs : l.length ≤ 100000) (f g : Nat) (m : Int) (hr : outF f k ⟨l, 0, [], 0⟩ = some (some m)) (hm : m ≤ 21)
    (v t : List UInt8) (hx : exprF g l = some (.ok v t)) :
    Calls Tryz.prog 182 #[.int .i64 k, .string ⟨l.toArray⟩] w (ParsePost w v 0) := by
  have hmf : ∀ (fn : Fn) (first cap : Array Value) (w : World), (Instr.makeFunc fn first cap).run Tryz.prog w = .ok (.func fn first cap) w := fun _ _ _ _ => rfl
  have HT := Lib.hid ht
  have HR := Lib.hid hr
  have HX := Lib.hid hx
  clear ht hr hx
  go_enter_defers Tryz.func182, Tryz.ntmps182
  go_wp2_with fail
  have hT0 := Two.start w
  generalize hw0 : (w.alloc (.cells #[.string ⟨#[]⟩] 9)).alloc (.cells #[.int .i64 0] 27) = w0 at *
  clear hw0
  refine (mostOpen_any l k w0 (HT.out.on hT0.below) (by omega) hk (by omega) f _ HR.out).mono ?_
  rintro e w1 ⟨hb1, rfl⟩
  have hT1 := hT0.on hb1
  have hd : decide (100000 < l.length) = false := by simpa using hs
  have hd2 : decide (21 < m) = false := by simpa using hm
  go_wp2_with fail
  have hat : AtT (w1.alloc (.cells #[.string ⟨l.toArray⟩] 221)) w1.heap.size l := cell_of_block (heap_alloc_new w1 _)
  have hb2 := (Below.refl w1.heap.size w1).alloc (Nat.le_refl _) (.cells #[.string ⟨l.toArray⟩] 221)
  have hE := expr_any w1.heap.size g l _ _ HX.out hat (by omega)
  refine hE.mono ?_
  rintro e w3 ⟨hp, rfl, -, hvl, -⟩
  have hb3 : Below w1.heap.size w1 w3 := hb2.trans (hp.below (by simp))
  have hT3 := hT1.on hb3
  clear hE hp hat
  have h1 := hT3.c1
  have h2 := hT3.c2
  have h3 := hT3.f1
  have h4 := hT3.f2
  have hT2 := hT3.set (v' := v) (n' := 0)
  have hc3 : (w3.setCell ⟨w.heap.size, 0, none⟩ (.string ⟨v.toArray⟩)).cell? ⟨w.heap.size + 1, 0, none⟩ = some (.int .i64 0) := by rw [World.cell?_setCell_other _ _ _ _ (by simp), h2]
  go_wp2
  generalize ((w3.setCell ⟨w.heap.size, 0, none⟩ (.string ⟨v.toArray⟩)).setCell ⟨w.heap.size + 1, 0, none⟩ (.int .i64 0)) = w2 at *
  clear h1 h2 h3 h4 hc3
  refine leaves_cons (f := 208) (args := #[.pointer (some ⟨w.heap.size, 0, none⟩), .pointer (some ⟨w.heap.size + 1, 0, none⟩)]) (by simp) (by simp [go_sem]) ?_
  refine (catch_idle _ _ w2).mono ?_
  rintro e u' w'' ⟨rfl, rfl, rfl⟩
  have h1 := hT2.c1
  have h2 := hT2.c2
  simp [Leaves, settle, results, Tryz.results182, go_sem, h1, h2]
  exact ⟨rfl, hT2.below⟩

set_option maxHeartbeats 1000000 in
theorem parse_lim (k : Int) (l : List UInt8) (w : World) (ht : Tabs w) (hk0 : 1 ≤ k) (hk : k ≤ 8) (hs : l.length ≤ 100000) (f g : Nat) (m : Int) (hr : outF f k ⟨l, 0, [], 0⟩ = some (some m)) (hm : m ≤ 21)
    (hx : exprF g l = some .lim) :
    Calls Tryz.prog 182 #[.int .i64 k, .string ⟨l.toArray⟩] w (ParsePost w [] 2) := by
  have hmf : ∀ (fn : Fn) (first cap : Array Value) (w : World), (Instr.makeFunc fn first cap).run Tryz.prog w = .ok (.func fn first cap) w := fun _ _ _ _ => rfl
  have HT := Lib.hid ht
  have HR := Lib.hid hr
  have HX := Lib.hid hx
  clear ht hr hx
  go_enter_defers Tryz.func182, Tryz.ntmps182
  go_wp2_with fail
  have hT0 := Two.start w
  generalize hw0 : (w.alloc (.cells #[.string ⟨#[]⟩] 9)).alloc (.cells #[.int .i64 0] 27) = w0 at *
  clear hw0
  refine (mostOpen_any l k w0 (HT.out.on hT0.below) (by omega) hk (by omega) f _ HR.out).mono ?_
  rintro e w1 ⟨hb1, rfl⟩
  have hT1 := hT0.on hb1
  have hd : decide (100000 < l.length) = false := by simpa using hs
  have hd2 : decide (21 < m) = false := by simpa using hm
  go_wp2_with fail
  have hat : AtT (w1.alloc (.cells #[.string ⟨l.toArray⟩] 221)) w1.heap.size l := cell_of_block (heap_alloc_new w1 _)
  have hb2 := (Below.refl w1.heap.size w1).alloc (Nat.le_refl _) (.cells #[.string ⟨l.toArray⟩] 221)
  have hE := expr_any w1.heap.size g l _ _ HX.out hat (by omega)
  refine hE.mono ?_
  rintro e w3 ⟨hp, rfl⟩
  have hb3 : Below w1.heap.size w1 w3 := hb2.trans (hp.below (by simp))
  have hT3 := hT1.on hb3
  clear hE hp hat
  refine leaves_cons (f := 208) (args := #[.pointer (some ⟨w.heap.size, 0, none⟩), .pointer (some ⟨w.heap.size + 1, 0, none⟩)]) (by simp) (by simp [go_sem]) ?_
  refine (catch_panicking w.heap.size (w.heap.size + 1) ⟨#[]⟩ 0 2 [] w3 hT3.c1 hT3.f1 hT3.c2 hT3.f2 (by omega)).mono ?_
  rintro e u' w'' ⟨rfl, rfl, n, rfl⟩
  have hT2 := (hT3.set (v' := []) (n' := 2)).drewN n
  change Two w (((w3.setCell ⟨w.heap.size, 0, none⟩ (.string ⟨#[]⟩)).setCell ⟨w.heap.size + 1, 0, none⟩ (.int .i64 2)).drewN n) [] 2 at hT2
  generalize ((w3.setCell ⟨w.heap.size, 0, none⟩ (.string ⟨#[]⟩)).setCell ⟨w.heap.size + 1, 0, none⟩ (.int .i64 2)).drewN n = w2 at *
  have h1 := hT2.c1
  have h2 := hT2.c2
  simp [Leaves, settle, results, Tryz.results182, go_sem, h1, h2]
  exact ⟨rfl, hT2.below⟩
end Go.Proofs.YteephomlnbbjeaaGreatDoor

namespace Go.Proofs.YteephomlnbbjeaaGreatDoor
open Go Go.RowKit Go.Shelf

/-- The value of an expression, if its names are known, its form is right and no limit is exceeded. -/
def ExprIs (names l v : List UInt8) : Prop := ∃ rn f g m t, renF names l = some rn ∧ outF f names.length ⟨rn, 0, [], 0⟩ = some (some m) ∧ m ≤ 21 ∧ exprF g rn = some (.ok v t)

set_option maxHeartbeats 4000000 in
set_option maxRecDepth 100000 in
theorem expr_ok (B : Nat) (names l v : List UInt8) (w : World) (ht : Tabs w) (hn0 : 1 ≤ names.length) (hn : names.length ≤ 8) (hl : l.length ≤ 100000) (hc : w.cell? ⟨B, 0, none⟩ = some (.string ⟨names.toArray⟩))
    (h2 : w.cell? ⟨B, 2, none⟩ = some (.bool false)) (f2 : w.frozen? ⟨B, 2, none⟩ = false) (hx : ExprIs names l v) :
    Calls Tryz.prog 148 #[.pointer (some ⟨B, 0, none⟩), .string ⟨l.toArray⟩] w fun e w' => e = .returned (.string ⟨v.toArray⟩) ∧ Below w.heap.size w w' := by
  obtain ⟨rn, f, g, m, t, hr, ho, hm, hv⟩ := hx
  have hB : B < w.heap.size := lt_of_cell hc
  have HT := Lib.hid ht
  have hrl : rn.length = l.length := renF_len hr
  have HRN : Hid (∀ X, Below w.heap.size w X → Calls Tryz.prog 183 #[.pointer (some ⟨B, 0, none⟩), .string ⟨l.toArray⟩] X (fun e w' => e = .returned (.string ⟨rn.toArray⟩) ∧ Below X.heap.size X w')) := Lib.hid (fun X hX =>
    (rename_any B names l X (HT.out.on hX) hn (by omega) ((hX.cell (p := ⟨B, 0, none⟩) hB).trans hc)).mono (fun e w' h => by
      unfold RenP at h
      rw [hr] at h
      exact ⟨h.2, h.1⟩))
  have HPA : Hid (∀ X, Below w.heap.size w X → Calls Tryz.prog 182 #[.int .i64 (names.length : Int), .string ⟨rn.toArray⟩] X (fun e w' => e = .returned (.tuple #[.string ⟨v.toArray⟩, .int .i64 0]) ∧ Below X.heap.size X w')) := Lib.hid (fun X hX =>
    parse_ok (names.length : Int) rn X (HT.out.on hX) (by omega) (by omega) (by omega) f g m ho hm v t hv)
  have HNO : Hid (∀ X, Below w.heap.size w X → Calls Tryz.prog 113 #[.pointer (some ⟨B, 0, none⟩), .bool false] X (fun e w' => e = .returned (.tuple #[]) ∧ w' = X)) := Lib.hid (fun X hX =>
    note_no B X ((hX.cell (p := ⟨B, 2, none⟩) hB).trans h2) ((hX.frozen (p := ⟨B, 2, none⟩) hB).trans f2))
  have HMY : Hid (∀ X, Calls Tryz.prog 107 #[.bool true] X (fun e w' => e = .returned (.tuple #[]) ∧ X = w')) := Lib.hid (fun X => must_yes X)
  have HSK : Hid (∀ X, Below w.heap.size w X → X.cell? ⟨B, 0, none⟩ = some (.string ⟨names.toArray⟩)) := Lib.hid (fun X hX => (hX.cell (p := ⟨B, 0, none⟩) hB).trans hc)
  have d0 : w.drew.cell? ⟨B, 0, none⟩ = some (.string ⟨names.toArray⟩) := hc
  have HX0 : Hid (Below w.heap.size w w.drew) := Lib.hid (Below.refl _ _).drew
  clear ht hr ho hm hv hc h2 f2 hn0 hn hl hrl
  go_enter Tryz.func148, Tryz.ntmps148
  go_wp2_with fail
  go_region_held3 (fun X => X.cell? ⟨B, 0, none⟩ = some (.string ⟨names.toArray⟩))
    (first | with_reducible exact d0 | with_reducible exact HSK.out _ HXA.out | with_reducible exact HSK.out _ HXB.out)
    (first
    | (go_at_call 183; ((with_reducible refine (HRN.out _ HX0.out).mono ?_); rintro e wA ⟨rfl, hbA⟩; have HXA := Lib.hid (HX0.out.trans (hbA.mono HX0.out.size)); clear hbA d0))
    | (go_at_call 182; ((with_reducible refine (HPA.out _ HXA.out).mono ?_); rintro e wB ⟨rfl, hbB⟩; have HXB := Lib.hid (HXA.out.trans (hbB.mono HXA.out.size)); clear hbB)))
  all_goals (
    rename_i hHeld
    clear hHeld
    go_wp2_with (first | (go_at_call 107; refine (HMY.out _).mono ?_; rintro e w' ⟨rfl, rfl⟩) | (go_at_call 113; refine (HNO.out _ HXB.out).mono ?_; rintro e w' ⟨rfl, rfl⟩))
    go_ret
    exact ⟨rfl, HXB.out⟩)

set_option maxHeartbeats 4000000 in
set_option maxRecDepth 100000 in
theorem expr_bad (B : Nat) (names l : List UInt8) (w : World) (ht : Tabs w) (hn : names.length ≤ 8) (hl : l.length ≤ 100000) (hc : w.cell? ⟨B, 0, none⟩ = some (.string ⟨names.toArray⟩)) (hr : renF names l = none) :
    Calls Tryz.prog 148 #[.pointer (some ⟨B, 0, none⟩), .string ⟨l.toArray⟩] w fun e w' => e = .panicked (leaves 4) ∧ Below w.heap.size w w' := by
  have hB : B < w.heap.size := lt_of_cell hc
  have HT := Lib.hid ht
  have HRN : Hid (∀ X, Below w.heap.size w X → Calls Tryz.prog 183 #[.pointer (some ⟨B, 0, none⟩), .string ⟨l.toArray⟩] X (fun e w' => e = .panicked (leaves 4) ∧ Below X.heap.size X w')) := Lib.hid (fun X hX =>
    (rename_any B names l X (HT.out.on hX) hn (by omega) ((hX.cell (p := ⟨B, 0, none⟩) hB).trans hc)).mono (fun e w' h => by
      unfold RenP at h
      rw [hr] at h
      exact ⟨h.2, h.1⟩))
  have d0 : w.drew.cell? ⟨B, 0, none⟩ = some (.string ⟨names.toArray⟩) := hc
  have HX0 : Hid (Below w.heap.size w w.drew) := Lib.hid (Below.refl _ _).drew
  clear ht hr hc hn hl
  go_enter Tryz.func148, Tryz.ntmps148
  go_wp2_with fail
  refine wp_region_any (by kernel_rfl) ?_
  change wpAny _ _ _ _ _ _ _ w.drew
  refine wpAny_take (i := 0) (v := .pointer (some ⟨B, 0, none⟩)) rfl (by kernel_rfl) (by kernel_rfl) (by kernel_rfl) (fun _ _ _ h => h) (Or.inl ⟨by rfl, by intro w; go_simp⟩) ?_
  refine wpAny_take (i := 1) (v := .pointer (some ⟨B, 0, none⟩)) rfl (by kernel_rfl) (by kernel_rfl) (by kernel_rfl) (fun _ _ _ h => h) (Or.inl ⟨by rfl, by intro w; go_simp⟩) ?_
  refine wpAny_take (i := 2) (v := .pointer (some ⟨B, 0, none⟩)) rfl (by kernel_rfl) (by kernel_rfl) (by kernel_rfl) (fun _ _ _ h => h) (Or.inl ⟨by rfl, by intro w; go_simp⟩) ?_
  refine wpAny_take (i := 5) (v := .pointer (some ⟨B, 0, none⟩)) rfl (by kernel_rfl) (by kernel_rfl) (by kernel_rfl) (fun _ _ _ h => h) (Or.inl ⟨by rfl, by intro w; go_simp⟩) ?_
  refine wpAny_take (i := 6) (v := .string ⟨l.toArray⟩) rfl (by kernel_rfl) (by kernel_rfl) (by kernel_rfl) (fun _ _ _ h => h) (Or.inl ⟨by rfl, by intro w; go_simp⟩) ?_
  refine wpAny_ready (rs := [3, 7]) (by kernel_rfl) (by simp) ?_
  refine AllReady.cons rfl (fun K hK => ?_) (AllReady.cons rfl (fun K hK => ?_) (AllReady.nil))
  · go_simp
    refine hK _ _ ?_
    clear hK K
    refine wpAny_ready (rs := [4, 7]) (by kernel_rfl) (by simp) ?_
    refine AllReady.cons rfl (fun K hK => ?_) (AllReady.cons rfl (fun K hK => ?_) (AllReady.nil))
    · go_simp
      refine hK _ _ ?_
      clear hK K
      refine wpAny_ready (rs := [7]) (by kernel_rfl) (by simp) ?_
      refine AllReady.cons rfl (fun K hK => ?_) (AllReady.nil)
      · go_simp
        go_wp2_with fail
        refine (HRN.out _ HX0.out).mono ?_
        rintro e wA ⟨rfl, hbA⟩
        exact ⟨rfl, rfl, HX0.out.trans (hbA.mono HX0.out.size)⟩
    · go_simp
      go_wp2_with fail
      refine (HRN.out _ HX0.out).mono ?_
      rintro e wA ⟨rfl, hbA⟩
      exact ⟨rfl, rfl, HX0.out.trans (hbA.mono HX0.out.size)⟩
  · go_simp
    go_wp2_with fail
    refine (HRN.out _ HX0.out).mono ?_
    rintro e wA ⟨rfl, hbA⟩
    exact ⟨rfl, rfl, HX0.out.trans (hbA.mono HX0.out.size)⟩
end Go.Proofs.YteephomlnbbjeaaGreatDoor

namespace Go.Proofs.YteephomlnbbjeaaGreatDoor
open Go Go.RowKit Go.Shelf


theorem cell_blk {w w' : World} {b : Nat} (h : w'.heap[b]? = w.heap[b]?) (i : Nat) : w'.cell? ⟨b, i, none⟩ = w.cell? ⟨b, i, none⟩ := by unfold World.cell?; rw [h]
theorem frozen_blk {w w' : World} {b : Nat} (h : w'.heap[b]? = w.heap[b]?) (i : Nat) : w'.frozen? ⟨b, i, none⟩ = w.frozen? ⟨b, i, none⟩ := by unfold World.frozen?; rw [h]
structure Gr2 (B : Nat) (r : Option Nat) (w w' : World) : Prop where
  os : w'.os = w.os
  tape : w'.tape = w.tape
  output : w'.output = w.output
  size : w.heap.size ≤ w'.heap.size
  block : ∀ k, k < w.heap.size → k ≠ B → some k ≠ r → w'.heap[k]? = w.heap[k]?
theorem Gr2.refl (B : Nat) (r : Option Nat) (w : World) : Gr2 B r w w := ⟨rfl, rfl, rfl, Nat.le_refl _, fun _ _ _ _ => rfl⟩

def AddP (w : World) (B : Nat) (names : List UInt8) (A : Option Addr) (rs : List (List UInt8)) (w' : World) : Prop := ∃ A' cap', RdAt w' B names A' cap' rs ∧ Moved w A A' ∧ Gr2 B (blk A) w w'

set_option maxHeartbeats 2000000 in
set_option maxRecDepth 100000 in
theorem add_any (B : Nat) (names : List UInt8) (A : Option Addr) (cap : Nat) (rs : List (List UInt8)) (r : List UInt8) (w : World) (h : RdAt w B names A cap rs) (hr : r.length ≤ 200) (hn : rs.length ≤ 1000) :
    Calls Tryz.prog 111 #[.pointer (some ⟨B, 0, none⟩), .string ⟨r.toArray⟩] w fun e w' => e = .returned (.tuple #[]) ∧ AddP w B names A (if r = [] then rs else rs ++ [r]) w' := by
  have HL := Lib.hid (isTooLong_any r w (by omega))
  have HLB : Hid (longB r = false) := Lib.hid (by simp [longB]; omega)
  have HNO : Hid (Calls Tryz.prog 113 #[.pointer (some ⟨B, 0, none⟩), .bool false] w (fun e w' => e = .returned (.tuple #[]) ∧ w = w')) := Lib.hid ((note_no B w h.c2 h.f2).mono (fun e w' h => ⟨h.1, h.2.symm⟩))
  have HH := Lib.hid h
  have HLT := Lib.hid h.lt
  have c2 := h.c2
  rw [HLB.out] at HL
  cases r with
  | nil =>
    clear h hr
    go_enter Tryz.func111, Tryz.ntmps111
    go_wp2_with (first | (go_at_call 64; refine HL.out.mono ?_; rintro e w' ⟨rfl, rfl⟩) | (go_at_call 113; refine HNO.out.mono ?_; rintro e w' ⟨rfl, rfl⟩))
    go_end0
    exact ⟨rfl, A, cap, HH.out, Moved.refl _ _, Gr2.refl _ _ _⟩
  | cons a t =>
    have c1 := h.c1
    have f1 := h.f1
    have HNB : Hid (blk A ≠ some B) := Lib.hid (blk_ne h.row (by omega))
    have HU : Hid ((a :: t).length ≤ 140737488351232) := Lib.hid (by omega)
    have HBW : Hid (Below w.heap.size w (w.alloc (.cells #[.string ⟨(a :: t).toArray⟩] 9))) := Lib.hid ((Below.refl _ w).alloc (Nat.le_refl _) _)
    clear h hr
    go_enter Tryz.func111, Tryz.ntmps111
    go_wp2_with (first | (go_at_call 64; refine HL.out.mono ?_; rintro e w' ⟨rfl, rfl⟩) | (go_at_call 113; refine HNO.out.mono ?_; rintro e w' ⟨rfl, rfl⟩) | (at_builtin; refine append_strs (w.alloc (.cells #[.string ⟨(a :: t).toArray⟩] 9)) rfl (.tmp 21) (.tmp 23) rfl (B + 1) A rs.length cap rs [a :: t] rfl (HH.out.row.alloc _) ⟨w.heap.size, 0, none⟩ 1 1 rfl rfl (strsOne w (a :: t) HU.out) (by omega) (by have := HLT.out; simp; omega) ?_; intro A2 cap2 w2 hown2 hg2 hm2; have HO2 := Lib.hid hown2; have HG2 := Lib.hid hg2; have HM2 := Lib.hid hm2; have HB2 : Hid (w2.heap[B]? = w.heap[B]?) := Lib.hid ((HG2.out.block B (by have := HLT.out; simp; omega) (fun e => HNB.out e.symm)).trans (Below.heap_alloc _ _ _ HLT.out)); have k1 : w2.cell? ⟨B, 1, none⟩ = some (.slice A rs.length cap) := (cell_blk HB2.out 1).trans c1; have k2 : w2.frozen? ⟨B, 1, none⟩ = false := (frozen_blk HB2.out 1).trans f1; clear hown2 hg2 hm2))
    go_end0
    have hset : ∀ i, i ≠ 1 → (w2.setCell ⟨B, 1, none⟩ (.slice A2 (rs.length + 1) cap2)).cell? ⟨B, i, none⟩ = w.cell? ⟨B, i, none⟩ := fun i hi => (World.cell?_setCell_other _ _ _ _ (by simp; try omega)).trans (cell_blk HB2.out i)
    have hfz : ∀ i, (w2.setCell ⟨B, 1, none⟩ (.slice A2 (rs.length + 1) cap2)).frozen? ⟨B, i, none⟩ = w.frozen? ⟨B, i, none⟩ := fun i => by rw [World.frozen?_setCell]; exact frozen_blk HB2.out i
    have hlen : (rs ++ [a :: t]).length = rs.length + 1 := by simp
    refine ⟨rfl, A2, cap2, ?_, ?_, ?_⟩
    · refine ⟨(hset 0 (by omega)).trans HH.out.c0, ?_, (hset 2 (by omega)).trans HH.out.c2, (hfz 1).trans HH.out.f1, (hfz 2).trans HH.out.f2, ?_⟩
      · rw [hlen]; exact World.cell?_setCell_same' _ _ _ (by rw [k1]; rfl)
      · rw [hlen]; exact own_set HO2.out ⟨B, 1, none⟩ _ (by simp)
    · rcases HM2.out with h | h
      · exact .inl h
      · exact .inr fun k hk => by have := h k hk; simp at this; omega
    · refine ⟨HG2.out.os, HG2.out.tape, HG2.out.output, ?_, fun k hk hkB hkr => ?_⟩
      · have := HG2.out.size
        simp [World.setCell] at this ⊢; omega
      · exact (Below.heap_setCell w2 ⟨B, 1, none⟩ _ k (by simpa using hkB)).trans ((HG2.out.block k (by simp; omega) (fun e => hkr e)).trans (Below.heap_alloc _ _ _ hk))


set_option maxHeartbeats 2000000 in
set_option maxRecDepth 100000 in
/-- The chapter's example: x y = y x. -/
theorem quotient_ex (w : World) (ht : Tabs w) :
    Calls Tryz.prog 149 #[.string ⟨[97, 98].toArray⟩, .string ⟨[98, 97].toArray⟩] w fun e w' => e = .returned (.string ⟨[97, 98, 65, 66].toArray⟩) ∧ Below w.heap.size w w' := by
  have HI : Hid (∀ n, Calls Tryz.prog 75 #[.string ⟨[98, 97].toArray⟩] (w.drewN n) (fun e w' => e = .returned (.string ⟨[65, 66].toArray⟩) ∧ Below (w.drewN n).heap.size (w.drewN n) w')) := Lib.hid (fun n => Inverse_yes ⟨[98, 97].toArray⟩ (w.drewN n) (ht.drewN n) (by decide) (by decide))
  clear ht
  go_enter Tryz.func149, Tryz.ntmps149
  go_wp2
  go_loopw [0, 1] (fun x y wr => x = .string ⟨[97, 98].toArray⟩ ∧ y = .string ⟨[98, 97].toArray⟩ ∧ wr = w) (fun _ _ _ => 0)
  case atStart => exact ⟨rfl, rfl, rfl⟩
  case round =>
    obtain ⟨rfl, rfl, rfl⟩ := hrel
    have mixed : Tryz.prog.follows .mixedOrders = true := by kernel_rfl
    go_wp2
    go_quiet (fail)
    go_wp2_with (go_at_call 75; refine (HI.out _).mono ?_; rintro e w' ⟨rfl, hb⟩)
    go_ret
    exact ⟨rfl, ((Below.refl _ _).drewN _).trans hb⟩
end Go.Proofs.YteephomlnbbjeaaGreatDoor
