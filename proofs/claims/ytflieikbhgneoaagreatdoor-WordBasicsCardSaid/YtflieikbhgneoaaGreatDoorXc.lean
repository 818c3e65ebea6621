/-
  Our own text, in the proofs of the laws of package word (cayleylaw01). Proved here: Parse, in its five ways. Conditions: the arguments read as the row says and the listed tables lie as the program lays them; none other.
-/
import Derived.Test.YtflieikbhgneoaaGreatDoorXb
namespace Go.Proofs.YtflieikbhgneoaaGreatDoor
open Go Go.RowKit

/-- How Parse ends. -/
def ParsePost (w : World) (v : List UInt8) (n : Int) (e : Ending) (w' : World) : Prop :=
  e = .returned (.tuple #[.string ⟨v.toArray⟩, .int .i64 n]) ∧ Below w.heap.size w w'

/-- The world behind Parse's two results' blocks. -/
structure Two (w w0 : World) (v : List UInt8) (n : Int) : Prop where
  below : Below w.heap.size w w0
  size : w.heap.size + 2 ≤ w0.heap.size
  c1 : w0.cell? ⟨w.heap.size, 0, none⟩ = some (.string ⟨v.toArray⟩)
  f1 : w0.frozen? ⟨w.heap.size, 0, none⟩ = false
  c2 : w0.cell? ⟨w.heap.size + 1, 0, none⟩ = some (.int .i64 n)
  f2 : w0.frozen? ⟨w.heap.size + 1, 0, none⟩ = false

theorem Two.on {w w0 w1 : World} {v : List UInt8} {n : Int} (h : Two w w0 v n) (hb : Below w0.heap.size w0 w1) : Two w w1 v n where
  below := h.below.trans (hb.mono h.below.size)
  size := Nat.le_trans h.size hb.size
  c1 := (hb.cell (p := ⟨_, 0, none⟩) (by have := h.size; simp; omega)).trans h.c1
  f1 := (hb.frozen (p := ⟨_, 0, none⟩) (by have := h.size; simp; omega)).trans h.f1
  c2 := (hb.cell (p := ⟨_, 0, none⟩) (by have := h.size; simp; omega)).trans h.c2
  f2 := (hb.frozen (p := ⟨_, 0, none⟩) (by have := h.size; simp; omega)).trans h.f2

theorem Two.set {w w0 : World} {v v' : List UInt8} {n n' : Int} (h : Two w w0 v n) : Two w ((w0.setCell ⟨w.heap.size, 0, none⟩ (.string ⟨v'.toArray⟩)).setCell ⟨w.heap.size + 1, 0, none⟩ (.int .i64 n')) v' n' where
  below := (h.below.setCell (p := ⟨w.heap.size, 0, none⟩) (Nat.le_refl _) _).setCell (p := ⟨w.heap.size + 1, 0, none⟩) (Nat.le_succ _) _
  size := by have := h.size; simpa [World.setCell] using this
  c1 := by
    rw [World.cell?_setCell_other _ _ _ _ (by simp)]
    exact World.cell?_setCell_same' _ _ _ (by rw [h.c1]; rfl)
  f1 := by rw [World.frozen?_setCell, World.frozen?_setCell]; exact h.f1
  c2 := World.cell?_setCell_same' _ _ _ (by rw [World.cell?_setCell_other _ _ _ _ (by simp), h.c2]; rfl)
  f2 := by rw [World.frozen?_setCell, World.frozen?_setCell]; exact h.f2
theorem Two.drewN {w w0 : World} {v : List UInt8} {n : Int} (h : Two w w0 v n) (k : Nat) : Two w (w0.drewN k) v n :=
  ⟨h.below.drewN k, h.size, h.c1, h.f1, h.c2, h.f2⟩

theorem cell_of_block {w : World} {b : Nat} {v : Value} {T : TypeId} (h : w.heap[b]? = some (.cells #[v] T)) : w.cell? ⟨b, 0, none⟩ = some v ∧ w.frozen? ⟨b, 0, none⟩ = false := by
  constructor
  · simp only [World.cell?, h]; rfl
  · simp only [World.frozen?, h]; rfl

theorem Two.start (w : World) : Two w ((w.alloc (.cells #[.string ⟨#[]⟩] 9)).alloc (.cells #[.int .i64 0] 24)) [] 0 := by
  have e1 : (w.alloc (.cells #[.string ⟨#[]⟩] 9)).heap.size = w.heap.size + 1 := by simp only [World.size_alloc]
  have e2 : ((w.alloc (.cells #[.string ⟨#[]⟩] 9)).alloc (.cells #[.int .i64 0] 24)).heap.size = w.heap.size + 2 := by simp only [World.size_alloc]
  have hb1 := (Below.refl w.heap.size w).alloc (Nat.le_refl _) (.cells #[.string ⟨#[]⟩] 9)
  have hb2 := (Below.refl _ (w.alloc (.cells #[.string ⟨#[]⟩] 9))).alloc (Nat.le_refl _) (.cells #[.int .i64 0] 24)
  have h1 : ((w.alloc (.cells #[.string ⟨#[]⟩] 9)).alloc (.cells #[.int .i64 0] 24)).heap[w.heap.size]? = some (.cells #[.string ⟨#[]⟩] 9) := by
    rw [hb2.block _ (by omega)]; exact heap_alloc_new w _
  have h2 : ((w.alloc (.cells #[.string ⟨#[]⟩] 9)).alloc (.cells #[.int .i64 0] 24)).heap[w.heap.size + 1]? = some (.cells #[.int .i64 0] 24) := by
    rw [← e1]; exact heap_alloc_new _ _
  exact ⟨hb1.trans (hb2.mono hb1.size), by omega, (cell_of_block h1).1, (cell_of_block h1).2, (cell_of_block h2).1, (cell_of_block h2).2⟩

set_option maxHeartbeats 1000000 in
theorem parse_form (k : Int) (l : List UInt8) (w : World) (ht : Tabs w) (hk0 : 1 ≤ k) (hk : k ≤ 8) (hs : l.length ≤ 1000000) (f : Nat) (hr : outF f k ⟨l, 0, [], 0⟩ = some none) :
    Calls Tryz.prog 33 #[.int .i64 k, .string ⟨l.toArray⟩] w (ParsePost w [] 4) := by
  have hmf : ∀ (fn : Fn) (first cap : Array Value) (w : World), (Instr.makeFunc fn first cap).run Tryz.prog w = .ok (.func fn first cap) w := fun _ _ _ _ => rfl
  have HT := Lib.hid ht
  have HR := Lib.hid hr
  clear ht hr
  go_enter_defers Tryz.func33, Tryz.ntmps33
  go_wp2_with fail
  have hT0 := Two.start w
  generalize hw0 : (w.alloc (.cells #[.string ⟨#[]⟩] 9)).alloc (.cells #[.int .i64 0] 24) = w0 at *
  clear hw0
  refine (mostOpen_any l k w0 (HT.out.on hT0.below) (by omega) hk hs f none HR.out).mono ?_
  rintro e w1 ⟨hb1, rfl⟩
  go_wp2
  have hT1 := hT0.on hb1
  refine leaves_cons (f := 49) (args := #[.pointer (some ⟨w.heap.size, 0, none⟩), .pointer (some ⟨w.heap.size + 1, 0, none⟩)]) (by simp) (by simp [go_sem]) ?_
  refine (catch_panicking w.heap.size (w.heap.size + 1) ⟨#[]⟩ 0 4 [] w1 hT1.c1 hT1.f1 hT1.c2 hT1.f2 (by omega)).mono ?_
  rintro e u' w'' ⟨rfl, rfl, n, rfl⟩
  have hT2 := (hT1.set (v' := []) (n' := 4)).drewN n
  change Two w (((w1.setCell ⟨w.heap.size, 0, none⟩ (.string ⟨#[]⟩)).setCell ⟨w.heap.size + 1, 0, none⟩ (.int .i64 4)).drewN n) [] 4 at hT2
  generalize ((w1.setCell ⟨w.heap.size, 0, none⟩ (.string ⟨#[]⟩)).setCell ⟨w.heap.size + 1, 0, none⟩ (.int .i64 4)).drewN n = w2 at *
  have h1 := hT2.c1
  have h2 := hT2.c2
  simp [Leaves, settle, results, Tryz.results33, go_sem, h1, h2]
  exact ⟨rfl, hT2.below⟩
set_option maxHeartbeats 1000000 in
theorem parse_limit (k : Int) (l : List UInt8) (w : World) (ht : Tabs w) (hk0 : 1 ≤ k) (hk : k ≤ 8) (hs : l.length ≤ 1000000) (f : Nat) (m : Int) (hr : outF f k ⟨l, 0, [], 0⟩ = some (some m)) (hm : 100000 < l.length ∨ 21 < m) :
    Calls Tryz.prog 33 #[.int .i64 k, .string ⟨l.toArray⟩] w (ParsePost w [] 2) := by
  have hmf : ∀ (fn : Fn) (first cap : Array Value) (w : World), (Instr.makeFunc fn first cap).run Tryz.prog w = .ok (.func fn first cap) w := fun _ _ _ _ => rfl
  have HT := Lib.hid ht
  have HR := Lib.hid hr
  have HM := Lib.hid hm
  clear ht hr hm
  go_enter_defers Tryz.func33, Tryz.ntmps33
  go_wp2_with fail
  have hT0 := Two.start w
  generalize hw0 : (w.alloc (.cells #[.string ⟨#[]⟩] 9)).alloc (.cells #[.int .i64 0] 24) = w0 at *
  clear hw0
  refine (mostOpen_any l k w0 (HT.out.on hT0.below) (by omega) hk hs f _ HR.out).mono ?_
  rintro e w1 ⟨hb1, rfl⟩
  have hT1 := hT0.on hb1
  have h1 := hT1.c1
  have h2 := hT1.c2
  have h3 := hT1.f1
  have h4 := hT1.f2
  have hT2 := hT1.set (v' := []) (n' := 2)
  have hc3 : (w1.setCell ⟨w.heap.size, 0, none⟩ (.string ⟨#[]⟩)).cell? ⟨w.heap.size + 1, 0, none⟩ = some (.int .i64 0) := by rw [World.cell?_setCell_other _ _ _ _ (by simp), h2]
  by_cases hA : 100000 < l.length
  · have hd : decide (100000 < l.length) = true := by simpa using hA
    go_wp2
    change Two w ((w1.setCell ⟨w.heap.size, 0, none⟩ (.string ⟨#[]⟩)).setCell ⟨w.heap.size + 1, 0, none⟩ (.int .i64 2)) [] 2 at hT2
    clear hc3
    generalize ((w1.setCell ⟨w.heap.size, 0, none⟩ (.string ⟨#[]⟩)).setCell ⟨w.heap.size + 1, 0, none⟩ (.int .i64 2)) = w2 at *
    refine leaves_cons (f := 49) (args := #[.pointer (some ⟨w.heap.size, 0, none⟩), .pointer (some ⟨w.heap.size + 1, 0, none⟩)]) (by simp) (by simp [go_sem]) ?_
    refine (catch_idle _ _ w2).mono ?_
    rintro e u' w'' ⟨rfl, rfl, rfl⟩
    clear h1 h2 h3 h4
    have h1 := hT2.c1
    have h2 := hT2.c2
    simp [Leaves, settle, results, Tryz.results33, go_sem, h1, h2]
    exact ⟨rfl, hT2.below⟩
  · have hd : decide (100000 < l.length) = false := by simpa using hA
    have hd2 : decide (21 < m) = true := by have := HM.out; simp; omega
    go_wp2
    change Two w ((w1.setCell ⟨w.heap.size, 0, none⟩ (.string ⟨#[]⟩)).setCell ⟨w.heap.size + 1, 0, none⟩ (.int .i64 2)) [] 2 at hT2
    clear hc3
    generalize ((w1.setCell ⟨w.heap.size, 0, none⟩ (.string ⟨#[]⟩)).setCell ⟨w.heap.size + 1, 0, none⟩ (.int .i64 2)) = w2 at *
    refine leaves_cons (f := 49) (args := #[.pointer (some ⟨w.heap.size, 0, none⟩), .pointer (some ⟨w.heap.size + 1, 0, none⟩)]) (by simp) (by simp [go_sem]) ?_
    refine (catch_idle _ _ w2).mono ?_
    rintro e u' w'' ⟨rfl, rfl, rfl⟩
    clear h1 h2 h3 h4
    have h1 := hT2.c1
    have h2 := hT2.c2
    simp [Leaves, settle, results, Tryz.results33, go_sem, h1, h2]
    exact ⟨rfl, hT2.below⟩

set_option maxHeartbeats 1000000 in
theorem parse_arg (k : Int) (l : List UInt8) (w : World) (hk : k < 1 ∨ 8 < k) :
    Calls Tryz.prog 33 #[.int .i64 k, .string ⟨l.toArray⟩] w (ParsePost w [] 1) := by
  have hT0 := Two.start w
  generalize hw0 : (w.alloc (.cells #[.string ⟨#[]⟩] 9)).alloc (.cells #[.int .i64 0] 24) = w1 at *
  have h1 := hT0.c1
  have h2 := hT0.c2
  have h3 := hT0.f1
  have h4 := hT0.f2
  have hT2 := hT0.set (v' := []) (n' := 1)
  have hc3 : (w1.setCell ⟨w.heap.size, 0, none⟩ (.string ⟨#[]⟩)).cell? ⟨w.heap.size + 1, 0, none⟩ = some (.int .i64 0) := by rw [World.cell?_setCell_other _ _ _ _ (by simp), h2]
  change Two w ((w1.setCell ⟨w.heap.size, 0, none⟩ (.string ⟨#[]⟩)).setCell ⟨w.heap.size + 1, 0, none⟩ (.int .i64 1)) [] 1 at hT2
  by_cases hA : k < 1
  · go_enter_defers Tryz.func33, Tryz.ntmps33
    go_wp2
    generalize ((w1.setCell ⟨w.heap.size, 0, none⟩ (.string ⟨#[]⟩)).setCell ⟨w.heap.size + 1, 0, none⟩ (.int .i64 1)) = w2 at *
    clear h1 h2 h3 h4 hc3
    have h1 := hT2.c1
    have h2 := hT2.c2
    simp [bodyPostD, Leaves, settle, results, Tryz.results33, go_sem, h1, h2]
    exact ⟨rfl, hT2.below⟩
  · have hB : 8 < k := by omega
    go_enter_defers Tryz.func33, Tryz.ntmps33
    go_wp2
    generalize ((w1.setCell ⟨w.heap.size, 0, none⟩ (.string ⟨#[]⟩)).setCell ⟨w.heap.size + 1, 0, none⟩ (.int .i64 1)) = w2 at *
    clear h1 h2 h3 h4 hc3
    have h1 := hT2.c1
    have h2 := hT2.c2
    simp [bodyPostD, Leaves, settle, results, Tryz.results33, go_sem, h1, h2]
    exact ⟨rfl, hT2.below⟩

set_option maxHeartbeats 1000000 in
theorem parse_ok (k : Int) (l : List UInt8) (w : World) (ht : Tabs w) (hk0 : 1 ≤ k) (hk : k ≤ 8) (hs : l.length ≤ 100000) (f g : Nat) (m : Int) (hr : outF f k ⟨l, 0, [], 0⟩ = some (some m)) (hm : m ≤ 21)
    (v t : List UInt8) (hx : exprF g l = some (.ok v t)) :
    Calls Tryz.prog 33 #[.int .i64 k, .string ⟨l.toArray⟩] w (ParsePost w v 0) := by
  have hmf : ∀ (fn : Fn) (first cap : Array Value) (w : World), (Instr.makeFunc fn first cap).run Tryz.prog w = .ok (.func fn first cap) w := fun _ _ _ _ => rfl
  have HT := Lib.hid ht
  have HR := Lib.hid hr
  have HX := Lib.hid hx
  clear ht hr hx
  go_enter_defers Tryz.func33, Tryz.ntmps33
  go_wp2_with fail
  have hT0 := Two.start w
  generalize hw0 : (w.alloc (.cells #[.string ⟨#[]⟩] 9)).alloc (.cells #[.int .i64 0] 24) = w0 at *
  clear hw0
  refine (mostOpen_any l k w0 (HT.out.on hT0.below) (by omega) hk (by omega) f _ HR.out).mono ?_
  rintro e w1 ⟨hb1, rfl⟩
  have hT1 := hT0.on hb1
  have hd : decide (100000 < l.length) = false := by simpa using hs
  have hd2 : decide (21 < m) = false := by simpa using hm
  go_wp2_with fail
  have hat : AtT (w1.alloc (.cells #[.string ⟨l.toArray⟩] 64)) w1.heap.size l := cell_of_block (heap_alloc_new w1 _)
  have hb2 := (Below.refl w1.heap.size w1).alloc (Nat.le_refl _) (.cells #[.string ⟨l.toArray⟩] 64)
  have hE := expr_any w1.heap.size g l _ _ HX.out hat (by omega)
  refine hE.mono ?_
  rintro e w3 ⟨hp, rfl, -, hvl, -⟩
  have hb3 : Below w1.heap.size w1 w3 := hb2.trans (hp.below (by simp))
  have hT3 := hT1.on hb3
  clear hE hp hat
  have h1 := hT3.c1
  have h2 := hT3.c2
  have h3 := hT3.f1
  have h4 := hT3.f2
  have hT2 := hT3.set (v' := v) (n' := 0)
  have hc3 : (w3.setCell ⟨w.heap.size, 0, none⟩ (.string ⟨v.toArray⟩)).cell? ⟨w.heap.size + 1, 0, none⟩ = some (.int .i64 0) := by rw [World.cell?_setCell_other _ _ _ _ (by simp), h2]
  go_wp2
  generalize ((w3.setCell ⟨w.heap.size, 0, none⟩ (.string ⟨v.toArray⟩)).setCell ⟨w.heap.size + 1, 0, none⟩ (.int .i64 0)) = w2 at *
  clear h1 h2 h3 h4 hc3
  refine leaves_cons (f := 49) (args := #[.pointer (some ⟨w.heap.size, 0, none⟩), .pointer (some ⟨w.heap.size + 1, 0, none⟩)]) (by simp) (by simp [go_sem]) ?_
  refine (catch_idle _ _ w2).mono ?_
  rintro e u' w'' ⟨rfl, rfl, rfl⟩
  have h1 := hT2.c1
  have h2 := hT2.c2
  simp [Leaves, settle, results, Tryz.results33, go_sem, h1, h2]
  exact ⟨rfl, hT2.below⟩

set_option maxHeartbeats 1000000 in
theorem parse_lim (k : Int) (l : List UInt8) (w : World) (ht : Tabs w) (hk0 : 1 ≤ k) (hk : k ≤ 8) (hs : l.length ≤ 100000) (f g : Nat) (m : Int) (hr : outF f k ⟨l, 0, [], 0⟩ = some (some m)) (hm : m ≤ 21)
    (hx : exprF g l = some .lim) :
    Calls Tryz.prog 33 #[.int .i64 k, .string ⟨l.toArray⟩] w (ParsePost w [] 2) := by
  have hmf : ∀ (fn : Fn) (first cap : Array Value) (w : World), (Instr.makeFunc fn first cap).run Tryz.prog w = .ok (.func fn first cap) w := fun _ _ _ _ => rfl
  have HT := Lib.hid ht
  have HR := Lib.hid hr
  have HX := Lib.hid hx
  clear ht hr hx
  go_enter_defers Tryz.func33, Tryz.ntmps33
  go_wp2_with fail
  have hT0 := Two.start w
  generalize hw0 : (w.alloc (.cells #[.string ⟨#[]⟩] 9)).alloc (.cells #[.int .i64 0] 24) = w0 at *
  clear hw0
  refine (mostOpen_any l k w0 (HT.out.on hT0.below) (by omega) hk (by omega) f _ HR.out).mono ?_
  rintro e w1 ⟨hb1, rfl⟩
  have hT1 := hT0.on hb1
  have hd : decide (100000 < l.length) = false := by simpa using hs
  have hd2 : decide (21 < m) = false := by simpa using hm
  go_wp2_with fail
  have hat : AtT (w1.alloc (.cells #[.string ⟨l.toArray⟩] 64)) w1.heap.size l := cell_of_block (heap_alloc_new w1 _)
  have hb2 := (Below.refl w1.heap.size w1).alloc (Nat.le_refl _) (.cells #[.string ⟨l.toArray⟩] 64)
  have hE := expr_any w1.heap.size g l _ _ HX.out hat (by omega)
  refine hE.mono ?_
  rintro e w3 ⟨hp, rfl⟩
  have hb3 : Below w1.heap.size w1 w3 := hb2.trans (hp.below (by simp))
  have hT3 := hT1.on hb3
  clear hE hp hat
  refine leaves_cons (f := 49) (args := #[.pointer (some ⟨w.heap.size, 0, none⟩), .pointer (some ⟨w.heap.size + 1, 0, none⟩)]) (by simp) (by simp [go_sem]) ?_
  refine (catch_panicking w.heap.size (w.heap.size + 1) ⟨#[]⟩ 0 2 [] w3 hT3.c1 hT3.f1 hT3.c2 hT3.f2 (by omega)).mono ?_
  rintro e u' w'' ⟨rfl, rfl, n, rfl⟩
  have hT2 := (hT3.set (v' := []) (n' := 2)).drewN n
  change Two w (((w3.setCell ⟨w.heap.size, 0, none⟩ (.string ⟨#[]⟩)).setCell ⟨w.heap.size + 1, 0, none⟩ (.int .i64 2)).drewN n) [] 2 at hT2
  generalize ((w3.setCell ⟨w.heap.size, 0, none⟩ (.string ⟨#[]⟩)).setCell ⟨w.heap.size + 1, 0, none⟩ (.int .i64 2)).drewN n = w2 at *
  have h1 := hT2.c1
  have h2 := hT2.c2
  simp [Leaves, settle, results, Tryz.results33, go_sem, h1, h2]
  exact ⟨rfl, hT2.below⟩
end Go.Proofs.YtflieikbhgneoaaGreatDoor
