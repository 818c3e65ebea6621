/-
  Our own text, in the proofs of the laws of package rope. Proved here: evaluator makes a closure over a fresh map; the closure asked for what the map holds returns it; mustHold. No condition.
-/
import Derived.Test.YtgklmcinbaghmaaGreatDoorRc
import Derived.Laws.EntriesVeiled
namespace Go.Proofs.YtgklmcinbaghmaaGreatDoor
open Go Go.RowKit

/-- The panic by which measure leaves. -/
def leaves : List PanicEntry := [{ v := .iface 23 (.int .i64 20), recovered := false }]

set_option maxHeartbeats 400000 in
theorem hold_yes (w : World) : Calls Tryz.prog 53 #[.bool true] w fun e w' => e = .returned (.tuple #[]) ∧ w = w' := by
  go_enter Tryz.func53, Tryz.ntmps53
  go_wp2
  go_end0
  exact ⟨rfl, rfl⟩
set_option maxHeartbeats 400000 in
theorem hold_no (w : World) : Calls Tryz.prog 53 #[.bool false] w fun e w' => e = .panicked leaves ∧ w = w' := by
  go_enter Tryz.func53, Tryz.ntmps53
  go_wp2
  exact ⟨rfl, rfl, rfl⟩

def Blk (w : World) (g : Nat) (t : TypeId) (cs : Array Value) : Prop := w.heap[g]? = some (.cells cs t (0, 0))
theorem Blk.lt {w : World} {g : Nat} {t : TypeId} {cs : Array Value} (h : Blk w g t cs) : g < w.heap.size := (Array.getElem?_eq_some_iff.1 h).1
theorem Blk.cell {w : World} {g : Nat} {t : TypeId} {cs : Array Value} (h : Blk w g t cs) (i : Nat) : w.cell? ⟨g, i, none⟩ = cs[i]? := cell_of_row w g i cs t (0, 0) h
theorem Blk.below {w w' : World} {g B : Nat} {t : TypeId} {cs : Array Value} (h : Blk w g t cs) (hb : Below B w w') (hg : g < B) : Blk w' g t cs := (hb.block g hg).trans h

/-- The closure's value over the blocks from B on. -/
abbrev envV (c : FuncId) (B : Nat) : Value := .func (.func c) #[] #[.pointer (some ⟨B + 3, 0, none⟩), .pointer (some ⟨B, 0, none⟩), .pointer (some ⟨B + 1, 0, none⟩), .pointer (some ⟨B + 4, 0, none⟩)]

/-- What a closure of evaluator has captured: the rope's slice, the meaning, the map of what is known, itself. c: the closure's function; tm, tk, tf: the types of the meaning, the map and the closure. -/
structure Env (c : FuncId) (tm tk tf : TypeId) (w : World) (B : Nat) (sl : Value) (ms : Array Value) (n : Nat) (f : Int → Option Value) : Prop where
  rope : Blk w B 22 #[sl]
  mean : Blk w (B + 1) tm ms
  known : Blk w (B + 3) tk #[.map (some (B + 2))]
  self : Blk w (B + 4) tf #[envV c B]
  memo : MemoAt w (B + 2) n f
theorem Env.on {c : FuncId} {tm tk tf : TypeId} {w w' : World} {B : Nat} {sl : Value} {ms : Array Value} {n : Nat} {f : Int → Option Value} (h : Env c tm tk tf w B sl ms n f) (hb : Below w.heap.size w w') : Env c tm tk tf w' B sl ms n f :=
  ⟨h.rope.below hb h.rope.lt, h.mean.below hb h.mean.lt, h.known.below hb h.known.lt, h.self.below hb h.self.lt, h.memo.block (hb.block _ h.memo.lt)⟩
theorem Env.lt {c : FuncId} {tm tk tf : TypeId} {w : World} {B : Nat} {sl : Value} {ms : Array Value} {n : Nat} {f : Int → Option Value} (h : Env c tm tk tf w B sl ms n f) : B + 4 < w.heap.size := h.self.lt
/-- The map is written: all else stays. -/
theorem Env.put {c : FuncId} {tm tk tf : TypeId} {w w' : World} {B : Nat} {sl : Value} {ms : Array Value} {n m : Nat} {f g : Int → Option Value} (h : Env c tm tk tf w B sl ms n f) (hg : w.grownBy w' (some (B + 2))) (hm : MemoAt w' (B + 2) m g) : Env c tm tk tf w' B sl ms m g :=
  ⟨(hg.block _ h.rope.lt (by simp)).trans h.rope, (hg.block _ h.mean.lt (by simp)).trans h.mean, (hg.block _ h.known.lt (by simp)).trans h.known, (hg.block _ h.self.lt (by simp)).trans h.self, hm⟩

theorem zero3 (w : World) : (zeroValue 3).run Tryz.prog w = .ok (.int .i64 0) w := by kernel_rfl

abbrev EnvI := Env 76 94 102 50

theorem hmf (fn : Fn) (first cap : Array Value) (w : World) : (Instr.makeFunc fn first cap).run Tryz.prog w = .ok (.func fn first cap) w := rfl

theorem heap5 (w : World) (o0 o1 o2 o3 o4 : Obj) (w5 : World) (h : w5 = ((((w.alloc o0).alloc o1).alloc o2).alloc o3).alloc o4) :
    w5.heap[w.heap.size]? = some o0 ∧ w5.heap[w.heap.size + 1]? = some o1 ∧ w5.heap[w.heap.size + 2]? = some o2 ∧ w5.heap[w.heap.size + 3]? = some o3 ∧ w5.heap[w.heap.size + 4]? = some o4 ∧ Below w.heap.size w w5 := by
  subst h
  have s1 : (w.alloc o0).heap.size = w.heap.size + 1 := by simp
  have s2 : ((w.alloc o0).alloc o1).heap.size = w.heap.size + 2 := by simp
  have s3 : (((w.alloc o0).alloc o1).alloc o2).heap.size = w.heap.size + 3 := by simp
  have s4 : ((((w.alloc o0).alloc o1).alloc o2).alloc o3).heap.size = w.heap.size + 4 := by simp
  have b1 := (Below.refl _ (w.alloc o0)).alloc (Nat.le_refl _) o1
  have b2 := (Below.refl _ ((w.alloc o0).alloc o1)).alloc (Nat.le_refl _) o2
  have b3 := (Below.refl _ (((w.alloc o0).alloc o1).alloc o2)).alloc (Nat.le_refl _) o3
  have b4 := (Below.refl _ ((((w.alloc o0).alloc o1).alloc o2).alloc o3)).alloc (Nat.le_refl _) o4
  refine ⟨?_, ?_, ?_, ?_, ?_, ?_⟩
  · rw [b4.block _ (by omega), b3.block _ (by omega), b2.block _ (by omega), b1.block _ (by omega)]; exact heap_alloc_new w _
  · rw [b4.block _ (by omega), b3.block _ (by omega), b2.block _ (by omega), ← s1]; exact heap_alloc_new _ _
  · rw [b4.block _ (by omega), b3.block _ (by omega), ← s2]; exact heap_alloc_new _ _
  · rw [b4.block _ (by omega), ← s3]; exact heap_alloc_new _ _
  · rw [← s4]; exact heap_alloc_new _ _
  · have b0 := (Below.refl w.heap.size w).alloc (Nat.le_refl _) o0
    exact (((b0.trans (b1.mono (by omega))).trans (b2.mono (by omega))).trans (b3.mono (by omega))).trans (b4.mono (by omega))

theorem env_made (c : FuncId) (tm tk tf : TypeId) (w w5 : World) (sl : Value) (ms : Array Value)
    (h : w5 = ((((w.alloc (.cells #[sl] 22)).alloc (.cells ms tm)).alloc (.map #[] 0)).alloc (.cells #[.map (some (w.heap.size + 1 + 1))] tk)).alloc (.cells #[envV c w.heap.size] tf)) :
    Env c tm tk tf w5 w.heap.size sl ms 0 (fun _ => none) ∧ Below w.heap.size w w5 := by
  obtain ⟨h0, h1, h2, h3, h4, hb⟩ := heap5 w _ _ _ _ _ w5 h
  refine ⟨⟨h0, h1, h3, h4, ?_⟩, hb⟩
  have hm := memo_made ((w.alloc (.cells #[sl] 22)).alloc (.cells ms tm))
  have s2 : ((w.alloc (.cells #[sl] 22)).alloc (.cells ms tm)).heap.size = w.heap.size + 2 := by simp
  rw [s2] at hm
  refine hm.block ?_
  rw [h2, ← s2, heap_alloc_new]

set_option maxHeartbeats 1000000 in
theorem evaluatorI_any (ad : Option Addr) (n cap : Nat) (f0 f1 f2 : Value) (w : World) (hn : n ≤ 4000) :
    Calls Tryz.prog 54 #[.slice ad n cap, .agg #[f0, f1, f2]] w fun e w' => e = .returned (envV 76 w.heap.size) ∧ EnvI w' w.heap.size (.slice ad n cap) #[f0, f1, f2] 0 (fun _ => none) ∧ Below w.heap.size w w' := by
  have h1 := hmf
  have h2 := fun (w : World) (n : Int) => run_makeMap_hint w 102 3 3 Tryz.underlying102 n
  go_enter Tryz.func54, Tryz.ntmps54
  go_wp2
  go_ret
  exact ⟨rfl, env_made 76 94 102 50 w _ _ _ rfl⟩

set_option maxHeartbeats 1000000 in
/-- What is known is returned. -/
theorem value_hit (w : World) (B : Nat) (sl : Value) (ms : Array Value) (n : Nat) (f : Int → Option Value) (h : EnvI w B sl ms n f) (k v : Int) (hk : (Lit.int .i64 k).wf = true) (hf : f k = some (.int .i64 v)) :
    Calls Tryz.prog 76 #[.int .i64 k, .pointer (some ⟨B + 3, 0, none⟩), .pointer (some ⟨B, 0, none⟩), .pointer (some ⟨B + 1, 0, none⟩), .pointer (some ⟨B + 4, 0, none⟩)] w fun e w' => e = .returned (.int .i64 v) ∧ w = w' := by
  have hl := h.memo.look_some Tryz.underlying102 (zero3 w) k hk hf
  have hc : w.cell? ⟨B + 3, 0, none⟩ = some (.map (some (B + 2))) := h.known.cell 0
  clear h hf
  go_enter Tryz.func76, Tryz.ntmps76
  go_wp2
  go_ret
  exact ⟨rfl, rfl⟩

set_option maxHeartbeats 1000000 in
/-- The node ahead of all has the value 0. -/
theorem value_neg (w : World) (B : Nat) (sl : Value) (ms : Array Value) (n : Nat) (f : Int → Option Value) (h : EnvI w B sl ms n f) (k : Int) (hk : (Lit.int .i64 k).wf = true) (hf : f k = none) (hk0 : k < 0) :
    Calls Tryz.prog 76 #[.int .i64 k, .pointer (some ⟨B + 3, 0, none⟩), .pointer (some ⟨B, 0, none⟩), .pointer (some ⟨B + 1, 0, none⟩), .pointer (some ⟨B + 4, 0, none⟩)] w fun e w' => e = .returned (.int .i64 0) ∧ w = w' := by
  have hl := h.memo.look_none Tryz.underlying102 (zero3 w) k hk hf
  have hc : w.cell? ⟨B + 3, 0, none⟩ = some (.map (some (B + 2))) := h.known.cell 0
  clear h hf
  go_enter Tryz.func76, Tryz.ntmps76
  go_wp2
  go_ret
  exact ⟨rfl, rfl⟩
end Go.Proofs.YtgklmcinbaghmaaGreatDoor
