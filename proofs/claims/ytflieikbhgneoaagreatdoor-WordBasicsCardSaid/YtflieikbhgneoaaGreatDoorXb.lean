/-
  Our own text, in the proofs of the laws of package word (cayleylaw01). Proved here: the deferred closure of Parse. Conditions: the arguments read as the row says and the listed tables lie as the program lays them; none other.
-/
import Derived.Test.YtflieikbhgneoaaGreatDoorXa
import Derived.Defers
import Derived.Recover
import Derived.Laws.Pointers
namespace Go.Proofs.YtflieikbhgneoaaGreatDoor
open Go Go.RowKit

theorem catch_panicking (p q : Nat) (x : ByteArray) (y : Int) (n : Int) (older : List PanicEntry) (w : World) (hc : w.cell? ⟨p, 0, none⟩ = some (.string x)) (hz : w.frozen? ⟨p, 0, none⟩ = false) (hc2 : w.cell? ⟨q, 0, none⟩ = some (.int .i64 y)) (hz2 : w.frozen? ⟨q, 0, none⟩ = false) (hpq : p ≠ q)  :
    CallsD Tryz.prog 49 #[.pointer (some ⟨p, 0, none⟩), .pointer (some ⟨q, 0, none⟩)] (.panicking ({ v := .iface 24 (.int .i64 n), recovered := false } :: older)) w fun e u' w' =>
      e = .returned (.tuple #[]) ∧ u' = .panicking ({ v := .iface 24 (.int .i64 n), recovered := true } :: older) ∧  ∃ k, w' = ((w.setCell ⟨p, 0, none⟩ (.string ⟨#[]⟩)).setCell ⟨q, 0, none⟩ (.int .i64 n)).drewN k := by
  refine callsD_of_wpS Tryz.func49 rfl fun c₀ cs hu => ?_
  apply wpS_seq
  apply wpS_region
  simp [wpOpsS, go_sem, recoverD, hu, Tryz.ntmps49, Exit.thenS]
  refine wpS_of_wp ?_
  generalize hm : ({ fn := c₀.fn, tmps := c₀.tmps, todo := c₀.todo, defers := c₀.defers, mode := FrameMode.panicking ({ v := Value.iface 24 (Value.int IntKind.i64 n), recovered := true } :: older), kind := c₀.kind, roundOf := c₀.roundOf } : Frame) = c1
  have hQ : ∀ a w', a.defers = [] → (∃ k, w' = ((w.setCell ⟨p, 0, none⟩ (.string ⟨#[]⟩)).setCell ⟨q, 0, none⟩ (.int .i64 n)).drewN k) → bodyPostS Tryz.prog Tryz.f49 c₀ cs (fun e u' w' => e = Ending.returned (Value.tuple #[]) ∧ u' = FrameMode.panicking ({ v := Value.iface 24 (Value.int IntKind.i64 n), recovered := true } :: older) ∧ ∃ k, w' = ((w.setCell ⟨p, 0, none⟩ (.string ⟨#[]⟩)).setCell ⟨q, 0, none⟩ (.int .i64 n)).drewN k) Exit.normal a (c1 :: cs) w' := by
    rintro a w' ha ⟨k, rfl⟩
    refine ⟨ha, _, by rw [← hm], .tuple #[], ?_, rfl, rfl, k, rfl⟩
    simp [results, Tryz.results49, go_sem]
  clear hm
  change Code.wp _ _ _ { tmps := #[.pointer (some ⟨p, 0, none⟩), .pointer (some ⟨q, 0, none⟩), .iface 24 (.int .i64 n), .iface 24 (.int .i64 n), undef, undef, undef, undef], defers := [] } w
  generalize hQQ : (fun (e : Exit) (a' : Act) (w' : World) => bodyPostS Tryz.prog Tryz.f49 c₀ cs (fun e u' w' => e = Ending.returned (Value.tuple #[]) ∧ u' = FrameMode.panicking ({ v := Value.iface 24 (Value.int IntKind.i64 n), recovered := true } :: older) ∧ ∃ k, w' = ((w.setCell ⟨p, 0, none⟩ (.string ⟨#[]⟩)).setCell ⟨q, 0, none⟩ (.int .i64 n)).drewN k) e a' (c1 :: cs) w') = Q
  have hQ2 : ∀ a w', a.defers = [] → (∃ k, w' = ((w.setCell ⟨p, 0, none⟩ (.string ⟨#[]⟩)).setCell ⟨q, 0, none⟩ (.int .i64 n)).drewN k) → Q .normal a w' := by rw [← hQQ]; exact hQ
  have HQ := Lib.hid hQ2
  clear hQQ hQ hQ2 hu
  have hta : ∀ (w : World), (Instr.typeAssert (.iface 24 (.int .i64 n)) 20 24 false).run Tryz.prog w = .ok (.int .i64 n) w := fun w => by kernel_rfl
  go_wp2
  go_region
  exact HQ.out _ _ rfl ⟨1, rfl⟩

theorem catch_idle (p q : Addr) (w : World) :
    CallsD Tryz.prog 49 #[.pointer (some p), .pointer (some q)] .returning w fun e u' w' => e = .returned (.tuple #[]) ∧ u' = .returning ∧ w' = w := by
  refine callsD_of_wpS Tryz.func49 rfl fun c₀ cs hu => ?_
  apply wpS_seq
  apply wpS_region
  simp [wpOpsS, go_sem, recoverD, hu, Tryz.ntmps49, Exit.thenS]
  refine wpS_of_wp ?_
  have hQ : ∀ a, a.defers = [] → bodyPostS Tryz.prog Tryz.f49 c₀ cs (fun e u' w' => e = Ending.returned (Value.tuple #[]) ∧ u' = FrameMode.returning ∧ w' = w) Exit.normal a (c₀ :: cs) w := by
    intro a ha
    refine ⟨ha, FrameMode.returning, by rw [← hu], .tuple #[], ?_, rfl, rfl, rfl⟩
    simp [results, Tryz.results49, go_sem]
  clear hu
  change Code.wp _ _ _ { tmps := #[.pointer (some p), .pointer (some q), Value.nilIface, Value.nilIface, undef, undef, undef, undef], defers := [] } w
  generalize hQQ : (fun (e : Exit) (a' : Act) (w' : World) => bodyPostS Tryz.prog Tryz.f49 c₀ cs (fun e u' w' => e = Ending.returned (Value.tuple #[]) ∧ u' = FrameMode.returning ∧ w' = w) e a' (c₀ :: cs) w') = Q
  have hQ2 : ∀ a, a.defers = [] → Q .normal a w := by rw [← hQQ]; exact hQ
  have HQ := Lib.hid hQ2
  clear hQQ hQ hQ2
  go_wp2
  exact HQ.out _ rfl
end Go.Proofs.YtflieikbhgneoaaGreatDoor
