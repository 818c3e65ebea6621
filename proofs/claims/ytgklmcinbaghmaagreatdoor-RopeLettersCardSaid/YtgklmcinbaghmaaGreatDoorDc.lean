/-
  Our own text, in the proof of the law RopeLetters of package rope (cayleylaw02). Proved here: what chunks' function yields. No condition but bounds.
-/
import Derived.Test.YtgklmcinbaghmaaGreatDoorDb
import Derived.Test.YtgklmcinbaghmaaGreatDoorRx
import Derived.RangeFuncNested
import Derived.RangeFuncBound
import Derived.RangeFuncCalls
import Derived.RangeFuncLeaves
import Derived.RangeFuncFrom
import Derived.Shelf.Abstract
import Derived.Shelf.RegionOpen
import Derived.OwnWalkIn
import Derived.TacticsInMore
import Derived.LoopNIn
import Derived.LoopIn
import Derived.Stop.RegionWithIn
namespace Go.Proofs.YtgklmcinbaghmaaGreatDoor
open Go Go.RowKit Go.Shelf
attribute [local go_sem] Oper.semAt_some

theorem chunks_any (s : ByteArray) (w : World) :
    Calls Tryz.prog 41 #[.string s] w fun e w' => e = .returned (.func (.func 63) #[] #[.pointer (some ⟨w.heap.size, 0, none⟩)]) ∧ w' = w.alloc (.cells #[.string s] 9) := by
  go_enter Tryz.func41, Tryz.ntmps41
  go_wp2
  go_ret
  exact ⟨rfl, rfl⟩

/-- The k-th part of a word. -/
def chunkB (s : ByteArray) (k : Nat) : ByteArray := s.extract (100 * k) (min (100 * k + 100) s.size)
abbrev Part := { s : ByteArray // s.size ≤ 100 }
theorem chunk_le (s : ByteArray) (a b : Nat) (h : b ≤ a + 100) : (s.extract a b).size ≤ 100 := by
  rw [ByteArray.size_extract]; omega
def chunkL (s : ByteArray) : List ByteArray := (List.range ((s.size + 99) / 100)).map (chunkB s)

/-- What yield answers. -/
def YieldP (J Jx : World → Prop) (Kp : World → Prop) (e : Ending) (W' : World) : Prop := ∃ b : Bool, e = .returned (.bool b) ∧ (b = true → J W' ∧ Kp W') ∧ (b = false → Jx W')

set_option maxRecDepth 100000 in
set_option maxHeartbeats 2000000 in
theorem chunk_in (n : Nat) (hn : 2 ≤ n) (s : ByteArray) (hs : s.size ≤ 100000) (l Bn B0 : Nat) (J Jx : List Part → World → Prop) (hJ : AbidesFrom B0 J)
    (hY : ∀ pre x W, J pre W → pre.length < s.size → YieldAt Fence.wide (n - 1) Tryz.prog l #[.string x.1] W fun e W' =>
      (e = .returned (.bool true) ∧ J (pre ++ [x]) W' ∧ (Boxed W Bn 9 (.string s) → Boxed W' Bn 9 (.string s))) ∨ (e = .returned (.bool false) ∧ Jx (pre ++ [x]) W'))
    (W : World) (hBn : Boxed W Bn 9 (.string s)) (h0 : J [] W) :
    CallsIn Fence.wide n Tryz.prog 63 #[.func (.yield l) #[] #[], .pointer (some ⟨Bn, 0, none⟩)] W fun e W' => (∃ v, e = .returned v) ∧
      ((∃ ys : List Part, ys.map (·.1) = chunkL s ∧ J ys W') ∨ (∃ pre : List Part, Jx pre W')) := by
  refine callsIn_of_wp Tryz.func63 rfl trivial ?_ rfl
  simp only [Tryz.ntmps63, List.size_toArray, List.length_cons, List.length_nil, Nat.reduceAdd, Nat.reduceSub, Array.replicate_succ, Array.replicate_zero, List.push_toArray, List.append_toArray, List.nil_append, List.cons_append]
  gi_wp2
  gi_loopw [3] (fun p wr => ∃ (pre : List Part) (st : Nat), st = 100 * pre.length ∧ p = .int .i64 (st : Int) ∧ pre.map (·.1) = (List.range pre.length).map (chunkB s) ∧ st < s.size + 100 ∧ Boxed wr Bn 9 (.string s) ∧ J pre wr)
    (fun p wr => s.size + 100 - (intOf p).toNat)
  case atStart =>
    exact ⟨[], 0, rfl, rfl, rfl, by omega, hBn, h0⟩
  case round =>
    obtain ⟨pre, st, hst, rfl, hpm, hlt, hbx, hJs⟩ := hrel
    have hc := hbx.cell
    by_cases hin : st < s.size
    · obtain ⟨hi, hhi⟩ : ∃ hi : Nat, hi = min (st + 100) s.size := ⟨_, rfl⟩
      have hx : (s.extract st hi).size ≤ 100 := chunk_le s st hi (by omega)
      have hCB : chunkB s pre.length = s.extract st hi := by unfold chunkB; rw [hhi, hst]
      have hd1 : ∀ w : World, w.grownBy w.drew none := fun w => ⟨rfl, rfl, rfl, Nat.le_refl _, fun _ _ _ => rfl⟩
      have hJ1 := hJ _ _ _ none hJs (World.grownBy_alloc wr (.cells #[.int .i64 (s.size : Int)] 3) none) (fun r e => by cases e)
      have hJ2 := hJ _ _ _ none hJ1 (hd1 _) (fun r e => by cases e)
      have hbx2 : Boxed (wr.alloc (.cells #[.int .i64 (s.size : Int)] 3)).drew Bn 9 (.string s) := (hbx.alloc _).kept (hd1 _) (by simp)
      have hY2 := (hY pre ⟨s.extract st hi, hx⟩ _ hJ2 (by omega)).mono (R' := YieldP (J (pre ++ [⟨s.extract st hi, hx⟩])) (Jx (pre ++ [⟨s.extract st hi, hx⟩])) (fun W' => Boxed W' Bn 9 (.string s))) (by
        rintro e W' (⟨rfl, h1, h2⟩ | ⟨rfl, h1⟩)
        · exact ⟨true, rfl, (fun _ => ⟨h1, h2 hbx2⟩), (fun h => by cases h)⟩
        · exact ⟨false, rfl, (fun h => by cases h), (fun _ => h1)⟩)
      obtain ⟨fn, tmps, assign, body, hy, hR⟩ := hY2
      simp only at hy
      have hcd : wr.drew.cell? ⟨Bn, 0, none⟩ = some (.string s) := hc
      have hca : (wr.alloc (.cells #[.int .i64 (s.size : Int)] 3)).drew.cell? ⟨Bn, 0, none⟩ = some (.string s) := hbx2.cell
      have hcn : (wr.alloc (.cells #[.int .i64 (s.size : Int)] 3)).drew.cell? ⟨wr.heap.size, 0, none⟩ = some (.int .i64 (s.size : Int)) := by
        have := (Boxed.new wr 3 (.int .i64 (s.size : Int))).cell
        exact this
      have hL := least_any ((st : Int) + 100) (s.size : Int) wr.heap.size _ hcn
      have hif : (if (s.size : Int) < (st : Int) + 100 then (s.size : Int) else (st : Int) + 100) = (hi : Int) := by split <;> omega
      rw [hif] at hL
      have hw1 : IntKind.i64.wrap ((st : Int) + 100) = (st : Int) + 100 := IntWalk.i64_in _ (by omega)
      have h1 : st ≤ hi := by omega
      have h2 : hi ≤ s.size := by omega
      have HPM := Lib.hid hpm
      have HST := Lib.hid hst
      have HCB := Lib.hid hCB
      have HL := Lib.hid hL
      have HJ2 := Lib.hid hJ2
      clear hpm hst hCB hhi hif hL hJ1 hJ2 hJs hd1 hbx hbx2
      gi_wp2
      gi_region_with (first | (refine ⟨trivial, fun _ => (by omega), ?_⟩; gi_at_call 50; refine (callsIn_wide.2 HL.out).mono ?_; rintro e w' ⟨rfl, rfl⟩) | (refine ⟨fun _ => (by omega), ?_⟩; refine hR.mono ?_; rintro e W3 ⟨b, rfl, hyes, hno⟩))
      all_goals
        cases b with
        | false =>
          have hx3 := hno rfl
          clear hyes hno
          gi_wp2
          refine bodyPost_ret (results_none rfl _ _ _) rfl ?_
          exact ⟨⟨_, rfl⟩, .inr ⟨_, hx3⟩⟩
        | true =>
          obtain ⟨hJ3, hb3⟩ := hyes rfl
          clear hyes hno
          gi_wp2
          go_roundw
          case rel => exact ⟨pre ++ [⟨s.extract st hi, hx⟩], st + 100, by simp; have := HST.out; omega, by go_num, by simp [HPM.out, List.range_succ]; exact HCB.out.symm, by omega, hb3, hJ3⟩
          case measure => simp [intOf]; omega
    · have hlen : pre.length = (s.size + 99) / 100 := by omega
      have hz : pre.map (·.1) = chunkL s := by rw [hpm, hlen]; rfl
      have HZ := Lib.hid hz
      clear hz hlen hpm hst
      gi_wp2
      go_end0
      exact ⟨⟨_, rfl⟩, .inl ⟨pre, HZ.out, hJs⟩⟩
end Go.Proofs.YtgklmcinbaghmaaGreatDoor
