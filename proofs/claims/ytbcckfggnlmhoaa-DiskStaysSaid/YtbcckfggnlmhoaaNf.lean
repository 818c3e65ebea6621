/-
  Our own text, in the proof of the law DiskToMoves of package disk (cayleylaw04). Proved here: what Backward's function yields. No condition but bounds.
-/
import Derived.Test.YtbcckfggnlmhoaaNe
import Derived.RangeFuncNested
import Derived.RangeFuncBound
import Derived.RangeFuncCalls
import Derived.RangeFuncLeaves
import Derived.RangeFuncFrom
import Derived.Shelf.Abstract
import Derived.Shelf.RegionOpen
import Derived.OwnWalkIn
import Derived.TacticsInMore
import Derived.LoopNIn
import Derived.LoopIn
import Derived.Stop.RegionWithIn
namespace Go.Proofs.Ytbcckfggnlmhoaa
open Go Go.RowKit Go.Shelf
attribute [local go_sem] Oper.semAt_some

theorem Backward_any (A : Option Addr) (n cap : Nat) (w : World) :
    Calls Try.prog 69 #[.slice A n cap] w fun e w' => e = .returned (.func (.func 90) #[] #[.pointer (some ⟨w.heap.size, 0, none⟩)]) ∧ w' = w.alloc (.cells #[.slice A n cap] 25) := by
  go_enter Try.func69, Try.ntmps69
  go_wp2
  go_ret
  exact ⟨rfl, rfl⟩

/-- What Backward yields: the place and the cell there. -/
abbrev Plc (Q : Cel → Prop) := {x : Int × Cel // Q x.2}
def encP {Q : Cel → Prop} (x : Plc Q) : Array Value := #[.int .i64 x.1.1, .agg #[.string ⟨x.1.2.conj.toArray⟩, .int .i64 x.1.2.rel, .bool x.1.2.inv]]
/-- What yield answers. -/
def YieldP (J Jx : World → Prop) (Kp : World → Prop) (e : Ending) (W' : World) : Prop := ∃ b : Bool, e = .returned (.bool b) ∧ (b = true → J W' ∧ Kp W') ∧ (b = false → Jx W')

set_option maxRecDepth 100000 in
set_option maxHeartbeats 2000000 in
theorem backward_in (Q : Cel → Prop) (n : Nat) (hn : 2 ≤ n) (d : List Cel) (hQ : ∀ c ∈ d, Q c) (A : Option Addr) (cap : Nat) (hs : d.length ≤ 1000000) (l Bn : Nat) (J Jx : List (Plc Q) → World → Prop) (Pk : World → Prop) (hPk : ∀ X, Pk X → X.cell? ⟨Bn, 0, none⟩ = some (.slice A d.length cap) ∧ CellsAt X A d)
    (hY : ∀ pre x W, J pre W → pre.length < d.length → YieldAt Fence.wide (n - 1) Try.prog l (encP x) W fun e W' =>
      (e = .returned (.bool true) ∧ J (pre ++ [x]) W' ∧ (Pk W → Pk W')) ∨ (e = .returned (.bool false) ∧ Jx (pre ++ [x]) W'))
    (W : World) (hBn : Pk W) (h0 : J [] W) :
    CallsIn Fence.wide n Try.prog 90 #[.func (.yield l) #[] #[], .pointer (some ⟨Bn, 0, none⟩)] W fun e W' => (∃ v, e = .returned v) ∧
      ((∃ ys : List (Plc Q), ys.map (·.1.2) = d.reverse ∧ J ys W') ∨ (∃ pre : List (Plc Q), Jx pre W')) := by
  have hc0 := (hPk W hBn).1
  refine callsIn_of_wp Try.func90 rfl trivial ?_ rfl
  simp only [Try.ntmps90, List.size_toArray, List.length_cons, List.length_nil, Nat.reduceAdd, Nat.reduceSub, Array.replicate_succ, Array.replicate_zero, List.push_toArray, List.append_toArray, List.nil_append, List.cons_append]
  gi_wp2
  clear hc0
  gi_loopw [3] (fun i wr => ∃ (pre : List (Plc Q)), pre.length ≤ d.length ∧ i = .int .i64 ((d.length : Int) - 1 - (pre.length : Int)) ∧ pre.map (·.1.2) = d.reverse.take pre.length ∧ Pk wr ∧ J pre wr)
    (fun i wr => (intOf i + 1).toNat)
  case atStart => exact ⟨[], by simp, by simp, by simp, hBn, h0⟩
  case round =>
    obtain ⟨pre, hpl, rfl, hpm, hpk, hJs⟩ := hrel
    obtain ⟨hc, hcl⟩ := hPk wr hpk
    by_cases hin : pre.length < d.length
    · obtain ⟨k, hk⟩ : ∃ k : Nat, k = d.length - 1 - pre.length := ⟨_, rfl⟩
      have hkd : k < d.length := by omega
      have hki : (d.length : Int) - 1 - (pre.length : Int) = (k : Int) := by omega
      have hQk := hQ _ (List.getElem_mem hkd)
      have HPS : Hid ((pre ++ [(⟨((k : Int), d[k]), hQk⟩ : Plc Q)]).map (·.1.2) = d.reverse.take (pre.length + 1)) := Lib.hid (by
        rw [List.take_succ_eq_append_getElem (by simpa using hin), List.map_append, hpm]
        simp [hk])
      obtain ⟨b, o, hA, hcel⟩ := hcl k hkd
      obtain ⟨q1, q2, q3, q4⟩ := hcel
      subst hA
      have hY2 := (hY pre ⟨((k : Int), d[k]), hQk⟩ wr hJs hin).mono (R' := YieldP (J (pre ++ [⟨((k : Int), d[k]), hQk⟩])) (Jx (pre ++ [⟨((k : Int), d[k]), hQk⟩])) Pk) (by
        rintro e W' (⟨rfl, h1, h2⟩ | ⟨rfl, h1⟩)
        · exact ⟨true, rfl, (fun _ => ⟨h1, h2 hpk⟩), (fun h => by cases h)⟩
        · exact ⟨false, rfl, (fun h => by cases h), (fun _ => h1)⟩)
      unfold encP at hY2
      try simp only at hY2
      obtain ⟨fn, tmps, assign, body, hy, hR⟩ := hY2
      try simp only at hy
      rw [hki]
      have HPK := Lib.hid hpk
      have hd0 : decide ((0 : Int) ≤ (k : Int)) = true := by simp
      have HK := Lib.hid hk
      clear hki hk
      generalize d[k] = x at *
      obtain ⟨c, rel, inv⟩ := x
      simp only at q1 q2 q3 q4
      clear hpm hJs hcl hpk
      gi_wp2_with (refine ⟨fun _ => (by omega), ?_⟩; refine hR.mono ?_; rintro e W3 ⟨(_ | _), rfl, hyes, hno⟩)
      · have hx3 := hno (by simp)
        clear hyes hno
        refine bodyPost_ret (results_none rfl _ _ _) rfl ?_
        exact ⟨⟨_, rfl⟩, .inr ⟨_, hx3⟩⟩
      · obtain ⟨hJ3, hb3⟩ := hyes (by simp)
        clear hyes hno
        go_roundw
        case rel => exact ⟨pre ++ [⟨((k : Int), ⟨c, rel, inv⟩), hQk⟩], by simp; omega, by have := HK.out; simp; omega, by simpa using HPS.out, hb3, hJ3⟩
        case measure => first | (simp [intOf]; done) | (simp [intOf]; omega)
    · have hlen : pre.length = d.length := by omega
      have hz : pre.map (·.1.2) = d.reverse := by rw [hpm, hlen]; exact List.take_of_length_le (by simp)
      have HZ := Lib.hid hz
      rw [hlen]
      have hd0 : decide ((0 : Int) ≤ (d.length : Int) - 1 - (d.length : Int)) = false := by simp; omega
      have hd1 : ((d.length : Int) - 1 - (d.length : Int)) = -1 := by omega
      clear hz hpm
      gi_wp2
      go_end0
      exact ⟨⟨_, rfl⟩, .inl ⟨pre, HZ.out, hJs⟩⟩
end Go.Proofs.Ytbcckfggnlmhoaa
