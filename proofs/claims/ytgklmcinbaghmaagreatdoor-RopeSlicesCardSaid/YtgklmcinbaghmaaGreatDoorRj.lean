/-
  Our own text, in the proofs of the laws of package rope. Proved here: Len and Check return what the lengths say. Conditions: the nodes lie in memory as the slice says; the listed table lies as the program lays it.
-/
import Derived.Test.YtgklmcinbaghmaaGreatDoorRi
namespace Go.Proofs.YtgklmcinbaghmaaGreatDoor
open Go Go.RowKit

/-- The length of the last node; 0 of no node. -/
def lastN (L : List Nat) : Nat := L.getD (L.length - 1) 0
def lenI (r : List Nd) : Int := match lens r with | some L => (lastN L : Int) | none => 0
def errI (r : List Nd) : Int := match lens r with | some _ => 0 | none => 20
theorem lenI_some {r : List Nd} {L : List Nat} (h : lens r = some L) : lenI r = (lastN L : Int) := by simp [lenI, h]
theorem lenI_none {r : List Nd} (h : lens r = none) : lenI r = 0 := by simp [lenI, h]
theorem errI_some {r : List Nd} {L : List Nat} (h : lens r = some L) : errI r = 0 := by simp [errI, h]
theorem errI_none {r : List Nd} (h : lens r = none) : errI r = 20 := by simp [errI, h]

/-- The closure at the last node. -/
theorem value_last (w : World) (B : Nat) (sl : Value) (L : List Nat) (hL : L.length ≤ 4000) (h : EnvI w B sl lenM L.length (memoL L)) (n : Int) (hn : n = (L.length : Int) - 1) :
    Calls Tryz.prog 76 #[.int .i64 n, .pointer (some ⟨B + 3, 0, none⟩), .pointer (some ⟨B, 0, none⟩), .pointer (some ⟨B + 1, 0, none⟩), .pointer (some ⟨B + 4, 0, none⟩)] w fun e w' => e = .returned (.int .i64 (lastN L : Int)) ∧ w = w' := by
  subst hn
  cases L with
  | nil => exact value_neg w B sl lenM _ _ h _ (by decide) (memoL_out (by simp)) (by simp)
  | cons x t =>
    refine value_hit w B sl lenM _ _ h _ _ (WalkArith.wf_i64 (by simp at hL ⊢; omega)) ?_
    rw [memoL_at (by simp; omega)]
    have : ((((x :: t).length : Nat) : Int) - 1).toNat = (x :: t).length - 1 := by omega
    rw [this]; rfl
/-- The closure at any node. -/
theorem value_at (w : World) (B : Nat) (sl : Value) (L : List Nat) (hL : L.length ≤ 4000) (h : EnvI w B sl lenM L.length (memoL L)) (n : Int) (hn : 0 ≤ n ∧ n < L.length) :
    Calls Tryz.prog 76 #[.int .i64 n, .pointer (some ⟨B + 3, 0, none⟩), .pointer (some ⟨B, 0, none⟩), .pointer (some ⟨B + 1, 0, none⟩), .pointer (some ⟨B + 4, 0, none⟩)] w fun e w' => e = .returned (.int .i64 (L.getD n.toNat 0 : Nat)) ∧ w = w' :=
  value_hit w B sl lenM _ _ h _ _ (WalkArith.wf_i64 (by omega)) (memoL_at hn)

set_option maxHeartbeats 1000000 in
theorem Len_any (A : Option Addr) (r : List Nd) (cap : Nat) (w : World) (ht : Tabs w) (hr : RopeAt w A r) (hm : r.length ≤ maxLen) :
    Calls Tryz.prog 8 #[.slice A r.length cap] w fun e w' => e = .returned (.tuple #[.int .i64 (lenI r), .int .i64 (errI r)]) ∧ Below w.heap.size w w' := by
  have hM := measure_any A r cap w ht hr hm
  unfold maxLen at hm
  clear ht hr
  cases hl : lens r with
  | none =>
    have h1 := Lib.hid (lenI_none hl)
    have h2 := Lib.hid (errI_none hl)
    have HL := Lib.hid hl
    clear hl
    go_enter Tryz.func8, Tryz.ntmps8
    go_wp2_with fail
    refine hM.mono ?_
    rintro e w1 ⟨_, hno⟩
    obtain ⟨rfl, hb⟩ := hno HL.out
    go_wp2
    go_ret2
    exact ⟨by rw [h1.out, h2.out]; rfl, hb⟩
  | some L =>
    have h1 := Lib.hid (lenI_some hl)
    have h2 := Lib.hid (errI_some hl)
    obtain ⟨k1, k2, k3⟩ := lens_ok hl
    have HL := Lib.hid hl
    have HK := Lib.hid k1
    clear hl k1
    go_enter Tryz.func8, Tryz.ntmps8
    go_wp2_with fail
    refine hM.mono ?_
    rintro e w1 ⟨hyes, _⟩
    obtain ⟨B, hB, rfl, henv, hb⟩ := hyes L HL.out
    have hv := value_last w1 B _ L (by rw [HK.out]; exact k3) henv ((r.length : Int) - 1) (by rw [HK.out])
    have HV := Lib.hid hv
    clear hyes hv
    go_wp2_with fail
    refine HV.out.mono ?_; rintro e w' ⟨rfl, rfl⟩
    go_wp2
    go_ret2
    exact ⟨by rw [h1.out, h2.out]; rfl, hb⟩

set_option maxHeartbeats 1000000 in
theorem Check_any (A : Option Addr) (r : List Nd) (cap : Nat) (w : World) (ht : Tabs w) (hr : RopeAt w A r) (hm : r.length ≤ maxLen) :
    Calls Tryz.prog 13 #[.slice A r.length cap] w fun e w' => e = .returned (.int .i64 (errI r)) ∧ Below w.heap.size w w' := by
  have hM := measure_any A r cap w ht hr hm
  unfold maxLen at hm
  clear ht hr
  cases hl : lens r with
  | none =>
    have h2 := Lib.hid (errI_none hl)
    have HL := Lib.hid hl
    clear hl
    go_enter Tryz.func13, Tryz.ntmps13
    go_wp2_with fail
    refine hM.mono ?_
    rintro e w1 ⟨_, hno⟩
    obtain ⟨rfl, hb⟩ := hno HL.out
    go_wp2
    go_ret
    exact ⟨by rw [h2.out]; rfl, hb⟩
  | some L =>
    have h2 := Lib.hid (errI_some hl)
    have HL := Lib.hid hl
    clear hl
    go_enter Tryz.func13, Tryz.ntmps13
    go_wp2_with fail
    refine hM.mono ?_
    rintro e w1 ⟨hyes, _⟩
    obtain ⟨B, hB, rfl, henv, hb⟩ := hyes L HL.out
    go_wp2
    go_ret
    exact ⟨by rw [h2.out]; rfl, hb⟩
end Go.Proofs.YtgklmcinbaghmaaGreatDoor
