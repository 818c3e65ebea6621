/-
  Our own text, in the proofs of the laws of package disk (cayleylaw04). Proved here: the walk's method do. Conditions: the walk lies in memory as newWalk leaves it; the presentation is valid.
-/
import Derived.Test.YtbcckfggnlmhoaaIk
namespace Go.Proofs.Ytbcckfggnlmhoaa
open Go Go.RowKit

def stepM (p : Pr) (l : List UInt8) (m : Mv) : Option (List UInt8) :=
  if m.kind = 1 then insPair p l m else if m.kind = 2 then delPair l m.pos else if m.kind = 3 then insRel p l m else if m.kind = 4 then delRel p l m else none

theorem methF_none (k : Int) (h1 : ¬ k = 1) (h2 : ¬ k = 2) (h3 : ¬ k = 3) (h4 : ¬ k = 4) : methF k = none := by
  unfold methF putF
  rw [if_neg h4, if_neg h3, if_neg h2, if_neg h1]

/-- Whatever the method, its contract. -/
theorem method_any (w : World) (p : Pr) (R : Option Addr) (rc kb mb g cap : Nat) (l : List UInt8) (W : World) (h : WkAt w p R rc kb mb g cap l W) (hp : presB p = true) (hr : RelsAt w R p.rels) (hl : l.length ≤ 100000) (m : Mv) :
    (∃ n, (n = 84 ∨ n = 85 ∨ n = 86 ∨ n = 87) ∧ methF m.kind = some (.func (.func n) #[] #[]) ∧ Calls Try.prog n #[.pointer (some ⟨kb, 0, none⟩), mvV m] W (StepP w p R rc kb mb (stepM p l m))) ∨ (methF m.kind = none ∧ stepM p l m = none) := by
  by_cases h1 : m.kind = 1
  · refine .inl ⟨84, .inl rfl, by rw [h1]; rfl, ?_⟩
    have : stepM p l m = insPair p l m := if_pos h1
    rw [this]; exact insertPair_any w p R rc kb mb g cap l W h hp hl m
  by_cases h2 : m.kind = 2
  · refine .inl ⟨85, .inr (.inl rfl), by rw [h2]; rfl, ?_⟩
    have : stepM p l m = delPair l m.pos := by unfold stepM; rw [if_neg h1, if_pos h2]
    rw [this]; exact deletePair_any w p R rc kb mb g cap l W h hl m
  by_cases h3 : m.kind = 3
  · refine .inl ⟨86, .inr (.inr (.inl rfl)), by rw [h3]; rfl, ?_⟩
    have : stepM p l m = insRel p l m := by unfold stepM; rw [if_neg h1, if_neg h2, if_pos h3]
    rw [this]; exact insertRel_any w p R rc kb mb g cap l W h hp hr hl m
  by_cases h4 : m.kind = 4
  · refine .inl ⟨87, .inr (.inr (.inr rfl)), by rw [h4]; rfl, ?_⟩
    have : stepM p l m = delRel p l m := by unfold stepM; rw [if_neg h1, if_neg h2, if_neg h3, if_pos h4]
    rw [this]; exact deleteRel_any w p R rc kb mb g cap l W h hp hr hl m
  · exact .inr ⟨methF_none _ h1 h2 h3 h4, by unfold stepM; rw [if_neg h1, if_neg h2, if_neg h3, if_neg h4]⟩

set_option maxHeartbeats 4000000 in
set_option maxRecDepth 100000 in
theorem do_any (w : World) (p : Pr) (R : Option Addr) (rc kb mb g cap : Nat) (l : List UInt8) (W : World) (h : WkAt w p R rc kb mb g cap l W) (hp : presB p = true) (hr : RelsAt w R p.rels) (hl : l.length ≤ 100000) (m : Mv) (hmw : (Lit.int .i64 m.kind).wf = true) :
    Calls Try.prog 61 #[.pointer (some ⟨kb, 0, none⟩), mvV m] W (StepP w p R rc kb mb (stepM p l m)) := by
  have HM := Lib.hid (fun X hX => method_any w p R rc kb mb g cap l X hX hp hr hl m)
  generalize stepM p l m = r at *
  obtain ⟨mk, mp, ml, mr, ms, mi⟩ := m
  have HBX := Lib.hid (Boxd.start W #[.int .i64 mk, .int .i64 mp, .int .i64 ml, .int .i64 mr, .int .i64 ms, .bool mi] 52)
  have HK := Lib.hid (h.below (Boxd.start W #[.int .i64 mk, .int .i64 mp, .int .i64 ml, .int .i64 mr, .int .i64 ms, .bool mi] 52).old)
  clear h hp hr hl
  show Calls Try.prog 61 #[.pointer (some ⟨kb, 0, none⟩), .agg #[.int .i64 mk, .int .i64 mp, .int .i64 ml, .int .i64 mr, .int .i64 ms, .bool mi]] W (StepP w p R rc kb mb r)
  go_enter Try.func61, Try.ntmps61
  go_wp2_with fail
  generalize W.alloc (.cells #[.int .i64 mk, .int .i64 mp, .int .i64 ml, .int .i64 mr, .int .i64 ms, .bool mi] 52) = w0 at *
  have hb0 : w0.cell? ⟨W.heap.size, 0, none⟩ = some (.int .i64 mk) := HBX.out.cell 0
  have hc3 : w0.cell? ⟨kb, 3, none⟩ = some (.map (some mb)) := HK.out.c3
  change (Lit.int .i64 mk).wf = true at hmw
  have hMD : ∀ q, WkAt w p R rc kb mb g cap l (w0.drewN q) := fun q => HK.out.below ((Below.refl _ w0).drewN q)
  have HMD := Lib.hid hMD
  cases hf : methF mk with
  | some v =>
    have hlk := fun q => (hMD q).memo.look_some Try.underlying81 (z := .nilFunc) (by kernel_rfl) mk hmw hf
    have HC : Hid (∃ n, (n = 84 ∨ n = 85 ∨ n = 86 ∨ n = 87) ∧ v = .func (.func n) #[] #[] ∧ ∀ q, Calls Try.prog n #[.pointer (some ⟨kb, 0, none⟩), .agg #[.int .i64 mk, .int .i64 mp, .int .i64 ml, .int .i64 mr, .int .i64 ms, .bool mi]] (w0.drewN q) (StepP w p R rc kb mb r)) := Lib.hid (by
      rcases HM.out (w0.drewN 0) (hMD 0) with ⟨n, hn, hf', _⟩ | ⟨hf', _⟩
      · refine ⟨n, hn, Option.some.inj (hf.symm.trans hf'), fun q => ?_⟩
        rcases HM.out (w0.drewN q) (hMD q) with ⟨n', _, hf2, hC⟩ | ⟨hf2, _⟩
        · have e1 := Option.some.inj (hf'.symm.trans hf2)
          have e2 : n = n' := by injection e1 with e1; injection e1
          rw [e2]; exact hC
        · rw [show methF mk = _ from hf2] at hf; cases hf
      · rw [show methF mk = _ from hf'] at hf; cases hf)
    obtain ⟨n, hn, rfl, hC⟩ := HC.out
    have HC2 := Lib.hid hC
    clear hf hMD hC HC
    rcases hn with rfl | rfl | rfl | rfl
    all_goals (
      go_quiet (fail)
      go_wp2_with fail
      refine (mustApply_yes _).mono ?_
      rintro e1 w1 ⟨rfl, rfl⟩
      have hb1 : w0.cell? ⟨W.heap.size, 1, none⟩ = some (.int .i64 mp) := HBX.out.cell 1
      have hb2 : w0.cell? ⟨W.heap.size, 2, none⟩ = some (.int .i64 ml) := HBX.out.cell 2
      have hb3 : w0.cell? ⟨W.heap.size, 3, none⟩ = some (.int .i64 mr) := HBX.out.cell 3
      have hb4 : w0.cell? ⟨W.heap.size, 4, none⟩ = some (.int .i64 ms) := HBX.out.cell 4
      have hb5 : w0.cell? ⟨W.heap.size, 5, none⟩ = some (.bool mi) := HBX.out.cell 5
      go_wp2_with fail
      refine (HC2.out _).mono ?_
      intro e2 w2 hh
      rcases hh.split with ⟨rfl, hs⟩ | ⟨rfl, hs⟩
      · exact ⟨rfl, hs⟩
      · have HZ := Lib.hid hs
        clear hs hh hlk
        go_wp2
        go_end0
        exact HZ.out)
  | none =>
    have hlk := fun q => (hMD q).memo.look_none Try.underlying81 (z := .nilFunc) (by kernel_rfl) mk hmw hf
    have HN : Hid (r = none) := Lib.hid (by
      rcases HM.out (w0.drewN 0) (hMD 0) with ⟨n, hn, hf', _⟩ | ⟨_, hn⟩
      · rw [show methF mk = _ from hf'] at hf; cases hf
      · exact hn)
    clear hf hMD
    go_quiet (fail)
    go_wp2_with fail
    refine (mustApply_no _).mono ?_
    rintro e1 w1 ⟨rfl, rfl⟩
    go_wp2
    refine ⟨rfl, ?_⟩
    rw [HN.out]
    exact ⟨rfl, (HMD.out _).old⟩
end Go.Proofs.Ytbcckfggnlmhoaa
