/-
  Our own text, in the proofs of the laws of package disk (cayleylaw04). Proved here: the walk's method rotated. Conditions: the walk lies in memory as newWalk leaves it; the presentation is valid.
-/
import Derived.Test.YtbcckfggnlmhoaaIf
import Derived.StillTailTactics
namespace Go.Proofs.Ytbcckfggnlmhoaa
open Go Go.RowKit

def rotOf (p : Pr) (m : Mv) : Option (List UInt8) :=
  if isRelB p m.rel = true then (if 0 ≤ m.shift ∧ m.shift < (relOf p m.rel m.inv).length then some ((relOf p m.rel m.inv).drop m.shift.toNat ++ (relOf p m.rel m.inv).take m.shift.toNat) else none) else none

def RotP (W : World) (r : Option (List UInt8)) (e : Ending) (w' : World) : Prop :=
  match r with
  | some v => ∃ vb vc, e = .returned (.slice (some ⟨vb, 0, none⟩) v.length vc) ∧ w'.ownsRow W.heap.size 5 1 (.slice (some ⟨vb, 0, none⟩) v.length vc) v.length (bs v) ∧ W.heap.size ≤ vb ∧ Below W.heap.size W w'
  | none => e = .panicked pan ∧ Below W.heap.size W w'

set_option maxHeartbeats 4000000 in
set_option maxRecDepth 100000 in
theorem rotated_any (w : World) (p : Pr) (R : Option Addr) (rc kb mb g cap : Nat) (l : List UInt8) (W : World) (h : WkAt w p R rc kb mb g cap l W) (hp : presB p = true) (hr : RelsAt w R p.rels) (m : Mv) :
    Calls Try.prog 99 #[.pointer (some ⟨kb, 0, none⟩), mvV m] W (RotP W (rotOf p m)) := by
  obtain ⟨mk, mp, ml, mr, ms, mi⟩ := m
  have HBX := Lib.hid (Boxd.start W #[.int .i64 mk, .int .i64 mp, .int .i64 ml, .int .i64 mr, .int .i64 ms, .bool mi] 52)
  have HK := Lib.hid (h.below (Boxd.start W #[.int .i64 mk, .int .i64 mp, .int .i64 ml, .int .i64 mr, .int .i64 ms, .bool mi] 52).old)
  have HP := Lib.hid hp
  have HR := Lib.hid hr
  have hm : p.rels.length ≤ maxLen := by have := (presB_k hp).2.2; unfold maxLen; omega
  have HI := Lib.hid (fun X : World => isRel_any p R rc mr X hm)
  clear h hp hr
  show Calls Try.prog 99 #[.pointer (some ⟨kb, 0, none⟩), .agg #[.int .i64 mk, .int .i64 mp, .int .i64 ml, .int .i64 mr, .int .i64 ms, .bool mi]] W (RotP W (rotOf p ⟨mk, mp, ml, mr, ms, mi⟩))
  by_cases hrel : isRelB p mr = true
  case neg =>
    have HN : Hid (rotOf p ⟨mk, mp, ml, mr, ms, mi⟩ = none) := Lib.hid (if_neg hrel)
    have hrel' : isRelB p mr = false := by simpa using hrel
    rw [hrel'] at HI
    have hb3 : (W.alloc (.cells #[.int .i64 mk, .int .i64 mp, .int .i64 ml, .int .i64 mr, .int .i64 ms, .bool mi] 52)).cell? ⟨W.heap.size, 3, none⟩ = some (.int .i64 mr) := HBX.out.cell 3
    have hk0 : (W.alloc (.cells #[.int .i64 mk, .int .i64 mp, .int .i64 ml, .int .i64 mr, .int .i64 ms, .bool mi] 52)).cell? ⟨kb, 0, none⟩ = some (.int .i64 p.k) := HK.out.c0
    have hk1 : (W.alloc (.cells #[.int .i64 mk, .int .i64 mp, .int .i64 ml, .int .i64 mr, .int .i64 ms, .bool mi] 52)).cell? ⟨kb, 1, none⟩ = some (.slice R p.rels.length rc) := HK.out.c1
    clear hrel hrel'
    go_enter Try.func99, Try.ntmps99
    go_wp2_with fail
    generalize W.alloc (.cells #[.int .i64 mk, .int .i64 mp, .int .i64 ml, .int .i64 mr, .int .i64 ms, .bool mi] 52) = w0 at *
    go_still_tail 6, (by kernel_rfl)
    change wpList _ _ _ _ _ w0.drew
    go_wp2_with fail
    refine (HI.out _).mono ?_
    rintro e1 w1 ⟨rfl, hb1⟩
    have HB1 := Lib.hid hb1
    clear hb1 hk0 hk1 hb3
    go_wp2_with fail
    refine (mustApply_no _).mono ?_
    rintro e2 w2 ⟨rfl, rfl⟩
    go_wp2
    refine ⟨rfl, ?_⟩
    rw [HN.out]
    exact ⟨rfl, HBX.out.old.trans (((Below.refl _ w0).drewN 1).trans HB1.out |>.mono HBX.out.old.size)⟩
  case pos =>
    rw [hrel] at HI
    have HRT : Hid (rotOf p ⟨mk, mp, ml, mr, ms, mi⟩ = if 0 ≤ ms ∧ ms < (relOf p mr mi).length then some ((relOf p mr mi).drop ms.toNat ++ (relOf p mr mi).take ms.toNat) else none) := Lib.hid (if_pos hrel)
    have HREL := Lib.hid hrel
    have HT2 := Lib.hid (relOf_len HP.out hrel mi)
    have hb3 : (W.alloc (.cells #[.int .i64 mk, .int .i64 mp, .int .i64 ml, .int .i64 mr, .int .i64 ms, .bool mi] 52)).cell? ⟨W.heap.size, 3, none⟩ = some (.int .i64 mr) := HBX.out.cell 3
    have hk0 : (W.alloc (.cells #[.int .i64 mk, .int .i64 mp, .int .i64 ml, .int .i64 mr, .int .i64 ms, .bool mi] 52)).cell? ⟨kb, 0, none⟩ = some (.int .i64 p.k) := HK.out.c0
    have hk1 : (W.alloc (.cells #[.int .i64 mk, .int .i64 mp, .int .i64 ml, .int .i64 mr, .int .i64 ms, .bool mi] 52)).cell? ⟨kb, 1, none⟩ = some (.slice R p.rels.length rc) := HK.out.c1
    clear hrel
    go_enter Try.func99, Try.ntmps99
    go_wp2_with fail
    generalize W.alloc (.cells #[.int .i64 mk, .int .i64 mp, .int .i64 ml, .int .i64 mr, .int .i64 ms, .bool mi] 52) = w0 at *
    go_still_tail 6, (by kernel_rfl)
    change wpList _ _ _ _ _ w0.drew
    go_wp2_with fail
    refine (HI.out _).mono ?_
    rintro e1 w1 ⟨rfl, hb1⟩
    have HB1 : Hid (Below w0.heap.size w0 w1) := Lib.hid (((Below.refl _ w0).drewN 1).trans hb1)
    have HX1 := Lib.hid (HBX.out.on HB1.out)
    have HK1 := Lib.hid (HK.out.below HB1.out)
    clear hb1 hk0 hk1 hb3
    go_wp2_with fail
    refine (mustApply_yes _).mono ?_
    rintro e2 w2 ⟨rfl, rfl⟩
    have hb3 : w1.cell? ⟨W.heap.size, 3, none⟩ = some (.int .i64 mr) := HX1.out.cell 3
    have hb5 : w1.cell? ⟨W.heap.size, 5, none⟩ = some (.bool mi) := HX1.out.cell 5
    have hk0 : w1.cell? ⟨kb, 0, none⟩ = some (.int .i64 p.k) := HK1.out.c0
    have hk1 : w1.cell? ⟨kb, 1, none⟩ = some (.slice R p.rels.length rc) := HK1.out.c1
    go_wp2_with fail
    go_still_tail 8, (by kernel_rfl)
    change wpList _ _ _ _ _ w1.drew
    have hT := relatorO_any p R rc mr mi w1.drew HP.out HREL.out (HR.out.below (HK1.out.old.drewN 1))
    go_wp2_with fail
    refine hT.mono ?_
    rintro e3 w3 ⟨tg, tc, rfl, hrow, htc, htm, htg, hb4⟩
    have HB3 : Hid (Below w1.heap.size w1 w3) := Lib.hid (((Below.refl _ w1).drewN 1).trans hb4)
    have HX3 := Lib.hid (HX1.out.on HB3.out)
    have HROW := Lib.hid hrow
    have htm' : tc ≤ 9223372036854775807 := by unfold maxLen at htm; omega
    generalize relOf p mr mi = t at *
    have hb6 : w3.cell? ⟨W.heap.size, 4, none⟩ = some (.int .i64 ms) := HX3.out.cell 4
    clear hT hb4 hb3 hb5 hk0 hk1 hrow htm htg
    by_cases hs : 0 ≤ ms ∧ ms < t.length
    · have HR2 : Hid (rotOf p ⟨mk, mp, ml, mr, ms, mi⟩ = some (t.drop ms.toNat ++ t.take ms.toNat)) := Lib.hid (by rw [HRT.out, if_pos hs])
      obtain ⟨h0, h1⟩ := hs
      obtain ⟨k, rfl⟩ := Int.eq_ofNat_of_zero_le h0
      have hk : k < t.length := by omega
      have e1 : decide ((0 : Int) ≤ (k : Int)) = true := by simp
      have e2 : decide ((k : Int) < (t.length : Int)) = true := by simpa using hk
      have e2' : decide (k < t.length) = true := by simpa using hk
      simp only [Int.toNat_natCast] at HR2
      clear h0 h1
      go_wp2_with fail
      refine (mustApply_yes _).mono ?_
      rintro e4 w4 ⟨rfl, rfl⟩
      have hk1 : (k : Int) ≤ (t.length : Int) := by omega
      have hk2 : k ≤ t.length := by omega
      have hk3 : ¬ (tc = k) := by omega
      have hk4 : (k : Int) ≤ (tc : Int) := by omega
      have hk5 : k ≤ tc := by omega
      go_wp2_with fail
      go_still_tail 8, (by kernel_rfl)
      change wpList _ _ _ _ _ w3.drew
      go_wp2_with fail
      have hC := SConcatB_any w3.heap.size (some ⟨tg, k, none⟩) (some ⟨tg, 0, none⟩) (t.drop k) (t.take k) (tc - k) tc (w3.alloc (.cells #[.slice (some ⟨tg, k, none⟩) (t.length - k) (tc - k), .slice (some ⟨tg, 0, none⟩) k tc] 58)).drew
        (by rw [List.length_drop]; show (w3.alloc _).cell? _ = _; rw [alloc_cell]; rfl)
        (by rw [List.length_take, Nat.min_eq_left hk2]; show (w3.alloc _).cell? _ = _; rw [alloc_cell]; rfl)
        (by
          intro j hj
          rw [List.length_drop] at hj
          obtain ⟨b, o, hA, hc⟩ := (HROW.out.below ((Below.refl _ w3).alloc (Nat.le_refl _) (.cells #[.slice (some ⟨tg, k, none⟩) (t.length - k) (tc - k), .slice (some ⟨tg, 0, none⟩) k tc] 58))) (k + j) (by omega)
          cases hA
          rw [Nat.zero_add] at hc
          exact ⟨tg, k, rfl, by rw [List.getElem_drop]; exact hc⟩)
        (by
          intro j hj
          rw [List.length_take] at hj
          obtain ⟨b, o, hA, hc⟩ := (HROW.out.below ((Below.refl _ w3).alloc (Nat.le_refl _) (.cells #[.slice (some ⟨tg, k, none⟩) (t.length - k) (tc - k), .slice (some ⟨tg, 0, none⟩) k tc] 58))) j (by omega)
          cases hA
          exact ⟨tg, 0, rfl, by rw [List.getElem_take]; exact hc⟩)
        (fun h => by cases h) (fun h => by cases h) (by have := HT2.out; rw [List.length_drop, List.length_take]; omega)
      refine hC.mono ?_
      rintro e5 w5 ⟨A5, c5, rfl, hown5, hb5⟩
      have HO5 := Lib.hid hown5
      have HB5 : Hid (Below w3.heap.size w3 w5) := Lib.hid ((((Below.refl _ w3).alloc (Nat.le_refl _) (.cells #[.slice (some ⟨tg, k, none⟩) (t.length - k) (tc - k), .slice (some ⟨tg, 0, none⟩) k tc] 58)).drewN 1).trans (hb5.mono (by show _ ≤ (w3.alloc _).heap.size; simp)))
      have HSZ : Hid (w3.heap.size ≤ (w3.alloc (.cells #[.slice (some ⟨tg, k, none⟩) (t.length - k) (tc - k), .slice (some ⟨tg, 0, none⟩) k tc] 58)).drew.heap.size) := Lib.hid (by show _ ≤ (w3.alloc _).heap.size; simp)
      have HLN : Hid (0 < (t.drop k ++ t.take k).length) := Lib.hid (by simp; omega)
      clear hC hown5 hb5 hb6
      generalize t.drop k ++ t.take k = v at *
      go_wp2
      go_ret
      rw [HR2.out]
      have hln := HLN.out
      rcases own_shape HO5.out with ⟨_, h0, _⟩ | ⟨g', rfl, hg', _⟩
      · omega
      · have hs3 : W.heap.size ≤ w3.heap.size := HX3.out.old.size
        exact ⟨g', c5, rfl, own_base HO5.out (Nat.le_trans hs3 HSZ.out), Nat.le_trans hs3 (Nat.le_trans HSZ.out hg'), HX3.out.old.trans (HB5.out.mono hs3)⟩
    · have HR2 : Hid (rotOf p ⟨mk, mp, ml, mr, ms, mi⟩ = none) := Lib.hid (by rw [HRT.out, if_neg hs])
      by_cases h0 : 0 ≤ ms
      · have e1 : decide (0 ≤ ms) = true := by simpa using h0
        have e2 : decide (ms < (t.length : Int)) = false := by simp; omega
        clear hs
        go_wp2_with fail
        refine (mustApply_no _).mono ?_
        rintro e4 w4 ⟨rfl, rfl⟩
        go_wp2
        refine ⟨rfl, ?_⟩
        rw [HR2.out]
        exact ⟨rfl, HX3.out.old⟩
      · have e1 : decide (0 ≤ ms) = false := by simpa using h0
        clear hs
        go_wp2_with fail
        refine (mustApply_no _).mono ?_
        rintro e4 w4 ⟨rfl, rfl⟩
        go_wp2
        refine ⟨rfl, ?_⟩
        rw [HR2.out]
        exact ⟨rfl, HX3.out.old⟩
end Go.Proofs.Ytbcckfggnlmhoaa
