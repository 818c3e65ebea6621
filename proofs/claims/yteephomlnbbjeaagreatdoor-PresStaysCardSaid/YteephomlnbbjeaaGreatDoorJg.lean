/-
  Our own text, in the proofs of the laws of package pres (cayleylaw03). Proved here: boundary and isDisk of package pres; isDisk of package pres; letter, letters; slices.Clone of strings, of cells; rows of cells of the call's own; slices.Clone and slices.Reverse of cells; append of cells. Conditions: the arguments lie in memory as the slices say; bounds; the listed tables lie as the program lays them.
-/
import Derived.Test.YteephomlnbbjeaaGreatDoorJf
set_option linter.unusedVariables false
set_option linter.unusedSimpArgs false
set_option linter.unusedSectionVars false
namespace Go.Proofs.YteephomlnbbjeaaGreatDoor
open Go Go.RowKit

theorem relP_at {p : Pr} {i : Int} (h : relIn p i = true) : ∃ n : Nat, i = (n : Int) ∧ ∃ hn : n < p.rels.length, ∀ b, relP p i b = if b then invW p.rels[n] else p.rels[n] := by
  simp only [relIn, Bool.and_eq_true, decide_eq_true_eq] at h
  obtain ⟨n, rfl⟩ := Int.eq_ofNat_of_zero_le h.1
  refine ⟨n, rfl, by omega, fun b => ?_⟩
  have : p.rels.getD n [] = p.rels[n]'(by omega) := by simp [List.getD, show n < p.rels.length by omega]
  simp only [relP, Int.toNat_natCast, this]

/-- A row of bytes that a call hands back, the call's own. -/
def RowP (w : World) (l : List UInt8) (e : Ending) (w' : World) : Prop :=
  ∃ A' cap', e = .returned (.slice A' l.length cap') ∧ RowAt w' A' l ∧ Below w.heap.size w w'

theorem okB_isW {k : Int} {l : List UInt8} (h : okB k l = true) : isW l = true := isW_of_check h

/-- What a round of boundary keeps: the row, the box of the presentation, the box of the cell. -/
structure Rd (w : World) (cs : Array Value) (q : Nat) (c : List UInt8) (inv : Bool) (s : List UInt8) (O : Option Addr) (oc : Nat) (W : World) : Prop where
  own : W.ownsRow (w.heap.size + 1) 5 1 (.slice O s.length oc) s.length (bs s.reverse)
  box : Boxd w cs 24 W
  conj : W.cell? ⟨q, 0, none⟩ = some (.string ⟨c.toArray⟩)
  sign : W.cell? ⟨q, 2, none⟩ = some (.bool inv)
  ne : blk O ≠ some q
theorem Rd.on {w : World} {cs : Array Value} {q : Nat} {c : List UInt8} {inv : Bool} {s : List UInt8} {O : Option Addr} {oc : Nat} {W W' : World} (h : Rd w cs q c inv s O oc W) (hb : Below W.heap.size W W') : Rd w cs q c inv s O oc W' :=
  ⟨own_on h.own hb, h.box.on hb, (hb.cell (p := ⟨q, 0, none⟩) (lt_of_cell h.conj)).trans h.conj, (hb.cell (p := ⟨q, 2, none⟩) (lt_of_cell h.sign)).trans h.sign, h.ne⟩
theorem Rd.app {w : World} {cs : Array Value} {q : Nat} {c : List UInt8} {inv : Bool} {s t : List UInt8} {O : Option Addr} {oc : Nat} {W W' : World} {e : Ending} (h : Rd w cs q c inv s O oc W) (ha : AppP W (w.heap.size + 1) O t e W') :
    ∃ A' cap', e = .returned (.slice A' t.length cap') ∧ Rd w cs q c inv t A' cap' W' := by
  obtain ⟨A', cap', rfl, hown, hg, hm⟩ := ha
  have hq := lt_of_cell h.conj
  refine ⟨A', cap', rfl, hown, h.box.on' (below_of_grown (Below.refl _ W) hg (by have := h.box.size; omega) (own_ge h.own)), hg.cell h.conj (fun e => h.ne e.symm), hg.cell h.sign (fun e => h.ne e.symm), fun e => ?_⟩
  rcases hm with hm | hm
  · exact h.ne (hm ▸ e)
  · have := hm q e; simp only at hq; omega

set_option maxHeartbeats 4000000 in
set_option maxRecDepth 100000 in
theorem boundary_any (p : Pr) (R : Option Addr) (rc : Nat) (D : Option Addr) (dc : Nat) (d : List Cel) (w : World) (ht : Tabs w) (hr : StrsAt w R p.rels) (hd : CellsAt w D d) (hw : ∀ r ∈ p.rels, isW r = true) (hc : celsB p d = true) :
    Calls Tryz.prog 191 #[prV p.k R p.rels.length rc, .slice D d.length dc] w (RowP w (bnd p d)) := by
  have HT := Lib.hid ht
  have HBX := Lib.hid (Boxd.start w (prC p.k R p.rels.length rc) 24)
  have HD := Lib.hid hd
  have HRR := Lib.hid hr
  have HW := Lib.hid hw
  simp only [celsB, Bool.and_eq_true, decide_eq_true_eq] at hc
  have hdm := hc.1
  have HC : Hid (∀ (n : Nat) (h : n < d.length), celB p d[n] = true) := Lib.hid (fun n h => List.all_eq_true.1 hc.2 _ (List.getElem_mem h))
  clear hd ht hr hw hc
  go_enter Tryz.func191, Tryz.ntmps191
  go_wp2
  go_loopw [5, 7, 8, 11] (fun out _ _ i wr => ∃ (k : Nat) (s : List UInt8) (O : Option Addr) (oc : Nat), k ≤ d.length ∧ i = .int .i64 (k : Int) ∧ Hid (s = bndR p (d.take k)) ∧ s.length ≤ k * 300000 ∧ out = .slice O s.length oc ∧ Hid (wr.ownsRow (w.heap.size + 1) 5 1 (.slice O s.length oc) s.length (bs s.reverse)) ∧ Hid (Boxd w (prC p.k R p.rels.length rc) 24 wr))
    (fun _ _ _ i _ => d.length - (intOf i).toNat)
  case atStart => exact ⟨0, [], none, 0, Nat.zero_le _, rfl, Lib.hid rfl, by simp, rfl, Lib.hid (World.ownsRow_nil _ _ _ _), HBX⟩
  case round =>
    obtain ⟨k, s, O, oc, hk, rfl, HS, hnk, rfl, HOW, HX⟩ := hrel
    by_cases hlt : k < d.length
    · have HST := Lib.hid (bndR_take p d k hlt)
      have hcb := HC.out k hlt
      obtain ⟨b, o, hD, hcel⟩ := (HD.out.below HX.out.old) k hlt
      obtain ⟨q1, q2, q3, q4⟩ := hcel
      subst hD
      generalize d[k] = x at *
      obtain ⟨c, rel, inv⟩ := x
      simp only at q1 q2 q3 q4
      simp only [celB, Bool.and_eq_true] at hcb
      obtain ⟨m, rfl, hm, hre⟩ := relP_at hcb.1
      have hcw := okB_isW hcb.2
      have HST : Hid (bndR p (d.take (k + 1)) = runR (runR (runR (bndR p (d.take k)) c) (relP p (m : Int) inv)) (invW c)) := Lib.hid HST.out
      have hrw := HW.out _ (List.getElem_mem hm)
      obtain ⟨rb, ro, hR, hrc, hrl⟩ := (HRR.out.below HX.out.old) m hm
      have hcl := isW_len hcw
      have hrl2 := isW_len hrw
      have HCW := Lib.hid hcw
      have HRW := Lib.hid hrw
      have HRE : Hid (relP p (m : Int) inv = if inv then invW p.rels[m] else p.rels[m]) := Lib.hid (hre inv)
      clear hre hcb hcw hrw hrl
      subst hR
      generalize p.rels[m] = r at *
      have hsz := HX.out.size
      have HX2 := Lib.hid (Boxd.start wr (celC c m inv) 89)
      have HX1 := Lib.hid (HX.out.on HX2.out.old)
      have hrlt := lt_of_cell hrc
      have c1 := HX1.out.cell 1
      simp only [List.getElem?_toArray, List.getElem?_cons_zero, List.getElem?_cons_succ] at c1
      have HRD : Hid (Rd w (prC p.k (some ⟨rb, ro, none⟩) p.rels.length rc) wr.heap.size c inv s O oc (wr.alloc (.cells (celC c m inv) 89))) := Lib.hid
        ⟨HOW.out.alloc _, HX1.out, HX2.out.cell 0, HX2.out.cell 2, fun e => by
          rcases own_shape HOW.out with ⟨h, _⟩ | ⟨g, h, _, h2⟩
          · rw [h] at e; cases e
          · exact absurd (show g = wr.heap.size by rw [h] at e; simpa [blk] using e) (by omega)⟩
      have hl1 := runR_len c s
      have hA1 := appRed_any (w.heap.size + 1) O oc s ⟨c.toArray⟩ _ HRD.out.own (by rw [size_mk]; omega) (by simp; omega)
      change Calls Tryz.prog 224 #[.slice O s.length oc, .string ⟨c.toArray⟩] (wr.alloc (.cells (celC c m inv) 89)) (AppP _ _ O (runR s c)) at hA1
      have HB0 := Lib.hid HX1.out.old
      cases inv with
      | false =>
        have HST2 : Hid (bndR p (d.take (k + 1)) = runR (runR (runR s c) r) (invW c)) := Lib.hid (by rw [HST.out, HS.out, HRE.out]; rfl)
        clear HST HRE
        go_wp2_with fail
        refine hA1.mono ?_
        intro e w1 ha
        obtain ⟨A1, cap1, rfl, hrd⟩ := HRD.out.app ha
        have HRD1 := Lib.hid hrd
        have hz1 := hrd.box.size
        have k0 := hrd.conj
        generalize hs1 : runR s c = s1 at *
        have HS1 := Lib.hid hs1
        have hl2 := runR_len r s1
        have hA2 := appRed_any (w.heap.size + 1) A1 cap1 s1 ⟨(r).toArray⟩ w1 hrd.own (by rw [size_mk]; omega) (by omega)
        change Calls Tryz.prog 224 #[.slice A1 s1.length cap1, .string ⟨(r).toArray⟩] w1 (AppP _ _ A1 (runR s1 r)) at hA2
        clear ha hrd hA1 hs1
        go_wp2_with fail
        refine hA2.mono ?_
        intro e w2 ha
        obtain ⟨A2, cap2, rfl, hrd⟩ := HRD1.out.app ha
        have HRD2 := Lib.hid hrd
        have hz2 := hrd.box.size
        have k02 := hrd.conj
        generalize hs2 : runR s1 r = s2 at *
        have HS2 := Lib.hid hs2
        have hI := Inverse_yes ⟨c.toArray⟩ w2 (HT.out.on hrd.box.old) HCW.out (by rw [size_mk]; omega)
        change Calls Tryz.prog 75 #[.string ⟨c.toArray⟩] w2 (fun e w' => e = .returned (.string ⟨(invW c).toArray⟩) ∧ Below w2.heap.size w2 w') at hI
        clear ha hrd hA2 hs2 k0
        go_wp2_with fail
        refine hI.mono ?_
        rintro e w3 ⟨rfl, hb3⟩
        have HRD3 := Lib.hid (HRD2.out.on hb3)
        have hz3 := HRD3.out.box.size
        have hil := invW_len c
        have hl3 := runR_len (invW c) s2
        have hA3 := appRed_any (w.heap.size + 1) A2 cap2 s2 ⟨(invW c).toArray⟩ w3 HRD3.out.own (by rw [size_mk]; omega) (by omega)
        change Calls Tryz.prog 224 #[.slice A2 s2.length cap2, .string ⟨(invW c).toArray⟩] w3 (AppP _ _ A2 (runR s2 (invW c))) at hA3
        have hl4 : (runR s2 (invW c)).length ≤ (k + 1) * 300000 := by omega
        clear hb3 k02 hI hil hl3
        generalize hs3 : runR s2 (invW c) = s3 at *
        have HS3 := Lib.hid hs3
        clear hs3
        go_wp2_with fail
        refine hA3.mono ?_
        intro e w4 ha
        obtain ⟨A3, cap3, rfl, hrd⟩ := HRD3.out.app ha
        have HRD4 := Lib.hid hrd
        clear ha hrd hA3
        go_wp2
        go_roundw
        case rel => exact ⟨k + 1, s3, A3, cap3, by omega, by go_num, Lib.hid (by rw [HST2.out]), hl4, rfl, Lib.hid HRD4.out.own, Lib.hid HRD4.out.box⟩
        case measure => simp [intOf]; omega
      | true =>
        have HST2 : Hid (bndR p (d.take (k + 1)) = runR (runR (runR s c) (invW r)) (invW c)) := Lib.hid (by rw [HST.out, HS.out, HRE.out]; rfl)
        clear HST HRE
        have hJ := Inverse_yes ⟨r.toArray⟩ (wr.alloc (.cells (celC c m true) 89)) (HT.out.on HB0.out) HRW.out (by rw [size_mk]; omega)
        change Calls Tryz.prog 75 #[.string ⟨r.toArray⟩] (wr.alloc (.cells (celC c m true) 89)) (fun e w' => e = .returned (.string ⟨(invW r).toArray⟩) ∧ Below (wr.alloc (.cells (celC c m true) 89)).heap.size (wr.alloc (.cells (celC c m true) 89)) w') at hJ
        have hil0 := invW_len r
        clear hA1
        go_wp2_with fail
        refine hJ.mono ?_
        rintro e w0 ⟨rfl, hb0⟩
        have HRD0 := Lib.hid (HRD.out.on hb0)
        have hz0 := HRD0.out.box.size
        have k00 := HRD0.out.conj
        have hA1 := appRed_any (w.heap.size + 1) O oc s ⟨c.toArray⟩ w0 HRD0.out.own (by rw [size_mk]; omega) (by omega)
        change Calls Tryz.prog 224 #[.slice O s.length oc, .string ⟨c.toArray⟩] w0 (AppP _ _ O (runR s c)) at hA1
        clear hb0 hJ HRD
        generalize invW r = r2 at *
        go_wp2_with fail
        refine hA1.mono ?_
        intro e w1 ha
        obtain ⟨A1, cap1, rfl, hrd⟩ := HRD0.out.app ha
        have HRD1 := Lib.hid hrd
        have hz1 := hrd.box.size
        have k0 := hrd.conj
        generalize hs1 : runR s c = s1 at *
        have HS1 := Lib.hid hs1
        have hl2 := runR_len r2 s1
        have hA2 := appRed_any (w.heap.size + 1) A1 cap1 s1 ⟨(r2).toArray⟩ w1 hrd.own (by rw [size_mk]; omega) (by omega)
        change Calls Tryz.prog 224 #[.slice A1 s1.length cap1, .string ⟨(r2).toArray⟩] w1 (AppP _ _ A1 (runR s1 r2)) at hA2
        clear ha hrd hA1 hs1
        go_wp2_with fail
        refine hA2.mono ?_
        intro e w2 ha
        obtain ⟨A2, cap2, rfl, hrd⟩ := HRD1.out.app ha
        have HRD2 := Lib.hid hrd
        have hz2 := hrd.box.size
        have k02 := hrd.conj
        generalize hs2 : runR s1 r2 = s2 at *
        have HS2 := Lib.hid hs2
        have hI := Inverse_yes ⟨c.toArray⟩ w2 (HT.out.on hrd.box.old) HCW.out (by rw [size_mk]; omega)
        change Calls Tryz.prog 75 #[.string ⟨c.toArray⟩] w2 (fun e w' => e = .returned (.string ⟨(invW c).toArray⟩) ∧ Below w2.heap.size w2 w') at hI
        clear ha hrd hA2 hs2 k0
        go_wp2_with fail
        refine hI.mono ?_
        rintro e w3 ⟨rfl, hb3⟩
        have HRD3 := Lib.hid (HRD2.out.on hb3)
        have hz3 := HRD3.out.box.size
        have hil := invW_len c
        have hl3 := runR_len (invW c) s2
        have hA3 := appRed_any (w.heap.size + 1) A2 cap2 s2 ⟨(invW c).toArray⟩ w3 HRD3.out.own (by rw [size_mk]; omega) (by omega)
        change Calls Tryz.prog 224 #[.slice A2 s2.length cap2, .string ⟨(invW c).toArray⟩] w3 (AppP _ _ A2 (runR s2 (invW c))) at hA3
        have hl4 : (runR s2 (invW c)).length ≤ (k + 1) * 300000 := by omega
        clear hb3 k02 hI hil hl3
        generalize hs3 : runR s2 (invW c) = s3 at *
        have HS3 := Lib.hid hs3
        clear hs3
        go_wp2_with fail
        refine hA3.mono ?_
        intro e w4 ha
        obtain ⟨A3, cap3, rfl, hrd⟩ := HRD3.out.app ha
        have HRD4 := Lib.hid hrd
        clear ha hrd hA3
        go_wp2
        go_roundw
        case rel => exact ⟨k + 1, s3, A3, cap3, by omega, by go_num, Lib.hid (by rw [HST2.out]), hl4, rfl, Lib.hid HRD4.out.own, Lib.hid HRD4.out.box⟩
        case measure => simp [intOf]; omega
    · obtain rfl : k = d.length := by omega
      have HZ : Hid (s.reverse = bnd p d) := Lib.hid (by rw [HS.out, List.take_length]; rfl)
      have hrow := rowAt_own HOW.out
      rw [HZ.out] at hrow
      have HL : Hid (s.length = (bnd p d).length) := Lib.hid (by rw [← HZ.out, List.length_reverse])
      have HRW := Lib.hid hrow
      clear hrow
      go_wp2
      go_ret
      exact ⟨O, oc, by rw [← HL.out]; rfl, HRW.out, HX.out.old⟩
end Go.Proofs.YteephomlnbbjeaaGreatDoor

namespace Go.Proofs.YteephomlnbbjeaaGreatDoor
open Go Go.RowKit

def dskB (p : Pr) (d : List Cel) (u : List UInt8) : Bool := celsB p d && (bnd p d == u)

set_option maxHeartbeats 1000000 in
set_option maxRecDepth 100000 in
theorem isDisk_any (p : Pr) (R : Option Addr) (rc : Nat) (D : Option Addr) (dc : Nat) (d : List Cel) (u : List UInt8) (w : World) (ht : Tabs w) (hr : StrsAt w R p.rels) (hd : CellsAt w D d) (hw : ∀ r ∈ p.rels, isW r = true) (hm : p.rels.length ≤ maxLen) (hdm : d.length ≤ maxLen) :
    Calls Tryz.prog 162 #[prV p.k R p.rels.length rc, .slice D d.length dc, .string ⟨u.toArray⟩] w fun e w' => e = .returned (.bool (dskB p d u)) ∧ Below w.heap.size w w' := by
  have HBX := Lib.hid (Boxd.start w (prC p.k R p.rels.length rc) 24)
  have HT := Lib.hid (ht.on HBX.out.old)
  have HR := Lib.hid (hr.below HBX.out.old)
  have HD := Lib.hid (hd.below HBX.out.old)
  have HW := Lib.hid hw
  have hA := areCells_any p R rc D dc d _ HT.out HD.out hm hdm
  clear ht hr hd hw hm hdm
  cases hc : celsB p d with
  | false =>
    have HZ : Hid (dskB p d u = false) := Lib.hid (by simp [dskB, hc])
    rw [hc] at hA
    clear hc
    go_enter Tryz.func162, Tryz.ntmps162
    go_wp2_with fail
    refine hA.mono ?_
    rintro e w1 ⟨rfl, hb⟩
    have HB := Lib.hid (HBX.out.on hb).old
    clear hb
    go_wp2
    go_ret
    exact ⟨ret_bool HZ.out.symm, HB.out⟩
  | true =>
    have HZ : Hid (dskB p d u = (bnd p d == u)) := Lib.hid (by simp [dskB, hc])
    have HC := Lib.hid hc
    rw [hc] at hA
    clear hc
    go_enter Tryz.func162, Tryz.ntmps162
    go_wp2_with fail
    refine hA.mono ?_
    rintro e w1 ⟨rfl, hb⟩
    have HB := Lib.hid (HBX.out.on hb)
    have k0 := HB.out.cell 0
    have k1 := HB.out.cell 1
    simp only [List.getElem?_toArray, List.getElem?_cons_zero, List.getElem?_cons_succ] at k0 k1
    have hBd := boundary_any p R rc D dc d w1 (HT.out.on hb) (HR.out.below hb) (HD.out.below hb) HW.out HC.out
    clear hb hA
    generalize bnd p d = q at *
    go_wp2_with fail
    refine hBd.mono ?_
    rintro e w2 ⟨A', cap', rfl, hrow, hb2⟩
    have hrun := run_string_row w2 A' cap' q hrow
    have HB2 := Lib.hid (HB.out.on hb2).old
    clear hb2 hrow hBd
    go_wp2
    go_ret
    exact ⟨ret_bool (by rw [HZ.out]), HB2.out⟩

/-! LETTERS. -/
theorem letter_any (n : Nat) (w : World) (ht : Tabs w) (hn : n < 8) :
    Calls Tryz.prog 117 #[.int .i64 n] w fun e w' => e = .returned (.int .u8 (let_ (2 * (n : Int))).toNat) ∧ w = w' := by
  have hI := Letter_any (2 * n) w ht (by omega) (by omega)
  go_enter Tryz.func117, Tryz.ntmps117
  go_wp2_with fail
  refine hI.mono ?_
  rintro e w1 ⟨rfl, rfl⟩
  go_wp2
  go_ret
  exact ⟨rfl, rfl⟩
def letS (k : Nat) : List (List UInt8) := (List.range k).map (fun (i : Nat) => [let_ (2 * (i : Int))])
theorem letS_len (k : Nat) : (letS k).length = k := by simp [letS]
theorem letS_isW8 : ∀ i : Nat, i < 8 → isW [let_ (2 * (i : Int))] = true := by decide +kernel
theorem letS_isW {k : Nat} (h : k ≤ 8) : ∀ x ∈ letS k, isW x = true := by
  intro x hx
  obtain ⟨i, hi, rfl⟩ := List.mem_map.1 hx
  exact letS_isW8 i (by have := List.mem_range.1 hi; omega)
end Go.Proofs.YteephomlnbbjeaaGreatDoor

namespace Go.Proofs.YteephomlnbbjeaaGreatDoor
open Go Go.RowKit

/-- A block whose cells are known. -/
structure HasCells (w : World) (b : Nat) (cs : Array Value) : Prop where
  lt : b < w.heap.size
  cell : ∀ i, w.cell? ⟨b, i, none⟩ = cs[i]?
theorem HasCells.new (w : World) (cs : Array Value) (t : TypeId) : HasCells (w.alloc (.cells cs t)) w.heap.size cs :=
  ⟨by simp, fun i => cell_of_row _ w.heap.size i cs t (0, 0) (heap_alloc_new w _)⟩
theorem HasCells.below {w w' : World} {b : Nat} {cs : Array Value} (h : HasCells w b cs) (hb : Below w.heap.size w w') : HasCells w' b cs :=
  ⟨Nat.lt_of_lt_of_le h.lt hb.size, fun i => (hb.cell (p := ⟨b, i, none⟩) h.lt).trans (h.cell i)⟩
theorem HasCells.grown {w w' : World} {b : Nat} {cs : Array Value} {row : Option Nat} (h : HasCells w b cs) (hg : w.grownBy w' row) (hne : row ≠ some b) : HasCells w' b cs :=
  ⟨Nat.lt_of_lt_of_le h.lt hg.size, fun i => (World.cell?_of_block (w := w) (a := ⟨b, i, none⟩) (hg.block b h.lt (fun e => hne e.symm))).trans (h.cell i)⟩
theorem HasCells.drewN {w : World} {b : Nat} {cs : Array Value} (h : HasCells w b cs) (n : Nat) : HasCells (w.drewN n) b cs := ⟨h.lt, h.cell⟩
theorem alloc_cell (w : World) (cs : Array Value) (t : TypeId) (i : Nat) : (w.alloc (.cells cs t)).cell? ⟨w.heap.size, i, none⟩ = cs[i]? := (HasCells.new w cs t).cell i

/-- A list whose i outermost pairs have been exchanged. -/
structure RevTo {α : Type} (l cur : List α) (i : Nat) : Prop where
  len : cur.length = l.length
  ats : ∀ k, k < l.length → cur[k]? = if k < i ∨ l.length ≤ k + i then l[l.length - 1 - k]? else l[k]?
theorem RevTo.start {α : Type} (l : List α) : RevTo l l 0 := ⟨rfl, fun k hk => by rw [if_neg (by omega)]⟩
theorem RevTo.stop {α : Type} {l cur : List α} {i : Nat} (h : RevTo l cur i) (hi : l.length ≤ 2 * i + 1) : cur = l.reverse := by
  apply List.ext_getElem?
  intro k
  by_cases hk : k < l.length
  · rw [h.ats k hk, List.getElem?_reverse hk]
    split
    · rfl
    · rw [show l.length - 1 - k = k by omega]
  · rw [List.getElem?_eq_none (by rw [h.len]; omega), List.getElem?_eq_none (by rw [List.length_reverse]; omega)]
theorem RevTo.step {α : Type} {l cur : List α} {i : Nat} (h : RevTo l cur i) (hi : 2 * i + 1 < l.length) (x y : α) (hx : cur[i]? = some x) (hy : cur[l.length - 1 - i]? = some y) :
    RevTo l ((cur.set i y).set (l.length - 1 - i) x) (i + 1) := by
  have h1 := h.ats i (by omega)
  have h2 := h.ats (l.length - 1 - i) (by omega)
  rw [if_neg (by omega)] at h1 h2
  have hl := h.len
  refine ⟨by simp [h.len], fun k hk => ?_⟩
  rw [List.getElem?_set, List.getElem?_set]
  by_cases e1 : l.length - 1 - i = k
  · subst e1
    rw [if_pos rfl, if_pos (by simp; omega), if_pos (by omega), show l.length - 1 - (l.length - 1 - i) = i by omega, ← h1, hx]
  · rw [if_neg e1]
    by_cases e2 : i = k
    · subst e2
      rw [if_pos rfl, if_pos (by omega), if_pos (by omega), ← h2, hy]
    · rw [if_neg e2, h.ats k hk]
      by_cases hc : k < i ∨ l.length ≤ k + i
      · rw [if_pos hc, if_pos (by omega)]
      · rw [if_neg hc, if_neg (by omega)]
theorem Tryz.info89 : (Tryz.prog.info? 89).map (fun i => (i.zero, i.size, i.bytes)) = some (some (.agg #[.string ⟨#[]⟩, .int .i64 0, .bool false]), 3, 32) := by kernel_rfl
def cel3 (c : Cel) : List Value := [.string ⟨c.conj.toArray⟩, .int .i64 c.rel, .bool c.inv]
def cs3 (d : List Cel) : List Value := d.flatMap cel3
theorem cs3_cons (c : Cel) (d : List Cel) : cs3 (c :: d) = cel3 c ++ cs3 d := List.flatMap_cons
theorem cs3_app (d e : List Cel) : cs3 (d ++ e) = cs3 d ++ cs3 e := List.flatMap_append
theorem cs3_len (d : List Cel) : (cs3 d).length = d.length * 3 := by
  induction d with
  | nil => rfl
  | cons c d ih => rw [cs3_cons, List.length_append, ih]; simp [cel3]; omega
theorem cs3_get (d : List Cel) (i : Nat) (h : i < d.length) (j : Nat) (hj : j < 3) : (cs3 d)[i * 3 + j]? = (cel3 d[i])[j]? := by
  induction d generalizing i with
  | nil => simp at h
  | cons c d ih =>
    rw [cs3_cons]
    cases i with
    | zero => rw [List.getElem?_append_left (by simp [cel3]; omega)]; simp
    | succ i =>
      rw [List.getElem?_append_right (by simp [cel3]; omega), show (i + 1) * 3 + j - (cel3 c).length = i * 3 + j by simp [cel3]; omega, ih i (by simpa using h)]
      simp
theorem cs3_one (d : List Cel) : ∀ u ∈ cs3 d, u.oneCell' = true := by
  intro u hu
  simp only [cs3, List.mem_flatMap, cel3, List.mem_cons, List.not_mem_nil, or_false] at hu
  obtain ⟨c, _, rfl | rfl | rfl⟩ := hu <;> rfl
theorem cs3_set (d : List Cel) (k : Nat) (c : Cel) (h : k < d.length) : cs3 (d.set k c) = (((cs3 d).set (k * 3) (.string ⟨c.conj.toArray⟩)).set (k * 3 + 1) (.int .i64 c.rel)).set (k * 3 + 2) (.bool c.inv) := by
  induction d generalizing k with
  | nil => simp at h
  | cons x d ih =>
    cases k with
    | zero => rw [List.set_cons_zero, cs3_cons, cs3_cons]; simp [cel3]
    | succ k =>
      rw [List.set_cons_succ, cs3_cons, cs3_cons, ih k (by simpa using h)]
      have e : (cel3 x).length = 3 := rfl
      rw [show (k + 1) * 3 = (k * 3) + (cel3 x).length by rw [e]; omega, show k * 3 + (cel3 x).length + 1 = (k * 3 + 1) + (cel3 x).length by omega, show k * 3 + (cel3 x).length + 2 = (k * 3 + 2) + (cel3 x).length by omega]
      rw [List.set_append_right _ _ (by omega), List.set_append_right _ _ (by omega), List.set_append_right _ _ (by omega)]
      simp
theorem cs3_set0 (d : List Cel) (k : Nat) (u : List UInt8) (h : k < d.length) : cs3 (d.set k ⟨u, (d[k]).rel, (d[k]).inv⟩) = (cs3 d).set (k * 3) (.string ⟨u.toArray⟩) := by
  rw [cs3_set d k _ h]
  have g1 := cs3_get d k h 1 (by omega)
  have g2 := cs3_get d k h 2 (by omega)
  simp only [cel3, List.getElem?_cons_succ, List.getElem?_cons_zero] at g1 g2
  have l := cs3_len d
  apply List.ext_getElem?
  intro i
  simp only [List.getElem?_set, List.length_set]
  by_cases e2 : k * 3 + 2 = i
  · subst e2; rw [if_pos rfl, if_pos (by omega), if_neg (by omega), g2]
  · rw [if_neg e2]
    by_cases e1 : k * 3 + 1 = i
    · subst e1; rw [if_pos rfl, if_pos (by omega), if_neg (by omega), g1]
    · rw [if_neg e1]
/-- Conjugators of a size that a machine has. -/
def Sized (d : List Cel) : Prop := ∀ c ∈ d, c.conj.length ≤ 140737488351232
theorem cells_own {w : World} {B n cap : Nat} {A : Option Addr} {d : List Cel} (h : w.ownsRow B 89 3 (.slice A n cap) n (cs3 d)) (hs : Sized d) : CellsAt w A d := by
  intro i hi
  have hl : d.length = n := by have := h.1; rw [cs3_len] at this; omega
  rcases h.2 with ⟨h2, h3⟩ | ⟨g, c', cur, hv, hg, hh, hnc, hcm, hcs, ht⟩
  · omega
  · simp only [Value.slice.injEq, true_and] at hv
    obtain ⟨rfl, rfl⟩ := hv
    have key : ∀ j, j < 3 → w.cell? ⟨g, 0 + i * 3 + j, none⟩ = (cel3 d[i])[j]? := by
      intro j hj
      rw [cell_of_row w g (0 + i * 3 + j) cur 89 (0, 0) hh]
      have : (cur.toList.take (n * 3))[i * 3 + j]? = (cs3 d)[i * 3 + j]? := by rw [ht]
      rw [List.getElem?_take, if_pos (by omega), cs3_get d i hi j hj] at this
      rw [Nat.zero_add]; simpa using this
    exact ⟨g, 0, rfl, key 0 (by omega), key 1 (by omega), key 2 (by omega), hs _ (List.getElem_mem _)⟩
theorem cells_news {w : World} {ad : Addr} {d : List Cel} (h : CellsAt w (some ad) d) : ∀ j u, (cs3 d)[j]? = some u → w.cell? (ad.add j) = some u := by
  intro j u hu
  have hj : j < d.length * 3 := by
    rcases Nat.lt_or_ge j (cs3 d).length with h | h
    · rwa [cs3_len] at h
    · rw [List.getElem?_eq_none h] at hu; cases hu
  obtain ⟨b, o, he, hc⟩ := h (j / 3) (by omega)
  simp only [Option.some.injEq] at he
  subst he
  have hd : j = j / 3 * 3 + j % 3 := by omega
  rw [add_lit]
  rw [hd, cs3_get d (j / 3) (by omega) (j % 3) (by omega)] at hu
  have h3 : j % 3 = 0 ∨ j % 3 = 1 ∨ j % 3 = 2 := by omega
  rcases h3 with h3 | h3 | h3 <;> rw [h3] at hu hd <;> simp only [cel3, List.getElem?_cons_succ, List.getElem?_cons_zero] at hu <;> cases hu
  · rw [show o + j = o + j / 3 * 3 by omega]; exact hc.conj
  · rw [show o + j = o + j / 3 * 3 + 1 by omega]; exact hc.rel
  · rw [show o + j = o + j / 3 * 3 + 2 by omega]; exact hc.inv
/-- append(x, y...), cells. -/
theorem append_cells {ops : Array Oper} {rest : List Oper} {o : Oper} {a : Act} {Q : Exit → Act → World → Prop} (w : World) (hgd : o.guard = none) (s x : Operand)
    (ho : o.op = .call { callee := .builtin .append, args := #[s, x], argTypes := #[56, 56] })
    (B : Nat) (A : Option Addr) (n cap : Nat) (d e : List Cel) (hs : a.eval s = .slice A n cap) (hown : w.ownsRow B 89 3 (.slice A n cap) n (cs3 d))
    (ad : Addr) (c : Nat) (m : Nat) (hme : m = e.length) (hx : a.eval x = .slice (some ad) m c) (hm : CellsAt w (some ad) e) (hn : n + m ≤ 1000000000000) (hB : B ≤ w.heap.size)
    (h : ∀ A' cap' w', w'.ownsRow B 89 3 (.slice A' (n + m) cap') (n + m) (cs3 (d ++ e)) → w.grownBy w' (blk A) → Moved w A A' → wpList Tryz.prog ops Q rest (a.put o.dst (.slice A' (n + m) cap')) w') :
    wpList Tryz.prog ops Q (o :: rest) a w := by
  subst hme
  obtain ⟨i0, hi, hz0, hz1, hz2⟩ := info_parts Tryz.info89
  refine append_gen _ hgd s x 56 ho 89 i0 (.agg #[.string ⟨#[]⟩, .int .i64 0, .bool false]) 3 32 Tryz.underlying56 hi hz0 hz1 hz2 rfl (by decide) B A n cap (cs3 d) hs hown ad e.length c (cs3 e) hx (by rw [cs3_len]) (cells_news hm) (cs3_one e) (by unfold maxLen; omega) (by omega) hB ?_
  intro A' cap' w' hown' hgrow hm
  exact h A' cap' w' (by rw [cs3_app]; exact hown') hgrow hm
def CloneC (w : World) (d : List Cel) (e : Ending) (w' : World) : Prop :=
  ∃ A' cap', e = .returned (.slice A' d.length cap') ∧ w'.ownsRow w.heap.size 89 3 (.slice A' d.length cap') d.length (cs3 d) ∧ Below w.heap.size w w'
set_option maxHeartbeats 1000000 in
theorem CloneC_any (A : Option Addr) (cap : Nat) (d : List Cel) (w : World) (hl : CellsAt w A d) (hA : A = none → d = []) (hn : d.length ≤ 1000000000) :
    Calls Tryz.prog 91 #[.slice A d.length cap] w (CloneC w d) := by
  have he : ∀ wx, (binOp .eql 56 (.slice A d.length cap) (.slice none 0 0)).run Tryz.prog wx = .ok (.bool A.isNone) wx := fun wx => Lib.run_eql_slice_nil wx 56 89 A _ _ _ _ Tryz.underlying56
  cases A with
  | none =>
    obtain rfl := hA rfl
    have he2 : ∀ wx, (binOp .eql 56 (.slice none 0 cap) (.slice none 0 0)).run Tryz.prog wx = .ok (.bool true) wx := fun wx => Lib.run_eql_slice_nil wx 56 89 none _ _ _ _ Tryz.underlying56
    show Calls Tryz.prog 91 #[.slice none 0 cap] w (CloneC w [])
    clear hl hA he hn
    go_enter Tryz.func91, Tryz.ntmps91
    go_wp2
    go_ret
    exact ⟨none, 0, rfl, World.ownsRow_nil _ _ _ _, Below.refl _ _⟩
  | some ad =>
    have HL := Lib.hid hl
    have HO := Lib.hid (own_empty w w.heap.size 89 3 (Nat.le_refl _))
    have HB : Hid (Below w.heap.size w (w.alloc (.cells #[] 89))) := Lib.hid ((Below.refl _ _).alloc (Nat.le_refl _) _)
    clear hl hA
    go_enter Tryz.func91, Tryz.ntmps91
    go_wp2_with (at_builtin; refine append_cells (w.alloc (.cells #[] 89)) rfl (.tmp 5) (.tmp 6) rfl w.heap.size (some ⟨w.heap.size, 0, none⟩) 0 0 [] d rfl HO.out ad cap _ rfl rfl (HL.out.below HB.out) (by omega) (by simp) ?_; intro A' cap' w1 hown1 hg1 hm1)
    have H1 := Lib.hid hown1
    have B1 := Lib.hid (below_of_grown HB.out hg1 (by simp) (fun a ha => by cases ha; exact Nat.le_refl _))
    clear hown1 hg1 hm1
    go_wp2
    go_ret
    have h1 := H1.out
    simp only [Nat.zero_add, List.nil_append] at h1
    exact ⟨A', cap', by simp, h1, B1.out⟩
/-- A whole cell stored. -/
def put3 (w : World) (g o : Nat) (c : List UInt8) (r : Int) (i : Bool) : World := ((w.setCell ⟨g, o, none⟩ (.string ⟨c.toArray⟩)).setCell ⟨g, o + 1, none⟩ (.int .i64 r)).setCell ⟨g, o + 2, none⟩ (.bool i)
theorem own_put3 {w : World} {B n cap g : Nat} {d : List Cel} (h : w.ownsRow B 89 3 (.slice (some ⟨g, 0, none⟩) n cap) n (cs3 d)) (k : Nat) (hk : k < d.length) (x : Cel) :
    (put3 w g (k * 3) x.conj x.rel x.inv).ownsRow B 89 3 (.slice (some ⟨g, 0, none⟩) n cap) n (cs3 (d.set k x)) := by
  rw [cs3_set d k x hk]
  exact (((h.stored _ _).1.stored _ _).1.stored _ _).1
theorem own_drew {w : World} {B e sz n : Nat} {v : Value} {xs : List Value} (h : w.ownsRow B e sz v n xs) : w.drew.ownsRow B e sz v n xs := h
theorem below_put3 (w : World) (g o : Nat) (c : List UInt8) (r : Int) (i : Bool) {B : Nat} (hB : B ≤ g) : Below B w (put3 w g o c r i) :=
  (((Below.refl B w).setCell (p := ⟨g, o, none⟩) hB _).setCell (p := ⟨g, o + 1, none⟩) hB _).setCell (p := ⟨g, o + 2, none⟩) hB _
set_option maxHeartbeats 4000000 in
set_option maxRecDepth 1000000 in
theorem ReverseC_any (B : Nat) (A : Option Addr) (cap : Nat) (l : List Cel) (w : World) (hown : w.ownsRow B 89 3 (.slice A l.length cap) l.length (cs3 l)) (hs : Sized l) (hn : l.length ≤ 1000000000) :
    Calls Tryz.prog 98 #[.slice A l.length cap] w fun e w' => e = .returned (.tuple #[]) ∧ w'.ownsRow B 89 3 (.slice A l.length cap) l.length (cs3 l.reverse) ∧ Below B w w' := by
  have HO := Lib.hid hown
  have HSZ := Lib.hid hs
  clear hown hs
  go_enter Tryz.func98, Tryz.ntmps98
  go_wp2
  go_loopw [2, 3] (fun i j wr => ∃ (k : Nat) (q : Int) (cur : List Cel), i = .int .i64 (k : Int) ∧ j = .int .i64 q ∧ q + 1 + (k : Int) = (l.length : Int) ∧ RevTo l cur k ∧ Sized cur ∧ wr.ownsRow B 89 3 (.slice A l.length cap) l.length (cs3 cur) ∧ Below B w wr)
    (fun i _ _ => l.length - (intOf i).toNat)
  case atStart => exact ⟨0, _, l, rfl, rfl, by simp, RevTo.start l, HSZ.out, HO.out, Below.refl _ _⟩
  case round =>
    obtain ⟨k, q, cur, rfl, rfl, hq, hrev, hsz, hown, hb⟩ := hrel
    have HR := Lib.hid hrev
    have HOW := Lib.hid hown
    have HB := Lib.hid hb
    have HSC := Lib.hid hsz
    clear hrev hown hb hsz
    by_cases hlt : (k : Int) < q
    · obtain ⟨j, rfl⟩ := Int.eq_ofNat_of_zero_le (show 0 ≤ q by omega)
      have hj : j = l.length - 1 - k := by omega
      have hlen : l.length = j + 1 + k := by omega
      have hcl := HR.out.len
      obtain ⟨g, o, hA, hx⟩ := cells_own HOW.out HSC.out k (by omega)
      obtain ⟨g', o', hA', hy⟩ := cells_own HOW.out HSC.out j (by omega)
      obtain ⟨rfl, rfl⟩ : g = g' ∧ o = o' := by rw [hA] at hA'; cases hA'; exact ⟨rfl, rfl⟩
      obtain rfl : o = 0 := by
        rcases own_shape HOW.out with ⟨h, _⟩ | ⟨g', h, _⟩
        · rw [hA] at h; cases h
        · rw [hA] at h; cases h; rfl
      subst hA
      rw [Nat.zero_add] at hx hy
      obtain ⟨x0, x1, x2, x3⟩ := hx
      obtain ⟨y0, y1, y2, y3⟩ := hy
      have HXE : Hid (cur[k]? = some (cur[k]'(by omega))) := Lib.hid (List.getElem?_eq_getElem (by omega))
      have HYE : Hid (cur[j]? = some (cur[j]'(by omega))) := Lib.hid (List.getElem?_eq_getElem (by omega))
      generalize cur[k]'(by omega) = x at *
      generalize cur[j]'(by omega) = y at *
      obtain ⟨xc, xr, xi⟩ := x
      obtain ⟨yc, yr, yi⟩ := y
      simp only at x0 x1 x2 x3 y0 y1 y2 y3
      have f0 := HOW.out.frozenAt (k * 3)
      have f1 := HOW.out.frozenAt (k * 3 + 1)
      have f2 := HOW.out.frozenAt (k * 3 + 2)
      have e0 := HOW.out.frozenAt (j * 3)
      have e1 := HOW.out.frozenAt (j * 3 + 1)
      have e2 := HOW.out.frozenAt (j * 3 + 2)
      have HJ := Lib.hid hj
      have HL := Lib.hid hlen
      have HCL := Lib.hid hcl
      have hj1 : (j : Int) < (l.length : Int) := by omega
      have hk1 : (k : Int) < (l.length : Int) := by omega
      have hne : k * 3 + 3 ≤ j * 3 := by omega
      clear hj hlen hA' hcl hq
      go_wp2_with fail
      go_region
      go_wp2
      go_roundw
      case rel =>
        have hgB := own_ge HOW.out _ rfl
        have h1 := own_put3 HOW.out k (by have := HL.out; have := HCL.out; omega) ⟨yc, yr, yi⟩
        have h2 := own_put3 h1 j (by rw [List.length_set]; have := HL.out; have := HCL.out; omega) ⟨xc, xr, xi⟩
        have h3 := own_drew h2
        have hb3 : Below B w _ := HB.out.trans (((below_put3 wr g (k * 3) yc yr yi hgB).trans (below_put3 _ g (j * 3) xc xr xi hgB)).drew)
        simp only [put3] at h3 hb3
        refine ⟨k + 1, _, (cur.set k ⟨yc, yr, yi⟩).set j ⟨xc, xr, xi⟩, by go_num, rfl, by have := HL.out; omega, ?_, ?_, h3, hb3⟩
        · have := HR.out.step (by have := HL.out; omega) ⟨xc, xr, xi⟩ ⟨yc, yr, yi⟩ HXE.out (by rw [← HJ.out]; exact HYE.out)
          rw [← HJ.out] at this; exact this
        · intro c hc
          rcases List.mem_or_eq_of_mem_set hc with hc | rfl
          · rcases List.mem_or_eq_of_mem_set hc with hc | rfl
            · exact HSC.out c hc
            · exact y3
          · exact x3
      case measure => have := HL.out; simp [intOf]; omega
    · have HE : Hid (cur = l.reverse) := Lib.hid (HR.out.stop (by omega))
      go_wp2
      go_end0
      exact ⟨rfl, by rw [← HE.out]; exact HOW.out, HB.out⟩
theorem cellOne (w : World) (c : List UInt8) (r : Int) (i : Bool) (t : TypeId) (hl : c.length ≤ 140737488351232) : CellsAt (w.alloc (.cells (celC c r i) t)) (some ⟨w.heap.size, 0, none⟩) [⟨c, r, i⟩] := by
  have hb := (HasCells.new w (celC c r i) t).cell
  intro j hj
  obtain rfl : j = 0 := by simpa using hj
  refine ⟨w.heap.size, 0, rfl, ?_, ?_, ?_, hl⟩
  · simp only [Nat.zero_mul, Nat.add_zero]; rw [hb]; rfl
  · simp only [Nat.zero_mul, Nat.zero_add]; rw [hb]; rfl
  · simp only [Nat.zero_mul, Nat.zero_add]; rw [hb]; rfl
/-- append of one cell, by its literal slice, to a row of the call's own. -/
theorem append_oneC {ops : Array Oper} {rest : List Oper} {o : Oper} {a : Act} {Q : Exit → Act → World → Prop} (w : World) (hgd : o.guard = none) (s x : Operand)
    (ho : o.op = .call { callee := .builtin .append, args := #[s, x], argTypes := #[56, 56] })
    (B : Nat) (A : Option Addr) (n cap : Nat) (d : List Cel) (c : List UInt8) (r : Int) (i : Bool) (hc : c.length ≤ 140737488351232) (hs : a.eval s = .slice A n cap) (hown : w.ownsRow B 89 3 (.slice A n cap) n (cs3 d))
    (hx : a.eval x = .slice (some ⟨w.heap.size, 0, none⟩) 1 1) (hn : n ≤ 100000000000) (hB : B ≤ w.heap.size)
    (h : ∀ A' cap' w', w'.ownsRow B 89 3 (.slice A' (n + 1) cap') (n + 1) (cs3 (d ++ [⟨c, r, i⟩])) → w.grownBy w' (blk A) → Moved w A A' → wpList Tryz.prog ops Q rest (a.put o.dst (.slice A' (n + 1) cap')) w') :
    wpList Tryz.prog ops Q (o :: rest) a (w.alloc (.cells (celC c r i) 89)) := by
  refine append_cells _ hgd s x ho B A n cap d [⟨c, r, i⟩] hs (hown.alloc _) ⟨w.heap.size, 0, none⟩ 1 1 rfl hx (cellOne w c r i 89 hc) (by omega) (by simp; omega) ?_
  intro A' cap' w' hown' hgrow hm
  refine h A' cap' w' hown' (grown_trans (World.grownBy_alloc w _ (blk A)) hgrow (.inl rfl)) ?_
  rcases hm with hm | hm
  · exact .inl hm
  · exact .inr fun k hk => by have := hm k hk; simp at this; omega
end Go.Proofs.YteephomlnbbjeaaGreatDoor
