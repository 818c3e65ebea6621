/-
  Our own text, in the proofs of the laws of package disk (cayleylaw04). Proved here: Boundary and Proves of the program. Conditions: the relators and cells lie in memory as the slices say.
-/
import Derived.Test.YtbcckfggnlmhoaaAn
import Derived.Deep.RegionHeld3
import Derived.Deep.RegionWith
namespace Go.Proofs.Ytbcckfggnlmhoaa
open Go Go.RowKit

/-- What Boundary hands back. -/
def bdS (p : Pr) (d : List Cel) : List UInt8 := if chk p [] [d] = 0 then bnd p d else []
theorem bdS_no {p : Pr} {d : List Cel} (h : chk p [] [d] ≠ 0) : bdS p d = [] := if_neg h
theorem bdS_yes {p : Pr} {d : List Cel} (h : chk p [] [d] = 0) : bdS p d = bnd p d := if_pos h

theorem alloc_cell (w : World) (cs : Array Value) (t : TypeId) (i : Nat) : (w.alloc (.cells cs t)).cell? ⟨w.heap.size, i, none⟩ = cs[i]? := (HasCells.new w cs t).cell i
theorem disks_one {w : World} {D : Option Addr} {dc : Nat} {d : List Cel} (hd : CellsAt w D d) (hm : d.length ≤ 5000000000000) (t : TypeId) :
    DisksAt (w.alloc (.cells #[.slice D d.length dc] t)) (some ⟨w.heap.size, 0, none⟩) [⟨D, dc, d⟩] := by
  intro i hi
  obtain rfl : i = 0 := by simpa using hi
  exact ⟨w.heap.size, 0, rfl, by rw [Nat.zero_add, alloc_cell]; rfl, hd.below ((Below.refl _ w).alloc (Nat.le_refl _) _), hm⟩
theorem rels_none (w : World) (A : Option Addr) : RelsAt w A [] := fun i hi => absurd hi (Nat.not_lt_zero i)
theorem rels_one {w : World} {l : List UInt8} (hm : l.length ≤ maxLen) (t : TypeId) : RelsAt (w.alloc (.cells #[.string ⟨l.toArray⟩] t)) (some ⟨w.heap.size, 0, none⟩) [l] := by
  intro i hi
  obtain rfl : i = 0 := by simpa using hi
  exact ⟨w.heap.size, 0, rfl, by rw [Nat.zero_add, alloc_cell]; rfl, hm⟩

set_option maxHeartbeats 2000000 in
set_option maxRecDepth 100000 in
theorem Boundary_any (p : Pr) (R : Option Addr) (rc : Nat) (D : Option Addr) (dc : Nat) (d : List Cel) (w : World) (hr : RelsAt w R p.rels) (hm : p.rels.length ≤ maxLen) (hd : CellsAt w D d) (hdm : d.length ≤ 5000000000000) :
    Calls Try.prog 12 #[prV p.k R p.rels.length rc, .slice D d.length dc] w fun e w' => e = .returned (.tuple #[.string ⟨(bdS p d).toArray⟩, .int .i64 (chk p [] [d])]) ∧ Below w.heap.size w w' := by
  have HBX := Lib.hid (Boxd.start w (prC p.k R p.rels.length rc) 24)
  have HB1 := Lib.hid (HBX.out.on (Boxd.start (w.alloc (.cells (prC p.k R p.rels.length rc) 24)) #[.slice D d.length dc] 25).old)
  have hE := examine_any p R rc none 0 [] (some ⟨(w.alloc (.cells (prC p.k R p.rels.length rc) 24)).heap.size, 0, none⟩) 1 [⟨D, dc, d⟩] ((w.alloc (.cells (prC p.k R p.rels.length rc) 24)).alloc (.cells #[.slice D d.length dc] 25)) (hr.below HB1.out.old) hm (rels_none _ _) (disks_one (hd.below HBX.out.old) hdm 25) (by simp) (by simp)
  simp only [World.size_alloc, List.map_cons, List.map_nil, List.length_cons, List.length_nil] at hE
  have HREL := Lib.hid hr
  have HD := Lib.hid hd
  clear hr hd
  by_cases hk : chk p [] [d] = 0
  · have HK := Lib.hid hk
    rw [hk] at hE
    clear hk
    go_enter Try.func12, Try.ntmps12
    go_wp2_with fail
    refine hE.mono ?_
    rintro e w1 ⟨rfl, hb1⟩
    have HX := Lib.hid (HB1.out.on' (hb1.mono (by omega)))
    have hB := boundary_any p R rc D dc d w1 (HREL.out.below HX.out.old) (HD.out.below HX.out.old) (chk_ok HK.out).1 (by have := (chk_ok HK.out).2.2; simpa using this)
    have c0 := HX.out.cell 0
    have c1 := HX.out.cell 1
    simp only [List.getElem?_toArray, List.getElem?_cons_zero, List.getElem?_cons_succ] at c0 c1
    clear hE hb1
    go_wp2_with fail
    refine hB.mono ?_
    rintro e w2 ⟨A2, cap2, rfl, hrow2, hb2⟩
    have hrun := run_string_row w2 A2 cap2 _ hrow2
    have HX2 := Lib.hid (HX.out.on hb2)
    clear hrow2 hb2 hB c0 c1
    have HS := Lib.hid (bdS_yes HK.out)
    go_wp2
    go_ret2
    exact ⟨by rw [HS.out, HK.out]; rfl, HX2.out.old⟩
  · have HK := Lib.hid (bdS_no hk)
    have hne : (chk p [] [d] != 0) = true := by simpa using hk
    clear hk
    generalize chk p [] [d] = q at *
    go_enter Try.func12, Try.ntmps12
    go_wp2_with fail
    refine hE.mono ?_
    rintro e w1 ⟨rfl, hb1⟩
    go_wp2
    go_ret2
    exact ⟨by rw [HK.out]; rfl, (HB1.out.on' (hb1.mono (by omega))).old⟩

/-- What Proves hands back. -/
def prI (p : Pr) (d : List Cel) (l : List UInt8) : Int := if chk p [l] [d] = 0 then (if bnd p d = red l then 0 else 5) else chk p [l] [d]
theorem prI_no {p : Pr} {d : List Cel} {l : List UInt8} (h : chk p [l] [d] ≠ 0) : prI p d l = chk p [l] [d] := if_neg h
theorem prI_yes {p : Pr} {d : List Cel} {l : List UInt8} (h : chk p [l] [d] = 0) : prI p d l = if (bnd p d != red l) = true then 5 else 0 := by
  unfold prI; rw [if_pos h]; by_cases e : bnd p d = red l <;> simp [e]

set_option maxHeartbeats 4000000 in
set_option maxRecDepth 100000 in
theorem Proves_any (p : Pr) (R : Option Addr) (rc : Nat) (D : Option Addr) (dc : Nat) (d : List Cel) (l : List UInt8) (w : World) (hr : RelsAt w R p.rels) (hm : p.rels.length ≤ maxLen) (hd : CellsAt w D d) (hdm : d.length ≤ 5000000000000) (hl : l.length ≤ maxLen) :
    Calls Try.prog 14 #[prV p.k R p.rels.length rc, .slice D d.length dc, .string ⟨l.toArray⟩] w fun e w' => e = .returned (.int .i64 (prI p d l)) ∧ Below w.heap.size w w' := by
  have HBX := Lib.hid (Boxd.start w (prC p.k R p.rels.length rc) 24)
  have HB1 := Lib.hid (HBX.out.on (Boxd.start (w.alloc (.cells (prC p.k R p.rels.length rc) 24)) #[.string ⟨l.toArray⟩] 9).old)
  have HB2 := Lib.hid (HB1.out.on (Boxd.start ((w.alloc (.cells (prC p.k R p.rels.length rc) 24)).alloc (.cells #[.string ⟨l.toArray⟩] 9)) #[.slice D d.length dc] 25).old)
  have hE := examine_any p R rc (some ⟨(w.alloc (.cells (prC p.k R p.rels.length rc) 24)).heap.size, 0, none⟩) 1 [l] (some ⟨((w.alloc (.cells (prC p.k R p.rels.length rc) 24)).alloc (.cells #[.string ⟨l.toArray⟩] 9)).heap.size, 0, none⟩) 1 [⟨D, dc, d⟩] (((w.alloc (.cells (prC p.k R p.rels.length rc) 24)).alloc (.cells #[.string ⟨l.toArray⟩] 9)).alloc (.cells #[.slice D d.length dc] 25)) (hr.below HB2.out.old) hm
    ((rels_one hl 9).below ((Below.refl _ _).alloc (Nat.le_refl _) _)) (disks_one (hd.below HB1.out.old) hdm 25) (by simp) (by simp)
  simp only [World.size_alloc, List.map_cons, List.map_nil, List.length_cons, List.length_nil] at hE
  have HREL := Lib.hid hr
  have HD := Lib.hid hd
  clear hr hd
  by_cases hk : chk p [l] [d] = 0
  · have HK := Lib.hid hk
    rw [hk] at hE
    clear hk
    go_enter Try.func14, Try.ntmps14
    go_wp2_with fail
    refine hE.mono ?_
    rintro e w1 ⟨rfl, hb1⟩
    have HX := Lib.hid (HB2.out.on' (hb1.mono (by omega)))
    clear hE hb1
    have c0 : w1.drew.cell? ⟨w.heap.size, 0, none⟩ = some (.int .i64 p.k) := HX.out.cell 0
    have c1 : w1.drew.cell? ⟨w.heap.size, 1, none⟩ = some (.slice R p.rels.length rc) := HX.out.cell 1
    have HXd := Lib.hid (HX.out.drewN 1)
    have HB := Lib.hid (boundary_any p R rc D dc d w1.drew (HREL.out.below HXd.out.old) (HD.out.below HXd.out.old) (chk_ok HK.out).1 (by have := (chk_ok HK.out).2.2; simpa using this))
    have HL5 := Lib.hid (isWd_len (k := p.k) (l := l) (by have := (chk_ok HK.out).2.1; simpa using this))
    have HR := Lib.hid (prI_yes HK.out)
    generalize bnd p d = b at *
    go_wp2
    go_region_with (first
        | (go_at_call 39; ((with_reducible refine HB.out.mono ?_); rintro e w2 ⟨A2, cap2, rfl, hrow2, hb2⟩; have HROW2 := Lib.hid hrow2; have hrun := run_string_row w2 A2 cap2 _ hrow2; have HX2 := Lib.hid (HXd.out.on hb2); have d0 : w2.cell? ⟨w.heap.size, 0, none⟩ = some (.int .i64 p.k) := HX2.out.cell 0; have d1 : w2.cell? ⟨w.heap.size, 1, none⟩ = some (.slice R p.rels.length rc) := HX2.out.cell 1; have HRD := Lib.hid (reduced_any l w2 (by have := HL5.out; omega)); clear hrow2 hb2 c0 c1))
        | (go_at_call 40; ((with_reducible refine HRD.out.mono ?_); rintro e w3 ⟨rfl, hb3⟩; have hrun3 := run_string_row w3 A2 cap2 _ (HROW2.out.below hb3); have HX3 := Lib.hid (HX2.out.on hb3); have e0 : w3.cell? ⟨w.heap.size, 0, none⟩ = some (.int .i64 p.k) := HX3.out.cell 0; have e1 : w3.cell? ⟨w.heap.size, 1, none⟩ = some (.slice R p.rels.length rc) := HX3.out.cell 1; clear hb3 d0 d1)))

    all_goals (
      clear hrun hrun3 e0 e1
      cases hq : (b == red l) with
      | true =>
        have HR2 : Hid (prI p d l = 0) := Lib.hid (by rw [HR.out, bne, hq]; rfl)
        clear hq
        go_wp2
        go_ret
        exact ⟨ret_int HR2.out.symm, HX3.out.old⟩
      | false =>
        have HR2 : Hid (prI p d l = 5) := Lib.hid (by rw [HR.out, bne, hq]; rfl)
        clear hq
        go_wp2
        go_ret
        exact ⟨ret_int HR2.out.symm, HX3.out.old⟩)
  · have HK := Lib.hid (prI_no hk)
    have hne : (chk p [l] [d] != 0) = true := by simpa using hk
    clear hk
    generalize chk p [l] [d] = q at *
    go_enter Try.func14, Try.ntmps14
    go_wp2_with fail
    refine hE.mono ?_
    rintro e w1 ⟨rfl, hb1⟩
    go_wp2
    go_ret
    exact ⟨ret_int HK.out.symm, (HB2.out.on' (hb1.mono (by omega))).old⟩
end Go.Proofs.Ytbcckfggnlmhoaa
