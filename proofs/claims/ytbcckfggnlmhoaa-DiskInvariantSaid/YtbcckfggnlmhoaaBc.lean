/-
  Our own text, in the proofs of the laws of package disk (cayleylaw04). Proved here: Bounds, Boundary and Proves of the reference; sane returns true; DiskBoundary returns true at every presentation, disk and word. Conditions: the arguments lie in memory as the slices say; bounds; where a presentation is named valid, it is.
-/
import Derived.Test.YtbcckfggnlmhoaaBa
namespace Go.Proofs.Ytbcckfggnlmhoaa
open Go Go.RowKit

/-- How Bounds goes on within a round. -/
structure Be (w wr : World) (p : Pr) (R : Option Addr) (rc : Nat) (c : List UInt8) (rel : Int) (inv : Bool) (O : Option Addr) (oc : Nat) (s : List UInt8) (w1 : World) : Prop where
  box : Boxd w (prC p.k R p.rels.length rc) 24 w1
  cel : HasCells w1 wr.heap.size (celC c rel inv)
  own : w1.ownsRow (w.heap.size + 1) 5 1 (.slice O s.length oc) s.length (bs s.reverse)
  far : ∀ k, blk O = some k → k ≠ wr.heap.size
theorem Be.below {w wr : World} {p : Pr} {R : Option Addr} {rc : Nat} {c : List UInt8} {rel : Int} {inv : Bool} {O : Option Addr} {oc : Nat} {s : List UInt8} {w1 w2 : World}
    (h : Be w wr p R rc c rel inv O oc s w1) (hb : Below w1.heap.size w1 w2) : Be w wr p R rc c rel inv O oc s w2 :=
  ⟨h.box.on hb, h.cel.below hb, own_below h.own hb, h.far⟩
theorem Be.app {w wr : World} {p : Pr} {R : Option Addr} {rc : Nat} {c : List UInt8} {rel : Int} {inv : Bool} {O : Option Addr} {oc : Nat} {s : List UInt8} {w1 : World}
    (h : Be w wr p R rc c rel inv O oc s w1) (l : List UInt8) (hall : l.all (letB 8) = true) (hn : s.length + l.length ≤ 1000000000) :
    Calls Try.prog 54 #[.slice O s.length oc, .string ⟨l.toArray⟩] w1 fun e w2 => ∃ O' oc', e = .returned (.slice O' (run s l).length oc') ∧ Be w wr p R rc c rel inv O' oc' (run s l) w2 := by
  refine (refRed_any (w.heap.size + 1) O oc s ⟨l.toArray⟩ w1 h.own hall (by rw [size_mk]; exact hn) h.box.size).mono ?_
  rintro e w2 ⟨O', oc', rfl, hown, hg, hm⟩
  have hb := blk_lt h.own
  refine ⟨O', oc', rfl, ⟨h.box.grown hg (fun k hk => (hb k hk).1), h.cel.grown hg (fun e => h.far _ e rfl), hown, ?_⟩⟩
  intro k hk
  rcases hm with hm | hm
  · exact h.far k (hm ▸ hk)
  · have := hm k hk
    have h1 := h.cel.lt
    omega

set_option maxHeartbeats 4000000 in
set_option maxRecDepth 100000 in
theorem Bounds_any (p : Pr) (R : Option Addr) (rc : Nat) (D : Option Addr) (dc : Nat) (d : List Cel) (w : World) (hr : RelsAt w R p.rels) (hd : CellsAt w D d) (hp : presB p = true) (hdb : diskB p d = true) :
    Calls Try.prog 37 #[prV p.k R p.rels.length rc, .slice D d.length dc] w fun e w' => e = .returned (.string ⟨(bnd p d).toArray⟩) ∧ Below w.heap.size w w' := by
  have HBX := Lib.hid (Boxd.start w (prC p.k R p.rels.length rc) 24)
  have HBX2 := Lib.hid (HBX.out.on (Boxd.start (w.alloc (.cells (prC p.k R p.rels.length rc) 24)) #[] 5).old)
  have hO0 := own_empty (w.alloc (.cells (prC p.k R p.rels.length rc) 24)) (w.heap.size + 1) 5 1 (by simp)
  simp only [World.size_alloc] at hO0
  have HO0 := Lib.hid hO0
  have HREL := Lib.hid hr
  have HD := Lib.hid hd
  have HP := Lib.hid hp
  have HDB := Lib.hid hdb
  have h100 := (diskB_facts hdb).1
  have HK8 := Lib.hid (presB_k hp).2.1
  clear hr hd hp hdb hO0
  go_enter Try.func37, Try.ntmps37
  go_wp2
  go_loopw [5, 7, 11] (fun out _ i wr => ∃ (n : Nat) (s : List UInt8) (O : Option Addr) (oc : Nat), n ≤ d.length ∧ i = .int .i64 (n : Int) ∧ s = bndR p (d.take n) ∧ out = .slice O s.length oc ∧ wr.ownsRow (w.heap.size + 1) 5 1 (.slice O s.length oc) s.length (bs s.reverse) ∧ Boxd w (prC p.k R p.rels.length rc) 24 wr)
    (fun _ _ i _ => d.length - (intOf i).toNat)
  case atStart => exact ⟨0, [], _, 0, Nat.zero_le _, rfl, rfl, rfl, HO0.out, HBX2.out⟩
  case round =>
    obtain ⟨n, s, O, oc, hn, rfl, hs, rfl, hown, hbx⟩ := hrel
    have HS := Lib.hid hs
    have HX := Lib.hid hbx
    have HOW := Lib.hid hown
    clear hs hbx hown
    by_cases hlt : n < d.length
    · have HSN : Hid (bndR p (d.take (n + 1)) = cellR p s d[n]) := Lib.hid (by rw [bndR_snoc hlt, HS.out])
      have hls : s.length ≤ 100000000 := by rw [HS.out]; exact bndR_take_len HP.out HDB.out n
      have hcf := (diskB_facts HDB.out).2.2 d[n] (List.getElem_mem _)
      obtain ⟨b, o, hD, hcel⟩ := (HD.out.below HX.out.old) n hlt
      obtain ⟨q1, q2, q3, q4⟩ := hcel
      subst hD
      generalize d[n] = x at *
      obtain ⟨c, rel, inv⟩ := x
      simp only at q1 q2 q3 q4 hcf
      have HIR := Lib.hid hcf.1
      have hc5 := isWd_len hcf.2
      have HCA := Lib.hid (all_mono HK8.out (isWd_all hcf.2))
      have HRA := Lib.hid (all_mono HK8.out (relOf_all HP.out hcf.1 inv))
      have hr2 := relOf_len HP.out hcf.1 inv
      have hBd0 : Be w wr p R rc c rel inv O oc s (wr.alloc (.cells (celC c rel inv) 61)) := by
        have hz := HX.out.size
        refine ⟨HX.out.on (Boxd.start wr (celC c rel inv) 61).old, HasCells.new wr (celC c rel inv) 61, HOW.out.alloc _, ?_⟩
        intro k hk
        have := blk_lt HOW.out k hk
        omega
      have HB0 := Lib.hid hBd0
      have HN := Lib.hid hn
      clear hcf q4 hBd0 hn
      have hA0 := HB0.out.app c HCA.out (by omega)
      go_wp2_with fail
      refine hA0.mono ?_
      rintro e w3 ⟨O3, oc3, rfl, hB3⟩
      have HB3 := Lib.hid hB3
      have hl3 := grun_len invc c s
      clear hA0 hB3 q1 q2 q3
      have c0 := HB3.out.box.cell 0
      have c1 := HB3.out.box.cell 1
      have k1 := HB3.out.cel.cell 1
      have k2 := HB3.out.cel.cell 2
      simp only [List.getElem?_toArray, List.getElem?_cons_zero, List.getElem?_cons_succ] at c0 c1 k1 k2
      have hR := rRelator_any p R rc rel inv w3 HP.out HIR.out (HREL.out.below HB3.out.box.old)
      go_wp2_with fail
      refine hR.mono ?_
      rintro e w4 ⟨rfl, hb4⟩
      have HB4 := Lib.hid (HB3.out.below hb4)
      have hA4 := HB4.out.app (relOf p rel inv) HRA.out (by simp only [run] at *; omega)
      clear hR hb4 c0 c1 k1 k2
      go_wp2_with fail
      refine hA4.mono ?_
      rintro e w5 ⟨O5, oc5, rfl, hB5⟩
      have HB5 := Lib.hid hB5
      have hl5 := grun_len invc (relOf p rel inv) (run s c)
      have k0 := HB5.out.cel.cell 0
      simp only [List.getElem?_toArray, List.getElem?_cons_zero] at k0
      have hI : Calls Try.prog 26 #[.string ⟨c.toArray⟩] w5 fun e w' => e = .returned (.string ⟨(invW c).toArray⟩) ∧ Below w5.heap.size w5 w' := Invert_any ⟨c.toArray⟩ w5 HCA.out (by rw [size_mk]; omega)
      clear hA4 hB5
      go_wp2_with fail
      refine hI.mono ?_
      rintro e w6 ⟨rfl, hb6⟩
      have HB6 := Lib.hid (HB5.out.below hb6)
      have hlw : (invW c).length = c.length := ginv_len _ _
      have hA6 := HB6.out.app (invW c) (all_invW HCA.out) (by simp only [run] at *; omega)
      have HLW := Lib.hid hlw
      clear hI hb6 hlw k0
      go_wp2_with fail
      refine hA6.mono ?_
      rintro e w7 ⟨O7, oc7, rfl, hB7⟩
      have HB7 := Lib.hid hB7
      have HS7 : Hid (run (run (run s c) (relOf p rel inv)) (invW c) = bndR p (d.take (n + 1))) := Lib.hid (by rw [HSN.out]; rfl)
      clear hA6 hB7 hl3 hl5
      go_wp2
      go_roundw
      case rel => exact ⟨n + 1, _, O7, oc7, by omega, by go_num, HS7.out, rfl, HB7.out.own, HB7.out.box⟩
      case measure => simp [intOf]; omega
    · obtain rfl : n = d.length := by omega
      have HE : Hid (s.reverse = bnd p d) := Lib.hid (by rw [HS.out, List.take_length]; rfl)
      have hrun := run_string_row wr O oc s.reverse (rowAt_own HOW.out)
      rw [List.length_reverse] at hrun
      go_wp2
      go_ret
      exact ⟨ret_str HE.out, HX.out.old⟩

set_option maxHeartbeats 2000000 in
set_option maxRecDepth 100000 in
theorem rBoundary_any (p : Pr) (R : Option Addr) (rc : Nat) (D : Option Addr) (dc : Nat) (d : List Cel) (w : World) (hr : RelsAt w R p.rels) (hm : p.rels.length ≤ maxLen) (hd : CellsAt w D d) (hdm : d.length ≤ 5000000000000) :
    Calls Try.prog 11 #[prV p.k R p.rels.length rc, .slice D d.length dc] w fun e w' => e = .returned (.tuple #[.string ⟨(bdS p d).toArray⟩, .int .i64 (chk p [] [d])]) ∧ Below w.heap.size w w' := by
  have HBX := Lib.hid (Boxd.start w (prC p.k R p.rels.length rc) 24)
  have HB1 := Lib.hid (HBX.out.on (Boxd.start (w.alloc (.cells (prC p.k R p.rels.length rc) 24)) #[.slice D d.length dc] 25).old)
  have hE := checked_any p R rc none 0 [] (some ⟨(w.alloc (.cells (prC p.k R p.rels.length rc) 24)).heap.size, 0, none⟩) 1 [⟨D, dc, d⟩] ((w.alloc (.cells (prC p.k R p.rels.length rc) 24)).alloc (.cells #[.slice D d.length dc] 25)) (hr.below HB1.out.old) hm (rels_none _ _) (disks_one (hd.below HBX.out.old) hdm 25) (by simp) (by simp)
  simp only [World.size_alloc, List.map_cons, List.map_nil, List.length_cons, List.length_nil] at hE
  have HREL := Lib.hid hr
  have HD := Lib.hid hd
  clear hr hd
  by_cases hk : chk p [] [d] = 0
  · have HK := Lib.hid hk
    rw [hk] at hE
    clear hk
    go_enter Try.func11, Try.ntmps11
    go_wp2_with fail
    refine hE.mono ?_
    rintro e w1 ⟨rfl, hb1⟩
    have HX := Lib.hid (HB1.out.on' (hb1.mono (by omega)))
    have hB := Bounds_any p R rc D dc d w1 (HREL.out.below HX.out.old) (HD.out.below HX.out.old) (chk_ok HK.out).1 (by have := (chk_ok HK.out).2.2; simpa using this)
    have c0 := HX.out.cell 0
    have c1 := HX.out.cell 1
    simp only [List.getElem?_toArray, List.getElem?_cons_zero, List.getElem?_cons_succ] at c0 c1
    clear hE hb1
    go_wp2_with fail
    refine hB.mono ?_
    rintro e w2 ⟨rfl, hb2⟩
    have HX2 := Lib.hid (HX.out.on hb2)
    clear hb2 hB c0 c1
    have HS := Lib.hid (bdS_yes HK.out)
    go_wp2
    go_ret2
    exact ⟨by rw [HS.out, HK.out]; rfl, HX2.out.old⟩
  · have HK := Lib.hid (bdS_no hk)
    have hne : (chk p [] [d] != 0) = true := by simpa using hk
    clear hk
    generalize chk p [] [d] = q at *
    go_enter Try.func11, Try.ntmps11
    go_wp2_with fail
    refine hE.mono ?_
    rintro e w1 ⟨rfl, hb1⟩
    go_wp2
    go_ret2
    exact ⟨by rw [HK.out]; rfl, (HB1.out.on' (hb1.mono (by omega))).old⟩

set_option maxHeartbeats 4000000 in
set_option maxRecDepth 100000 in
theorem rProves_any (p : Pr) (R : Option Addr) (rc : Nat) (D : Option Addr) (dc : Nat) (d : List Cel) (l : List UInt8) (w : World) (hr : RelsAt w R p.rels) (hm : p.rels.length ≤ maxLen) (hd : CellsAt w D d) (hdm : d.length ≤ 5000000000000) (hl : l.length ≤ maxLen) :
    Calls Try.prog 15 #[prV p.k R p.rels.length rc, .slice D d.length dc, .string ⟨l.toArray⟩] w fun e w' => e = .returned (.int .i64 (prI p d l)) ∧ Below w.heap.size w w' := by
  have HBX := Lib.hid (Boxd.start w (prC p.k R p.rels.length rc) 24)
  have HB1 := Lib.hid (HBX.out.on (Boxd.start (w.alloc (.cells (prC p.k R p.rels.length rc) 24)) #[.string ⟨l.toArray⟩] 9).old)
  have HB2 := Lib.hid (HB1.out.on (Boxd.start ((w.alloc (.cells (prC p.k R p.rels.length rc) 24)).alloc (.cells #[.string ⟨l.toArray⟩] 9)) #[.slice D d.length dc] 25).old)
  have hE := checked_any p R rc (some ⟨(w.alloc (.cells (prC p.k R p.rels.length rc) 24)).heap.size, 0, none⟩) 1 [l] (some ⟨((w.alloc (.cells (prC p.k R p.rels.length rc) 24)).alloc (.cells #[.string ⟨l.toArray⟩] 9)).heap.size, 0, none⟩) 1 [⟨D, dc, d⟩] (((w.alloc (.cells (prC p.k R p.rels.length rc) 24)).alloc (.cells #[.string ⟨l.toArray⟩] 9)).alloc (.cells #[.slice D d.length dc] 25)) (hr.below HB2.out.old) hm
    ((rels_one hl 9).below ((Below.refl _ _).alloc (Nat.le_refl _) _)) (disks_one (hd.below HB1.out.old) hdm 25) (by simp) (by simp)
  simp only [World.size_alloc, List.map_cons, List.map_nil, List.length_cons, List.length_nil] at hE
  have HREL := Lib.hid hr
  have HD := Lib.hid hd
  clear hr hd
  by_cases hk : chk p [l] [d] = 0
  · have HK := Lib.hid hk
    rw [hk] at hE
    clear hk
    go_enter Try.func15, Try.ntmps15
    go_wp2_with fail
    refine hE.mono ?_
    rintro e w1 ⟨rfl, hb1⟩
    have HX := Lib.hid (HB2.out.on' (hb1.mono (by omega)))
    clear hE hb1
    have c0 := HX.out.cell 0
    have c1 := HX.out.cell 1
    simp only [List.getElem?_toArray, List.getElem?_cons_zero, List.getElem?_cons_succ] at c0 c1
    have hB := Bounds_any p R rc D dc d w1 (HREL.out.below HX.out.old) (HD.out.below HX.out.old) (chk_ok HK.out).1 (by have := (chk_ok HK.out).2.2; simpa using this)
    have HWL := Lib.hid (show isWd p.k l = true by have := (chk_ok HK.out).2.1; simpa using this)
    have HK8 := Lib.hid (presB_k (chk_ok HK.out).1).2.1
    have HR := Lib.hid (prI_yes HK.out)
    generalize bnd p d = b at *
    go_wp2_with fail
    refine hB.mono ?_
    rintro e w2 ⟨rfl, hb2⟩
    have HX2 := Lib.hid (HX.out.on hb2)
    have hRD : Calls Try.prog 25 #[.string ⟨l.toArray⟩] w2 fun e w' => e = .returned (.string ⟨(red l).toArray⟩) ∧ Below w2.heap.size w2 w' := Reduce_any ⟨l.toArray⟩ w2 (all_mono HK8.out (isWd_all HWL.out)) (by rw [size_mk]; have := isWd_len HWL.out; omega)
    clear hb2 hB c0 c1
    cases hq : (b == red l) with
    | true =>
      have HR2 : Hid (prI p d l = 0) := Lib.hid (by rw [HR.out, bne, hq]; rfl)
      generalize red l = r at *
      go_wp2_with fail
      refine hRD.mono ?_
      rintro e w3 ⟨rfl, hb3⟩
      go_wp2
      go_ret
      exact ⟨ret_int HR2.out.symm, (HX2.out.on hb3).old⟩
    | false =>
      have HR2 : Hid (prI p d l = 5) := Lib.hid (by rw [HR.out, bne, hq]; rfl)
      generalize red l = r at *
      go_wp2_with fail
      refine hRD.mono ?_
      rintro e w3 ⟨rfl, hb3⟩
      go_wp2
      go_ret
      exact ⟨ret_int HR2.out.symm, (HX2.out.on hb3).old⟩
  · have HK := Lib.hid (prI_no hk)
    have hne : (chk p [l] [d] != 0) = true := by simpa using hk
    clear hk
    generalize chk p [l] [d] = q at *
    go_enter Try.func15, Try.ntmps15
    go_wp2_with fail
    refine hE.mono ?_
    rintro e w1 ⟨rfl, hb1⟩
    go_wp2
    go_ret
    exact ⟨ret_int HK.out.symm, (HB2.out.on' (hb1.mono (by omega))).old⟩
end Go.Proofs.Ytbcckfggnlmhoaa

namespace Go.Proofs.Ytbcckfggnlmhoaa
open Go Go.RowKit

def saneP : Pr := ⟨2, [[97, 98, 65, 66]]⟩
def saneD : List Cel := [⟨[97], 0, true⟩]
theorem sane_chk : chk saneP [] [saneD] = 0 := by decide +kernel
theorem sane_bd : bdS saneP saneD = [97, 98, 97, 66, 65, 65] := by decide +kernel

theorem cells_one (w : World) (c : Cel) (t : TypeId) (hl : c.conj.length ≤ 140737488351232) : CellsAt (w.alloc (.cells (celC c.conj c.rel c.inv) t)) (some ⟨w.heap.size, 0, none⟩) [c] := by
  intro i hi
  obtain rfl : i = 0 := by simpa using hi
  refine ⟨w.heap.size, 0, rfl, ?_, ?_, ?_, hl⟩
  · simp only [Nat.zero_mul, Nat.add_zero]; rw [alloc_cell]; rfl
  · simp only [Nat.zero_mul, Nat.zero_add]; rw [alloc_cell]; rfl
  · simp only [Nat.zero_mul, Nat.zero_add]; rw [alloc_cell]; rfl

set_option maxHeartbeats 1000000 in
set_option maxRecDepth 100000 in
theorem sane_any (w : World) : Calls Try.prog 13 #[] w fun e w' => e = .returned (.bool true) ∧ Below w.heap.size w w' := by
  have hB0 : Below w.heap.size w (w.alloc (.cells #[.string ⟨#[97, 98, 65, 66]⟩] 9)) := (Below.refl _ _).alloc (Nat.le_refl _) _
  have HB := Lib.hid (hB0.alloc (by simp) (.cells (celC [97] 0 true) 61))
  have hr : RelsAt (w.alloc (.cells #[.string ⟨#[97, 98, 65, 66]⟩] 9)) (some ⟨w.heap.size, 0, none⟩) saneP.rels := rels_one (l := [97, 98, 65, 66]) (by unfold maxLen; decide) 9
  have hB := Boundary_any saneP (some ⟨w.heap.size, 0, none⟩) 1 (some ⟨(w.alloc (.cells #[.string ⟨#[97, 98, 65, 66]⟩] 9)).heap.size, 0, none⟩) 1 saneD ((w.alloc (.cells #[.string ⟨#[97, 98, 65, 66]⟩] 9)).alloc (.cells (celC [97] 0 true) 61))
    (hr.below ((Below.refl _ _).alloc (Nat.le_refl _) _)) (by unfold maxLen; decide) (cells_one _ ⟨[97], 0, true⟩ 61 (by decide)) (by decide)
  rw [sane_chk, sane_bd] at hB
  simp only [World.size_alloc] at hB
  have hB : Calls Try.prog 12 #[.agg #[.int .i64 2, .slice (some ⟨w.heap.size, 0, none⟩) 1 1], .slice (some ⟨w.heap.size + 1, 0, none⟩) 1 1] ((w.alloc (.cells #[.string ⟨#[97, 98, 65, 66]⟩] 9)).alloc (.cells #[.string ⟨#[97]⟩, .int .i64 0, .bool true] 61))
    fun e w' => e = .returned (.tuple #[.string ⟨#[97, 98, 97, 66, 65, 65]⟩, .int .i64 0]) ∧ Below (w.heap.size + 1 + 1) ((w.alloc (.cells #[.string ⟨#[97, 98, 65, 66]⟩] 9)).alloc (.cells #[.string ⟨#[97]⟩, .int .i64 0, .bool true] 61)) w' := hB
  clear hr hB0
  go_enter Try.func13, Try.ntmps13
  go_wp2_with fail
  refine hB.mono ?_
  rintro e w1 ⟨rfl, hb1⟩
  have HB1 := Lib.hid (HB.out.trans (hb1.mono (by omega)))
  clear hb1
  go_wp2
  go_ret
  exact ⟨rfl, HB1.out⟩

/-- The law's arguments lie where they lay. -/
structure La (w : World) (p : Pr) (R : Option Addr) (rc : Nat) (D : Option Addr) (d : List Cel) (W : World) : Prop where
  box : Boxd w (prC p.k R p.rels.length rc) 24 W
  rels : RelsAt W R p.rels
  cells : CellsAt W D d
theorem La.on {w : World} {p : Pr} {R : Option Addr} {rc : Nat} {D : Option Addr} {d : List Cel} {W W' : World} (h : La w p R rc D d W) (hb : Below W.heap.size W W') : La w p R rc D d W' :=
  ⟨h.box.on hb, h.rels.below hb, h.cells.below hb⟩
theorem La.drewN {w : World} {p : Pr} {R : Option Addr} {rc : Nat} {D : Option Addr} {d : List Cel} {W : World} (h : La w p R rc D d W) (n : Nat) : La w p R rc D d (W.drewN n) := ⟨h.box.drewN n, h.rels, h.cells.below ((Below.refl _ W).drewN n)⟩
theorem La.start {w : World} {p : Pr} {R : Option Addr} {D : Option Addr} {d : List Cel} (rc : Nat) (hr : RelsAt w R p.rels) (hd : CellsAt w D d) : La w p R rc D d (w.alloc (.cells (prC p.k R p.rels.length rc) 24)) :=
  ⟨Boxd.start _ _ _, hr.below (Boxd.start _ _ _).old, hd.below (Boxd.start _ _ _).old⟩
theorem La.c0 {w : World} {p : Pr} {R : Option Addr} {rc : Nat} {D : Option Addr} {d : List Cel} {W : World} (h : La w p R rc D d W) : W.cell? ⟨w.heap.size, 0, none⟩ = some (.int .i64 p.k) := h.box.cell 0
theorem La.c1 {w : World} {p : Pr} {R : Option Addr} {rc : Nat} {D : Option Addr} {d : List Cel} {W : World} (h : La w p R rc D d W) : W.cell? ⟨w.heap.size, 1, none⟩ = some (.slice R p.rels.length rc) := h.box.cell 1

set_option maxHeartbeats 4000000 in
set_option maxRecDepth 100000 in
theorem diskBoundary_any (p : Pr) (R : Option Addr) (rc : Nat) (D : Option Addr) (dc : Nat) (d : List Cel) (l : List UInt8) (w : World) (hr : RelsAt w R p.rels) (hm : p.rels.length ≤ maxLen) (hd : CellsAt w D d) (hdm : d.length ≤ 5000000000000) (hl : l.length ≤ maxLen) :
    Calls Try.prog 3 #[prV p.k R p.rels.length rc, .slice D d.length dc, .string ⟨l.toArray⟩] w fun e w' => e = .returned (.bool true) ∧ Below w.heap.size w w' := by
  have HL0 := Lib.hid (La.start rc hr hd)
  have HM := Lib.hid hm
  have HDM := Lib.hid hdm
  have HLM := Lib.hid hl
  clear hr hd hm hdm hl
  have h1 := rBoundary_any p R rc D dc d _ HL0.out.rels HM.out HL0.out.cells HDM.out
  go_enter Try.func3, Try.ntmps3
  go_wp2_with fail
  refine h1.mono ?_
  rintro e w1 ⟨rfl, hb1⟩
  have HL1 := Lib.hid (HL0.out.on hb1)
  have h2 := Boundary_any p R rc D dc d w1 HL1.out.rels HM.out HL1.out.cells HDM.out
  have c0 := HL1.out.c0
  have c1 := HL1.out.c1
  clear h1 hb1
  go_wp2_with fail
  refine h2.mono ?_
  rintro e w2 ⟨rfl, hb2⟩
  have HL2 := Lib.hid (HL1.out.on hb2)
  have HLd := Lib.hid (HL2.out.drewN 1)
  have HS := Lib.hid (sane_any w2.drew)
  have d0 : w2.drew.cell? ⟨w.heap.size, 0, none⟩ = some (.int .i64 p.k) := HLd.out.c0
  have d1 : w2.drew.cell? ⟨w.heap.size, 1, none⟩ = some (.slice R p.rels.length rc) := HLd.out.c1
  clear h2 hb2 c0 c1
  generalize bdS p d = b at *
  generalize chk p [] [d] = q at *
  go_wp2_with fail
  go_region_held3 (fun W => W.cell? ⟨w.heap.size, 0, none⟩ = some (.int .i64 p.k) ∧ W.cell? ⟨w.heap.size, 1, none⟩ = some (.slice R p.rels.length rc))
    (first | with_reducible exact ⟨d0, d1⟩ | with_reducible exact ⟨e0, e1⟩ | with_reducible exact ⟨f0, f1⟩ | with_reducible exact ⟨g0, g1⟩)
    (first
    | (go_at_call 13; ((with_reducible refine HS.out.mono ?_); rintro e w3 ⟨rfl, hb3⟩; have HL3 := Lib.hid (HLd.out.on hb3); have e0 := HL3.out.c0; have e1 := HL3.out.c1; have HP := Lib.hid (Proves_any p R rc D dc d l w3 HL3.out.rels HM.out HL3.out.cells HDM.out HLM.out); clear hb3 d0 d1))
    | (go_at_call 14; ((with_reducible refine HP.out.mono ?_); rintro e w4 ⟨rfl, hb4⟩; have HL4 := Lib.hid (HL3.out.on hb4); have f0 := HL4.out.c0; have f1 := HL4.out.c1; have HQ := Lib.hid (rProves_any p R rc D dc d l w4 HL4.out.rels HM.out HL4.out.cells HDM.out HLM.out); clear hb4 e0 e1))
    | (go_at_call 15; ((with_reducible refine HQ.out.mono ?_); rintro e w5 ⟨rfl, hb5⟩; have HL5 := Lib.hid (HL4.out.on hb5); have g0 := HL5.out.c0; have g1 := HL5.out.c1; clear hb5 f0 f1)))
  all_goals (
    rename_i hHeld
    clear hHeld
    go_wp2
    go_ret
    exact ⟨rfl, HL5.out.box.old⟩)
end Go.Proofs.Ytbcckfggnlmhoaa
