/-
  Our own text, in the proof of the law DiskToMoves of package disk (cayleylaw04). Proved here: the law's walk: it returns true for every argument. No condition but bounds.
-/
import Derived.Test.YtbcckfggnlmhoaaNh
import Derived.Test.YtbcckfggnlmhoaaIm
namespace Go.Proofs.Ytbcckfggnlmhoaa
open Go Go.RowKit

theorem ToMoves_yes (p : Pr) (R : Option Addr) (rc : Nat) (D : Option Addr) (dc : Nat) (d : List Cel) (l : List UInt8) (w : World) (hr : RelsAt w R p.rels) (hm : p.rels.length ≤ maxLen) (hd : CellsAt w D d) (hdm : d.length ≤ 5000000000000) (hl : l.length ≤ maxLen) (hyes : tmE p d l = 0) :
    Calls Try.prog 32 #[prV p.k R p.rels.length rc, .slice D d.length dc, .string ⟨l.toArray⟩] w (TmP w (colS p l (simp4 d).reverse).2 0) := by
  refine (callsIn_wide (n := 6)).1 ?_
  refine ToMoves_in p R rc D dc d l w hr hm hd (fun e => ?_) hdm hl hyes
  cases d with
  | nil => rfl
  | cons c d =>
    obtain ⟨b, o, h, _⟩ := hd 0 (by simp)
    rw [e] at h; cases h
theorem ap_zero {p : Pr} {l : List UInt8} {ms : List Mv} (hp : presB p = true) (hw : isWd p.k l = true) (hn : ms.length ≤ 100000) (hr : runM p l ms = some []) : apV p l ms = [] ∧ apE p l ms = 0 := by
  have hk : appI p l ms.length = 0 := by
    unfold appI
    rw [if_pos (chk_0 hp (by simp [hw]) rfl), if_pos hn]
  unfold apV apE
  rw [if_pos hk, if_pos hk, hr]
  exact ⟨rfl, rfl⟩

set_option maxHeartbeats 4000000 in
set_option maxRecDepth 100000 in
theorem diskToMoves_any (p : Pr) (R : Option Addr) (rc : Nat) (D : Option Addr) (dc : Nat) (d : List Cel) (l : List UInt8) (w : World) (hr : RelsAt w R p.rels) (hm : p.rels.length ≤ maxLen) (hd : CellsAt w D d) (hdm : d.length ≤ 5000000000000) (hl : l.length ≤ maxLen) :
    Calls Try.prog 8 #[prV p.k R p.rels.length rc, .slice D d.length dc, .string ⟨l.toArray⟩] w fun e w' => e = .returned (.bool true) ∧ Below w.heap.size w w' := by
  have HR := Lib.hid hr
  have HD := Lib.hid hd
  have HM := Lib.hid hm
  have HL := Lib.hid hl
  have HX0 := Lib.hid (Boxd.start w (prC p.k R p.rels.length rc) 24)
  have g0 : (w.alloc (.cells (prC p.k R p.rels.length rc) 24)).cell? ⟨w.heap.size, 0, none⟩ = some (.int .i64 p.k) := HX0.out.cell 0
  have g1 : (w.alloc (.cells (prC p.k R p.rels.length rc) 24)).cell? ⟨w.heap.size, 1, none⟩ = some (.slice R p.rels.length rc) := HX0.out.cell 1
  clear hr hd hm hl
  have HREF := Lib.hid (fun X (hX : Below w.heap.size w X) => Refused_any p R rc D dc d l X (HR.out.below hX) HM.out (HD.out.below hX) hdm HL.out)
  by_cases hz : tmE p d l = 0
  · have h1 := ToMoves_yes p R rc D dc d l _ (HR.out.below HX0.out.old) HM.out (HD.out.below HX0.out.old) hdm HL.out hz
    obtain ⟨hck, hbd, hsz, hpz⟩ := tmE_yes hz
    obtain ⟨hp, hw, hdb⟩ := chk_word hck
    obtain ⟨hrun, hlen, hcnt⟩ := colS_done hp (fun c hc => by
      obtain ⟨a1, a2⟩ := (diskB_facts (diskB_simp hdb)).2.2 c hc
      unfold cellB; rw [a1, a2]; rfl) hbd hsz
    generalize (colS p l (simp4 d).reverse).2 = ms at *
    obtain ⟨hv, he⟩ := ap_zero hp hw hlen hrun
    have HVE := Lib.hid (And.intro hv he)
    rw [hz] at HREF
    clear hck hbd hsz hpz hp hw hdb hrun hv he hz
    have hd1 : decide ((cntM ms : Int) ≤ (d.length : Int)) = true := by simp; omega
    have hd2 : decide (cntM ms ≤ d.length) = true := by simpa using hcnt
    go_enter Try.func8, Try.ntmps8
    go_wp2_with fail
    refine h1.mono ?_
    rintro e1 w1 ⟨C, cc, rfl, hmv, _, hb1⟩
    have HX1 := Lib.hid (HX0.out.on hb1)
    have HMV := Lib.hid hmv
    have h2 := HREF.out w1 HX1.out.old
    have c0 : w1.cell? ⟨w.heap.size, 0, none⟩ = some (.int .i64 p.k) := HX1.out.cell 0
    have c1 : w1.cell? ⟨w.heap.size, 1, none⟩ = some (.slice R p.rels.length rc) := HX1.out.cell 1
    clear h1 hb1 hmv g0 g1
    go_wp2_with fail
    refine h2.mono ?_
    rintro e2 w2 ⟨rfl, hb2⟩
    have HX2 := Lib.hid (HX1.out.on hb2)
    have HB12 : Hid (Below w1.heap.size w1 w2) := Lib.hid hb2
    have h3 := Apply_any p R rc l C cc ms w2 (HR.out.below HX2.out.old) HM.out HL.out (HMV.out.below HB12.out) (by omega)
    rw [HVE.out.1, HVE.out.2] at h3
    clear h2 hb2 c0 c1
    have c0 : w2.cell? ⟨w.heap.size, 0, none⟩ = some (.int .i64 p.k) := HX2.out.cell 0
    have c1 : w2.cell? ⟨w.heap.size, 1, none⟩ = some (.slice R p.rels.length rc) := HX2.out.cell 1
    go_wp2_with fail
    refine h3.mono ?_
    rintro e3 w3 ⟨rfl, hb3⟩
    have HX3 := Lib.hid (HX2.out.on hb3)
    have HB13 : Hid (Below w1.heap.size w1 w3) := Lib.hid (HB12.out.trans (hb3.mono HB12.out.size))
    have hS := sane_any w3
    clear h3 hb3 c0 c1
    go_wp2_with fail
    refine hS.mono ?_
    rintro e4 w4 ⟨rfl, hb4⟩
    have HX4 := Lib.hid (HX3.out.on hb4)
    have HB14 : Hid (Below w1.heap.size w1 w4) := Lib.hid (HB13.out.trans (hb4.mono HB13.out.size))
    have h5 := Relators_any C cc ms w4 (HMV.out.below HB14.out) (by omega)
    clear hS hb4
    go_wp2_with fail
    refine h5.mono ?_
    rintro e5 w5 ⟨rfl, hb5⟩
    have HX5 := Lib.hid (HX4.out.on hb5)
    clear h5 hb5
    go_wp2
    go_ret
    exact ⟨rfl, HX5.out.old⟩
  · have h1 := ToMoves_no p R rc D dc d l _ (HR.out.below HX0.out.old) HM.out (HD.out.below HX0.out.old) hdm HL.out hz
    generalize tmE p d l = f at *
    have e1 : (f != 0) = true := by simpa using hz
    clear hz
    go_enter Try.func8, Try.ntmps8
    go_wp2_with fail
    refine h1.mono ?_
    rintro e1 w1 ⟨C, cc, rfl, _, _, hb1⟩
    have HX1 := Lib.hid (HX0.out.on hb1)
    have h2 := HREF.out w1 HX1.out.old
    have c0 : w1.cell? ⟨w.heap.size, 0, none⟩ = some (.int .i64 p.k) := HX1.out.cell 0
    have c1 : w1.cell? ⟨w.heap.size, 1, none⟩ = some (.slice R p.rels.length rc) := HX1.out.cell 1
    clear h1 hb1 g0 g1
    go_wp2_with fail
    refine h2.mono ?_
    rintro e2 w2 ⟨rfl, hb2⟩
    have HX2 := Lib.hid (HX1.out.on hb2)
    have hS := sane_any w2
    clear h2 hb2 c0 c1
    go_wp2_with fail
    refine hS.mono ?_
    rintro e3 w3 ⟨rfl, hb3⟩
    have HX3 := Lib.hid (HX2.out.on hb3)
    clear hb3 hS
    go_wp2
    go_ret
    exact ⟨rfl, HX3.out.old⟩
end Go.Proofs.Ytbcckfggnlmhoaa
