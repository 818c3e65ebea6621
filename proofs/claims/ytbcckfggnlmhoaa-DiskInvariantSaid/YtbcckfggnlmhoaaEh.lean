/-
  Our own text, in the proofs of the laws of package disk (cayleylaw04). Proved here: Conjugate of the program. Conditions: the arguments lie in memory as the slices say.
-/
import Derived.Test.YtbcckfggnlmhoaaEg
import Derived.Deep.RegionWith
namespace Go.Proofs.Ytbcckfggnlmhoaa
open Go Go.RowKit

/-- The world behind []byte(s). -/
def bw (w : World) (l : List UInt8) : World := Lib.bytesWorld w 5 ⟨l.toArray⟩
def bcap (w : World) (l : List UInt8) : Nat := grownCap w l.length 0 5
theorem run_bw (l : List UInt8) (w : World) : (convert 9 58 (.string ⟨l.toArray⟩)).run Try.prog w = .ok (.slice (some ⟨w.heap.size, 0, none⟩) l.length (bcap w l)) (bw w l) :=
  Lib.run_convert_string_bytes w 9 58 5 ⟨l.toArray⟩ Try.underlying9 Try.underlying58 Try.underlying5
theorem bw_row (w : World) (l : List UInt8) : RowAt (bw w l) (some ⟨w.heap.size, 0, none⟩) l := by
  intro i hi
  refine ⟨w.heap.size, 0, rfl, ?_⟩
  rw [Nat.zero_add]
  have := Lib.bytesWorld_cell w 5 ⟨l.toArray⟩ i (by rw [size_mk]; exact hi)
  simpa [bw, List.getD, hi] using this
theorem bw_size (w : World) (l : List UInt8) : (bw w l).heap.size = w.heap.size + 1 := Lib.bytesWorld_size w 5 _
theorem bw_below (w : World) (l : List UInt8) : Below w.heap.size w (bw w l) := ⟨rfl, rfl, rfl, by rw [bw_size]; omega, fun k hk => Lib.bytesWorld_at_old w 5 _ k hk⟩

/-- What Conjugate hands back. -/
def conI (p : Pr) (d : List Cel) (u : List UInt8) : Int :=
  if chk p [u] [d] = 0 then (if (d.all fun c => decide (u.length + c.conj.length ≤ 100000)) = true ∧ conjs (d.map (conC u)) ≤ 1000000 then 0 else 2) else chk p [u] [d]
def conL (p : Pr) (d : List Cel) (u : List UInt8) : List Cel := if conI p d u = 0 then d.map (conC u) else []

theorem conjs_map_take (f : Cel → Cel) (d : List Cel) (k : Nat) (h : k < d.length) : conjs ((d.take (k + 1)).map f) = conjs ((d.take k).map f) + (f d[k]).conj.length := by
  rw [List.take_succ_eq_append_getElem h, List.map_append, conjs_app]; simp [conjs]
theorem conjs_map_le (f : Cel → Cel) (d : List Cel) (k : Nat) : conjs ((d.take k).map f) ≤ conjs (d.map f) := by
  have := conjs_app ((d.take k).map f) ((d.drop k).map f); rw [← List.map_append, List.take_append_drop] at this; omega

/-- One more part in front of a word. -/
theorem front_app (w0 wX : World) (u c : List UInt8) (A : Option Addr) (cap : Nat) (L : Option Addr) (lc : Nat) (B : Nat) (hB : w0.heap.size ≤ B) (hown : wX.ownsRow B 5 1 (.slice A (red u).length cap) (red u).length (bs (red u))) (hL : RowAt wX L c)
    (hb : Below w0.heap.size w0 wX) (hap : ∀ a, L = some a → blk A ≠ some a.block) (hlt : ∀ a, L = some a → a.block < wX.heap.size) (hBX : B ≤ wX.heap.size) (hn : u.length + c.length ≤ 200000) :
    Calls Try.prog 50 #[.slice A (red u).length cap, .slice L c.length lc, .func (.func 52) #[] #[]] wX fun e w' => ∃ A' cap', e = .returned (.slice A' (red (u ++ c)).length cap') ∧ RowAt w' A' (red (u ++ c)) ∧ Below w0.heap.size w0 w' := by
  have hl : (run [] u).length = (red u).length := by show _ = (run [] u).reverse.length; rw [List.length_reverse]
  have h1 := gred_len invc u
  have := appRed_any B A cap (run [] u) c L lc wX (by rw [hl]; exact hown) hL hap hlt (by rw [hl]; show (gred invc u).length + _ ≤ _; omega) hBX
  rw [hl] at this
  refine this.mono ?_
  rintro e w' ⟨A', cap', rfl, hown', hg, hm⟩
  have e1 : (run (run [] u) c).reverse = red (u ++ c) := by show (run (run [] u) c).reverse = (run [] (u ++ c)).reverse; unfold run; rw [grun_app]
  have e2 : (run (run [] u) c).length = (red (u ++ c)).length := by rw [← e1, List.length_reverse]
  refine ⟨A', cap', by rw [e2], ?_, ?_⟩
  · have := rowAt_own hown'
    rwa [e1] at this
  · exact below_of_grown hb hg (Nat.le_trans hB hBX) (fun a ha => Nat.le_trans hB (own_ge hown a ha))

set_option maxHeartbeats 8000000 in
set_option maxRecDepth 100000 in
theorem Conjugate_ok (p : Pr) (R : Option Addr) (rc : Nat) (D : Option Addr) (dc : Nat) (d : List Cel) (u : List UInt8) (w : World) (hr : RelsAt w R p.rels) (hm : p.rels.length ≤ maxLen) (hd : CellsAt w D d) (hdm : d.length ≤ 5000000000000) (hD : D = none → d = [] ∧ dc = 0) (hul : u.length ≤ maxLen)
    (hk : chk p [u] [d] = 0) :
    Calls Try.prog 22 #[prV p.k R p.rels.length rc, .slice D d.length dc, .string ⟨u.toArray⟩] w (CellsP w (conL p d u) (conI p d u)) := by
  have HBX := Lib.hid (Boxd.start w (prC p.k R p.rels.length rc) 24)
  have HB1 := Lib.hid (HBX.out.on (Boxd.start (w.alloc (.cells (prC p.k R p.rels.length rc) 24)) #[.string ⟨u.toArray⟩] 9).old)
  have HB2 := Lib.hid (HB1.out.on (Boxd.start ((w.alloc (.cells (prC p.k R p.rels.length rc) 24)).alloc (.cells #[.string ⟨u.toArray⟩] 9)) #[.slice D d.length dc] 25).old)
  have hE := examine_any p R rc (some ⟨(w.alloc (.cells (prC p.k R p.rels.length rc) 24)).heap.size, 0, none⟩) 1 [u] (some ⟨((w.alloc (.cells (prC p.k R p.rels.length rc) 24)).alloc (.cells #[.string ⟨u.toArray⟩] 9)).heap.size, 0, none⟩) 1 [⟨D, dc, d⟩] (((w.alloc (.cells (prC p.k R p.rels.length rc) 24)).alloc (.cells #[.string ⟨u.toArray⟩] 9)).alloc (.cells #[.slice D d.length dc] 25)) (hr.below HB2.out.old) hm
    ((rels_one hul 9).below ((Below.refl _ _).alloc (Nat.le_refl _) _)) (disks_one (hd.below HB1.out.old) hdm 25) (by simp) (by simp)
  simp only [World.size_alloc, List.map_cons, List.map_nil, List.length_cons, List.length_nil] at hE
  have HCI : Hid (conI p d u = if (d.all fun c => decide (u.length + c.conj.length ≤ 100000)) = true ∧ conjs (d.map (conC u)) ≤ 1000000 then 0 else 2) := Lib.hid (if_pos hk)
  have hdb := (chk_ok hk).2.2
  simp only [List.all_cons, List.all_nil, Bool.and_true] at hdb
  have hd1 := (diskB_facts hdb).1
  have hu5 : u.length ≤ 100000 := isWd_len (k := p.k) (l := u) (by have := (chk_ok hk).2.1; simpa using this)
  have HSD := Lib.hid (disk_sized hdb)
  have HC5 := Lib.hid (show ∀ c ∈ d, c.conj.length ≤ 100000 from fun c hc => isWd_len ((diskB_facts hdb).2.2 c hc).2)
  rw [hk] at hE
  have HCD := Lib.hid hd
  have HDN := Lib.hid hD
  have HSU : (ByteArray.mk u.toArray).size = u.length := size_mk u
  clear hr hd hm hD hk hdb hul
  go_enter Try.func22, Try.ntmps22
  go_wp2_with fail
  refine hE.mono ?_
  rintro e1 w1 ⟨rfl, hb1⟩
  have HX1 := Lib.hid (HB2.out.on' (hb1.mono (by omega)))
  have hC := CloneC_any D dc d w1 (HCD.out.below HX1.out.old) (fun h => (HDN.out h).1) (by omega)
  clear hE hb1
  go_wp2_with fail
  refine hC.mono ?_
  rintro e2 w2 ⟨A2, c2, rfl, hown2, hb2⟩
  have HX2 := Lib.hid (HX1.out.on hb2)
  have HO2 := Lib.hid hown2
  have HS12 := Lib.hid hb2.size
  have hb2k := Lib.hid hb2
  have hRd := reduced_any u w2 (by omega)
  clear hC hown2 hb2
  go_wp2_with fail
  refine hRd.mono ?_
  rintro e3 w3 ⟨rfl, hb3⟩
  have HX3 := Lib.hid (HX2.out.on hb3)
  have HO3 := Lib.hid (own_below HO2.out hb3)
  have hF := run_bw (red u) w3
  have HX4 := Lib.hid (HX3.out.on (bw_below w3 (red u)))
  have HO4 := Lib.hid (own_below HO3.out (bw_below w3 (red u)))
  have HF4 := Lib.hid (bw_row w3 (red u))
  have HB14 := Lib.hid (hb2k.out.trans (((hb3.mono hb2k.out.size)).trans ((bw_below w3 (red u)).mono (Nat.le_trans hb2k.out.size hb3.size))))
  have HSF := Lib.hid (bw_size w3 (red u))
  have HS3 := Lib.hid (Nat.le_trans HS12.out hb3.size)
  have HG := Lib.hid (fun k => (blk_lt HO3.out k))
  generalize bcap w3 (red u) = fc at *
  generalize hw4 : bw w3 (red u) = w4 at *
  have HW4 := Lib.hid hw4
  have hur := gred_len invc u
  have HUR := Lib.hid hur
  clear hRd hb3 hw4 hur
  go_wp2
  go_loopw [11, 12, 13, 30] (fun lt _ _ i wr => ∃ (k m : Nat), k ≤ d.length ∧ i = .int .i64 (k : Int) ∧ lt = .int .i64 (m : Int) ∧ m = conjs ((d.take k).map (conC u)) ∧ m ≤ 1000000 ∧ (d.take k).all (fun c => decide (u.length + c.conj.length ≤ 100000)) = true ∧
      wr.ownsRow w1.heap.size 61 3 (.slice A2 d.length c2) d.length (cs3 ((d.take k).map (conC u) ++ d.drop k)) ∧ RowAt wr (some ⟨w3.heap.size, 0, none⟩) (red u) ∧ w3.heap.size < wr.heap.size ∧ Below w1.heap.size w1 wr)
    (fun _ _ _ i _ => d.length - (intOf i).toNat)
  case atStart =>
    refine ⟨0, 0, Nat.zero_le _, rfl, rfl, rfl, by omega, rfl, by simpa using HO4.out, HF4.out, by rw [HSF.out]; omega, HB14.out⟩
  case round =>
    obtain ⟨k, m, hk, rfl, rfl, hmm, hm1, hall, hown, hrow, hsz, hb⟩ := hrel
    have HMM := Lib.hid hmm
    have HALL := Lib.hid hall
    have HOW := Lib.hid hown
    have HROW := Lib.hid hrow
    have HB := Lib.hid hb
    clear hmm hall hown hrow hb
    by_cases hlt : k < d.length
    · have HS := Lib.hid (all_take_succL d (fun c => decide (u.length + c.conj.length ≤ 100000)) k hlt)
      have HN := Lib.hid (all_noL d (fun c => decide (u.length + c.conj.length ≤ 100000)) k hlt)
      have HCJ : Hid (conjs ((d.take (k + 1)).map (conC u)) = m + (conC u d[k]).conj.length) := Lib.hid (by rw [conjs_map_take _ d k hlt, HMM.out])
      have HLE := Lib.hid (conjs_map_le (conC u) d (k + 1))
      have HOC := Lib.hid (fun (W : World) (g : Nat) (hW : W.ownsRow w1.heap.size 61 3 (.slice (some ⟨g, 0, none⟩) d.length c2) d.length (cs3 ((d.take k).map (conC u) ++ d.drop k))) => own_conj (f := conC u) hlt hW rfl rfl)
      obtain ⟨b, o, hDA, hcel⟩ := (HCD.out.below (HX1.out.on' (HB.out.mono HX1.out.size)).old) k hlt
      have hc5 := HC5.out d[k] (List.getElem_mem _)
      subst hDA
      obtain ⟨g, o2, hA, hg0⟩ : ∃ g o2, A2 = some ⟨g, o2, none⟩ ∧ CelAt wr g (o2 + k * 3) (((d.take k).map (conC u) ++ d.drop k)[k]'(by rw [map_take_len]; exact hlt)) := cells_own HOW.out (by
          intro c hc
          rcases List.mem_append.1 hc with hc | hc
          · obtain ⟨x, hx, rfl⟩ := List.mem_map.1 hc
            have h1 := HC5.out x (List.mem_of_mem_take hx)
            have h2 := gred_len invc (u ++ x.conj)
            rw [List.length_append] at h2
            show (gred invc (u ++ x.conj)).length ≤ _
            omega
          · have := HC5.out c (List.mem_of_mem_drop hc); omega) k (by rw [map_take_len]; exact hlt)
      obtain rfl : o2 = 0 := by
        rcases own_shape HOW.out with ⟨h, _⟩ | ⟨g', h, _⟩
        · rw [hA] at h; cases h
        · rw [hA] at h; cases h; rfl
      subst hA
      rw [Nat.zero_add, map_take_get (conC u) d k hlt] at hg0
      generalize d[k] = x at *
      obtain ⟨xc, xr, xi⟩ := x
      obtain ⟨q0, q1, q2, q3⟩ := hcel
      obtain ⟨y0, y1, y2, y3⟩ := hg0
      simp only at q0 q1 q2 q3 hc5 y0 y1 y2
      have HSX : (ByteArray.mk xc.toArray).size = xc.length := size_mk xc
      by_cases hbig : 100000 < u.length + xc.length
      · have HE : Hid (conI p d u = 2) := Lib.hid (by rw [HCI.out, if_neg (fun h => by have := HN.out (by simp; omega); rw [this] at h; exact absurd h.1 (by simp))])
        have HEL : Hid (conL p d u = []) := Lib.hid (by unfold conL; rw [HE.out]; rfl)
        have e1 : decide ((100000 : Int) < (u.length : Int) + (xc.length : Int)) = true := by simp; omega
        have e2 : decide (100000 < u.length + xc.length) = true := by simpa using hbig
        have HBX5 := Lib.hid (HX1.out.on' ((HB.out.trans ((Below.refl w1.heap.size wr).alloc HB.out.size (.cells (celC xc xr xi) 61))).mono HX1.out.size))
        go_wp2
        go_ret2
        rw [HE.out, HEL.out]
        exact CellsP.no HBX5.out.old
      have e1 : decide ((100000 : Int) < (u.length : Int) + (xc.length : Int)) = false := by simp; omega
      have e2 : decide (100000 < u.length + xc.length) = false := by simpa using hbig
      have HUX : Hid (u.length + xc.length ≤ 200000) := Lib.hid (by omega)
      have HBA : Hid (Below wr.heap.size wr (wr.alloc (.cells (celC xc xr xi) 61))) := Lib.hid ((Below.refl _ _).alloc (Nat.le_refl _) _)
      have HBXC := Lib.hid (HasCells.new wr (celC xc xr xi) 61)
      have HAS := Lib.hid (World.size_alloc wr (.cells (celC xc xr xi) 61))
      have hconv := run_bw xc
      go_wp2
      have HDD := Lib.hid (HBA.out.drewN 1)
      have HBXD := Lib.hid (HBXC.out.drewN 1)
      generalize hw5 : wr.alloc (.cells (celC xc xr xi) 61) = wa at *
      have HW5 := Lib.hid hw5
      have b0 : wa.drew.cell? ⟨wr.heap.size, 0, none⟩ = some (.string ⟨xc.toArray⟩) := HBXD.out.cell 0
      have HRWD := Lib.hid (HROW.out.below HDD.out)
      have HSWD : Hid (w3.heap.size < wa.drew.heap.size) := Lib.hid (Nat.lt_of_lt_of_le hsz HDD.out.size)
      have HCL1 := Lib.hid (Clone_any (some ⟨w3.heap.size, 0, none⟩) fc (red u) wa.drew HRWD.out (fun h => by cases h) (by have := HUR.out; show (gred invc u).length ≤ _; omega))
      have HCL2 := Lib.hid (Clone_any (some ⟨w3.heap.size, 0, none⟩) fc (red u) (bw wa.drew xc) (HRWD.out.below (bw_below _ _)) (fun h => by cases h) (by have := HUR.out; show (gred invc u).length ≤ _; omega))
      have HZ : Hid (∀ W, Below wr.heap.size wr W → W.cell? ⟨g, k * 3, none⟩ = some (.string ⟨xc.toArray⟩) ∧ W.frozen? ⟨g, k * 3, none⟩ = false) := Lib.hid (fun W hW => ⟨(hW.cell (p := ⟨g, k * 3, none⟩) (lt_of_cell y0)).trans y0, (own_below HOW.out hW).frozenAt _⟩)
      clear hw5 q0 q1 q2 q3 y0 y1 y2 y3
      go_region_with (first
        | (go_at_call 51; ((with_reducible refine HCL1.out.mono ?_); rintro e5 wA ⟨A5, c5, rfl, hown5, hb5⟩; have HFA := Lib.hid (front_app wr (bw wA xc) u xc A5 c5 (some ⟨wA.heap.size, 0, none⟩) (bcap wA xc) wa.drew.heap.size HDD.out.size (own_below hown5 (bw_below wA xc)) (bw_row wA xc) (HDD.out.trans ((hb5.mono HDD.out.size).trans ((bw_below wA xc).mono (Nat.le_trans HDD.out.size hb5.size)))) (fun a ha => by cases ha; exact fun e => absurd (blk_lt hown5 _ e).2 (Nat.lt_irrefl _)) (fun a ha => by cases ha; rw [bw_size]; exact Nat.lt_succ_self _) (Nat.le_trans hb5.size (bw_below wA xc).size) HUX.out); have b0A := (HBXD.out.below hb5).cell 0; simp only [List.getElem?_toArray, List.getElem?_cons_zero] at b0A; clear hown5 hb5 b0))
        | (go_at_call 51; ((with_reducible refine HCL2.out.mono ?_); rintro e5 wB ⟨A5, c5, rfl, hown5, hb5⟩; have HFB := Lib.hid (front_app wr wB u xc A5 c5 (some ⟨wa.heap.size, 0, none⟩) (bcap wa.drew xc) (bw wa.drew xc).heap.size (Nat.le_trans HDD.out.size (bw_below wa.drew xc).size) hown5 ((bw_row wa.drew xc).below hb5) (HDD.out.trans (((bw_below wa.drew xc).mono HDD.out.size).trans (hb5.mono (Nat.le_trans HDD.out.size (bw_below wa.drew xc).size)))) (fun a ha => by cases ha; exact fun e => by have h1 := (blk_lt hown5 _ e).1; rw [bw_size] at h1; exact absurd h1 (Nat.not_succ_le_self _)) (fun a ha => by cases ha; have h1 := hb5.size; rw [bw_size] at h1; exact h1) hb5.size HUX.out); clear hown5 hb5 b0))
        | (go_at_call 50; ((with_reducible refine HFA.out.mono ?_); rintro e6 w6 ⟨A6, c6, rfl, hrow6, hb6⟩; have hrun6 := run_string_row w6 A6 c6 _ hrow6; obtain ⟨z0, f0⟩ := HZ.out w6 hb6; have HB6 := Lib.hid hb6; clear hrow6 hb6))
        | (go_at_call 50; ((with_reducible refine HFB.out.mono ?_); rintro e6 w6 ⟨A6, c6, rfl, hrow6, hb6⟩; have hrun6 := run_string_row w6 A6 c6 _ hrow6; obtain ⟨z0, f0⟩ := HZ.out w6 hb6; have HB6 := Lib.hid hb6; clear hrow6 hb6)))
      all_goals (
        have HO6 := Lib.hid (own_below HOW.out HB6.out)
        have HO7 : Hid ((w6.setCell ⟨g, k * 3, none⟩ (.string ⟨(red (u ++ xc)).toArray⟩)).ownsRow w1.heap.size 61 3 (.slice (some ⟨g, 0, none⟩) d.length c2) d.length (cs3 ((d.take (k + 1)).map (conC u) ++ d.drop (k + 1)))) := Lib.hid (HOC.out w6 g HO6.out)
        have HCJ2 : Hid (conjs ((d.take (k + 1)).map (conC u)) = m + (red (u ++ xc)).length) := HCJ
        have hrl : (red (u ++ xc)).length ≤ 200000 := by have := gred_len invc (u ++ xc); rw [List.length_append] at this; have := HUX.out; show (gred invc (u ++ xc)).length ≤ _; omega
        have HSR : (ByteArray.mk (red (u ++ xc)).toArray).size = (red (u ++ xc)).length := size_mk _
        have hgB := own_ge HOW.out _ rfl
        have HB7 := Lib.hid (show Below w1.heap.size w1 (w6.setCell ⟨g, k * 3, none⟩ (.string ⟨(red (u ++ xc)).toArray⟩)) from HB.out.trans ((HB6.out.mono HB.out.size).trans ((Below.refl _ w6).setCell (p := ⟨g, k * 3, none⟩) hgB _)))
        have HR7 : Hid (RowAt (w6.setCell ⟨g, k * 3, none⟩ (.string ⟨(red (u ++ xc)).toArray⟩)) (some ⟨w3.heap.size, 0, none⟩) (red u)) := Lib.hid ((HROW.out.below HB6.out).grown (row := some g) (World.ownsRow.stored HO6.out _ _).2 (fun a ha => by
          cases ha
          intro e
          have e2 : g = w3.heap.size := Option.some.inj e
          exact absurd (HG.out g rfl).2 (by omega)))
        have hs6 := HB6.out.size
        clear hrun6
        generalize red (u ++ xc) = r at *
        by_cases hfat : 1000000 < m + r.length
        · have HE : Hid (conI p d u = 2) := Lib.hid (by rw [HCI.out, if_neg (fun h => by have h1 := HLE.out; have h2 := h.2; rw [HCJ2.out] at h1; omega)])
          have HEL : Hid (conL p d u = []) := Lib.hid (by unfold conL; rw [HE.out]; rfl)
          have e3 : decide ((1000000 : Int) < (m : Int) + (r.length : Int)) = true := by simp; omega
          have e4 : decide (1000000 < m + r.length) = true := by simpa using hfat
          have HBX5 := Lib.hid (HX1.out.on' (HB7.out.mono HX1.out.size))
          go_wp2
          go_ret2
          rw [HE.out, HEL.out]
          exact CellsP.no HBX5.out.old
        · have e3 : decide ((1000000 : Int) < (m : Int) + (r.length : Int)) = false := by simp; omega
          have e4 : decide (1000000 < m + r.length) = false := by simpa using hfat
          go_wp2
          go_roundw
          case rel => exact ⟨k + 1, m + r.length, by omega, by go_num, by go_num, HCJ2.out.symm, by omega, by rw [HS.out, HALL.out]; simp; omega, HO7.out, HR7.out, by simp; omega, HB7.out⟩
          case measure => simp [intOf]; omega)
    · obtain rfl : k = d.length := by omega
      have hz := HALL.out
      have hmz := HMM.out
      have hoz := HOW.out
      rw [List.take_length] at hz hmz
      rw [List.take_length, List.drop_length, List.append_nil] at hoz
      have HE : Hid (conI p d u = 0) := Lib.hid (by rw [HCI.out, if_pos ⟨hz, by omega⟩])
      have HEL : Hid (conL p d u = d.map (conC u)) := Lib.hid (by unfold conL; rw [HE.out]; rfl)
      have hml : (d.map (conC u)).length = d.length := List.length_map _
      have HOZ := Lib.hid hoz
      have HML := Lib.hid hml
      have HSZ := Lib.hid (show Sized (d.map (conC u)) from fun c hc => by
        obtain ⟨x, hx, rfl⟩ := List.mem_map.1 hc
        have h1 := HC5.out x hx
        have h2 := gred_len invc (u ++ x.conj)
        rw [List.length_append] at h2
        show (gred invc (u ++ x.conj)).length ≤ _
        omega)
      have HBX5 := Lib.hid (HX1.out.on' (HB.out.mono HX1.out.size))
      clear hz hmz hoz hml
      go_wp2
      go_ret2
      rw [HE.out, HEL.out]
      have h1 := HOZ.out
      rw [← HML.out] at h1
      have := CellsP.of_own (c := 0) h1 HSZ.out HBX5.out.old
      rw [HML.out] at this
      exact this

set_option maxHeartbeats 2000000 in
set_option maxRecDepth 100000 in
theorem Conjugate_any (p : Pr) (R : Option Addr) (rc : Nat) (D : Option Addr) (dc : Nat) (d : List Cel) (u : List UInt8) (w : World) (hr : RelsAt w R p.rels) (hm : p.rels.length ≤ maxLen) (hd : CellsAt w D d) (hdm : d.length ≤ 5000000000000) (hD : D = none → d = [] ∧ dc = 0) (hul : u.length ≤ maxLen) :
    Calls Try.prog 22 #[prV p.k R p.rels.length rc, .slice D d.length dc, .string ⟨u.toArray⟩] w (CellsP w (conL p d u) (conI p d u)) := by
  by_cases hk : chk p [u] [d] = 0
  · exact Conjugate_ok p R rc D dc d u w hr hm hd hdm hD hul hk
  have HBX := Lib.hid (Boxd.start w (prC p.k R p.rels.length rc) 24)
  have HB1 := Lib.hid (HBX.out.on (Boxd.start (w.alloc (.cells (prC p.k R p.rels.length rc) 24)) #[.string ⟨u.toArray⟩] 9).old)
  have HB2 := Lib.hid (HB1.out.on (Boxd.start ((w.alloc (.cells (prC p.k R p.rels.length rc) 24)).alloc (.cells #[.string ⟨u.toArray⟩] 9)) #[.slice D d.length dc] 25).old)
  have hE := examine_any p R rc (some ⟨(w.alloc (.cells (prC p.k R p.rels.length rc) 24)).heap.size, 0, none⟩) 1 [u] (some ⟨((w.alloc (.cells (prC p.k R p.rels.length rc) 24)).alloc (.cells #[.string ⟨u.toArray⟩] 9)).heap.size, 0, none⟩) 1 [⟨D, dc, d⟩] (((w.alloc (.cells (prC p.k R p.rels.length rc) 24)).alloc (.cells #[.string ⟨u.toArray⟩] 9)).alloc (.cells #[.slice D d.length dc] 25)) (hr.below HB2.out.old) hm
    ((rels_one hul 9).below ((Below.refl _ _).alloc (Nat.le_refl _) _)) (disks_one (hd.below HB1.out.old) hdm 25) (by simp) (by simp)
  simp only [World.size_alloc, List.map_cons, List.map_nil, List.length_cons, List.length_nil] at hE
  have HCI : Hid (conI p d u = chk p [u] [d]) := Lib.hid (if_neg hk)
  have HCL : Hid (conL p d u = []) := Lib.hid (by unfold conL; rw [HCI.out, if_neg hk])
  have hne : (chk p [u] [d] != 0) = true := by simpa using hk
  clear hk hr hd hD
  generalize chk p [u] [d] = q at *
  go_enter Try.func22, Try.ntmps22
  go_wp2_with fail
  refine hE.mono ?_
  rintro e1 w1 ⟨rfl, hb1⟩
  have HX := Lib.hid (HB2.out.on' (hb1.mono (by omega)))
  clear hb1 hE
  go_wp2
  go_ret2
  rw [HCI.out, HCL.out]
  exact CellsP.no HX.out.old
end Go.Proofs.Ytbcckfggnlmhoaa
