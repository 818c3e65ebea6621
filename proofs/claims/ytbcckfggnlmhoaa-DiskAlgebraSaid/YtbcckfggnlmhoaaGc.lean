/-
  Our own text, in the proof of the law DiskAlgebra of package disk (cayleylaw04). Proved here: Simplify of the reference. Conditions: the arguments lie in memory as the slices say.
-/
import Derived.Test.YtbcckfggnlmhoaaGb
namespace Go.Proofs.Ytbcckfggnlmhoaa
open Go Go.RowKit

set_option maxHeartbeats 8000000 in
set_option maxRecDepth 100000 in
theorem rSimplify_any (p : Pr) (R : Option Addr) (rc : Nat) (D : Option Addr) (dc : Nat) (d : List Cel) (w : World) (hr : RelsAt w R p.rels) (hm : p.rels.length ≤ maxLen) (hd : CellsAt w D d) (hdm : d.length ≤ 5000000000000) :
    Calls Try.prog 19 #[prV p.k R p.rels.length rc, .slice D d.length dc] w (CellsP w (simL p d) (chk p [] [d])) := by
  have HBX := Lib.hid (Boxd.start w (prC p.k R p.rels.length rc) 24)
  have HB1 := Lib.hid (HBX.out.on (Boxd.start (w.alloc (.cells (prC p.k R p.rels.length rc) 24)) #[.slice D d.length dc] 25).old)
  have hX := checked_any p R rc none 0 [] (some ⟨(w.alloc (.cells (prC p.k R p.rels.length rc) 24)).heap.size, 0, none⟩) 1 [⟨D, dc, d⟩] ((w.alloc (.cells (prC p.k R p.rels.length rc) 24)).alloc (.cells #[.slice D d.length dc] 25)) (hr.below HB1.out.old) hm (rels_none _ _) (disks_one (hd.below HBX.out.old) hdm 25) (by simp) (by simp)
  simp only [World.size_alloc, List.map_cons, List.map_nil, List.length_cons, List.length_nil] at hX
  have HCD := Lib.hid hd
  clear hr hd hm
  by_cases hk : chk p [] [d] = 0
  case neg =>
    have HIL : Hid (simL p d = []) := Lib.hid (if_neg hk)
    have hne : (chk p [] [d] != 0) = true := by simpa using hk
    clear hk
    generalize chk p [] [d] = q at *
    go_enter Try.func19, Try.ntmps19
    go_wp2_with fail
    refine hX.mono ?_
    rintro e1 w1 ⟨rfl, hb1⟩
    have HX := Lib.hid (HB1.out.on' (hb1.mono (by omega)))
    clear hb1 hX
    go_wp2
    go_ret2
    rw [HIL.out]
    exact CellsP.no HX.out.old
  case pos =>
  have HIL : Hid (simL p d = simp4 d) := Lib.hid (if_pos hk)
  have HK := Lib.hid hk
  obtain ⟨hp, hdb⟩ := chk_one' hk
  have hd1 := (diskB_facts hdb).1
  have HL := Lib.hid (show ∀ c ∈ d, c.conj.all (letB 8) = true ∧ c.conj.length ≤ 100000 from fun c hc => by
    have := ((diskB_facts hdb).2.2 c hc).2
    exact ⟨all_mono (presB_k hp).2.1 (isWd_all this), isWd_len this⟩)
  rw [hk] at hX
  clear hk hp hdb
  go_enter Try.func19, Try.ntmps19
  go_wp2_with fail
  refine hX.mono ?_
  rintro e1 w1 ⟨rfl, hb1⟩
  have HX := Lib.hid (HB1.out.on' (hb1.mono (by omega)))
  have HO0 := Lib.hid (own_empty w1 w1.heap.size 61 3 (Nat.le_refl _))
  have HB0 : Hid (Below w1.heap.size w1 (w1.alloc (.cells #[] 61))) := Lib.hid ((Below.refl _ _).alloc (Nat.le_refl _) _)
  clear hX hb1
  go_wp2
  go_loopw [7, 9, 10, 21] (fun out _ _ i wr => ∃ (k : Nat) (s : List Cel) (O : Option Addr) (n oc : Nat), k ≤ d.length ∧ i = .int .i64 (k : Int) ∧ s = grun invC [] ((d.take k).map redC) ∧ n = s.length ∧ n ≤ k ∧ Sized s ∧ out = .slice O n oc ∧ wr.ownsRow w1.heap.size 61 3 (.slice O n oc) n (cs3 s.reverse) ∧ Below w1.heap.size w1 wr)
    (fun _ _ _ i _ => d.length - (intOf i).toNat)
  case atStart => exact ⟨0, [], _, 0, 0, Nat.zero_le _, rfl, rfl, rfl, by omega, (fun c hc => by cases hc), rfl, HO0.out, HB0.out⟩
  case round =>
    obtain ⟨k, s, O, n, oc, hk, rfl, hss, hns, hnk, hsz, rfl, hown, hb⟩ := hrel
    have HS := Lib.hid hss
    have HB := Lib.hid hb
    have HOW := Lib.hid hown
    have HSS := Lib.hid hsz
    clear hss hb hown hsz
    by_cases hlt : k < d.length
    · have HSN : Hid (gstp invC s (redC d[k]) = grun invC [] ((d.take (k + 1)).map redC)) := Lib.hid (by
        rw [HS.out, List.take_succ_eq_append_getElem hlt, List.map_append]
        exact (grun_snoc invC [] _ _).symm)
      obtain ⟨b, o, hA, hx⟩ := (HCD.out.below (HX.out.on' (HB.out.mono HX.out.size)).old) k hlt
      subst hA
      obtain ⟨hc1, hc2⟩ := HL.out d[k] (List.getElem_mem _)
      generalize d[k] = x at *
      obtain ⟨xc, xr, xi⟩ := x
      obtain ⟨x0, x1, x2, _⟩ := hx
      simp only at x0 x1 x2 hc1 hc2
      have HSN2 : Hid (gstp invC s ⟨red xc, xr, xi⟩ = grun invC [] ((d.take (k + 1)).map redC)) := HSN
      have hrl : (red xc).length ≤ 100000 := Nat.le_trans (gred_len invc xc) hc2
      have hR : Calls Try.prog 25 #[.string ⟨xc.toArray⟩] (wr.alloc (.cells (celC xc xr xi) 61)) fun e w' => e = .returned (.string ⟨(red xc).toArray⟩) ∧ Below (wr.alloc (.cells (celC xc xr xi) 61)).heap.size (wr.alloc (.cells (celC xc xr xi) 61)) w' :=
        Reduce_any ⟨xc.toArray⟩ _ hc1 (by rw [size_mk]; omega)
      have HBX := Lib.hid (HasCells.new wr (celC xc xr xi) 61)
      have HBA : Hid (Below wr.heap.size wr (wr.alloc (.cells (celC xc xr xi) 61))) := Lib.hid ((Below.refl _ _).alloc (Nat.le_refl _) _)
      have HFZ := Lib.hid (frozen_new wr (celC xc xr xi) 61 0)
      have HSZ := Lib.hid (World.size_alloc wr (.cells (celC xc xr xi) 61))
      generalize red xc = r at *
      clear hc1 HSN
      go_wp2_with fail
      refine hR.mono ?_
      rintro e w3 ⟨rfl, hb3⟩
      have HB3 := Lib.hid (HBA.out.trans (hb3.mono HBA.out.size))
      have HX3 := Lib.hid (HBX.out.below hb3)
      have b0 := HX3.out.cell 0
      have b1 := HX3.out.cell 1
      have b2 := HX3.out.cell 2
      have f0 : w3.frozen? ⟨wr.heap.size, 0, none⟩ = false := (hb3.frozen (p := ⟨wr.heap.size, 0, none⟩) (by rw [HSZ.out]; exact Nat.lt_succ_self _)).trans HFZ.out
      simp only [List.getElem?_toArray, List.getElem?_cons_zero, List.getElem?_cons_succ] at b0 b1 b2
      have HB4 : Hid (Below wr.heap.size wr (w3.setCell ⟨wr.heap.size, 0, none⟩ (.string ⟨r.toArray⟩))) := Lib.hid (HB3.out.setCell (p := ⟨wr.heap.size, 0, none⟩) (Nat.le_refl _) _)
      have HBB := Lib.hid (HB.out.trans (HB4.out.mono HB.out.size))
      have HO4 := Lib.hid (own_below HOW.out HB4.out)
      clear x0 x1 x2 hb3 hR
      cases s with
      | nil =>
        obtain rfl : n = 0 := by simpa using hns
        clear hns
        have HSN3 : Hid ([⟨r, xr, xi⟩] = grun invC [] ((d.take (k + 1)).map redC)) := HSN2
        have hd0 : decide ((0 : Int) < 0) = false := by decide
        go_wp2
        have z0 : (w3.setCell ⟨wr.heap.size, 0, none⟩ (.string ⟨r.toArray⟩)).cell? ⟨wr.heap.size, 0, none⟩ = some (.string ⟨r.toArray⟩) := by go_simp
        have z1 : (w3.setCell ⟨wr.heap.size, 0, none⟩ (.string ⟨r.toArray⟩)).cell? ⟨wr.heap.size, 1, none⟩ = some (.int .i64 xr) := by go_simp
        have z2 : (w3.setCell ⟨wr.heap.size, 0, none⟩ (.string ⟨r.toArray⟩)).cell? ⟨wr.heap.size, 2, none⟩ = some (.bool xi) := by go_simp
        generalize hw4 : w3.setCell ⟨wr.heap.size, 0, none⟩ (.string ⟨r.toArray⟩) = w4 at *
        have HW4 := Lib.hid hw4
        clear hw4 b0 b1 b2 f0
        go_quiet (fail)
        go_wp2_with (at_builtin; refine append_oneC (w4.drewN nq) rfl (.tmp 70) (.tmp 72) rfl w1.heap.size O 0 oc [] r xr xi (by omega) rfl (show (w4.drewN nq).ownsRow _ _ _ _ _ _ from HO4.out) rfl (by omega) HBB.out.size ?_; intro A' cap' w5 hown5 hg5 hm5)
        have H5 := Lib.hid hown5
        have B5 := Lib.hid (below_of_grown (HBB.out.drewN nq) hg5 HBB.out.size (own_ge HO4.out))
        clear hown5 hg5 hm5
        go_wp2
        go_roundw
        case rel => exact ⟨k + 1, [⟨r, xr, xi⟩], A', 1, cap', by omega, by go_num, HSN3.out, rfl, by omega, (fun c hc => by simp at hc; subst hc; simp only; omega), rfl, H5.out, B5.out⟩
        case measure => simp [intOf]; omega
      | cons y t =>
        obtain rfl : n = t.length + 1 := by simpa using hns
        clear hns
        obtain ⟨g, o2, hO, hy⟩ := cells_own HO4.out (fun c hc => HSS.out c (List.mem_reverse.1 hc)) t.length (by simp)
        obtain rfl : o2 = 0 := by
          rcases own_shape HOW.out with ⟨h, _⟩ | ⟨g', h, _⟩
          · rw [hO] at h; cases h
          · rw [hO] at h; cases h; rfl
        subst hO
        have he : (y :: t).reverse[t.length]'(by simp) = y := by simp
        rw [he, Nat.zero_add] at hy
        clear he
        obtain ⟨yc, yr, yi⟩ := y
        obtain ⟨y0, y1, y2, y3⟩ := hy
        simp only at y0 y1 y2
        have hi0 : (0 : Int) ≤ (t.length : Int) := by omega
        have hi1 : (t.length : Int) < (t.length : Int) + 1 := by omega
        have hi2 : (t.length : Int) < ((t.length + 1 : Nat) : Int) := by omega
        have hcp := own_cap HOW.out
        have hd0 : decide ((0 : Int) < (t.length : Int) + 1) = true := by simp
        have hd1' : decide (0 < t.length + 1) = true := by simp
        have HYES : Hid (yc = r → yr = xr → yi = (!xi) → t = grun invC [] ((d.take (k + 1)).map redC)) := Lib.hid (fun h1 h2 h3 => by
          rw [← HSN2.out]
          show t = if (⟨yc, yr, yi⟩ : Cel) = invC ⟨r, xr, xi⟩ then t else _
          rw [if_pos (by rw [h1, h2, h3]; rfl)])
        have HNO : Hid (¬ (yc = r ∧ yr = xr ∧ yi = (!xi)) → ⟨r, xr, xi⟩ :: ⟨yc, yr, yi⟩ :: t = grun invC [] ((d.take (k + 1)).map redC)) := Lib.hid (fun h => by
          rw [← HSN2.out]
          show _ = if (⟨yc, yr, yi⟩ : Cel) = invC ⟨r, xr, xi⟩ then t else ⟨r, xr, xi⟩ :: ⟨yc, yr, yi⟩ :: t
          rw [if_neg (fun e => h (by have e1 := congrArg Cel.conj e; have e2 := congrArg Cel.rel e; have e3 := congrArg Cel.inv e; exact ⟨e1, e2, e3⟩))])
        have HT := Lib.hid (own_take (m := t.length) (by omega) HO4.out)
        have y0' : (w3.setCell ⟨wr.heap.size, 0, none⟩ (.string ⟨r.toArray⟩)).cell? ⟨g, t.length * 3, none⟩ = some (.string ⟨yc.toArray⟩) := y0
        have y1' : (w3.setCell ⟨wr.heap.size, 0, none⟩ (.string ⟨r.toArray⟩)).cell? ⟨g, t.length * 3 + 1, none⟩ = some (.int .i64 yr) := y1
        have y2' : (w3.setCell ⟨wr.heap.size, 0, none⟩ (.string ⟨r.toArray⟩)).cell? ⟨g, t.length * 3 + 2, none⟩ = some (.bool yi) := y2
        clear y0 y1 y2
        go_wp2
        have z0 : (w3.setCell ⟨wr.heap.size, 0, none⟩ (.string ⟨r.toArray⟩)).cell? ⟨wr.heap.size, 0, none⟩ = some (.string ⟨r.toArray⟩) := by go_simp
        have z1 : (w3.setCell ⟨wr.heap.size, 0, none⟩ (.string ⟨r.toArray⟩)).cell? ⟨wr.heap.size, 1, none⟩ = some (.int .i64 xr) := by go_simp
        have z2 : (w3.setCell ⟨wr.heap.size, 0, none⟩ (.string ⟨r.toArray⟩)).cell? ⟨wr.heap.size, 2, none⟩ = some (.bool xi) := by go_simp
        generalize hw4 : w3.setCell ⟨wr.heap.size, 0, none⟩ (.string ⟨r.toArray⟩) = w4 at *
        have HW4 := Lib.hid hw4
        clear hw4 b0 b1 b2 f0
        cases e1 : (yc == r) with
        | false =>
          have HSN3 := Lib.hid (HNO.out (fun h => by have h1 := h.1; subst h1; simp at e1))
          go_quiet (fail)
          go_wp2_with (at_builtin; refine append_oneC (w4.drewN nq) rfl (.tmp 70) (.tmp 72) rfl w1.heap.size (some ⟨g, 0, none⟩) (t.length + 1) oc ((⟨yc, yr, yi⟩ : Cel) :: t).reverse r xr xi (by omega) rfl (show (w4.drewN nq).ownsRow _ _ _ _ _ _ from HO4.out) rfl (by omega) HBB.out.size ?_; intro A' cap' w5 hown5 hg5 hm5)
          have H5 := Lib.hid hown5
          have B5 := Lib.hid (below_of_grown (HBB.out.drewN nq) hg5 HBB.out.size (own_ge HO4.out))
          clear hown5 hg5 hm5
          go_wp2
          go_roundw
          case rel => exact ⟨k + 1, ⟨r, xr, xi⟩ :: ⟨yc, yr, yi⟩ :: t, A', t.length + 1 + 1, cap', by omega, by go_num, HSN3.out, rfl, by omega, (fun c hc => by rcases List.mem_cons.1 hc with rfl | hc; (simp only; omega); exact HSS.out c hc), rfl, by have := H5.out; rwa [← List.reverse_cons] at this, B5.out⟩
          case measure => simp [intOf]; omega
        | true =>
          cases e2 : (yr == xr) with
          | false =>
            have e2' : decide (yr = xr) = false := by simpa using e2
            have HSN3 := Lib.hid (HNO.out (fun h => by have h1 := h.2.1; subst h1; simp at e2))
            go_quiet (fail)
            go_wp2_with (at_builtin; refine append_oneC (w4.drewN nq) rfl (.tmp 70) (.tmp 72) rfl w1.heap.size (some ⟨g, 0, none⟩) (t.length + 1) oc ((⟨yc, yr, yi⟩ : Cel) :: t).reverse r xr xi (by omega) rfl (show (w4.drewN nq).ownsRow _ _ _ _ _ _ from HO4.out) rfl (by omega) HBB.out.size ?_; intro A' cap' w5 hown5 hg5 hm5)
            have H5 := Lib.hid hown5
            have B5 := Lib.hid (below_of_grown (HBB.out.drewN nq) hg5 HBB.out.size (own_ge HO4.out))
            clear hown5 hg5 hm5
            go_wp2
            go_roundw
            case rel => exact ⟨k + 1, ⟨r, xr, xi⟩ :: ⟨yc, yr, yi⟩ :: t, A', t.length + 1 + 1, cap', by omega, by go_num, HSN3.out, rfl, by omega, (fun c hc => by rcases List.mem_cons.1 hc with rfl | hc; (simp only; omega); exact HSS.out c hc), rfl, by have := H5.out; rwa [← List.reverse_cons] at this, B5.out⟩
            case measure => simp [intOf]; omega
          | true =>
            have e2' : decide (yr = xr) = true := by simpa using e2
            cases e3 : (!(yi == xi)) with
            | false =>
              have HSN3 := Lib.hid (HNO.out (fun h => by have h1 := h.2.2; subst h1; simp at e3))
              go_quiet (fail)
              go_wp2_with (at_builtin; refine append_oneC (w4.drewN nq) rfl (.tmp 70) (.tmp 72) rfl w1.heap.size (some ⟨g, 0, none⟩) (t.length + 1) oc ((⟨yc, yr, yi⟩ : Cel) :: t).reverse r xr xi (by omega) rfl (show (w4.drewN nq).ownsRow _ _ _ _ _ _ from HO4.out) rfl (by omega) HBB.out.size ?_; intro A' cap' w5 hown5 hg5 hm5)
              have H5 := Lib.hid hown5
              have B5 := Lib.hid (below_of_grown (HBB.out.drewN nq) hg5 HBB.out.size (own_ge HO4.out))
              clear hown5 hg5 hm5
              go_wp2
              go_roundw
              case rel => exact ⟨k + 1, ⟨r, xr, xi⟩ :: ⟨yc, yr, yi⟩ :: t, A', t.length + 1 + 1, cap', by omega, by go_num, HSN3.out, rfl, by omega, (fun c hc => by rcases List.mem_cons.1 hc with rfl | hc; (simp only; omega); exact HSS.out c hc), rfl, by have := H5.out; rwa [← List.reverse_cons] at this, B5.out⟩
              case measure => simp [intOf]; omega
            | true =>
              have HSN3 := Lib.hid (HYES.out (by simpa using e1) (by simpa using e2) (by revert e3; cases yi <;> cases xi <;> simp))
              go_quiet (fail)
              go_wp2
              go_roundw
              case rel => exact ⟨k + 1, t, _, t.length, oc, by omega, by go_num, HSN3.out, rfl, by omega, (fun c hc => HSS.out c (List.mem_cons_of_mem _ hc)), rfl, by show w4.ownsRow _ _ _ _ _ _; have := HT.out; rwa [List.reverse_cons, cs3_app, List.take_left' (by rw [cs3_len, List.length_reverse])] at this, HBB.out.drewN nq⟩
              case measure => simp [intOf]; omega
    · obtain rfl : k = d.length := by omega
      have HR : Hid (s.reverse = simp4 d) := Lib.hid (by rw [HS.out, List.take_length]; rfl)
      have HLN : Hid (n = (simp4 d).length) := Lib.hid (by rw [← HR.out, List.length_reverse, hns])
      have HSR := Lib.hid (show Sized (simp4 d) from fun c hc => HSS.out c (by rw [← HR.out] at hc; exact List.mem_reverse.1 hc))
      have HX9 := Lib.hid (HX.out.on' (HB.out.mono HX.out.size))
      go_wp2
      go_ret2
      rw [HIL.out, HK.out]
      have h1 := HOW.out
      rw [HR.out, HLN.out] at h1
      have := CellsP.of_own (c := 0) h1 HSR.out HX9.out.old
      rw [← HLN.out] at this
      exact this
end Go.Proofs.Ytbcckfggnlmhoaa
