/-
  Our own text, in the proof of the law DiskAlgebra of package disk (cayleylaw04). Proved here: Shift, Conjugate and Simplify of the reference. Conditions: the arguments lie in memory as the slices say.
-/
import Derived.Test.YtbcckfggnlmhoaaGa
import Derived.Test.YtbcckfggnlmhoaaFa
namespace Go.Proofs.Ytbcckfggnlmhoaa
open Go Go.RowKit

theorem catC (a b c : List UInt8) (h : a ++ b = c) : ByteArray.mk a.toArray ++ ByteArray.mk b.toArray = ⟨c.toArray⟩ := by
  subst h
  have e : ∀ x y : ByteArray, x.data = y.data → x = y := fun x y h => by cases x; cases y; simp only at h; subst h; rfl
  exact e _ _ (by simp [ByteArray.data_append])

theorem frozen_new (w : World) (cs : Array Value) (t : TypeId) (i : Nat) : (w.alloc (.cells cs t)).frozen? ⟨w.heap.size, i, none⟩ = false := by
  unfold World.frozen?
  have := heap_alloc_new w (.cells cs t)
  simp only [this]
  simp

set_option maxHeartbeats 2000000 in
set_option maxRecDepth 100000 in
theorem Shift_any (A : Option Addr) (cap : Nat) (l : List Cel) (u : List UInt8) (w : World) (ha : CellsAt w A l) (hn : l.length ≤ 1000000000) (hu : u.all (letB 8) = true) (hul : u.length ≤ 100000) (hl : ∀ c ∈ l, c.conj.all (letB 8) = true ∧ c.conj.length ≤ 100000) :
    Calls Try.prog 44 #[.slice A l.length cap, .string ⟨u.toArray⟩] w (CloneC w (l.map (conC u))) := by
  have HA := Lib.hid ha
  have HL := Lib.hid hl
  have HU := Lib.hid hu
  have HO0 := Lib.hid (own_empty w w.heap.size 61 3 (Nat.le_refl _))
  have HB0 : Hid (Below w.heap.size w (w.alloc (.cells #[] 61))) := Lib.hid ((Below.refl _ _).alloc (Nat.le_refl _) _)
  clear ha hl hu
  go_enter Try.func44, Try.ntmps44
  go_wp2
  go_loopw [5, 7, 11] (fun out _ i wr => ∃ (k : Nat) (O' : Option Addr) (oc' : Nat), k ≤ l.length ∧ i = .int .i64 (k : Int) ∧ out = .slice O' k oc' ∧ wr.ownsRow w.heap.size 61 3 (.slice O' k oc') k (cs3 ((l.take k).map (conC u))) ∧ Below w.heap.size w wr)
    (fun _ _ i _ => l.length - (intOf i).toNat)
  case atStart => exact ⟨0, _, 0, Nat.zero_le _, rfl, rfl, HO0.out, HB0.out⟩
  case round =>
    obtain ⟨k, O', oc', hk, rfl, rfl, hown, hb⟩ := hrel
    have HOW := Lib.hid hown
    have HB := Lib.hid hb
    clear hown hb
    by_cases hlt : k < l.length
    · have HSN : Hid ((l.take (k + 1)).map (conC u) = (l.take k).map (conC u) ++ [conC u l[k]]) := Lib.hid (by rw [List.take_succ_eq_append_getElem hlt, List.map_append]; rfl)
      obtain ⟨b, o, hA, hx⟩ := (HA.out.below HB.out) k hlt
      subst hA
      obtain ⟨hc1, hc2⟩ := HL.out l[k] (List.getElem_mem _)
      generalize l[k] = x at *
      obtain ⟨xc, xr, xi⟩ := x
      obtain ⟨x0, x1, x2, _⟩ := hx
      simp only at x0 x1 x2 hc1 hc2
      obtain ⟨uc, huc⟩ : ∃ uc, u ++ xc = uc := ⟨_, rfl⟩
      have hcat := catC u xc uc huc
      have hula : uc.length ≤ 200000 := by rw [← huc, List.length_append]; omega
      have HSN2 : Hid ((l.take (k + 1)).map (conC u) = (l.take k).map (conC u) ++ [⟨red uc, xr, xi⟩]) := Lib.hid (by rw [HSN.out, ← huc]; rfl)
      have hrl : (red uc).length ≤ 200000 := Nat.le_trans (gred_len invc uc) hula
      have hR : Calls Try.prog 25 #[.string ⟨uc.toArray⟩] (wr.alloc (.cells (celC xc xr xi) 61)) fun e w' => e = .returned (.string ⟨(red uc).toArray⟩) ∧ Below (wr.alloc (.cells (celC xc xr xi) 61)).heap.size (wr.alloc (.cells (celC xc xr xi) 61)) w' :=
        Reduce_any ⟨uc.toArray⟩ _ (by show uc.all _ = true; rw [← huc, List.all_append, HU.out, hc1]; rfl) (by rw [size_mk]; omega)
      have HBX := Lib.hid (HasCells.new wr (celC xc xr xi) 61)
      have HBA : Hid (Below wr.heap.size wr (wr.alloc (.cells (celC xc xr xi) 61))) := Lib.hid ((Below.refl _ _).alloc (Nat.le_refl _) _)
      have HFZ : Hid ((wr.alloc (.cells (celC xc xr xi) 61)).frozen? ⟨wr.heap.size, 0, none⟩ = false) := Lib.hid (frozen_new wr _ 61 0)
      have HSZ := Lib.hid (World.size_alloc wr (.cells (celC xc xr xi) 61))
      generalize red uc = r at *
      clear huc hc1
      go_wp2_with fail
      refine hR.mono ?_
      rintro e w3 ⟨rfl, hb3⟩
      have HB3 := Lib.hid (HBA.out.trans (hb3.mono HBA.out.size))
      have HX3 := Lib.hid (HBX.out.below hb3)
      have b0 := HX3.out.cell 0
      have b1 := HX3.out.cell 1
      have b2 := HX3.out.cell 2
      have f0 : w3.frozen? ⟨wr.heap.size, 0, none⟩ = false := (hb3.frozen (p := ⟨wr.heap.size, 0, none⟩) (by rw [HSZ.out]; exact Nat.lt_succ_self _)).trans HFZ.out
      simp only [List.getElem?_toArray, List.getElem?_cons_zero, List.getElem?_cons_succ] at b0 b1 b2
      have HB4 : Hid (Below wr.heap.size wr (w3.setCell ⟨wr.heap.size, 0, none⟩ (.string ⟨r.toArray⟩))) := Lib.hid (HB3.out.setCell (p := ⟨wr.heap.size, 0, none⟩) (Nat.le_refl _) _)
      have HO4 := Lib.hid (own_below HOW.out HB4.out)
      clear x0 x1 x2 hb3 hR hcat
      go_wp2_with (at_builtin; refine append_oneD (w3.setCell ⟨wr.heap.size, 0, none⟩ (.string ⟨r.toArray⟩)) w3.heap.size (World.size_setCell _ _ _) rfl (.tmp 21) (.tmp 23) rfl w.heap.size O' k oc' _ r xr xi (by omega) rfl HO4.out rfl (by omega) (Nat.le_trans HB.out.size HB4.out.size) ?_; intro A' cap' w5 hown5 hg5 hm5)
      have H5 := Lib.hid hown5
      have B5 := Lib.hid (below_of_grown (HB.out.trans (HB4.out.mono HB.out.size)) hg5 (Nat.le_trans HB.out.size HB4.out.size) (own_ge HO4.out))
      clear hown5 hg5 hm5
      go_wp2
      go_roundw
      case rel => exact ⟨k + 1, A', cap', by omega, by go_num, rfl, by rw [HSN2.out]; exact H5.out, B5.out⟩
      case measure => simp [intOf]; omega
    · obtain rfl : k = l.length := by omega
      have hml : (l.map (conC u)).length = l.length := List.length_map _
      have HML := Lib.hid hml
      clear hml
      go_wp2
      go_ret
      have h := HOW.out
      rw [List.take_length] at h
      exact ⟨O', oc', by rw [HML.out]; rfl, by rw [HML.out]; exact h, HB.out⟩

theorem conI_all_no {p : Pr} {d : List Cel} {u : List UInt8} (hk : chk p [u] [d] = 0) {k : Nat} (hlt : k < d.length) (h : 100000 < u.length + (d[k]).conj.length) : conI p d u = 2 := by
  unfold conI
  rw [if_pos hk, if_neg]
  rintro ⟨h1, _⟩
  have := List.all_eq_true.1 h1 d[k] (List.getElem_mem _)
  simp at this; omega
theorem conI_disk {p : Pr} {d : List Cel} {u : List UInt8} (hk : chk p [u] [d] = 0) (ha : (d.all fun c => decide (u.length + c.conj.length ≤ 100000)) = true) : conI p d u = if diskB p (d.map (conC u)) = true then 0 else 2 := by
  have e : conI p d u = if conjs (d.map (conC u)) ≤ 1000000 then 0 else 2 := by
    unfold conI; rw [if_pos hk]
    by_cases h : conjs (d.map (conC u)) ≤ 1000000
    · rw [if_pos ⟨ha, h⟩, if_pos h]
    · rw [if_neg (fun x => h x.2), if_neg h]
  by_cases h : conjs (d.map (conC u)) ≤ 1000000
  · rw [if_pos h] at e
    rw [e, if_pos (diskB_con e)]
  · rw [e, if_neg h, if_neg]
    intro hb; exact h (diskB_facts hb).2.1

set_option maxHeartbeats 4000000 in
set_option maxRecDepth 100000 in
theorem rConjugate_any (p : Pr) (R : Option Addr) (rc : Nat) (D : Option Addr) (dc : Nat) (d : List Cel) (u : List UInt8) (w : World) (hr : RelsAt w R p.rels) (hm : p.rels.length ≤ maxLen) (hd : CellsAt w D d) (hdm : d.length ≤ 5000000000000) (hul : u.length ≤ maxLen) :
    Calls Try.prog 18 #[prV p.k R p.rels.length rc, .slice D d.length dc, .string ⟨u.toArray⟩] w (CellsP w (conL p d u) (conI p d u)) := by
  have HBX := Lib.hid (Boxd.start w (prC p.k R p.rels.length rc) 24)
  have HB1 := Lib.hid (HBX.out.on (Boxd.start (w.alloc (.cells (prC p.k R p.rels.length rc) 24)) #[.string ⟨u.toArray⟩] 9).old)
  have HB2 := Lib.hid (HB1.out.on (Boxd.start ((w.alloc (.cells (prC p.k R p.rels.length rc) 24)).alloc (.cells #[.string ⟨u.toArray⟩] 9)) #[.slice D d.length dc] 25).old)
  have hE := checked_any p R rc (some ⟨(w.alloc (.cells (prC p.k R p.rels.length rc) 24)).heap.size, 0, none⟩) 1 [u] (some ⟨((w.alloc (.cells (prC p.k R p.rels.length rc) 24)).alloc (.cells #[.string ⟨u.toArray⟩] 9)).heap.size, 0, none⟩) 1 [⟨D, dc, d⟩] (((w.alloc (.cells (prC p.k R p.rels.length rc) 24)).alloc (.cells #[.string ⟨u.toArray⟩] 9)).alloc (.cells #[.slice D d.length dc] 25)) (hr.below HB2.out.old) hm
    ((rels_one hul 9).below ((Below.refl _ _).alloc (Nat.le_refl _) _)) (disks_one (hd.below HB1.out.old) hdm 25) (by simp) (by simp)
  simp only [World.size_alloc, List.map_cons, List.map_nil, List.length_cons, List.length_nil] at hE
  have HM := Lib.hid hm
  have HCD := Lib.hid hd
  by_cases hk : chk p [u] [d] = 0
  case neg =>
    have HCI : Hid (conI p d u = chk p [u] [d]) := Lib.hid (if_neg hk)
    have HCL : Hid (conL p d u = []) := Lib.hid (by unfold conL; rw [HCI.out, if_neg hk])
    have hne : (chk p [u] [d] != 0) = true := by simpa using hk
    clear hk hr hd hm
    generalize chk p [u] [d] = q at *
    go_enter Try.func18, Try.ntmps18
    go_wp2_with fail
    refine hE.mono ?_
    rintro e1 w1 ⟨rfl, hb1⟩
    have HX := Lib.hid (HB2.out.on' (hb1.mono (by omega)))
    clear hb1 hE
    go_wp2
    go_ret2
    rw [HCI.out, HCL.out]
    exact CellsP.no HX.out.old
  case pos =>
  obtain ⟨hpp, hpu, hpd⟩ := chk_word hk
  have HK := Lib.hid hk
  have HK1 := Lib.hid (presB_k hpp).1
  have HK8 := Lib.hid (presB_k hpp).2.1
  have hd1 := (diskB_facts hpd).1
  have HU := Lib.hid (all_mono (presB_k hpp).2.1 (isWd_all hpu))
  have hu5 := isWd_len hpu
  have HC5 := Lib.hid (show ∀ c ∈ d, c.conj.all (letB 8) = true ∧ c.conj.length ≤ 100000 from fun c hc => by
    have := ((diskB_facts hpd).2.2 c hc).2
    exact ⟨all_mono (presB_k hpp).2.1 (isWd_all this), isWd_len this⟩)
  have HSZ := Lib.hid (show Sized (d.map (conC u)) from fun c hc => by
    obtain ⟨x, hx, rfl⟩ := List.mem_map.1 hc
    have h1 := (HC5.out x hx).2
    have h2 := gred_len invc (u ++ x.conj)
    rw [List.length_append] at h2
    show (gred invc (u ++ x.conj)).length ≤ _
    omega)
  have HSU : (ByteArray.mk u.toArray).size = u.length := size_mk u
  rw [hk] at hE
  clear hr hd hm hdm hul hk hpp hpu hpd
  go_enter Try.func18, Try.ntmps18
  go_wp2_with fail
  refine hE.mono ?_
  rintro e1 w1 ⟨rfl, hb1⟩
  have HX1 := Lib.hid (HB2.out.on' (hb1.mono (by omega)))
  clear hE hb1
  go_wp2
  go_loopw [10, 23] (fun _ i wr => ∃ (k : Nat), k ≤ d.length ∧ i = .int .i64 (k : Int) ∧ (d.take k).all (fun c => decide (u.length + c.conj.length ≤ 100000)) = true ∧ Boxd w (prC p.k R p.rels.length rc) 24 wr)
    (fun _ i _ => d.length - (intOf i).toNat)
  case atStart => exact ⟨0, Nat.zero_le _, rfl, rfl, HX1.out⟩
  case round =>
    obtain ⟨k, hk, rfl, hall, hbx⟩ := hrel
    have HALL := Lib.hid hall
    have HX := Lib.hid hbx
    clear hall hbx
    by_cases hlt : k < d.length
    · have HS := Lib.hid (all_take_succL d (fun c => decide (u.length + c.conj.length ≤ 100000)) k hlt)
      have HNO := Lib.hid (conI_all_no HK.out hlt)
      obtain ⟨b, o, hDA, hcel⟩ := (HCD.out.below HX.out.old) k hlt
      have hc5 := (HC5.out d[k] (List.getElem_mem _)).2
      subst hDA
      generalize d[k] = x at *
      obtain ⟨xc, xr, xi⟩ := x
      obtain ⟨q0, q1, q2, q3⟩ := hcel
      simp only at q0 q1 q2 q3 hc5
      have HSX : (ByteArray.mk xc.toArray).size = xc.length := size_mk xc
      have HX2 := Lib.hid (HX.out.on (Boxd.start wr (celC xc xr xi) 61).old)
      by_cases hbig : 100000 < u.length + xc.length
      · have HE := Lib.hid (HNO.out hbig)
        have HEL : Hid (conL p d u = []) := Lib.hid (by unfold conL; rw [HE.out]; rfl)
        have e1 : decide ((100000 : Int) < (u.length : Int) + (xc.length : Int)) = true := by simp; omega
        have e2 : decide (100000 < u.length + xc.length) = true := by simpa using hbig
        go_wp2
        go_ret2
        rw [HE.out, HEL.out]
        exact CellsP.no HX2.out.old
      have e1 : decide ((100000 : Int) < (u.length : Int) + (xc.length : Int)) = false := by simp; omega
      have e2 : decide (100000 < u.length + xc.length) = false := by simpa using hbig
      go_wp2
      go_roundw
      case rel => exact ⟨k + 1, by omega, by go_num, by rw [HS.out, HALL.out]; simp; omega, HX2.out⟩
      case measure => simp [intOf]; omega
    · obtain rfl : k = d.length := by omega
      have hz := HALL.out
      rw [List.take_length] at hz
      have HCI := Lib.hid (conI_disk HK.out hz)
      have hS := Shift_any D dc d u wr (HCD.out.below HX.out.old) (by omega) HU.out hu5 HC5.out
      have hml : (d.map (conC u)).length = d.length := List.length_map _
      have HCL0 : Hid (conI p d u = 0 → conL p d u = d.map (conC u)) := Lib.hid (fun h => if_pos h)
      have HCL2 : Hid (conI p d u = 2 → conL p d u = []) := Lib.hid (fun h => by unfold conL; rw [h]; rfl)
      have hxl : (d.map (conC u)).length ≤ 100000 := by rw [hml]; exact hd1
      generalize d.map (conC u) = x at *
      clear hz hml
      go_wp2_with fail
      refine hS.mono ?_
      rintro e2 w2 ⟨A2, c2, rfl, hown2, hb2⟩
      have HX2 := Lib.hid (HX.out.on hb2)
      have HO2 := Lib.hid hown2
      have hI := IsDisk_any p R rc A2 c2 x w2 (cells_own hown2 HSZ.out) HM.out (by omega) HK1.out HK8.out
      have c0 := HX2.out.cell 0
      have c1 := HX2.out.cell 1
      simp only [List.getElem?_toArray, List.getElem?_cons_zero, List.getElem?_cons_succ] at c0 c1
      clear hS hown2 hb2
      cases hb : diskB p x with
      | false =>
        rw [hb] at hI
        have HP2 : Hid (conI p d u = 2) := Lib.hid (by rw [HCI.out, hb]; rfl)
        have HPL := Lib.hid (HCL2.out HP2.out)
        clear hb
        go_wp2_with fail
        refine hI.mono ?_
        rintro e3 w3 ⟨rfl, hb3⟩
        have HX4 := Lib.hid (HX2.out.on hb3)
        clear hb3 hI c0 c1
        go_wp2
        go_ret2
        rw [HP2.out, HPL.out]
        exact CellsP.no HX4.out.old
      | true =>
        rw [hb] at hI
        have HP2 : Hid (conI p d u = 0) := Lib.hid (by rw [HCI.out, hb]; rfl)
        have HPL := Lib.hid (HCL0.out HP2.out)
        clear hb
        go_wp2_with fail
        refine hI.mono ?_
        rintro e3 w3 ⟨rfl, hb3⟩
        have HX4 := Lib.hid (HX2.out.on hb3)
        have HO4 := Lib.hid (own_below HO2.out hb3)
        clear hb3 hI c0 c1
        go_wp2
        go_ret2
        rw [HP2.out, HPL.out]
        exact CellsP.of_own HO4.out HSZ.out HX4.out.old
end Go.Proofs.Ytbcckfggnlmhoaa
