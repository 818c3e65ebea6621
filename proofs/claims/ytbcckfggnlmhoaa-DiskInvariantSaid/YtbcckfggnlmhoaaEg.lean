/-
  Our own text, in the proofs of the laws of package disk (cayleylaw04). Proved here: Product, Inverse and Simplify of the program. Conditions: the arguments lie in memory as the slices say.
-/
import Derived.Test.YtbcckfggnlmhoaaEf
import Derived.Test.YtbcckfggnlmhoaaAo
namespace Go.Proofs.Ytbcckfggnlmhoaa
open Go Go.RowKit

/-- A list of cells and an error, handed back. -/
def CellsP (w : World) (l : List Cel) (c : Int) (e : Ending) (w' : World) : Prop :=
  ∃ A cap, e = .returned (.tuple #[.slice A l.length cap, .int .i64 c]) ∧ CellsAt w' A l ∧ (A = none → l = [] ∧ cap = 0) ∧ Below w.heap.size w w'
theorem CellsP.no {w w' : World} {c : Int} (hb : Below w.heap.size w w') : CellsP w [] c (.returned (.tuple #[.slice none 0 0, .int .i64 c])) w' :=
  ⟨none, 0, rfl, (fun i hi => absurd hi (Nat.not_lt_zero i)), fun _ => ⟨rfl, rfl⟩, hb⟩
theorem CellsP.of_own {w w' : World} {B : Nat} {l : List Cel} {c : Int} {A : Option Addr} {cap : Nat} (hown : w'.ownsRow B 61 3 (.slice A l.length cap) l.length (cs3 l)) (hs : Sized l) (hb : Below w.heap.size w w') : CellsP w l c (.returned (.tuple #[.slice A l.length cap, .int .i64 c])) w' := by
  refine ⟨A, cap, rfl, cells_own hown hs, fun h => ?_, hb⟩
  rcases own_shape hown with ⟨_, h2, h3⟩ | ⟨g, h2, _⟩
  · exact ⟨List.length_eq_zero_iff.1 h2, h3⟩
  · rw [h] at h2; cases h2

theorem disk_sized {p : Pr} {d : List Cel} (h : diskB p d = true) : Sized d := fun c hc => by
  have := isWd_len ((diskB_facts h).2.2 c hc).2; omega
theorem cell_sized {w : World} {D : Option Addr} {d : List Cel} (h : CellsAt w D d) : Sized d := fun c hc => by
  obtain ⟨i, hi, rfl⟩ := List.getElem_of_mem hc
  obtain ⟨b, o, _, h2⟩ := h i hi
  exact h2.len

theorem disks_two {w : World} {D E : Option Addr} {dc ec : Nat} {d e : List Cel} (hd : CellsAt w D d) (he : CellsAt w E e) (hm : d.length ≤ 5000000000000) (hm' : e.length ≤ 5000000000000) (t : TypeId) :
    DisksAt (w.alloc (.cells #[.slice D d.length dc, .slice E e.length ec] t)) (some ⟨w.heap.size, 0, none⟩) [⟨D, dc, d⟩, ⟨E, ec, e⟩] := by
  intro i hi
  have h2 : i = 0 ∨ i = 1 := by simp at hi; omega
  rcases h2 with rfl | rfl
  · exact ⟨w.heap.size, 0, rfl, by rw [Nat.zero_add, alloc_cell]; rfl, hd.below ((Below.refl _ w).alloc (Nat.le_refl _) _), hm⟩
  · exact ⟨w.heap.size, 0, rfl, by rw [Nat.zero_add, alloc_cell]; rfl, he.below ((Below.refl _ w).alloc (Nat.le_refl _) _), hm'⟩

/-- What Product, Inverse, Simplify hand back. -/
def prodI (p : Pr) (d e : List Cel) : Int := if chk p [] [d, e] = 0 then (if diskB p (d ++ e) = true then 0 else 2) else chk p [] [d, e]
def prodL (p : Pr) (d e : List Cel) : List Cel := if prodI p d e = 0 then d ++ e else []
def invL (p : Pr) (d : List Cel) : List Cel := if chk p [] [d] = 0 then ginv invC d else []
def simL (p : Pr) (d : List Cel) : List Cel := if chk p [] [d] = 0 then simp4 d else []

set_option maxHeartbeats 4000000 in
set_option maxRecDepth 100000 in
theorem Product_any (p : Pr) (R : Option Addr) (rc : Nat) (D : Option Addr) (dc : Nat) (d : List Cel) (E : Option Addr) (ec : Nat) (e : List Cel) (w : World) (hr : RelsAt w R p.rels) (hm : p.rels.length ≤ maxLen) (hd : CellsAt w D d) (hdm : d.length ≤ 5000000000000) (hD : D = none → d = [] ∧ dc = 0)
    (he : CellsAt w E e) (hem : e.length ≤ 5000000000000) (hE : E = none → e = [] ∧ ec = 0) :
    Calls Try.prog 20 #[prV p.k R p.rels.length rc, .slice D d.length dc, .slice E e.length ec] w (CellsP w (prodL p d e) (prodI p d e)) := by
  have HBX := Lib.hid (Boxd.start w (prC p.k R p.rels.length rc) 24)
  have HB1 := Lib.hid (HBX.out.on (Boxd.start (w.alloc (.cells (prC p.k R p.rels.length rc) 24)) #[.slice D d.length dc, .slice E e.length ec] 25).old)
  have hX := examine_any p R rc none 0 [] (some ⟨(w.alloc (.cells (prC p.k R p.rels.length rc) 24)).heap.size, 0, none⟩) 2 [⟨D, dc, d⟩, ⟨E, ec, e⟩] ((w.alloc (.cells (prC p.k R p.rels.length rc) 24)).alloc (.cells #[.slice D d.length dc, .slice E e.length ec] 25)) (hr.below HB1.out.old) hm (rels_none _ _) (disks_two (hd.below HBX.out.old) (he.below HBX.out.old) hdm hem 25) (by simp) (by simp)
  simp only [World.size_alloc, List.map_cons, List.map_nil, List.length_cons, List.length_nil] at hX
  have HM := Lib.hid hm
  have HREL := Lib.hid hr
  have HCD := Lib.hid hd
  have HCE := Lib.hid he
  have HDN := Lib.hid hD
  have HEN := Lib.hid hE
  clear hr hd he hm hD hE
  by_cases hk : chk p [] [d, e] = 0
  · have HK := Lib.hid hk
    have HPI : Hid (prodI p d e = if diskB p (d ++ e) = true then 0 else 2) := Lib.hid (if_pos hk)
    have hdb := (chk_ok hk).2.2
    simp only [List.all_cons, List.all_nil, Bool.and_true, Bool.and_eq_true] at hdb
    have hd1 := (diskB_facts hdb.1).1
    have he1 := (diskB_facts hdb.2).1
    have HSD := Lib.hid (show Sized (d ++ e) from fun c hc => by
      rcases List.mem_append.1 hc with hc | hc
      · exact disk_sized hdb.1 c hc
      · exact disk_sized hdb.2 c hc)
    rw [hk] at hX
    clear hk hdb
    go_enter Try.func20, Try.ntmps20
    go_wp2_with fail
    refine hX.mono ?_
    rintro e1 w1 ⟨rfl, hb1⟩
    have HX := Lib.hid (HB1.out.on' (hb1.mono (by omega)))
    have hB0 : Below w1.heap.size w1 (w1.alloc (.cells #[.slice D d.length dc, .slice E e.length ec] 25)) := (Below.refl _ _).alloc (Nat.le_refl _) _
    have HX2 := Lib.hid (HX.out.on hB0)
    have hcc := alloc_cell w1 #[.slice D d.length dc, .slice E e.length ec] 25
    have hC := SConcat_any w1.heap.size D E d e dc ec (w1.alloc (.cells #[.slice D d.length dc, .slice E e.length ec] 25)) (hcc 0) (hcc 1) (HCD.out.below HX2.out.old) (HCE.out.below HX2.out.old) HDN.out HEN.out (by omega)
    have HPL0 : Hid (prodI p d e = 0 → prodL p d e = d ++ e) := Lib.hid (fun h => if_pos h)
    have hxl : (d ++ e).length ≤ 200000 := by rw [List.length_append]; omega
    generalize d ++ e = x at *
    clear hX hb1 hB0 hcc
    go_wp2_with fail
    refine hC.mono ?_
    rintro e2 w2 ⟨A2, c2, rfl, hown2, hb2⟩
    have HX3 := Lib.hid (HX2.out.on hb2)
    have HO2 := Lib.hid hown2
    have hI := isDisk_any p R rc A2 c2 x w2 (cells_own hown2 HSD.out) HM.out (by unfold maxLen; omega)
    have c0 := HX3.out.cell 0
    have c1 := HX3.out.cell 1
    simp only [List.getElem?_toArray, List.getElem?_cons_zero, List.getElem?_cons_succ] at c0 c1
    clear hC hown2 hb2
    cases hb : diskB p x with
    | false =>
      rw [hb] at hI
      have HP2 : Hid (prodI p d e = 2) := Lib.hid (by rw [HPI.out, hb]; rfl)
      have HPL : Hid (prodL p d e = []) := Lib.hid (by unfold prodL; rw [HP2.out]; rfl)
      clear hb
      go_wp2_with fail
      refine hI.mono ?_
      rintro e3 w3 ⟨rfl, hb3⟩
      have HX4 := Lib.hid (HX3.out.on hb3)
      clear hb3 hI c0 c1
      go_wp2
      go_ret2
      rw [HP2.out, HPL.out]
      exact CellsP.no HX4.out.old
    | true =>
      rw [hb] at hI
      have HP2 : Hid (prodI p d e = 0) := Lib.hid (by rw [HPI.out, hb]; rfl)
      have HPL : Hid (prodL p d e = x) := Lib.hid (HPL0.out HP2.out)
      clear hb
      go_wp2_with fail
      refine hI.mono ?_
      rintro e3 w3 ⟨rfl, hb3⟩
      have HX4 := Lib.hid (HX3.out.on hb3)
      have HO4 := Lib.hid (own_below HO2.out hb3)
      clear hb3 hI c0 c1
      go_wp2
      go_ret2
      rw [HP2.out, HPL.out]
      exact CellsP.of_own HO4.out HSD.out HX4.out.old
  · have HPI : Hid (prodI p d e = chk p [] [d, e]) := Lib.hid (if_neg hk)
    have HPL : Hid (prodL p d e = []) := Lib.hid (by unfold prodL; rw [HPI.out, if_neg hk])
    have hne : (chk p [] [d, e] != 0) = true := by simpa using hk
    clear hk
    generalize chk p [] [d, e] = q at *
    go_enter Try.func20, Try.ntmps20
    go_wp2_with fail
    refine hX.mono ?_
    rintro e1 w1 ⟨rfl, hb1⟩
    have HX := Lib.hid (HB1.out.on' (hb1.mono (by omega)))
    clear hb1 hX
    go_wp2
    go_ret2
    rw [HPI.out, HPL.out]
    exact CellsP.no HX.out.old

set_option maxHeartbeats 4000000 in
set_option maxRecDepth 100000 in
theorem Inverse_any (p : Pr) (R : Option Addr) (rc : Nat) (D : Option Addr) (dc : Nat) (d : List Cel) (w : World) (hr : RelsAt w R p.rels) (hm : p.rels.length ≤ maxLen) (hd : CellsAt w D d) (hdm : d.length ≤ 5000000000000) (hD : D = none → d = [] ∧ dc = 0) :
    Calls Try.prog 21 #[prV p.k R p.rels.length rc, .slice D d.length dc] w (CellsP w (invL p d) (chk p [] [d])) := by
  have HBX := Lib.hid (Boxd.start w (prC p.k R p.rels.length rc) 24)
  have HB1 := Lib.hid (HBX.out.on (Boxd.start (w.alloc (.cells (prC p.k R p.rels.length rc) 24)) #[.slice D d.length dc] 25).old)
  have hX := examine_any p R rc none 0 [] (some ⟨(w.alloc (.cells (prC p.k R p.rels.length rc) 24)).heap.size, 0, none⟩) 1 [⟨D, dc, d⟩] ((w.alloc (.cells (prC p.k R p.rels.length rc) 24)).alloc (.cells #[.slice D d.length dc] 25)) (hr.below HB1.out.old) hm (rels_none _ _) (disks_one (hd.below HBX.out.old) hdm 25) (by simp) (by simp)
  simp only [World.size_alloc, List.map_cons, List.map_nil, List.length_cons, List.length_nil] at hX
  have HCD := Lib.hid hd
  have HDN := Lib.hid hD
  clear hr hd hm hD
  by_cases hk : chk p [] [d] = 0
  · have HIL : Hid (invL p d = ginv invC d) := Lib.hid (if_pos hk)
    have HK := Lib.hid hk
    have hdb := (chk_ok hk).2.2
    simp only [List.all_cons, List.all_nil, Bool.and_true] at hdb
    have hd1 := (diskB_facts hdb).1
    have HSD := Lib.hid (disk_sized hdb)
    have HSI := Lib.hid (show Sized (ginv invC d) from fun c hc => by
      simp only [ginv, List.mem_reverse, List.mem_map] at hc
      obtain ⟨x, hx, rfl⟩ := hc
      exact HSD.out x hx)
    rw [hk] at hX
    clear hk hdb
    go_enter Try.func21, Try.ntmps21
    go_wp2_with fail
    refine hX.mono ?_
    rintro e1 w1 ⟨rfl, hb1⟩
    have HX := Lib.hid (HB1.out.on' (hb1.mono (by omega)))
    have hI := inverseOfC_any D dc d w1 (HCD.out.below HX.out.old) (fun h => (HDN.out h).1) HSD.out (by omega)
    clear hX hb1
    go_wp2_with fail
    refine hI.mono ?_
    rintro e2 w2 ⟨A2, c2, rfl, hown2, hb2⟩
    have HO2 := Lib.hid hown2
    have HX2 := Lib.hid (HX.out.on hb2)
    clear hown2 hb2 hI
    go_wp2
    go_ret2
    rw [HIL.out, HK.out]
    exact CellsP.of_own HO2.out HSI.out HX2.out.old
  · have HIL : Hid (invL p d = []) := Lib.hid (if_neg hk)
    have hne : (chk p [] [d] != 0) = true := by simpa using hk
    clear hk
    generalize chk p [] [d] = q at *
    go_enter Try.func21, Try.ntmps21
    go_wp2_with fail
    refine hX.mono ?_
    rintro e1 w1 ⟨rfl, hb1⟩
    have HX := Lib.hid (HB1.out.on' (hb1.mono (by omega)))
    clear hb1 hX
    go_wp2
    go_ret2
    rw [HIL.out]
    exact CellsP.no HX.out.old

theorem simp4_mem (d : List Cel) : ∀ c ∈ simp4 d, ∃ x ∈ d, c = redC x := by
  have key : ∀ (l r : List Cel), ∀ c ∈ grun invC r l, c ∈ r ∨ c ∈ l := by
    intro l
    induction l with
    | nil => intro r c hc; exact .inl hc
    | cons x l ih =>
      intro r c hc
      rcases ih (gstp invC r x) c hc with h | h
      · cases r with
        | nil => simp [gstp] at h; exact .inr (by simp [h])
        | cons y t =>
          rw [gstp_cons] at h
          split at h
          · exact .inl (List.mem_cons_of_mem _ h)
          · rcases List.mem_cons.1 h with rfl | h
            · exact .inr (by simp)
            · exact .inl h
      · exact .inr (List.mem_cons_of_mem _ h)
  intro c hc
  have hc : c ∈ grun invC [] (d.map redC) := by simpa [simp4, gred] using hc
  rcases key _ _ c hc with h | h
  · cases h
  · obtain ⟨x, hx, rfl⟩ := List.mem_map.1 h
    exact ⟨x, hx, rfl⟩

set_option maxHeartbeats 4000000 in
set_option maxRecDepth 100000 in
theorem Simplify_any (p : Pr) (R : Option Addr) (rc : Nat) (D : Option Addr) (dc : Nat) (d : List Cel) (w : World) (hr : RelsAt w R p.rels) (hm : p.rels.length ≤ maxLen) (hd : CellsAt w D d) (hdm : d.length ≤ 5000000000000) (hD : D = none → d = [] ∧ dc = 0) :
    Calls Try.prog 23 #[prV p.k R p.rels.length rc, .slice D d.length dc] w (CellsP w (simL p d) (chk p [] [d])) := by
  have HBX := Lib.hid (Boxd.start w (prC p.k R p.rels.length rc) 24)
  have HB1 := Lib.hid (HBX.out.on (Boxd.start (w.alloc (.cells (prC p.k R p.rels.length rc) 24)) #[.slice D d.length dc] 25).old)
  have hX := examine_any p R rc none 0 [] (some ⟨(w.alloc (.cells (prC p.k R p.rels.length rc) 24)).heap.size, 0, none⟩) 1 [⟨D, dc, d⟩] ((w.alloc (.cells (prC p.k R p.rels.length rc) 24)).alloc (.cells #[.slice D d.length dc] 25)) (hr.below HB1.out.old) hm (rels_none _ _) (disks_one (hd.below HBX.out.old) hdm 25) (by simp) (by simp)
  simp only [World.size_alloc, List.map_cons, List.map_nil, List.length_cons, List.length_nil] at hX
  have HCD := Lib.hid hd
  have HDN := Lib.hid hD
  clear hr hd hm hD
  by_cases hk : chk p [] [d] = 0
  · have HIL : Hid (simL p d = simp4 d) := Lib.hid (if_pos hk)
    have HK := Lib.hid hk
    have hdb := (chk_ok hk).2.2
    simp only [List.all_cons, List.all_nil, Bool.and_true] at hdb
    have hd1 := (diskB_facts hdb).1
    have HSD := Lib.hid (show ∀ c ∈ d, c.conj.length ≤ 1000000000 from fun c hc => by have := isWd_len ((diskB_facts hdb).2.2 c hc).2; omega)
    have HSI := Lib.hid (show Sized (simp4 d) from fun c hc => by
      obtain ⟨x, hx, rfl⟩ := simp4_mem d c hc
      exact Nat.le_trans (redC_len x) (disk_sized hdb x hx))
    rw [hk] at hX
    clear hk hdb
    go_enter Try.func23, Try.ntmps23
    go_wp2_with fail
    refine hX.mono ?_
    rintro e1 w1 ⟨rfl, hb1⟩
    have HX := Lib.hid (HB1.out.on' (hb1.mono (by omega)))
    have hI := simplified_any D dc d w1 (HCD.out.below HX.out.old) (fun h => (HDN.out h).1) HSD.out (by omega)
    clear hX hb1
    go_wp2_with fail
    refine hI.mono ?_
    rintro e2 w2 ⟨A2, c2, rfl, hown2, hb2⟩
    have HO2 := Lib.hid hown2
    have HX2 := Lib.hid (HX.out.on hb2)
    clear hown2 hb2 hI
    go_wp2
    go_ret2
    rw [HIL.out, HK.out]
    exact CellsP.of_own HO2.out HSI.out HX2.out.old
  · have HIL : Hid (simL p d = []) := Lib.hid (if_neg hk)
    have hne : (chk p [] [d] != 0) = true := by simpa using hk
    clear hk
    generalize chk p [] [d] = q at *
    go_enter Try.func23, Try.ntmps23
    go_wp2_with fail
    refine hX.mono ?_
    rintro e1 w1 ⟨rfl, hb1⟩
    have HX := Lib.hid (HB1.out.on' (hb1.mono (by omega)))
    clear hb1 hX
    go_wp2
    go_ret2
    rw [HIL.out]
    exact CellsP.no HX.out.old
end Go.Proofs.Ytbcckfggnlmhoaa
