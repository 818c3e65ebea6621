/-
  Our own text, in the proofs of the laws of package pres (cayleylaw03). Proved here: what stands in a change that is possible (no program): the proof of a relator that is dropped, the images and places of a generator that is dropped; Carry of package pres. Conditions: the arguments lie in memory as the slices say; bounds; the listed tables lie as the program lays them.
-/
import Derived.Test.YteephomlnbbjeaaGreatDoorJm
set_option linter.unusedVariables false
set_option linter.unusedSimpArgs false
set_option linter.unusedSectionVars false
namespace Go.Proofs.YteephomlnbbjeaaGreatDoor
open Go Go.RowKit

theorem cels_ok {p : Pr} {d : List Cel} (h : celsB p d = true) : d.length ≤ 100000 ∧ (∀ x ∈ d, isW x.conj = true) ∧ (∀ x ∈ d, 0 ≤ x.rel ∧ x.rel < p.rels.length) ∧ (∀ x ∈ d, (checkI p.k x.conj == 0) = true) := by
  simp only [celsB, Bool.and_eq_true, decide_eq_true_eq, List.all_eq_true] at h
  refine ⟨h.1, fun x hx => ?_, fun x hx => ?_, fun x hx => ?_⟩
  · have := h.2 x hx
    simp only [celB, Bool.and_eq_true] at this
    exact okB_isW this.2
  · have := h.2 x hx
    simp only [celB, relIn, Bool.and_eq_true, decide_eq_true_eq] at this
    exact this.1
  · have := h.2 x hx
    simp only [celB, Bool.and_eq_true] at this
    exact this.2
theorem dg_len (h : List (List UInt8)) : ∀ (l : List (List UInt8)) (a b : DGs), l.foldl (dgStep h) (some a) = some b → b.2.length = a.2.length + l.length
  | [], a, b, hb => by simp only [List.foldl_nil, Option.some.injEq] at hb; subst hb; rfl
  | r :: l, a, b, hb => by
    simp only [List.foldl_cons] at hb
    by_cases hl : longB (imgR h r) = true
    · have e : dgStep h (some a) r = none := by simp [dgStep, hl]
      rw [e, dg_none] at hb; cases hb
    · have e : dgStep h (some a) r = some (plR a.1 (imgR h r), plI a.1 a.2 (imgR h r)) := by simp [dgStep, hl]
      rw [e] at hb
      have := dg_len h l _ b hb
      rw [this, plI_len, List.length_cons]; omega
theorem chg_drop {p : Pr} {t : Tz} {q : Pr} {r : Int} {pf : List Cel} (h : chgC p t = some (.dropRel q r pf)) : pf.length ≤ 100000 ∧ (∀ x ∈ pf, isW x.conj = true) ∧ pf ≠ [] := by
  unfold chgC at h
  split at h
  · cases h
  · rename_i hp
    have hp0 : chkP p = 0 := by simpa using hp
    have hall := (chkP_rels hp0).2.2.2.2
    split at h
    · unfold addRC at h; split at h <;> cases h
    · split at h
      · unfold dropRC at h
        split at h
        · rename_i hz
          cases h
          unfold dropRE at hz
          split at hz
          · cases hz
          · rename_i hin
            split at hz
            · cases hz
            · rename_i hd
              have hin' : relIn p t.rel = true := by simpa using hin
              have hd' : dskB (dropQ p t) t.proof (p.rels.getD t.rel.toNat []) = true := by simpa using hd
              simp only [relIn, Bool.and_eq_true, decide_eq_true_eq] at hin'
              have hlt : t.rel.toNat < p.rels.length := by omega
              simp only [dskB, Bool.and_eq_true, beq_iff_eq] at hd'
              obtain ⟨h1, h2, _⟩ := cels_ok hd'.1
              refine ⟨h1, h2, fun e => ?_⟩
              have h3 := hd'.2
              rw [e] at h3
              have h4 : bnd (dropQ p t) [] = [] := rfl
              rw [h4, List.getD_eq_getElem?_getD, List.getElem?_eq_getElem hlt] at h3
              exact (relB_ok (List.all_eq_true.1 hall _ (List.getElem_mem hlt))).2.1 h3.symm
        · cases h
      · split at h
        · unfold genRC at h; split at h <;> cases h
        · split at h
          · unfold dgRC at h
            split at h
            · cases h
            · split at h
              · cases h
              · split at h
                · cases h
                · split at h <;> cases h
          · cases h
theorem chg_gen {p : Pr} {t : Tz} {q : Pr} {f : List (List UInt8)} {pl : List Int} (h : chgC p t = some (.dropGen q f pl)) : chkP p = 0 ∧ (∀ x ∈ f, isW x = true) ∧ (f.length : Int) = p.k ∧ pl.length = p.rels.length := by
  unfold chgC at h
  split at h
  · cases h
  · rename_i hp
    have hp0 : chkP p = 0 := by simpa using hp
    obtain ⟨h1, h8, _, hlong, hall⟩ := chkP_rels hp0
    split at h
    · unfold addRC at h; split at h <;> cases h
    · split at h
      · unfold dropRC at h; split at h <;> cases h
      · split at h
        · unfold genRC at h; split at h <;> cases h
        · split at h
          · unfold dgRC at h
            split at h
            · cases h
            · rename_i hin
              split at h
              · cases h
              · split at h
                · cases h
                · rename_i im him
                  split at h
                  · cases h
                  · rename_i a ha
                    cases h
                    have hin' : relIn p t.rel = true := by simpa using hin
                    simp only [relIn, Bool.and_eq_true, decide_eq_true_eq] at hin'
                    have hlt : t.rel.toNat < p.rels.length := by omega
                    have hg : p.rels.getD t.rel.toNat [] = p.rels[t.rel.toNat] := by rw [List.getD_eq_getElem?_getD, List.getElem?_eq_getElem hlt]; rfl
                    have h200 : (p.rels[t.rel.toNat]).length ≤ 200 := by
                      have h2 := List.any_eq_false.1 hlong p.rels[t.rel.toNat] (List.getElem_mem _)
                      simpa [longB] using h2
                    unfold dgImg at him
                    rw [hg] at him
                    have hs := isW_sol him (chkP_words hp0 _ (List.getElem_mem hlt)) (by omega)
                    have hl8 : dgLast p ≤ 8 := by unfold dgLast; omega
                    refine ⟨hp0, fun x hx => ?_, ?_, ?_⟩
                    · rcases List.mem_append.1 hx with hx | hx
                      · exact letS_isW hl8 x hx
                      · simp at hx; subst hx; exact hs.1
                    · simp only [dgFwd, List.length_append, letS_len, List.length_cons, List.length_nil, dgLast]; omega
                    · have := dg_len _ p.rels ([], []) a ha
                      simpa using this
          · cases h
end Go.Proofs.YteephomlnbbjeaaGreatDoor

namespace Go.Proofs.YteephomlnbbjeaaGreatDoor
open Go Go.RowKit

def crBadC (c : Chg) (d : List Cel) : Bool := match c with
  | .dropRel _ r pf => crBad r pf d
  | .dropGen _ f pl => d.any (cgBad (homL f) pl)
  | _ => false
def crLC (c : Chg) (d : List Cel) : List Cel := match c with
  | .dropRel _ r pf => crL r pf d
  | .dropGen _ f pl => cgAll (homL f) pl d
  | _ => d
def caE (p : Pr) (t : Tz) (d : List Cel) : Int := match chgC p t with
  | none => chgE p t
  | some c => if celsB p d = false then 4 else if crBadC c d = true then 2 else 0
def caL (p : Pr) (t : Tz) (d : List Cel) : Option (List Cel) := match chgC p t with
  | none => none
  | some c => if celsB p d = false then none else if crBadC c d = true then none else some (crLC c d)
theorem chg_le {p : Pr} {t : Tz} {c : Chg} (h : chgC p t = some c) : p.rels.length ≤ 60 := by
  unfold chgC at h
  split at h
  · cases h
  · rename_i hp
    exact (chkP_rels (by simpa using hp)).2.2.1
/-- What Carry hands back. -/
def CarP (w : World) (E : Int) (l : Option (List Cel)) (e : Ending) (w' : World) : Prop :=
  Below w.heap.size w w' ∧ match l with
  | none => e = .returned (.tuple #[.slice none 0 0, .int .i64 E])
  | some l => ∃ A cap, e = .returned (.tuple #[.slice A l.length cap, .int .i64 E]) ∧ CellsAt w' A l ∧ (A = none → l = [])

theorem Tryz.ta177_130 (a b : Value) (w : World) : (Instr.typeAssert (.iface 177 (.agg #[a, b])) 119 130 true).run Tryz.prog w = .ok (.tuple #[(.agg #[.int .i64 0, .slice none 0 0, .int .i64 0, .slice none 0 0]), .bool false]) w := by kernel_rfl
theorem Tryz.ta177_133 (a b : Value) (w : World) : (Instr.typeAssert (.iface 177 (.agg #[a, b])) 119 133 true).run Tryz.prog w = .ok (.tuple #[(.agg #[.int .i64 0, .slice none 0 0, .slice none 0 0, .slice none 0 0]), .bool false]) w := by kernel_rfl
theorem Tryz.ta180_130 (a b c : Value) (w : World) : (Instr.typeAssert (.iface 180 (.agg #[a, b, c])) 119 130 true).run Tryz.prog w = .ok (.tuple #[(.agg #[.int .i64 0, .slice none 0 0, .int .i64 0, .slice none 0 0]), .bool false]) w := by kernel_rfl
theorem Tryz.ta180_133 (a b c : Value) (w : World) : (Instr.typeAssert (.iface 180 (.agg #[a, b, c])) 119 133 true).run Tryz.prog w = .ok (.tuple #[(.agg #[.int .i64 0, .slice none 0 0, .slice none 0 0, .slice none 0 0]), .bool false]) w := by kernel_rfl
theorem Tryz.ta130_130 (a b c d : Value) (w : World) : (Instr.typeAssert (.iface 130 (.agg #[a, b, c, d])) 119 130 true).run Tryz.prog w = .ok (.tuple #[(.agg #[a, b, c, d]), .bool true]) w := by kernel_rfl
theorem Tryz.ta133_130 (a b c d : Value) (w : World) : (Instr.typeAssert (.iface 133 (.agg #[a, b, c, d])) 119 130 true).run Tryz.prog w = .ok (.tuple #[(.agg #[.int .i64 0, .slice none 0 0, .int .i64 0, .slice none 0 0]), .bool false]) w := by kernel_rfl
theorem Tryz.ta133_133 (a b c d : Value) (w : World) : (Instr.typeAssert (.iface 133 (.agg #[a, b, c, d])) 119 133 true).run Tryz.prog w = .ok (.tuple #[(.agg #[a, b, c, d]), .bool true]) w := by kernel_rfl

set_option maxHeartbeats 2000000 in
set_option maxRecDepth 100000 in
theorem Carry_any (p : Pr) (R : Option Addr) (rc : Nat) (t : Tz) (D : Option Addr) (dc : Nat) (C : Option Addr) (cc : Nat) (d : List Cel) (w : World) (ht : Tabs w) (hr : StrsAt w R p.rels) (hR : R = none → p.rels = []) (hd : CellsAt w D t.proof) (hD : D = none → t.proof = []) (hm : p.rels.length ≤ maxLen) (hdm : t.proof.length ≤ maxLen) (hu : t.word.length ≤ 140737488351232) (hc : CellsAt w C d) (hC : C = none → d = []) (hcm : d.length ≤ maxLen) :
    Calls Tryz.prog 33 #[prV p.k R p.rels.length rc, tzV t D dc, .slice C d.length cc] w (CarP w (caE p t d) (caL p t d)) := by
  have HBX := Lib.hid (Bx2.start w (prC p.k R p.rels.length rc) (tzC t D dc))
  have HT := Lib.hid ht
  have HCD := Lib.hid hc
  have HCN := Lib.hid hC
  have hN := newChange_any p R rc t D dc ((w.alloc (.cells (prC p.k R p.rels.length rc) 24)).alloc (.cells (tzC t D dc) 58)) (HT.out.on HBX.out.below) (hr.below HBX.out.below) hR (hd.below HBX.out.below) hD hm hdm hu
  have HEC := Lib.hid (chg_ec p t)
  have HM := Lib.hid hm
  have HCM := Lib.hid hcm
  have HP60 := Lib.hid (fun c => chg_le (p := p) (t := t) (c := c))
  have HDR := Lib.hid (fun q r pf => chg_drop (p := p) (t := t) (q := q) (r := r) (pf := pf))
  have HGN := Lib.hid (fun q f pl => chg_gen (p := p) (t := t) (q := q) (f := f) (pl := pl))
  have HE : Hid (caE p t d = match chgC p t with | none => chgE p t | some c => if celsB p d = false then 4 else if crBadC c d = true then 2 else 0) := Lib.hid rfl
  have HL : Hid (caL p t d = match chgC p t with | none => none | some c => if celsB p d = false then none else if crBadC c d = true then none else some (crLC c d)) := Lib.hid rfl
  clear ht hr hR hd hD hm hdm hu hc hC hcm
  generalize caE p t d = E0 at *
  generalize caL p t d = L0 at *
  generalize chgE p t = E at *
  generalize hCC : chgC p t = CC at *
  clear hCC
  obtain ⟨kind, rel, word, proof⟩ := t
  cases CC with
  | none =>
    have hE : (E != 0) = true := by have := HEC.out.1 rfl; simpa using this
    have HE1 : Hid (E0 = E) := HE
    have HL1 : Hid (L0 = none) := HL
    go_enter Tryz.func33, Tryz.ntmps33
    go_wp2_with fail
    refine hN.mono ?_
    rintro e w1 ⟨v, rfl, hv, hb⟩
    simp only at hv
    subst hv
    have HB := Lib.hid (HBX.out.on hb)
    clear hb hN
    go_wp2
    go_ret2
    exact ⟨HB.out.below, by rw [HL1.out, HE1.out]; rfl⟩
  | some c =>
    have hE0 : E = 0 := Classical.byContradiction fun h => by have := HEC.out.2 h; cases this
    subst hE0
    have HE1 : Hid (E0 = if celsB p d = false then 4 else if crBadC c d = true then 2 else 0) := HE
    have HL1 : Hid (L0 = if celsB p d = false then none else if crBadC c d = true then none else some (crLC c d)) := HL
    clear HE HL
    go_enter Tryz.func33, Tryz.ntmps33
    go_wp2_with fail
    refine hN.mono ?_
    rintro e w1 ⟨v, rfl, hv, hb⟩
    simp only at hv
    have HV := Lib.hid hv
    have HB := Lib.hid (HBX.out.on hb)
    have p0 := HB.out.p.cell 0
    have p1 := HB.out.p.cell 1
    simp only [List.getElem?_toArray, List.getElem?_cons_zero, List.getElem?_cons_succ] at p0 p1
    have hA := areCells_any p R rc C cc d w1 (HT.out.on HB.out.below) (HCD.out.below HB.out.below) HM.out HCM.out
    clear hb hN hv
    cases hcb : celsB p d with
    | false =>
      have HE2 : Hid (E0 = 4) := Lib.hid (by rw [HE1.out, if_pos hcb])
      have HL2 : Hid (L0 = none) := Lib.hid (by rw [HL1.out, if_pos hcb])
      rw [hcb] at hA
      clear hcb HE1 HL1
      go_wp2_with fail
      refine hA.mono ?_
      rintro e w2 ⟨rfl, hb2⟩
      have HB2 := Lib.hid (HB.out.on hb2).below
      clear hb2 hA
      go_wp2
      go_ret2
      exact ⟨HB2.out, by rw [HL2.out, HE2.out]; rfl⟩
    | true =>
      have HOK := Lib.hid (cels_ok hcb)
      have HE2 : Hid (E0 = if crBadC c d = true then 2 else 0) := Lib.hid (by rw [HE1.out, if_neg (by rw [hcb]; decide)])
      have HL2 : Hid (L0 = if crBadC c d = true then none else some (crLC c d)) := Lib.hid (by rw [HL1.out, if_neg (by rw [hcb]; decide)])
      rw [hcb] at hA
      clear hcb HE1 HL1
      cases c with
      | addRel q =>
        obtain ⟨A, cap, hP, rfl⟩ := HV.out
        clear hP HV
        have HE3 : Hid (E0 = 0) := HE2
        have HL3 : Hid (L0 = some d) := HL2
        have t1 := Tryz.ta177_130 (.int .i64 q.k) (.slice A q.rels.length cap)
        have t2 := Tryz.ta177_133 (.int .i64 q.k) (.slice A q.rels.length cap)
        go_wp2_with fail
        refine hA.mono ?_
        rintro e w2 ⟨rfl, hb2⟩
        have HB2 := Lib.hid (HB.out.on hb2).below
        have hCL := CloneC_any C cc d w2 (HCD.out.below HB2.out) HCN.out (by have := HOK.out.1; omega)
        have HSZ : Hid (Sized d) := Lib.hid (fun x hx => by have := isW_len (HOK.out.2.1 x hx); omega)
        clear hb2 hA
        go_wp2_with fail
        refine hCL.mono ?_
        rintro e w3 ⟨A3, c3, rfl, hown, hb3⟩
        have HB3 := Lib.hid (HB2.out.trans (hb3.mono HB2.out.size))
        have HO3 := Lib.hid hown
        clear hb3 hown hCL
        go_wp2
        go_ret2
        exact ⟨HB3.out, by rw [HL3.out, HE3.out]; exact ⟨A3, c3, rfl, cells_own HO3.out HSZ.out, fun h => by subst h; exact List.length_eq_zero_iff.1 (own_none HO3.out)⟩⟩
      | dropRel q r pf =>
        obtain ⟨A, cap, P, pc, hP, hPC, hPN, rfl⟩ := HV.out
        have HPC := Lib.hid hPC
        have HPN := Lib.hid hPN
        obtain ⟨hpl, hpw, hpe⟩ := HDR.out q r pf rfl
        have HPW := Lib.hid hpw
        have HPE := Lib.hid hpe
        clear hP HV hPC hPN hpw hpe
        have t1 := Tryz.ta130_130 (.int .i64 q.k) (.slice A q.rels.length cap) (.int .i64 r) (.slice P pf.length pc)
        have HD60 := Lib.hid (HP60.out _ rfl)
        go_wp2_with fail
        refine hA.mono ?_
        rintro e w2 ⟨rfl, hb2⟩
        have HB2 := Lib.hid (HB.out.on hb2).below
        have HPC2 := Lib.hid (HPC.out.below hb2)
        clear hb2 hA
        have HBZ : Hid (Below w2.heap.size w2 (w2.alloc (.cells #[.int .i64 q.k, .slice A q.rels.length cap, .int .i64 r, .slice P pf.length pc] 130))) := Lib.hid ((Below.refl _ w2).alloc (Nat.le_refl _) _)
        have HBZ2 := Lib.hid (HB2.out.trans (HBZ.out.mono HB2.out.size))
        have hCR := carryDrop_any q.k (.slice A q.rels.length cap) r P pc pf C cc d (w2.alloc (.cells #[.int .i64 q.k, .slice A q.rels.length cap, .int .i64 r, .slice P pf.length pc] 130)) (HT.out.on HBZ2.out) (HPC2.out.below HBZ.out) HPN.out hpl HPW.out HPE.out (HCD.out.below HBZ2.out) HOK.out.1 HOK.out.2.1 (fun x hx => by have h1 := HOK.out.2.2.1 x hx; have h2 := HD60.out; omega)
        have HE3 : Hid (E0 = if crBad r pf d = true then 2 else 0) := HE2
        have HL3 : Hid (L0 = if crBad r pf d = true then none else some (crL r pf d)) := HL2
        clear HE2 HL2
        generalize crBad r pf d = bb at *
        generalize crL r pf d = ll at *
        cases bb with
        | true =>
          have hCR2 : Calls Tryz.prog 89 #[.agg #[.int .i64 q.k, .slice A q.rels.length cap, .int .i64 r, .slice P pf.length pc], .slice C d.length cc] (w2.alloc (.cells #[.int .i64 q.k, .slice A q.rels.length cap, .int .i64 r, .slice P pf.length pc] 130)) (fun e w' => e = .returned (.tuple #[.slice none 0 0, .int .i64 2]) ∧ Below (w2.alloc (.cells #[.int .i64 q.k, .slice A q.rels.length cap, .int .i64 r, .slice P pf.length pc] 130)).heap.size (w2.alloc (.cells #[.int .i64 q.k, .slice A q.rels.length cap, .int .i64 r, .slice P pf.length pc] 130)) w') := hCR.mono (fun e w' h => by obtain ⟨h1, h2⟩ := h; exact ⟨h2, h1⟩)
          clear hCR
          go_wp2_with fail
          refine hCR2.mono ?_
          rintro e w3 ⟨rfl, hb3⟩
          have HB3 := Lib.hid (HBZ2.out.trans (hb3.mono HBZ2.out.size))
          clear hb3 hCR2
          go_wp2
          go_ret2
          exact ⟨HB3.out, by rw [HL3.out, HE3.out]; rfl⟩
        | false =>
          have hCR2 : Calls Tryz.prog 89 #[.agg #[.int .i64 q.k, .slice A q.rels.length cap, .int .i64 r, .slice P pf.length pc], .slice C d.length cc] (w2.alloc (.cells #[.int .i64 q.k, .slice A q.rels.length cap, .int .i64 r, .slice P pf.length pc] 130)) (fun e w' => (∃ A cap, e = .returned (.tuple #[.slice A ll.length cap, .int .i64 0]) ∧ CellsAt w' A ll ∧ (A = none → ll = [])) ∧ Below (w2.alloc (.cells #[.int .i64 q.k, .slice A q.rels.length cap, .int .i64 r, .slice P pf.length pc] 130)).heap.size (w2.alloc (.cells #[.int .i64 q.k, .slice A q.rels.length cap, .int .i64 r, .slice P pf.length pc] 130)) w') := hCR.mono (fun e w' h => by obtain ⟨h1, h2⟩ := h; exact ⟨h2, h1⟩)
          clear hCR
          go_wp2_with fail
          refine hCR2.mono ?_
          rintro e w3 ⟨⟨A3, c3, rfl, hc3, hn3⟩, hb3⟩
          have HB3 := Lib.hid (HBZ2.out.trans (hb3.mono HBZ2.out.size))
          have HC3 := Lib.hid hc3
          have HN3 := Lib.hid hn3
          clear hb3 hCR2 hc3 hn3
          go_wp2
          go_ret2
          exact ⟨HB3.out, by rw [HL3.out, HE3.out]; exact ⟨A3, c3, rfl, HC3.out, HN3.out⟩⟩
      | addGen q x =>
        obtain ⟨A, cap, hP, _, rfl⟩ := HV.out
        clear hP HV
        have HE3 : Hid (E0 = 0) := HE2
        have HL3 : Hid (L0 = some d) := HL2
        have t1 := Tryz.ta180_130 (.int .i64 q.k) (.slice A q.rels.length cap) (.string ⟨x.toArray⟩)
        have t2 := Tryz.ta180_133 (.int .i64 q.k) (.slice A q.rels.length cap) (.string ⟨x.toArray⟩)
        go_wp2_with fail
        refine hA.mono ?_
        rintro e w2 ⟨rfl, hb2⟩
        have HB2 := Lib.hid (HB.out.on hb2).below
        have hCL := CloneC_any C cc d w2 (HCD.out.below HB2.out) HCN.out (by have := HOK.out.1; omega)
        have HSZ : Hid (Sized d) := Lib.hid (fun x hx => by have := isW_len (HOK.out.2.1 x hx); omega)
        clear hb2 hA
        go_wp2_with fail
        refine hCL.mono ?_
        rintro e w3 ⟨A3, c3, rfl, hown, hb3⟩
        have HB3 := Lib.hid (HB2.out.trans (hb3.mono HB2.out.size))
        have HO3 := Lib.hid hown
        clear hb3 hown hCL
        go_wp2
        go_ret2
        exact ⟨HB3.out, by rw [HL3.out, HE3.out]; exact ⟨A3, c3, rfl, cells_own HO3.out HSZ.out, fun h => by subst h; exact List.length_eq_zero_iff.1 (own_none HO3.out)⟩⟩
      | dropGen q f pl =>
        obtain ⟨A, cap, F, fc, L, lc, hP, hFf, hFn, hLi, rfl⟩ := HV.out
        have HFF := Lib.hid hFf
        have HLI := Lib.hid hLi
        obtain ⟨hp0, hfw, hfl, hpl⟩ := HGN.out q f pl rfl
        have hk8 := (chkP_rels hp0).2.1
        have HFW := Lib.hid hfw
        have hD60 := HP60.out _ rfl
        have HRL : Hid (∀ x ∈ d, 0 ≤ x.rel ∧ x.rel < pl.length) := Lib.hid (fun x hx => by rw [hpl]; exact HOK.out.2.2.1 x hx)
        have HIX : Hid (∀ x ∈ d, ∀ c ∈ x.conj, 0 ≤ idx c ∧ idx c < (homL f).length) := Lib.hid (fun x hx c hc => by
          have h := HOK.out.2.2.2 x hx
          rw [← hfl] at h
          have := idx_of_check h c hc
          rw [homL_len]; omega)
        have hf8 : f.length ≤ 1000 := by omega
        clear hP HV hFf hFn hLi hfw hfl hpl hD60 hk8 hp0
        have t1 := Tryz.ta133_130 (.int .i64 q.k) (.slice A q.rels.length cap) (.slice F f.length fc) (.slice L pl.length lc)
        have t2 := Tryz.ta133_133 (.int .i64 q.k) (.slice A q.rels.length cap) (.slice F f.length fc) (.slice L pl.length lc)
        go_wp2_with fail
        refine hA.mono ?_
        rintro e w2 ⟨rfl, hb2⟩
        have HB2 := Lib.hid (HB.out.on hb2).below
        have HFF2 := Lib.hid (HFF.out.below hb2)
        have HLI2 : Hid (IntsAt (w2.alloc (.cells #[.int .i64 q.k, .slice A q.rels.length cap, .slice F f.length fc, .slice L pl.length lc] 133)) L pl) := Lib.hid (fun i hi => by
          obtain ⟨b, o, h1, h2⟩ := HLI.out i hi
          refine ⟨b, o, h1, ?_⟩
          have h3 := (hb2.cell (p := ⟨b, o + i, none⟩) (lt_of_cell h2)).trans h2
          rw [World.cell?_alloc_lt _ _ _ (lt_of_cell h3)]; exact h3)
        clear hb2 hA
        have HBZ : Hid (Below w2.heap.size w2 (w2.alloc (.cells #[.int .i64 q.k, .slice A q.rels.length cap, .slice F f.length fc, .slice L pl.length lc] 133))) := Lib.hid ((Below.refl _ w2).alloc (Nat.le_refl _) _)
        have HBZ2 := Lib.hid (HB2.out.trans (HBZ.out.mono HB2.out.size))
        have hCR := carryGen_any q.k (.slice A q.rels.length cap) F fc f L lc pl C cc d (w2.alloc (.cells #[.int .i64 q.k, .slice A q.rels.length cap, .slice F f.length fc, .slice L pl.length lc] 133)) (HT.out.on HBZ2.out) (HFF2.out.below HBZ.out) HFW.out hf8 HLI2.out (HCD.out.below HBZ2.out) HOK.out.1 HOK.out.2.1 HIX.out HRL.out
        have HE3 : Hid (E0 = if d.any (cgBad (homL f) pl) = true then 2 else 0) := HE2
        have HL3 : Hid (L0 = if d.any (cgBad (homL f) pl) = true then none else some (cgAll (homL f) pl d)) := HL2
        clear HE2 HL2
        generalize d.any (cgBad (homL f) pl) = bb at *
        generalize cgAll (homL f) pl d = ll at *
        cases bb with
        | true =>
          have hCR2 : Calls Tryz.prog 90 #[.agg #[.int .i64 q.k, .slice A q.rels.length cap, .slice F f.length fc, .slice L pl.length lc], .slice C d.length cc] (w2.alloc (.cells #[.int .i64 q.k, .slice A q.rels.length cap, .slice F f.length fc, .slice L pl.length lc] 133)) (fun e w' => e = .returned (.tuple #[.slice none 0 0, .int .i64 2]) ∧ Below (w2.alloc (.cells #[.int .i64 q.k, .slice A q.rels.length cap, .slice F f.length fc, .slice L pl.length lc] 133)).heap.size (w2.alloc (.cells #[.int .i64 q.k, .slice A q.rels.length cap, .slice F f.length fc, .slice L pl.length lc] 133)) w') := hCR.mono (fun e w' h => by obtain ⟨h1, h2⟩ := h; exact ⟨h2, h1⟩)
          clear hCR
          go_wp2_with fail
          refine hCR2.mono ?_
          rintro e w3 ⟨rfl, hb3⟩
          have HB3 := Lib.hid (HBZ2.out.trans (hb3.mono HBZ2.out.size))
          clear hb3 hCR2
          go_wp2
          go_ret2
          exact ⟨HB3.out, by rw [HL3.out, HE3.out]; rfl⟩
        | false =>
          have hCR2 : Calls Tryz.prog 90 #[.agg #[.int .i64 q.k, .slice A q.rels.length cap, .slice F f.length fc, .slice L pl.length lc], .slice C d.length cc] (w2.alloc (.cells #[.int .i64 q.k, .slice A q.rels.length cap, .slice F f.length fc, .slice L pl.length lc] 133)) (fun e w' => (∃ A cap, e = .returned (.tuple #[.slice A ll.length cap, .int .i64 0]) ∧ CellsAt w' A ll ∧ (A = none → ll = [])) ∧ Below (w2.alloc (.cells #[.int .i64 q.k, .slice A q.rels.length cap, .slice F f.length fc, .slice L pl.length lc] 133)).heap.size (w2.alloc (.cells #[.int .i64 q.k, .slice A q.rels.length cap, .slice F f.length fc, .slice L pl.length lc] 133)) w') := hCR.mono (fun e w' h => by obtain ⟨h1, h2⟩ := h; exact ⟨h2, h1⟩)
          clear hCR
          go_wp2_with fail
          refine hCR2.mono ?_
          rintro e w3 ⟨⟨A3, c3, rfl, hc3, hn3⟩, hb3⟩
          have HB3 := Lib.hid (HBZ2.out.trans (hb3.mono HBZ2.out.size))
          have HC3 := Lib.hid hc3
          have HN3 := Lib.hid hn3
          clear hb3 hCR2 hc3 hn3
          go_wp2
          go_ret2
          exact ⟨HB3.out, by rw [HL3.out, HE3.out]; exact ⟨A3, c3, rfl, HC3.out, HN3.out⟩⟩
end Go.Proofs.YteephomlnbbjeaaGreatDoor
