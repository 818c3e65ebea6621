/-
  Our own text, in the proofs of the laws of package pres (cayleylaw03). Proved here: rows of cells are compared cell by cell (Equal of package slices, SameCells); words, cells and presentations are copied; what the laws take for small and light; presentations are compared (SamePres). Conditions: the arguments lie in memory as the slices say; bounds; the listed tables lie as the program lays them.
-/
import Derived.Test.YteephomlnbbjeaaGreatDoorKa
import Derived.Test.YteephomlnbbjeaaGreatDoorJg
import Derived.Test.YteephomlnbbjeaaGreatDoorJy
set_option linter.unusedVariables false
set_option linter.unusedSimpArgs false
set_option linter.unusedSectionVars false
namespace Go.Proofs.YteephomlnbbjeaaGreatDoor
open Go Go.RowKit Go.Maps Go.Sort Go.Shelf

set_option maxHeartbeats 2000000 in
set_option maxRecDepth 100000 in
theorem EqC_any (A B : Option Addr) (ca cb : Nat) (l v : List Cel) (w : World) (hA : CellsAt w A l) (hB : CellsAt w B v) (hl : l.length ≤ 1000000) (hv : v.length ≤ 1000000) :
    Calls Tryz.prog 48 #[.slice A l.length ca, .slice B v.length cb] w fun e w' => e = .returned (.bool (decide (l = v))) ∧ Below w.heap.size w w' := by
  by_cases hlen : l.length = v.length
  · have HA := Lib.hid hA
    have HB := Lib.hid hB
    have HV : Hid (l.length = v.length) := Lib.hid hlen
    clear hA hB
    rw [← hlen]
    clear hlen hv
    go_enter Tryz.func48, Tryz.ntmps48
    go_wp2
    go_loopw [5, 13] (fun _ i wr => ∃ k : Nat, k ≤ l.length ∧ i = .int .i64 (k : Int) ∧ l.take k = v.take k ∧ Below w.heap.size w wr)
      (fun _ i _ => l.length - (intOf i).toNat)
    case atStart => exact ⟨0, Nat.zero_le _, rfl, rfl, Below.refl _ _⟩
    case round =>
      obtain ⟨k, hk, rfl, ht, hb⟩ := hrel
      by_cases hlt : k < l.length
      · have hlt2 : k < v.length := by have := HV.out; omega
        obtain ⟨b, o, rfl, ⟨c0, c1, c2, _⟩⟩ := (HA.out.below hb) k hlt
        obtain ⟨b2, o2, rfl, ⟨d0, d1, d2, _⟩⟩ := (HB.out.below hb) k hlt2
        have HT := Lib.hid ht
        have HBW := Lib.hid hb
        clear ht hb
        by_cases he : l[k] = v[k]
        · have HE := Lib.hid (eq_step hlt hlt2 HT.out he)
          rw [← he] at d0 d1 d2
          clear he
          generalize l[k] = x at *
          obtain ⟨xc, xr, xi⟩ := x
          simp only [] at c0 c1 c2 d0 d1 d2
          go_wp2
          go_region
          all_goals go_wp2
          all_goals exact ⟨⟨k + 1, by omega, by go_num, HE.out, HBW.out.drew⟩, by simp [intOf]; omega⟩
        · have HN : Hid (decide (l = v) = false) := Lib.hid (by simp; intro e; subst e; exact he rfl)
          generalize l[k] = x at *
          generalize v[k] = y at *
          obtain ⟨xc, xr, xi⟩ := x
          obtain ⟨yc, yr, yi⟩ := y
          simp only [] at c0 c1 c2 d0 d1 d2
          by_cases e1 : xc = yc
          · subst e1
            by_cases e2 : xr = yr
            · subst e2
              have e3 : ¬ xi = yi := fun e => he (by rw [e])
              clear he
              go_wp2
              go_region
              all_goals (
                go_wp2
                go_ret
                exact ⟨by rw [HN.out]; rfl, HBW.out.drew⟩)
            · clear he
              go_wp2
              go_region
              all_goals (
                go_wp2
                go_ret
                exact ⟨by rw [HN.out]; rfl, HBW.out.drew⟩)
          · clear he
            go_wp2
            go_region
            all_goals (
              go_wp2
              go_ret
              exact ⟨by rw [HN.out]; rfl, HBW.out.drew⟩)
      · obtain rfl : k = l.length := by omega
        have HE : Hid (decide (l = v) = true) := Lib.hid (by
          rw [List.take_length, HV.out, List.take_length] at ht
          simpa using ht)
        go_wp2
        go_ret
        exact ⟨by rw [HE.out]; rfl, hb⟩
  · have HN : Hid (decide (l = v) = false) := Lib.hid (by simp; intro e; exact hlen (by rw [e]))
    have hlen2 : (l.length : Int) ≠ (v.length : Int) := by omega
    clear hA hB hlen
    go_enter Tryz.func48, Tryz.ntmps48
    go_wp2
    go_ret
    exact ⟨by rw [HN.out]; rfl, Below.refl _ _⟩
set_option maxHeartbeats 2000000 in
set_option maxRecDepth 100000 in
theorem EqD_any (A B : Option Addr) (ca cb : Nat) (l v : List Cel) (w : World) (hA : CellsAt w A l) (hB : CellsAt w B v) (hl : l.length ≤ 1000000) (hv : v.length ≤ 1000000) :
    Calls Tryz.prog 46 #[.slice A l.length ca, .slice B v.length cb] w fun e w' => e = .returned (.bool (decide (l = v))) ∧ Below w.heap.size w w' := by
  by_cases hlen : l.length = v.length
  · have HA := Lib.hid hA
    have HB := Lib.hid hB
    have HV : Hid (l.length = v.length) := Lib.hid hlen
    clear hA hB
    rw [← hlen]
    clear hlen hv
    go_enter Tryz.func46, Tryz.ntmps46
    go_wp2
    go_loopw [5, 13] (fun _ i wr => ∃ k : Nat, k ≤ l.length ∧ i = .int .i64 (k : Int) ∧ l.take k = v.take k ∧ Below w.heap.size w wr)
      (fun _ i _ => l.length - (intOf i).toNat)
    case atStart => exact ⟨0, Nat.zero_le _, rfl, rfl, Below.refl _ _⟩
    case round =>
      obtain ⟨k, hk, rfl, ht, hb⟩ := hrel
      by_cases hlt : k < l.length
      · have hlt2 : k < v.length := by have := HV.out; omega
        obtain ⟨b, o, rfl, ⟨c0, c1, c2, _⟩⟩ := (HA.out.below hb) k hlt
        obtain ⟨b2, o2, rfl, ⟨d0, d1, d2, _⟩⟩ := (HB.out.below hb) k hlt2
        have HT := Lib.hid ht
        have HBW := Lib.hid hb
        clear ht hb
        by_cases he : l[k] = v[k]
        · have HE := Lib.hid (eq_step hlt hlt2 HT.out he)
          rw [← he] at d0 d1 d2
          clear he
          generalize l[k] = x at *
          obtain ⟨xc, xr, xi⟩ := x
          simp only [] at c0 c1 c2 d0 d1 d2
          go_wp2
          go_region
          all_goals go_wp2
          all_goals exact ⟨⟨k + 1, by omega, by go_num, HE.out, HBW.out.drew⟩, by simp [intOf]; omega⟩
        · have HN : Hid (decide (l = v) = false) := Lib.hid (by simp; intro e; subst e; exact he rfl)
          generalize l[k] = x at *
          generalize v[k] = y at *
          obtain ⟨xc, xr, xi⟩ := x
          obtain ⟨yc, yr, yi⟩ := y
          simp only [] at c0 c1 c2 d0 d1 d2
          by_cases e1 : xc = yc
          · subst e1
            by_cases e2 : xr = yr
            · subst e2
              have e3 : ¬ xi = yi := fun e => he (by rw [e])
              clear he
              go_wp2
              go_region
              all_goals (
                go_wp2
                go_ret
                exact ⟨by rw [HN.out]; rfl, HBW.out.drew⟩)
            · clear he
              go_wp2
              go_region
              all_goals (
                go_wp2
                go_ret
                exact ⟨by rw [HN.out]; rfl, HBW.out.drew⟩)
          · clear he
            go_wp2
            go_region
            all_goals (
              go_wp2
              go_ret
              exact ⟨by rw [HN.out]; rfl, HBW.out.drew⟩)
      · obtain rfl : k = l.length := by omega
        have HE : Hid (decide (l = v) = true) := Lib.hid (by
          rw [List.take_length, HV.out, List.take_length] at ht
          simpa using ht)
        go_wp2
        go_ret
        exact ⟨by rw [HE.out]; rfl, hb⟩
  · have HN : Hid (decide (l = v) = false) := Lib.hid (by simp; intro e; exact hlen (by rw [e]))
    have hlen2 : (l.length : Int) ≠ (v.length : Int) := by omega
    clear hA hB hlen
    go_enter Tryz.func46, Tryz.ntmps46
    go_wp2
    go_ret
    exact ⟨by rw [HN.out]; rfl, Below.refl _ _⟩
end Go.Proofs.YteephomlnbbjeaaGreatDoor

namespace Go.Proofs.YteephomlnbbjeaaGreatDoor
open Go Go.RowKit Go.Maps Go.Sort Go.Shelf

set_option maxHeartbeats 1000000 in
set_option maxRecDepth 100000 in
theorem CopyW_any (A : Option Addr) (cap : Nat) (l : List (List UInt8)) (w : World) (hl : StrsAt w A l) (hA : A = none → l = []) (hn : l.length ≤ 1000000) :
    Calls Tryz.prog 99 #[.slice A l.length cap] w (StrsP w.heap.size w l) := by
  cases A with
  | none =>
    obtain rfl := hA rfl
    show Calls Tryz.prog 99 #[.slice none 0 cap] w (StrsP w.heap.size w [])
    clear hl hA hn
    go_enter Tryz.func99, Tryz.ntmps99
    go_wp2
    go_ret
    exact ⟨none, 0, rfl, World.ownsRow_nil _ _ _ _, Below.refl _ _⟩
  | some ad =>
    have HL := Lib.hid hl
    clear hl hA
    go_enter Tryz.func99, Tryz.ntmps99
    go_wp2_with (at_builtin; refine append_strs w rfl (.tmp 4) (.tmp 5) rfl w.heap.size none 0 0 [] l rfl (World.ownsRow_nil _ _ _ _) ad l.length cap rfl rfl HL.out (by omega) (by simp) ?_; intro A' cap' w1 hown1 hg1 hm1)
    have H1 := Lib.hid hown1
    have B1 := Lib.hid (below_of_grown (Below.refl w.heap.size w) hg1 (by simp) (fun a ha => by cases ha))
    clear hown1 hg1 hm1
    go_wp2
    go_ret
    have h1 := H1.out
    simp only [Nat.zero_add, List.nil_append] at h1
    exact ⟨A', cap', by simp, h1, B1.out⟩

set_option maxHeartbeats 1000000 in
set_option maxRecDepth 100000 in
theorem CopyC_any (A : Option Addr) (cap : Nat) (l : List Cel) (w : World) (hl : CellsAt w A l) (hA : A = none → l = []) (hn : l.length ≤ 1000000) :
    Calls Tryz.prog 45 #[.slice A l.length cap] w (CloneC w l) := by
  cases A with
  | none =>
    obtain rfl := hA rfl
    show Calls Tryz.prog 45 #[.slice none 0 cap] w (CloneC w [])
    clear hl hA hn
    go_enter Tryz.func45, Tryz.ntmps45
    go_wp2
    go_ret
    exact ⟨none, 0, rfl, World.ownsRow_nil _ _ _ _, Below.refl _ _⟩
  | some ad =>
    have HL := Lib.hid hl
    clear hl hA
    go_enter Tryz.func45, Tryz.ntmps45
    go_wp2_with (at_builtin; refine append_cells w rfl (.tmp 4) (.tmp 5) rfl w.heap.size none 0 0 [] l rfl (World.ownsRow_nil _ _ _ _) ad cap l.length rfl rfl HL.out (by omega) (by simp) ?_; intro A' cap' w1 hown1 hg1 hm1)
    have H1 := Lib.hid hown1
    have B1 := Lib.hid (below_of_grown (Below.refl w.heap.size w) hg1 (by simp) (fun a ha => by cases ha))
    clear hown1 hg1 hm1
    go_wp2
    go_ret
    have h1 := H1.out
    simp only [Nat.zero_add, List.nil_append] at h1
    exact ⟨A', cap', by simp, h1, B1.out⟩

theorem res44 {X : World} {b : Nat} {k : Int} {A : Option Addr} {m cap : Nat} (tmps : Array Value) (h2 : tmps.getD 2 undef = .pointer (some ⟨b, 0, none⟩)) (c0 : X.cell? ⟨b, 0, none⟩ = some (.int .i64 k)) (c1 : X.cell? ⟨b, 1, none⟩ = some (.slice A m cap)) :
    (results Tryz.f44 tmps).run Tryz.prog X = .ok (.agg #[.int .i64 k, .slice A m cap]) X := by
  have h2' : tmps[2]?.getD undef = .pointer (some ⟨b, 0, none⟩) := by simpa using h2
  simp [results, Tryz.results44, go_sem, h2', c0, c1]

set_option maxHeartbeats 4000000 in
set_option maxRecDepth 100000 in
theorem CopyP_any (p : Pr) (R : Option Addr) (rc : Nat) (w : World) (hr : StrsAt w R p.rels) (hR : R = none → p.rels = []) (hm : p.rels.length ≤ 1000000) :
    Calls Tryz.prog 44 #[prV p.k R p.rels.length rc] w (PresQ w p.k p.rels) := by
  generalize hW : ((w.alloc (.cells (prC p.k R p.rels.length rc) 24)).alloc (.cells #[.int .i64 0, .slice none 0 0] 24)) = W0
  have hb0 : Below w.heap.size w W0.drew := by rw [← hW]; exact (((Below.refl _ w).alloc (Nat.le_refl _) _).alloc (by simp) _).drew
  have hs0 : W0.drew.heap.size = w.heap.size + 2 := by rw [← hW]; show (World.heap _).size = _; simp
  have h1 : W0.drew.heap[w.heap.size]? = some (.cells (prC p.k R p.rels.length rc) 24 (0, 0)) := by rw [← hW]; exact (Below.heap_alloc _ _ _ (by simp)).trans (heap_alloc_new w _)
  have h2 : W0.drew.heap[w.heap.size + 1]? = some (.cells #[.int .i64 0, .slice none 0 0] 24 (0, 0)) := by
    rw [← hW]
    have h := heap_alloc_new (w.alloc (.cells (prC p.k R p.rels.length rc) 24)) (.cells #[.int .i64 0, .slice none 0 0] 24)
    rwa [World.size_alloc] at h
  obtain ⟨g0, g1, _, _⟩ := blk2 h1
  have HCP := Lib.hid (CopyW_any R rc p.rels W0.drew (hr.below hb0) hR hm)
  have hsh : Short p.rels := hr.short
  have HAF : Hid (∀ wA A cap, wA.ownsRow W0.drew.heap.size 9 1 (.slice A p.rels.length cap) p.rels.length (ss p.rels) → Below W0.drew.heap.size W0.drew wA →
            wA.cell? ⟨w.heap.size, 0, none⟩ = some (.int .i64 p.k) ∧ wA.cell? ⟨w.heap.size + 1, 0, none⟩ = some (.int .i64 0) ∧ wA.cell? ⟨w.heap.size + 1, 1, none⟩ = some (.slice none 0 0) ∧ wA.frozen? ⟨w.heap.size + 1, 0, none⟩ = false ∧ wA.frozen? ⟨w.heap.size + 1, 1, none⟩ = false ∧
            (wA.setCell ⟨w.heap.size + 1, 0, none⟩ (.int .i64 p.k)).cell? ⟨w.heap.size + 1, 1, none⟩ = some (.slice none 0 0) ∧ (wA.setCell ⟨w.heap.size + 1, 0, none⟩ (.int .i64 p.k)).frozen? ⟨w.heap.size + 1, 1, none⟩ = false ∧
            (((wA.setCell ⟨w.heap.size + 1, 0, none⟩ (.int .i64 p.k)).setCell ⟨w.heap.size + 1, 1, none⟩ (.slice A p.rels.length cap)).cell? ⟨w.heap.size + 1, 0, none⟩ = some (.int .i64 p.k) ∧
             ((wA.setCell ⟨w.heap.size + 1, 0, none⟩ (.int .i64 p.k)).setCell ⟨w.heap.size + 1, 1, none⟩ (.slice A p.rels.length cap)).cell? ⟨w.heap.size + 1, 1, none⟩ = some (.slice A p.rels.length cap) ∧
             PresQ w p.k p.rels (.returned (prV p.k A p.rels.length cap)) ((wA.setCell ⟨w.heap.size + 1, 0, none⟩ (.int .i64 p.k)).setCell ⟨w.heap.size + 1, 1, none⟩ (.slice A p.rels.length cap)))) := Lib.hid (fun wA A cap hown hbA => by
    have hst : StrsAt wA A p.rels := strsAt_own hown hsh
    have hnn : A = none → p.rels = [] := fun e => by subst e; exact List.eq_nil_of_length_eq_zero (own_none hown)
    have hk2 := (hbA.block (w.heap.size + 1) (by omega)).trans h2
    obtain ⟨a0, a1, b0, b1⟩ := blk2 hk2
    obtain ⟨u0, _, _, _⟩ := blk2 ((hbA.block w.heap.size (by omega)).trans h1)
    refine ⟨u0, a0, a1, b0, b1, (World.cell?_setCell_other _ _ _ _ (by simp)).trans a1, by rw [World.frozen?_setCell]; exact b1, ?_, ?_, A, cap, rfl, hst.box hk2 _ _, hnn, ?_⟩
    · rw [World.cell?_setCell_other _ _ _ _ (by simp)]; exact World.cell?_setCell_same' _ _ _ (by rw [a0]; rfl)
    · exact World.cell?_setCell_same' _ _ _ (by rw [World.cell?_setCell_other _ _ _ _ (by simp), a1]; rfl)
    · exact (((hb0.trans (hbA.mono (by omega))).setCell (p := ⟨w.heap.size + 1, 0, none⟩) (by simp) _).setCell (p := ⟨w.heap.size + 1, 1, none⟩) (by simp) _))
  clear hr hR hb0 h1 h2 hsh
  go_enter Tryz.func44, Tryz.ntmps44
  go_wp2_with fail
  clear hW
  refine wp_region_any (by kernel_rfl) ?_
  change wpAny _ _ _ _ _ _ _ W0.drew
  refine wpAny_ready (rs := [0, 2]) (by kernel_rfl) (by simp) ?_
  refine AllReady.cons rfl (fun K hK => ?_) (AllReady.cons rfl (fun K hK => ?_) (AllReady.nil))
  · go_simp
    refine hK _ _ ?_
    clear hK K
    refine wpAny_ready (rs := [1, 2]) (by kernel_rfl) (by simp) ?_
    refine AllReady.cons rfl (fun K hK => ?_) (AllReady.cons rfl (fun K hK => ?_) (AllReady.nil))
    · go_simp
      refine hK _ _ ?_
      clear hK K
      refine wpAny_ready (rs := [2]) (by kernel_rfl) (by simp) ?_
      refine AllReady.cons rfl (fun K hK => ?_) (AllReady.nil)
      · go_simp
        refine hK _ _ ?_
        clear hK K
        refine wpAny_ready (rs := [3]) (by kernel_rfl) (by simp) ?_
        refine AllReady.cons rfl (fun K hK => ?_) (AllReady.nil)
        · go_simp
          refine hK _ _ ?_
          clear hK K
          refine wpAny_ready (rs := [4]) (by kernel_rfl) (by simp) ?_
          refine AllReady.cons rfl (fun K hK => ?_) (AllReady.nil)
          · go_simp
            go_wp2_with fail
            refine HCP.out.mono ?_
            rintro e wA ⟨A, cap, rfl, hown, hbA⟩
            obtain ⟨q0, q1, q2, z1, z2, q2', z2', hfin⟩ := HAF.out wA A cap hown hbA
            have HFIN := Lib.hid hfin
            clear hown hbA hfin
            refine hK _ _ ?_
            clear hK K
            refine wpAny_ready (rs := [5]) (by kernel_rfl) (by simp) ?_
            refine AllReady.cons rfl (fun K hK => ?_) (AllReady.nil)
            · go_simp
              refine hK _ _ ?_
              clear hK K
              refine wpAny_ready (rs := [6]) (by kernel_rfl) (by simp) ?_
              refine AllReady.cons rfl (fun K hK => ?_) (AllReady.nil)
              · go_simp
                refine hK _ _ ?_
                clear hK K
                refine wpAny_done (by kernel_rfl) ?_ _
                obtain ⟨r0, r1, hP⟩ := HFIN.out
                have HPP := Lib.hid hP
                clear hP
                go_wp2
                exact bodyPost_ret (res44 _ rfl r0 r1) rfl HPP.out
    · go_simp
      refine hK _ _ ?_
      clear hK K
      refine wpAny_ready (rs := [1, 3]) (by kernel_rfl) (by simp) ?_
      refine AllReady.cons rfl (fun K hK => ?_) (AllReady.cons rfl (fun K hK => ?_) (AllReady.nil))
      · go_simp
        refine hK _ _ ?_
        clear hK K
        refine wpAny_ready (rs := [3]) (by kernel_rfl) (by simp) ?_
        refine AllReady.cons rfl (fun K hK => ?_) (AllReady.nil)
        · go_simp
          refine hK _ _ ?_
          clear hK K
          refine wpAny_ready (rs := [4]) (by kernel_rfl) (by simp) ?_
          refine AllReady.cons rfl (fun K hK => ?_) (AllReady.nil)
          · go_simp
            go_wp2_with fail
            refine HCP.out.mono ?_
            rintro e wA ⟨A, cap, rfl, hown, hbA⟩
            obtain ⟨q0, q1, q2, z1, z2, q2', z2', hfin⟩ := HAF.out wA A cap hown hbA
            have HFIN := Lib.hid hfin
            clear hown hbA hfin
            refine hK _ _ ?_
            clear hK K
            refine wpAny_ready (rs := [5]) (by kernel_rfl) (by simp) ?_
            refine AllReady.cons rfl (fun K hK => ?_) (AllReady.nil)
            · go_simp
              refine hK _ _ ?_
              clear hK K
              refine wpAny_ready (rs := [6]) (by kernel_rfl) (by simp) ?_
              refine AllReady.cons rfl (fun K hK => ?_) (AllReady.nil)
              · go_simp
                refine hK _ _ ?_
                clear hK K
                refine wpAny_done (by kernel_rfl) ?_ _
                obtain ⟨r0, r1, hP⟩ := HFIN.out
                have HPP := Lib.hid hP
                clear hP
                go_wp2
                exact bodyPost_ret (res44 _ rfl r0 r1) rfl HPP.out
      · go_simp
        refine hK _ _ ?_
        clear hK K
        refine wpAny_ready (rs := [1, 4]) (by kernel_rfl) (by simp) ?_
        refine AllReady.cons rfl (fun K hK => ?_) (AllReady.cons rfl (fun K hK => ?_) (AllReady.nil))
        · go_simp
          refine hK _ _ ?_
          clear hK K
          refine wpAny_ready (rs := [4]) (by kernel_rfl) (by simp) ?_
          refine AllReady.cons rfl (fun K hK => ?_) (AllReady.nil)
          · go_simp
            go_wp2_with fail
            refine HCP.out.mono ?_
            rintro e wA ⟨A, cap, rfl, hown, hbA⟩
            obtain ⟨q0, q1, q2, z1, z2, q2', z2', hfin⟩ := HAF.out wA A cap hown hbA
            have HFIN := Lib.hid hfin
            clear hown hbA hfin
            refine hK _ _ ?_
            clear hK K
            refine wpAny_ready (rs := [5]) (by kernel_rfl) (by simp) ?_
            refine AllReady.cons rfl (fun K hK => ?_) (AllReady.nil)
            · go_simp
              refine hK _ _ ?_
              clear hK K
              refine wpAny_ready (rs := [6]) (by kernel_rfl) (by simp) ?_
              refine AllReady.cons rfl (fun K hK => ?_) (AllReady.nil)
              · go_simp
                refine hK _ _ ?_
                clear hK K
                refine wpAny_done (by kernel_rfl) ?_ _
                obtain ⟨r0, r1, hP⟩ := HFIN.out
                have HPP := Lib.hid hP
                clear hP
                go_wp2
                exact bodyPost_ret (res44 _ rfl r0 r1) rfl HPP.out
        · go_simp
          go_wp2_with fail
          refine HCP.out.mono ?_
          rintro e wA ⟨A, cap, rfl, hown, hbA⟩
          obtain ⟨q0, q1, q2, z1, z2, q2', z2', hfin⟩ := HAF.out wA A cap hown hbA
          have HFIN := Lib.hid hfin
          clear hown hbA hfin
          refine hK _ _ ?_
          clear hK K
          refine wpAny_ready (rs := [1]) (by kernel_rfl) (by simp) ?_
          refine AllReady.cons rfl (fun K hK => ?_) (AllReady.nil)
          · go_simp
            refine hK _ _ ?_
            clear hK K
            refine wpAny_ready (rs := [5]) (by kernel_rfl) (by simp) ?_
            refine AllReady.cons rfl (fun K hK => ?_) (AllReady.nil)
            · go_simp
              refine hK _ _ ?_
              clear hK K
              refine wpAny_ready (rs := [6]) (by kernel_rfl) (by simp) ?_
              refine AllReady.cons rfl (fun K hK => ?_) (AllReady.nil)
              · go_simp
                refine hK _ _ ?_
                clear hK K
                refine wpAny_done (by kernel_rfl) ?_ _
                obtain ⟨r0, r1, hP⟩ := HFIN.out
                have HPP := Lib.hid hP
                clear hP
                go_wp2
                exact bodyPost_ret (res44 _ rfl r0 r1) rfl HPP.out
  · go_simp
    refine hK _ _ ?_
    clear hK K
    refine wpAny_ready (rs := [0, 3]) (by kernel_rfl) (by simp) ?_
    refine AllReady.cons rfl (fun K hK => ?_) (AllReady.cons rfl (fun K hK => ?_) (AllReady.nil))
    · go_simp
      refine hK _ _ ?_
      clear hK K
      refine wpAny_ready (rs := [1, 3]) (by kernel_rfl) (by simp) ?_
      refine AllReady.cons rfl (fun K hK => ?_) (AllReady.cons rfl (fun K hK => ?_) (AllReady.nil))
      · go_simp
        refine hK _ _ ?_
        clear hK K
        refine wpAny_ready (rs := [3]) (by kernel_rfl) (by simp) ?_
        refine AllReady.cons rfl (fun K hK => ?_) (AllReady.nil)
        · go_simp
          refine hK _ _ ?_
          clear hK K
          refine wpAny_ready (rs := [4]) (by kernel_rfl) (by simp) ?_
          refine AllReady.cons rfl (fun K hK => ?_) (AllReady.nil)
          · go_simp
            go_wp2_with fail
            refine HCP.out.mono ?_
            rintro e wA ⟨A, cap, rfl, hown, hbA⟩
            obtain ⟨q0, q1, q2, z1, z2, q2', z2', hfin⟩ := HAF.out wA A cap hown hbA
            have HFIN := Lib.hid hfin
            clear hown hbA hfin
            refine hK _ _ ?_
            clear hK K
            refine wpAny_ready (rs := [5]) (by kernel_rfl) (by simp) ?_
            refine AllReady.cons rfl (fun K hK => ?_) (AllReady.nil)
            · go_simp
              refine hK _ _ ?_
              clear hK K
              refine wpAny_ready (rs := [6]) (by kernel_rfl) (by simp) ?_
              refine AllReady.cons rfl (fun K hK => ?_) (AllReady.nil)
              · go_simp
                refine hK _ _ ?_
                clear hK K
                refine wpAny_done (by kernel_rfl) ?_ _
                obtain ⟨r0, r1, hP⟩ := HFIN.out
                have HPP := Lib.hid hP
                clear hP
                go_wp2
                exact bodyPost_ret (res44 _ rfl r0 r1) rfl HPP.out
      · go_simp
        refine hK _ _ ?_
        clear hK K
        refine wpAny_ready (rs := [1, 4]) (by kernel_rfl) (by simp) ?_
        refine AllReady.cons rfl (fun K hK => ?_) (AllReady.cons rfl (fun K hK => ?_) (AllReady.nil))
        · go_simp
          refine hK _ _ ?_
          clear hK K
          refine wpAny_ready (rs := [4]) (by kernel_rfl) (by simp) ?_
          refine AllReady.cons rfl (fun K hK => ?_) (AllReady.nil)
          · go_simp
            go_wp2_with fail
            refine HCP.out.mono ?_
            rintro e wA ⟨A, cap, rfl, hown, hbA⟩
            obtain ⟨q0, q1, q2, z1, z2, q2', z2', hfin⟩ := HAF.out wA A cap hown hbA
            have HFIN := Lib.hid hfin
            clear hown hbA hfin
            refine hK _ _ ?_
            clear hK K
            refine wpAny_ready (rs := [5]) (by kernel_rfl) (by simp) ?_
            refine AllReady.cons rfl (fun K hK => ?_) (AllReady.nil)
            · go_simp
              refine hK _ _ ?_
              clear hK K
              refine wpAny_ready (rs := [6]) (by kernel_rfl) (by simp) ?_
              refine AllReady.cons rfl (fun K hK => ?_) (AllReady.nil)
              · go_simp
                refine hK _ _ ?_
                clear hK K
                refine wpAny_done (by kernel_rfl) ?_ _
                obtain ⟨r0, r1, hP⟩ := HFIN.out
                have HPP := Lib.hid hP
                clear hP
                go_wp2
                exact bodyPost_ret (res44 _ rfl r0 r1) rfl HPP.out
        · go_simp
          go_wp2_with fail
          refine HCP.out.mono ?_
          rintro e wA ⟨A, cap, rfl, hown, hbA⟩
          obtain ⟨q0, q1, q2, z1, z2, q2', z2', hfin⟩ := HAF.out wA A cap hown hbA
          have HFIN := Lib.hid hfin
          clear hown hbA hfin
          refine hK _ _ ?_
          clear hK K
          refine wpAny_ready (rs := [1]) (by kernel_rfl) (by simp) ?_
          refine AllReady.cons rfl (fun K hK => ?_) (AllReady.nil)
          · go_simp
            refine hK _ _ ?_
            clear hK K
            refine wpAny_ready (rs := [5]) (by kernel_rfl) (by simp) ?_
            refine AllReady.cons rfl (fun K hK => ?_) (AllReady.nil)
            · go_simp
              refine hK _ _ ?_
              clear hK K
              refine wpAny_ready (rs := [6]) (by kernel_rfl) (by simp) ?_
              refine AllReady.cons rfl (fun K hK => ?_) (AllReady.nil)
              · go_simp
                refine hK _ _ ?_
                clear hK K
                refine wpAny_done (by kernel_rfl) ?_ _
                obtain ⟨r0, r1, hP⟩ := HFIN.out
                have HPP := Lib.hid hP
                clear hP
                go_wp2
                exact bodyPost_ret (res44 _ rfl r0 r1) rfl HPP.out
    · go_simp
      refine hK _ _ ?_
      clear hK K
      refine wpAny_ready (rs := [0, 4]) (by kernel_rfl) (by simp) ?_
      refine AllReady.cons rfl (fun K hK => ?_) (AllReady.cons rfl (fun K hK => ?_) (AllReady.nil))
      · go_simp
        refine hK _ _ ?_
        clear hK K
        refine wpAny_ready (rs := [1, 4]) (by kernel_rfl) (by simp) ?_
        refine AllReady.cons rfl (fun K hK => ?_) (AllReady.cons rfl (fun K hK => ?_) (AllReady.nil))
        · go_simp
          refine hK _ _ ?_
          clear hK K
          refine wpAny_ready (rs := [4]) (by kernel_rfl) (by simp) ?_
          refine AllReady.cons rfl (fun K hK => ?_) (AllReady.nil)
          · go_simp
            go_wp2_with fail
            refine HCP.out.mono ?_
            rintro e wA ⟨A, cap, rfl, hown, hbA⟩
            obtain ⟨q0, q1, q2, z1, z2, q2', z2', hfin⟩ := HAF.out wA A cap hown hbA
            have HFIN := Lib.hid hfin
            clear hown hbA hfin
            refine hK _ _ ?_
            clear hK K
            refine wpAny_ready (rs := [5]) (by kernel_rfl) (by simp) ?_
            refine AllReady.cons rfl (fun K hK => ?_) (AllReady.nil)
            · go_simp
              refine hK _ _ ?_
              clear hK K
              refine wpAny_ready (rs := [6]) (by kernel_rfl) (by simp) ?_
              refine AllReady.cons rfl (fun K hK => ?_) (AllReady.nil)
              · go_simp
                refine hK _ _ ?_
                clear hK K
                refine wpAny_done (by kernel_rfl) ?_ _
                obtain ⟨r0, r1, hP⟩ := HFIN.out
                have HPP := Lib.hid hP
                clear hP
                go_wp2
                exact bodyPost_ret (res44 _ rfl r0 r1) rfl HPP.out
        · go_simp
          go_wp2_with fail
          refine HCP.out.mono ?_
          rintro e wA ⟨A, cap, rfl, hown, hbA⟩
          obtain ⟨q0, q1, q2, z1, z2, q2', z2', hfin⟩ := HAF.out wA A cap hown hbA
          have HFIN := Lib.hid hfin
          clear hown hbA hfin
          refine hK _ _ ?_
          clear hK K
          refine wpAny_ready (rs := [1]) (by kernel_rfl) (by simp) ?_
          refine AllReady.cons rfl (fun K hK => ?_) (AllReady.nil)
          · go_simp
            refine hK _ _ ?_
            clear hK K
            refine wpAny_ready (rs := [5]) (by kernel_rfl) (by simp) ?_
            refine AllReady.cons rfl (fun K hK => ?_) (AllReady.nil)
            · go_simp
              refine hK _ _ ?_
              clear hK K
              refine wpAny_ready (rs := [6]) (by kernel_rfl) (by simp) ?_
              refine AllReady.cons rfl (fun K hK => ?_) (AllReady.nil)
              · go_simp
                refine hK _ _ ?_
                clear hK K
                refine wpAny_done (by kernel_rfl) ?_ _
                obtain ⟨r0, r1, hP⟩ := HFIN.out
                have HPP := Lib.hid hP
                clear hP
                go_wp2
                exact bodyPost_ret (res44 _ rfl r0 r1) rfl HPP.out
      · go_simp
        go_wp2_with fail
        refine HCP.out.mono ?_
        rintro e wA ⟨A, cap, rfl, hown, hbA⟩
        obtain ⟨q0, q1, q2, z1, z2, q2', z2', hfin⟩ := HAF.out wA A cap hown hbA
        have HFIN := Lib.hid hfin
        clear hown hbA hfin
        refine hK _ _ ?_
        clear hK K
        refine wpAny_ready (rs := [0]) (by kernel_rfl) (by simp) ?_
        refine AllReady.cons rfl (fun K hK => ?_) (AllReady.nil)
        · go_simp
          refine hK _ _ ?_
          clear hK K
          refine wpAny_ready (rs := [1]) (by kernel_rfl) (by simp) ?_
          refine AllReady.cons rfl (fun K hK => ?_) (AllReady.nil)
          · go_simp
            refine hK _ _ ?_
            clear hK K
            refine wpAny_ready (rs := [5]) (by kernel_rfl) (by simp) ?_
            refine AllReady.cons rfl (fun K hK => ?_) (AllReady.nil)
            · go_simp
              refine hK _ _ ?_
              clear hK K
              refine wpAny_ready (rs := [6]) (by kernel_rfl) (by simp) ?_
              refine AllReady.cons rfl (fun K hK => ?_) (AllReady.nil)
              · go_simp
                refine hK _ _ ?_
                clear hK K
                refine wpAny_done (by kernel_rfl) ?_ _
                obtain ⟨r0, r1, hP⟩ := HFIN.out
                have HPP := Lib.hid hP
                clear hP
                go_wp2
                exact bodyPost_ret (res44 _ rfl r0 r1) rfl HPP.out
end Go.Proofs.YteephomlnbbjeaaGreatDoor

namespace Go.Proofs.YteephomlnbbjeaaGreatDoor
open Go Go.RowKit Go.Maps Go.Sort Go.Shelf
def bigB (l : List UInt8) : Bool := decide (300 < l.length)
def bigC (c : Cel) : Bool := decide (300 < c.conj.length)
def smallB (p : Pr) : Bool := decide (p.rels.length ≤ 70) && !(p.rels.any bigB)
def lightB (d : List Cel) : Bool := decide (d.length ≤ 100) && !(d.any bigC)

theorem small1_any (l : List UInt8) (w : World) (hs : l.length ≤ 140737488351232) :
    Calls Tryz.prog 47 #[.string ⟨l.toArray⟩] w fun e w' => e = .returned (.bool (bigB l)) ∧ w = w' := by
  have HS : (ByteArray.mk l.toArray).size = l.length := size_mk l
  have HR : Hid (bigB l = decide (300 < l.length)) := Lib.hid rfl
  go_enter Tryz.func47, Tryz.ntmps47
  go_wp2
  go_ret
  exact ⟨ret_bool (by rw [HR.out]; simp; omega), rfl⟩

set_option maxHeartbeats 400000 in
theorem contains_big (A : Option Addr) (cap : Nat) (l : List (List UInt8)) (w : World) (h : StrsAt w A l) (hm : l.length ≤ maxLen) :
    Calls Tryz.prog 66 #[.slice A l.length cap, .func (.func 47) #[] #[]] w fun e w' => (∃ r : Int, e = .returned (.int .i64 r) ∧ decide (0 ≤ r) = l.any bigB) ∧ w = w' := by
  unfold maxLen at hm
  have HH := Lib.hid h
  clear h
  go_enter Tryz.func66, Tryz.ntmps66
  go_wp2
  go_loop [5, 8] (fun _ i => ∃ n : Nat, n ≤ l.length ∧ i = .int .i64 n ∧ (l.take n).any bigB = false) (fun _ i => l.length - (intOf i).toNat)
  case atStart => exact ⟨0, Nat.zero_le _, rfl, rfl⟩
  case round =>
    obtain ⟨n, hn, rfl, hall⟩ := hrel
    have HA := Lib.hid hall
    clear hall
    by_cases hlt : n < l.length
    · have HS := Lib.hid (any_take_succL l bigB n hlt)
      have HY := Lib.hid (any_yesL l bigB n hlt)
      obtain ⟨b, o, rfl, hc, hl⟩ := HH.out n hlt
      have hI := small1_any l[n] w hl
      clear hl
      cases hb : bigB l[n] with
      | false =>
        rw [hb] at hI HS
        clear hb
        generalize l[n] = r at *
        go_wp2_with fail
        refine hI.mono ?_
        rintro e w1 ⟨rfl, rfl⟩
        go_wp2
        go_round
        case rel => exact ⟨n + 1, by omega, by go_num, by rw [HS.out, HA.out]; rfl⟩
        case measure => simp [intOf]; omega
      | true =>
        rw [hb] at hI
        have HZ := Lib.hid (HY.out hb)
        clear hb
        generalize l[n] = r at *
        go_wp2_with fail
        refine hI.mono ?_
        rintro e w1 ⟨rfl, rfl⟩
        go_wp2
        go_ret
        exact ⟨⟨_, rfl, by rw [HZ.out]; simp⟩, rfl⟩
    · obtain rfl : n = l.length := by omega
      have HZ : Hid (l.any bigB = false) := Lib.hid (by have := HA.out; rwa [List.take_length] at this)
      go_wp2
      go_ret
      exact ⟨⟨-1, rfl, by rw [HZ.out]; decide⟩, rfl⟩

theorem anyBig (A : Option Addr) (cap : Nat) (l : List (List UInt8)) (w : World) (h : StrsAt w A l) (hm : l.length ≤ maxLen) :
    Calls Tryz.prog 20 #[.slice A l.length cap, .func (.func 47) #[] #[]] w fun e w' => e = .returned (.bool (l.any bigB)) ∧ w = w' := by
  have hI := contains_big A cap l w h hm
  clear h
  generalize l.any bigB = q at *
  go_enter Tryz.func20, Tryz.ntmps20
  go_wp2_with fail
  refine hI.mono ?_
  rintro e w1 ⟨⟨r, rfl, hq⟩, rfl⟩
  subst hq
  go_wp2
  go_ret
  exact ⟨rfl, rfl⟩
theorem light1_any (c : Cel) (w : World) (hs : c.conj.length ≤ 140737488351232) :
    Calls Tryz.prog 80 #[.agg (celC c.conj c.rel c.inv)] w fun e w' => e = .returned (.bool (bigC c)) ∧ Below w.heap.size w w' := by
  have HS : (ByteArray.mk c.conj.toArray).size = c.conj.length := size_mk c.conj
  have HR : Hid (bigC c = decide (300 < c.conj.length)) := Lib.hid rfl
  have HBX := Lib.hid (Boxd.start w (celC c.conj c.rel c.inv) 89)
  go_enter Tryz.func80, Tryz.ntmps80
  go_wp2
  go_ret
  exact ⟨ret_bool (by rw [HR.out]; simp; omega), (Below.refl _ w).alloc (Nat.le_refl _) _⟩

set_option maxHeartbeats 400000 in
theorem contains_bigC (A : Option Addr) (cap : Nat) (l : List Cel) (w : World) (h : CellsAt w A l) (hm : l.length ≤ maxLen) :
    Calls Tryz.prog 130 #[.slice A l.length cap, .func (.func 80) #[] #[]] w fun e w' => (∃ r : Int, e = .returned (.int .i64 r) ∧ decide (0 ≤ r) = l.any bigC) ∧ Below w.heap.size w w' := by
  unfold maxLen at hm
  have HH := Lib.hid h
  clear h
  go_enter Tryz.func130, Tryz.ntmps130
  go_wp2
  go_loopw [5, 8] (fun _ i wr => ∃ n : Nat, n ≤ l.length ∧ i = .int .i64 n ∧ (l.take n).any bigC = false ∧ Below w.heap.size w wr) (fun _ i _ => l.length - (intOf i).toNat)
  case atStart => exact ⟨0, Nat.zero_le _, rfl, rfl, Below.refl _ _⟩
  case round =>
    obtain ⟨n, hn, rfl, hall, hb0⟩ := hrel
    have HA := Lib.hid hall
    have HB := Lib.hid hb0
    clear hall hb0
    by_cases hlt : n < l.length
    · have HS := Lib.hid (any_take_succL l bigC n hlt)
      have HY := Lib.hid (any_yesL l bigC n hlt)
      obtain ⟨b, o, rfl, ⟨k0, k1, k2, hl⟩⟩ := (HH.out.below HB.out) n hlt
      have hI := light1_any l[n] wr hl
      clear hl
      cases hb : bigC l[n] with
      | false =>
        rw [hb] at hI HS
        clear hb
        generalize l[n] = r at *
        obtain ⟨rc', rr, ri⟩ := r
        simp only [] at k0 k1 k2 hI
        go_wp2_with fail
        refine hI.mono ?_
        rintro e w1 ⟨rfl, hb1⟩
        have HB1 := Lib.hid (HB.out.trans (hb1.mono HB.out.size))
        clear hb1
        go_wp2
        go_roundw
        case rel => exact ⟨n + 1, by omega, by go_num, by rw [HS.out, HA.out]; rfl, HB1.out⟩
        case measure => simp [intOf]; omega
      | true =>
        rw [hb] at hI
        have HZ := Lib.hid (HY.out hb)
        clear hb
        generalize l[n] = r at *
        obtain ⟨rc', rr, ri⟩ := r
        simp only [] at k0 k1 k2 hI
        go_wp2_with fail
        refine hI.mono ?_
        rintro e w1 ⟨rfl, hb1⟩
        have HB1 := Lib.hid (HB.out.trans (hb1.mono HB.out.size))
        clear hb1
        go_wp2
        go_ret
        exact ⟨⟨_, rfl, by rw [HZ.out]; simp⟩, HB1.out⟩
    · obtain rfl : n = l.length := by omega
      have HZ : Hid (l.any bigC = false) := Lib.hid (by have := HA.out; rwa [List.take_length] at this)
      go_wp2
      go_ret
      exact ⟨⟨-1, rfl, by rw [HZ.out]; decide⟩, HB.out⟩

theorem anyBigC (A : Option Addr) (cap : Nat) (l : List Cel) (w : World) (h : CellsAt w A l) (hm : l.length ≤ maxLen) :
    Calls Tryz.prog 79 #[.slice A l.length cap, .func (.func 80) #[] #[]] w fun e w' => e = .returned (.bool (l.any bigC)) ∧ Below w.heap.size w w' := by
  have hI := contains_bigC A cap l w h hm
  clear h
  generalize l.any bigC = q at *
  go_enter Tryz.func79, Tryz.ntmps79
  go_wp2_with fail
  refine hI.mono ?_
  rintro e w1 ⟨⟨r, rfl, hq⟩, hb1⟩
  subst hq
  go_wp2
  go_ret
  exact ⟨rfl, hb1⟩

set_option maxHeartbeats 1000000 in
theorem small_any (p : Pr) (R : Option Addr) (rc : Nat) (w : World) (hr : StrsAt w R p.rels) (hm : p.rels.length ≤ maxLen) :
    Calls Tryz.prog 11 #[prV p.k R p.rels.length rc] w fun e w' => e = .returned (.bool (smallB p)) ∧ Below w.heap.size w w' := by
  have hb0 : Below w.heap.size w (w.alloc (.cells (prC p.k R p.rels.length rc) 24)) := (Below.refl _ w).alloc (Nat.le_refl _) _
  obtain ⟨g0, g1, _, _⟩ := blk2 (heap_alloc_new w (.cells (prC p.k R p.rels.length rc) 24))
  have HI := Lib.hid (anyBig R rc p.rels (w.alloc (.cells (prC p.k R p.rels.length rc) 24)) (hr.below hb0) hm)
  unfold maxLen at hm
  have HB := Lib.hid hb0
  clear hb0 hr
  by_cases h70 : p.rels.length ≤ 70
  · have HZ : Hid (smallB p = !(p.rels.any bigB)) := Lib.hid (by unfold smallB; simp [h70])
    generalize p.rels.any bigB = q at *
    have h70b : (p.rels.length : Int) ≤ 70 := by omega
    go_enter Tryz.func11, Tryz.ntmps11
    go_wp2_with fail
    refine HI.out.mono ?_
    rintro e w1 ⟨rfl, rfl⟩
    go_wp2
    go_ret
    exact ⟨by rw [HZ.out]; rfl, HB.out⟩
  · have HZ : Hid (smallB p = false) := Lib.hid (by unfold smallB; simp [h70])
    have h70b : ¬ (p.rels.length : Int) ≤ 70 := by omega
    go_enter Tryz.func11, Tryz.ntmps11
    go_wp2
    go_ret
    exact ⟨by rw [HZ.out]; simp [h70b], HB.out⟩

set_option maxHeartbeats 1000000 in
theorem light_any (A : Option Addr) (cap : Nat) (d : List Cel) (w : World) (hr : CellsAt w A d) (hm : d.length ≤ maxLen) :
    Calls Tryz.prog 29 #[.slice A d.length cap] w fun e w' => e = .returned (.bool (lightB d)) ∧ Below w.heap.size w w' := by
  have HI := Lib.hid (anyBigC A cap d w hr hm)
  unfold maxLen at hm
  clear hr
  by_cases h70 : d.length ≤ 100
  · have HZ : Hid (lightB d = !(d.any bigC)) := Lib.hid (by unfold lightB; simp [h70])
    generalize d.any bigC = q at *
    have h70b : (d.length : Int) ≤ 100 := by omega
    go_enter Tryz.func29, Tryz.ntmps29
    go_wp2_with fail
    refine HI.out.mono ?_
    rintro e w1 ⟨rfl, hb⟩
    go_wp2
    go_ret
    exact ⟨by rw [HZ.out]; rfl, hb⟩
  · have HZ : Hid (lightB d = false) := Lib.hid (by unfold lightB; simp [h70])
    have h70b : ¬ (d.length : Int) ≤ 100 := by omega
    go_enter Tryz.func29, Tryz.ntmps29
    go_wp2
    go_ret
    exact ⟨by rw [HZ.out]; simp [h70b], Below.refl _ _⟩
end Go.Proofs.YteephomlnbbjeaaGreatDoor

namespace Go.Proofs.YteephomlnbbjeaaGreatDoor
open Go Go.RowKit Go.Maps Go.Sort Go.Shelf

set_option maxHeartbeats 1000000 in
theorem SameP_any (p q : Pr) (A B : Option Addr) (ca cb : Nat) (w : World) (hA : StrsAt w A p.rels) (hB : StrsAt w B q.rels) (hl : p.rels.length ≤ 1000000) (hv : q.rels.length ≤ 1000000) :
    Calls Tryz.prog 17 #[prV p.k A p.rels.length ca, prV q.k B q.rels.length cb] w fun e w' => e = .returned (.bool (decide (p.k = q.k) && decide (p.rels = q.rels))) ∧ Below w.heap.size w w' := by
  obtain ⟨pk, pr⟩ := p
  obtain ⟨qk, qr⟩ := q
  simp only [] at *
  generalize hW : ((w.alloc (.cells (prC pk A pr.length ca) 24)).alloc (.cells (prC qk B qr.length cb) 24)) = W0
  have hb0 : Below w.heap.size w W0 := by rw [← hW]; exact (((Below.refl _ w).alloc (Nat.le_refl _) _).alloc (by simp) _)
  have h1 : W0.heap[w.heap.size]? = some (.cells (prC pk A pr.length ca) 24 (0, 0)) := by rw [← hW]; exact (Below.heap_alloc _ _ _ (by simp)).trans (heap_alloc_new w _)
  have h2 : W0.heap[w.heap.size + 1]? = some (.cells (prC qk B qr.length cb) 24 (0, 0)) := by
    rw [← hW]
    have h := heap_alloc_new (w.alloc (.cells (prC pk A pr.length ca) 24)) (.cells (prC qk B qr.length cb) 24)
    rwa [World.size_alloc] at h
  obtain ⟨a0, a1, _, _⟩ := blk2 h1
  obtain ⟨b0, b1, _, _⟩ := blk2 h2
  have HE := Lib.hid (EqW_any A B ca cb pr qr W0 (hA.below hb0) (hB.below hb0) hl hv)
  have HB0 := Lib.hid hb0
  clear hA hB hb0 h1 h2
  generalize decide (pr = qr) = bb at *
  by_cases hk : pk = qk
  · have HZ : Hid ((decide (pk = qk) && bb) = bb) := Lib.hid (by simp [hk])
    subst hk
    go_enter Tryz.func17, Tryz.ntmps17
    go_wp2_with fail
    refine HE.out.mono ?_
    rintro e w1 ⟨rfl, hb1⟩
    go_wp2
    go_ret
    exact ⟨by rw [HZ.out]; rfl, HB0.out.trans (hb1.mono HB0.out.size)⟩
  · have hkk : (pk == qk) = false := by simpa using hk
    have HZ : Hid ((decide (pk = qk) && bb) = false) := Lib.hid (by simp [hk])
    go_enter Tryz.func17, Tryz.ntmps17
    go_wp2_with fail
    go_ret
    exact ⟨by rw [HZ.out]; simp [hkk], HB0.out⟩
end Go.Proofs.YteephomlnbbjeaaGreatDoor
