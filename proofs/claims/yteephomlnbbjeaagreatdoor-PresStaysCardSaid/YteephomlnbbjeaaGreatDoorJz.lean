/-
  Our own text, in the proofs of the laws of package pres (cayleylaw03). Proved here: Canonical of package pres. Conditions: the arguments lie in memory as the slices say; bounds; the listed tables lie as the program lays them.
-/
import Derived.Test.YteephomlnbbjeaaGreatDoorJp
import Derived.Test.YteephomlnbbjeaaGreatDoorJy
set_option linter.unusedVariables false
set_option linter.unusedSimpArgs false
set_option linter.unusedSectionVars false
namespace Go.Proofs.YteephomlnbbjeaaGreatDoor
open Go Go.RowKit Go.Maps Go.Sort Go.Shelf

theorem isW_sub {l m : List UInt8} (h : isW l = true) (hm : ∀ x ∈ m, x ∈ l) (hl : m.length ≤ 100000) : isW m = true := by
  simp only [isW, Bool.and_eq_true, decide_eq_true_eq, List.all_eq_true] at h ⊢
  exact ⟨hl, fun x hx => h.2 x (hm x hx)⟩
theorem coreW_mem {l : List UInt8} : ∀ x ∈ coreW l, x ∈ l := fun x hx => List.mem_of_mem_drop (List.mem_of_mem_take hx)
theorem isW_core {l : List UInt8} (h : isW l = true) : isW (coreW l) = true := isW_sub h coreW_mem (by have := coreW_len l; have := isW_len h; omega)
theorem rot_len (l : List UInt8) (k : Nat) : (l.drop k ++ l.take k).length = l.length := by simp; omega
theorem isW_rot {l : List UInt8} (h : isW l = true) (k : Nat) : isW (l.drop k ++ l.take k) = true := isW_sub h (fun x hx => (List.mem_append.1 hx).elim List.mem_of_mem_drop List.mem_of_mem_take) (by rw [rot_len]; exact isW_len h)
theorem isW_form {l : List UInt8} (h : isW l = true) : isW (formW l) = true := isW_rot (isW_core (isW_red h)) _
theorem isW_can {l : List UInt8} (h : isW l = true) : isW (canW l) = true := by
  unfold canW
  split
  · exact isW_form (isW_invW h)
  · exact isW_form h

noncomputable abbrev plainB : Value → Option (DataW Unit × List MemPlace) := plainElem Tryz.prog 4

theorem map_on {w w' : World} {b n : Nat} {D : DataW Unit} (h : w.ownsMap Tryz.prog 9 plainB b n D) (hb : Below w.heap.size w w') : w'.ownsMap Tryz.prog 9 plainB b n D :=
  h.kept (row := none) ⟨hb.os, hb.tape, hb.output, hb.size, fun k hk _ => hb.block k hk⟩ (by simp)
theorem take_map {l : List (List UInt8)} {k : Nat} (h : k < l.length) (f : List UInt8 → List UInt8) : (l.take (k + 1)).map f = (l.take k).map f ++ [f l[k]] := by
  rw [List.take_add_one, List.getElem?_eq_getElem h, List.map_append]; rfl
theorem key_str {s : ByteArray} (h : s.size ≤ maxLen) : keyOf Tryz.prog 9 (.string s) = some (.string s.data.toList) := by simp [keyOf, Tryz.underlying9, mapKey, h]
/-- What Canonical returns. -/
def CanP (p : Pr) (w : World) (e : Ending) (w' : World) : Prop :=
  Below w.heap.size w w' ∧ if chkP p = 0 then ∃ A cap, e = .returned (.tuple #[prV p.k A (ascA (p.rels.map canW)).length cap, .int .i64 0]) ∧ StrsAt w' A (ascA (p.rels.map canW)) ∧ (A = none → ascA (p.rels.map canW) = [])
    else e = .returned (.tuple #[prV 0 none 0 0, .int .i64 (chkP p)])

theorem box2 (w : World) (a b : Value) (t : TypeId) : ∀ X, Below (w.alloc (.cells #[a, b] t)).heap.size (w.alloc (.cells #[a, b] t)) X → X.heap[w.heap.size]? = some (.cells #[a, b] t (0, 0)) := fun X hX =>
  (hX.block _ (by simp)).trans (heap_alloc_new w _)

theorem res25 {X : World} {b : Nat} {k e : Int} {A : Option Addr} {m cap : Nat} (tmps : Array Value) (h2 : tmps.getD 2 undef = .pointer (some ⟨b, 0, none⟩)) (h3 : tmps.getD 3 undef = .int .i64 e) (c0 : X.cell? ⟨b, 0, none⟩ = some (.int .i64 k)) (c1 : X.cell? ⟨b, 1, none⟩ = some (.slice A m cap)) :
    (results Tryz.f25 tmps).run Tryz.prog X = .ok (.tuple #[.agg #[.int .i64 k, .slice A m cap], .int .i64 e]) X := by
  have h2' : tmps[2]?.getD undef = .pointer (some ⟨b, 0, none⟩) := by simpa using h2
  have h3' : tmps[3]?.getD undef = .int .i64 e := by simpa using h3
  simp [results, Tryz.results25, go_sem, h2', h3', c0, c1]

set_option maxHeartbeats 4000000 in
set_option maxRecDepth 100000 in
theorem Canonical_any (p : Pr) (R : Option Addr) (rc : Nat) (w : World) (ht : Tabs w) (hr : StrsAt w R p.rels) (hm : p.rels.length ≤ maxLen) :
    Calls Tryz.prog 25 #[prV p.k R p.rels.length rc] w (CanP p w) := by
  have hmk := @run_makeMap Tryz.prog
  have hb0 : Below w.heap.size w ((w.alloc (.cells (prC p.k R p.rels.length rc) 24)).alloc (.cells #[.int .i64 0, .slice none 0 0] 24)) := ((Below.refl _ w).alloc (Nat.le_refl _) _).alloc (by simp) _
  have hs0 : ((w.alloc (.cells (prC p.k R p.rels.length rc) 24)).alloc (.cells #[.int .i64 0, .slice none 0 0] 24)).heap.size = w.heap.size + 2 := by simp
  have h1 : ((w.alloc (.cells (prC p.k R p.rels.length rc) 24)).alloc (.cells #[.int .i64 0, .slice none 0 0] 24)).heap[w.heap.size]? = some (.cells (prC p.k R p.rels.length rc) 24 (0, 0)) := (Below.heap_alloc _ _ _ (by simp)).trans (heap_alloc_new w _)
  have h2 : ((w.alloc (.cells (prC p.k R p.rels.length rc) 24)).alloc (.cells #[.int .i64 0, .slice none 0 0] 24)).heap[w.heap.size + 1]? = some (.cells #[.int .i64 0, .slice none 0 0] 24 (0, 0)) := by
    have h := heap_alloc_new (w.alloc (.cells (prC p.k R p.rels.length rc) 24)) (.cells #[.int .i64 0, .slice none 0 0] 24)
    rwa [World.size_alloc] at h
  have HC := Lib.hid (Check_any p R rc _ (ht.on hb0) (hr.below hb0) hm)
  have HT := Lib.hid ht
  have HR := Lib.hid hr
  obtain ⟨g0, g1, _, _⟩ := blk2 h1
  have HB0 := Lib.hid hb0
  have HS0 := Lib.hid hs0
  have HH1 := Lib.hid h1
  have HH2 := Lib.hid h2
  clear ht hr hb0 h1 h2 hs0
  go_enter Tryz.func25, Tryz.ntmps25
  go_wp2_with fail
  generalize hw0 : (w.alloc (.cells (prC p.k R p.rels.length rc) 24)).alloc (.cells #[.int .i64 0, .slice none 0 0] 24) = w0 at *
  clear hw0
  refine HC.out.mono ?_
  rintro e w1 ⟨rfl, hb1⟩
  have HB1 := Lib.hid (HB0.out.trans (hb1.mono (by have := HS0.out; omega)))
  have HA1 := Lib.hid ((hb1.block _ (by have := HS0.out; omega)).trans HH1.out)
  have HA2 := Lib.hid ((hb1.block _ (by have := HS0.out; omega)).trans HH2.out)
  have HSZ1 : Hid (w.heap.size + 2 ≤ w1.heap.size) := Lib.hid (by have := hb1.size; have := HS0.out; omega)
  obtain ⟨k0, k1, m0, m1⟩ := blk2 HA2.out
  by_cases hck : chkP p = 0
  · have hd : (chkP p == 0) = true := by simp [hck]
    have hd2 : (chkP p != 0) = false := by rw [bne, hd]; rfl
    have HCK := Lib.hid hck
    have HW := Lib.hid (chkP_words hck)
    have hn60 := (chkP_rels hck).2.2.1
    have hba := (Below.refl _ w1).alloc (Nat.le_refl _) (.map #[] 0)
    have hM0 : (w1.alloc (.map #[] 0)).ownsMap Tryz.prog 9 plainB w1.heap.size 0 (setD []) := World.ownsMap_made w1 Tryz.prog 9 plainB
    obtain ⟨y0, y1, _, _⟩ := blk2 ((hba.block w.heap.size (by have := HSZ1.out; omega)).trans HA1.out)
    have HBA := Lib.hid hba
    have HM0 := Lib.hid hM0
    clear hb1 hck g0 g1 k0 k1 m0 m1 hba hM0
    go_wp2_with fail
    go_loopw [18] (fun i wr => ∃ (k : Nat), i = .int .i64 k ∧ k ≤ p.rels.length ∧ wr.ownsMap Tryz.prog 9 plainB w1.heap.size k (setD ((p.rels.take k).map canW)) ∧ Below w1.heap.size w1 wr)
      (fun i _ => p.rels.length - (intOf i).toNat)
    case atStart => exact ⟨0, rfl, by omega, HM0.out, HBA.out⟩
    case round =>
      obtain ⟨k, rfl, hk, hmap, hbw⟩ := hrel
      by_cases hlt : k < p.rels.length
      · have hb1w : Below w.heap.size w wr := HB1.out.trans (hbw.mono (by have := HSZ1.out; omega))
        obtain ⟨b, o, rfl, hc, hlr⟩ := (HR.out.below hb1w) k hlt
        have hrw := HW.out _ (List.getElem_mem hlt)
        have HCN := Lib.hid (canonicalRelator_any p.rels[k] wr (HT.out.on hb1w) hrw (isW_len (isW_form hrw)) (isW_len (isW_form (isW_invW hrw))))
        have hcl : (canW p.rels[k]).length ≤ 100000 := isW_len (isW_can hrw)
        have hkey : keyOf Tryz.prog 9 (.string ⟨(canW p.rels[k]).toArray⟩) = some (.string (canW p.rels[k])) := key_str (by rw [size_mk]; unfold maxLen; omega)
        have HS1 : Hid (setD ((p.rels.take (k + 1)).map canW) = (setD ((p.rels.take k).map canW)).put (.string (canW p.rels[k])) (.lit (.bool true))) := Lib.hid (by rw [take_map hlt, setD_snoc])
        have HMAP := Lib.hid hmap
        have HBW := Lib.hid hbw
        clear hmap hbw hb1w hrw
        go_wp2_with fail
        refine HCN.out.mono ?_
        rintro e w2 ⟨rfl, hb2⟩
        have hown := map_on HMAP.out hb2
        have HB2 := Lib.hid hb2
        clear hb2
        go_wp2_with (first | (at_mapUpdate; refine wpList_mapUpdate_own w2 rfl (.tmp 22) (.tmp 24) (.const (.bool true)) 107 rfl 9 4 (string_keyed Tryz.underlying9) Tryz.underlying107 plainB w1.heap.size k _ rfl hown (by unfold maxLen; omega) _ _ _ rfl rfl hkey (.lit (.bool true)) [] (plainElem_bool Tryz.underlying4 true) ?_; intro w3 hown3 hg3; have HO3 := Lib.hid hown3; have HG3 := Lib.hid hg3; clear hown3 hg3))
        go_roundw
        case rel => exact ⟨k + 1, by go_num, by omega, by rw [HS1.out]; exact HO3.out, (HBW.out.trans (HB2.out.mono HBW.out.size)).grown HG3.out (by have := HBW.out.size; have := HB2.out.size; omega) (fun j e => by cases e; omega)⟩
        case measure => simp [intOf]; omega
      · have he : k = p.rels.length := by omega
        subst he
        have htk : p.rels.take p.rels.length = p.rels := List.take_length
        rw [htk] at hmap
        have hb1w : Below w.heap.size w wr := HB1.out.trans (hbw.mono (by have := HSZ1.out; omega))
        have hX0 : Below wr.heap.size wr wr.drew := (Below.refl _ _).drew
        have HASC := Lib.hid (ascending_any w1.heap.size p.rels.length (setD (p.rels.map canW)) (p.rels.map canW) wr.drew (HT.out.on hb1w.drew) hmap (by omega) (fun x => setD_has _ x) (fun x hx => by
          obtain ⟨r, hr, rfl⟩ := List.mem_map.1 hx
          exact isW_can (HW.out r hr)))
        have hsw := hbw.size
        have hA1 : wr.heap[w.heap.size]? = some (.cells (prC p.k (some ⟨0, 0, none⟩) p.rels.length rc) 24 (0, 0)) ∨ True := .inr trivial
        have e0 : wr.heap[w.heap.size]? = w1.heap[w.heap.size]? := hbw.block _ (by have := HSZ1.out; omega)
        have e1 : wr.heap[w.heap.size + 1]? = w1.heap[w.heap.size + 1]? := hbw.block _ (by have := HSZ1.out; omega)
        obtain ⟨y0, _, _, _⟩ := blk2 (e0.trans HA1.out)
        have d0 : wr.drew.cell? ⟨w.heap.size, 0, none⟩ = some (.int .i64 p.k) := y0
        have HA2W := Lib.hid (e1.trans HA2.out)
        have HAF : Hid (∀ wA A cap, StrsAt wA A (ascA (p.rels.map canW)) → (A = none → ascA (p.rels.map canW) = []) → Below wr.drew.heap.size wr.drew wA →
            wA.cell? ⟨w.heap.size, 0, none⟩ = some (.int .i64 p.k) ∧ wA.cell? ⟨w.heap.size + 1, 0, none⟩ = some (.int .i64 0) ∧ wA.cell? ⟨w.heap.size + 1, 1, none⟩ = some (.slice none 0 0) ∧ wA.frozen? ⟨w.heap.size + 1, 0, none⟩ = false ∧ wA.frozen? ⟨w.heap.size + 1, 1, none⟩ = false ∧
            (wA.setCell ⟨w.heap.size + 1, 0, none⟩ (.int .i64 p.k)).cell? ⟨w.heap.size + 1, 1, none⟩ = some (.slice none 0 0) ∧ (wA.setCell ⟨w.heap.size + 1, 0, none⟩ (.int .i64 p.k)).frozen? ⟨w.heap.size + 1, 1, none⟩ = false ∧
            (((wA.setCell ⟨w.heap.size + 1, 0, none⟩ (.int .i64 p.k)).setCell ⟨w.heap.size + 1, 1, none⟩ (.slice A (ascA (p.rels.map canW)).length cap)).cell? ⟨w.heap.size + 1, 0, none⟩ = some (.int .i64 p.k) ∧
             ((wA.setCell ⟨w.heap.size + 1, 0, none⟩ (.int .i64 p.k)).setCell ⟨w.heap.size + 1, 1, none⟩ (.slice A (ascA (p.rels.map canW)).length cap)).cell? ⟨w.heap.size + 1, 1, none⟩ = some (.slice A (ascA (p.rels.map canW)).length cap) ∧
             CanP p w (.returned (.tuple #[prV p.k A (ascA (p.rels.map canW)).length cap, .int .i64 0])) ((wA.setCell ⟨w.heap.size + 1, 0, none⟩ (.int .i64 p.k)).setCell ⟨w.heap.size + 1, 1, none⟩ (.slice A (ascA (p.rels.map canW)).length cap)))) := Lib.hid (fun wA A cap hst hnn hbA => by
          have h1 : Below wr.heap.size wr wA := hX0.trans hbA
          have hlt1 : w.heap.size + 1 < wr.heap.size := by have := HSZ1.out; omega
          obtain ⟨a0, a1, b0, b1⟩ := blk2 ((h1.block _ hlt1).trans HA2W.out)
          obtain ⟨u0, _, _, _⟩ := blk2 ((h1.block w.heap.size (by omega)).trans (e0.trans HA1.out))
          refine ⟨u0, a0, a1, b0, b1, (World.cell?_setCell_other _ _ _ _ (by simp)).trans a1, by rw [World.frozen?_setCell]; exact b1, ?_, ?_, ?_, ?_⟩
          · rw [World.cell?_setCell_other _ _ _ _ (by simp)]; exact World.cell?_setCell_same' _ _ _ (by rw [a0]; rfl)
          · exact World.cell?_setCell_same' _ _ _ (by rw [World.cell?_setCell_other _ _ _ _ (by simp), a1]; rfl)
          · exact (((hb1w.trans (h1.mono (by have := hb1w.size; omega))).setCell (p := ⟨w.heap.size + 1, 0, none⟩) (by simp) _).setCell (p := ⟨w.heap.size + 1, 1, none⟩) (by simp) _)
          · rw [if_pos HCK.out]
            exact ⟨A, cap, rfl, hst.box ((h1.block _ hlt1).trans HA2W.out) _ _, hnn⟩)
        clear hmap hb1w hsw hA1 e0 e1 hbw hX0
        go_wp2_with fail
        refine wp_region_any (by kernel_rfl) ?_
        change wpAny _ _ _ _ _ _ _ wr.drew
        refine wpAny_ready (rs := [0, 2]) (by kernel_rfl) (by simp) ?_
        refine AllReady.cons rfl (fun K hK => ?_) (AllReady.cons rfl (fun K hK => ?_) (AllReady.nil))
        · go_simp
          refine hK _ _ ?_
          clear hK K
          refine wpAny_ready (rs := [1, 2]) (by kernel_rfl) (by simp) ?_
          refine AllReady.cons rfl (fun K hK => ?_) (AllReady.cons rfl (fun K hK => ?_) (AllReady.nil))
          · go_simp
            refine hK _ _ ?_
            clear hK K
            refine wpAny_ready (rs := [2]) (by kernel_rfl) (by simp) ?_
            refine AllReady.cons rfl (fun K hK => ?_) (AllReady.nil)
            · go_simp
              refine hK _ _ ?_
              clear hK K
              refine wpAny_ready (rs := [3]) (by kernel_rfl) (by simp) ?_
              refine AllReady.cons rfl (fun K hK => ?_) (AllReady.nil)
              · go_simp
                go_wp2_with fail
                refine HASC.out.mono ?_
                rintro e wA ⟨A, cap, rfl, hst, hnn, hbA⟩
                obtain ⟨q0, q1, q2, z1, z2, q2', z2', hfin⟩ := HAF.out wA A cap hst hnn hbA
                have HFIN := Lib.hid hfin
                clear hst hnn hbA hfin
                refine hK _ _ ?_
                clear hK K
                refine wpAny_ready (rs := [4]) (by kernel_rfl) (by simp) ?_
                refine AllReady.cons rfl (fun K hK => ?_) (AllReady.nil)
                · go_simp
                  refine hK _ _ ?_
                  clear hK K
                  refine wpAny_ready (rs := [5]) (by kernel_rfl) (by simp) ?_
                  refine AllReady.cons rfl (fun K hK => ?_) (AllReady.nil)
                  · go_simp
                    refine hK _ _ ?_
                    clear hK K
                    refine wpAny_ready (rs := [6]) (by kernel_rfl) (by simp) ?_
                    refine AllReady.cons rfl (fun K hK => ?_) (AllReady.nil)
                    · go_simp
                      refine hK _ _ ?_
                      clear hK K
                      refine wpAny_done (by kernel_rfl) ?_ _
                      go_wp2
                      exact bodyPost_ret (res25 _ rfl rfl HFIN.out.1 HFIN.out.2.1) rfl HFIN.out.2.2
          · go_simp
            refine hK _ _ ?_
            clear hK K
            refine wpAny_ready (rs := [1, 3]) (by kernel_rfl) (by simp) ?_
            refine AllReady.cons rfl (fun K hK => ?_) (AllReady.cons rfl (fun K hK => ?_) (AllReady.nil))
            · go_simp
              refine hK _ _ ?_
              clear hK K
              refine wpAny_ready (rs := [3]) (by kernel_rfl) (by simp) ?_
              refine AllReady.cons rfl (fun K hK => ?_) (AllReady.nil)
              · go_simp
                go_wp2_with fail
                refine HASC.out.mono ?_
                rintro e wA ⟨A, cap, rfl, hst, hnn, hbA⟩
                obtain ⟨q0, q1, q2, z1, z2, q2', z2', hfin⟩ := HAF.out wA A cap hst hnn hbA
                have HFIN := Lib.hid hfin
                clear hst hnn hbA hfin
                refine hK _ _ ?_
                clear hK K
                refine wpAny_ready (rs := [4]) (by kernel_rfl) (by simp) ?_
                refine AllReady.cons rfl (fun K hK => ?_) (AllReady.nil)
                · go_simp
                  refine hK _ _ ?_
                  clear hK K
                  refine wpAny_ready (rs := [5]) (by kernel_rfl) (by simp) ?_
                  refine AllReady.cons rfl (fun K hK => ?_) (AllReady.nil)
                  · go_simp
                    refine hK _ _ ?_
                    clear hK K
                    refine wpAny_ready (rs := [6]) (by kernel_rfl) (by simp) ?_
                    refine AllReady.cons rfl (fun K hK => ?_) (AllReady.nil)
                    · go_simp
                      refine hK _ _ ?_
                      clear hK K
                      refine wpAny_done (by kernel_rfl) ?_ _
                      go_wp2
                      exact bodyPost_ret (res25 _ rfl rfl HFIN.out.1 HFIN.out.2.1) rfl HFIN.out.2.2
            · go_simp
              go_wp2_with fail
              refine HASC.out.mono ?_
              rintro e wA ⟨A, cap, rfl, hst, hnn, hbA⟩
              obtain ⟨q0, q1, q2, z1, z2, q2', z2', hfin⟩ := HAF.out wA A cap hst hnn hbA
              have HFIN := Lib.hid hfin
              clear hst hnn hbA hfin
              refine hK _ _ ?_
              clear hK K
              refine wpAny_ready (rs := [1]) (by kernel_rfl) (by simp) ?_
              refine AllReady.cons rfl (fun K hK => ?_) (AllReady.nil)
              · go_simp
                refine hK _ _ ?_
                clear hK K
                refine wpAny_ready (rs := [4]) (by kernel_rfl) (by simp) ?_
                refine AllReady.cons rfl (fun K hK => ?_) (AllReady.nil)
                · go_simp
                  refine hK _ _ ?_
                  clear hK K
                  refine wpAny_ready (rs := [5]) (by kernel_rfl) (by simp) ?_
                  refine AllReady.cons rfl (fun K hK => ?_) (AllReady.nil)
                  · go_simp
                    refine hK _ _ ?_
                    clear hK K
                    refine wpAny_ready (rs := [6]) (by kernel_rfl) (by simp) ?_
                    refine AllReady.cons rfl (fun K hK => ?_) (AllReady.nil)
                    · go_simp
                      refine hK _ _ ?_
                      clear hK K
                      refine wpAny_done (by kernel_rfl) ?_ _
                      go_wp2
                      exact bodyPost_ret (res25 _ rfl rfl HFIN.out.1 HFIN.out.2.1) rfl HFIN.out.2.2
        · go_simp
          refine hK _ _ ?_
          clear hK K
          refine wpAny_ready (rs := [0, 3]) (by kernel_rfl) (by simp) ?_
          refine AllReady.cons rfl (fun K hK => ?_) (AllReady.cons rfl (fun K hK => ?_) (AllReady.nil))
          · go_simp
            refine hK _ _ ?_
            clear hK K
            refine wpAny_ready (rs := [1, 3]) (by kernel_rfl) (by simp) ?_
            refine AllReady.cons rfl (fun K hK => ?_) (AllReady.cons rfl (fun K hK => ?_) (AllReady.nil))
            · go_simp
              refine hK _ _ ?_
              clear hK K
              refine wpAny_ready (rs := [3]) (by kernel_rfl) (by simp) ?_
              refine AllReady.cons rfl (fun K hK => ?_) (AllReady.nil)
              · go_simp
                go_wp2_with fail
                refine HASC.out.mono ?_
                rintro e wA ⟨A, cap, rfl, hst, hnn, hbA⟩
                obtain ⟨q0, q1, q2, z1, z2, q2', z2', hfin⟩ := HAF.out wA A cap hst hnn hbA
                have HFIN := Lib.hid hfin
                clear hst hnn hbA hfin
                refine hK _ _ ?_
                clear hK K
                refine wpAny_ready (rs := [4]) (by kernel_rfl) (by simp) ?_
                refine AllReady.cons rfl (fun K hK => ?_) (AllReady.nil)
                · go_simp
                  refine hK _ _ ?_
                  clear hK K
                  refine wpAny_ready (rs := [5]) (by kernel_rfl) (by simp) ?_
                  refine AllReady.cons rfl (fun K hK => ?_) (AllReady.nil)
                  · go_simp
                    refine hK _ _ ?_
                    clear hK K
                    refine wpAny_ready (rs := [6]) (by kernel_rfl) (by simp) ?_
                    refine AllReady.cons rfl (fun K hK => ?_) (AllReady.nil)
                    · go_simp
                      refine hK _ _ ?_
                      clear hK K
                      refine wpAny_done (by kernel_rfl) ?_ _
                      go_wp2
                      exact bodyPost_ret (res25 _ rfl rfl HFIN.out.1 HFIN.out.2.1) rfl HFIN.out.2.2
            · go_simp
              go_wp2_with fail
              refine HASC.out.mono ?_
              rintro e wA ⟨A, cap, rfl, hst, hnn, hbA⟩
              obtain ⟨q0, q1, q2, z1, z2, q2', z2', hfin⟩ := HAF.out wA A cap hst hnn hbA
              have HFIN := Lib.hid hfin
              clear hst hnn hbA hfin
              refine hK _ _ ?_
              clear hK K
              refine wpAny_ready (rs := [1]) (by kernel_rfl) (by simp) ?_
              refine AllReady.cons rfl (fun K hK => ?_) (AllReady.nil)
              · go_simp
                refine hK _ _ ?_
                clear hK K
                refine wpAny_ready (rs := [4]) (by kernel_rfl) (by simp) ?_
                refine AllReady.cons rfl (fun K hK => ?_) (AllReady.nil)
                · go_simp
                  refine hK _ _ ?_
                  clear hK K
                  refine wpAny_ready (rs := [5]) (by kernel_rfl) (by simp) ?_
                  refine AllReady.cons rfl (fun K hK => ?_) (AllReady.nil)
                  · go_simp
                    refine hK _ _ ?_
                    clear hK K
                    refine wpAny_ready (rs := [6]) (by kernel_rfl) (by simp) ?_
                    refine AllReady.cons rfl (fun K hK => ?_) (AllReady.nil)
                    · go_simp
                      refine hK _ _ ?_
                      clear hK K
                      refine wpAny_done (by kernel_rfl) ?_ _
                      go_wp2
                      exact bodyPost_ret (res25 _ rfl rfl HFIN.out.1 HFIN.out.2.1) rfl HFIN.out.2.2
          · go_simp
            go_wp2_with fail
            refine HASC.out.mono ?_
            rintro e wA ⟨A, cap, rfl, hst, hnn, hbA⟩
            obtain ⟨q0, q1, q2, z1, z2, q2', z2', hfin⟩ := HAF.out wA A cap hst hnn hbA
            have HFIN := Lib.hid hfin
            clear hst hnn hbA hfin
            refine hK _ _ ?_
            clear hK K
            refine wpAny_ready (rs := [0]) (by kernel_rfl) (by simp) ?_
            refine AllReady.cons rfl (fun K hK => ?_) (AllReady.nil)
            · go_simp
              refine hK _ _ ?_
              clear hK K
              refine wpAny_ready (rs := [1]) (by kernel_rfl) (by simp) ?_
              refine AllReady.cons rfl (fun K hK => ?_) (AllReady.nil)
              · go_simp
                refine hK _ _ ?_
                clear hK K
                refine wpAny_ready (rs := [4]) (by kernel_rfl) (by simp) ?_
                refine AllReady.cons rfl (fun K hK => ?_) (AllReady.nil)
                · go_simp
                  refine hK _ _ ?_
                  clear hK K
                  refine wpAny_ready (rs := [5]) (by kernel_rfl) (by simp) ?_
                  refine AllReady.cons rfl (fun K hK => ?_) (AllReady.nil)
                  · go_simp
                    refine hK _ _ ?_
                    clear hK K
                    refine wpAny_ready (rs := [6]) (by kernel_rfl) (by simp) ?_
                    refine AllReady.cons rfl (fun K hK => ?_) (AllReady.nil)
                    · go_simp
                      refine hK _ _ ?_
                      clear hK K
                      refine wpAny_done (by kernel_rfl) ?_ _
                      go_wp2
                      exact bodyPost_ret (res25 _ rfl rfl HFIN.out.1 HFIN.out.2.1) rfl HFIN.out.2.2
  · have hd : (chkP p == 0) = false := by simpa using hck
    have hd2 : (chkP p != 0) = true := by rw [bne, hd]; rfl
    have HCK := Lib.hid hck
    clear hb1 hck g0 g1
    have m1' : (w1.setCell ⟨w.heap.size + 1, 0, none⟩ (.int .i64 0)).frozen? ⟨w.heap.size + 1, 1, none⟩ = false := by rw [World.frozen?_setCell]; exact m1
    have k1' : (w1.setCell ⟨w.heap.size + 1, 0, none⟩ (.int .i64 0)).cell? ⟨w.heap.size + 1, 1, none⟩ = some (.slice none 0 0) := (World.cell?_setCell_other _ _ _ _ (by simp)).trans k1
    have hself : (w1.setCell ⟨w.heap.size + 1, 0, none⟩ (.int .i64 0)).setCell ⟨w.heap.size + 1, 1, none⟩ (.slice none 0 0) = w1 := by rw [setCell_self k0, setCell_self k1]
    have HSELF := Lib.hid hself
    clear hself
    go_wp2_with fail
    rw [HSELF.out]
    exact bodyPost_ret (res25 _ rfl rfl k0 k1) rfl ⟨HB1.out, by rw [if_neg HCK.out]⟩
end Go.Proofs.YteephomlnbbjeaaGreatDoor
