/-
  Our own text, in the proofs of the laws of package pres (cayleylaw03). Proved here: newDropRel of package pres; newAddGen of package pres; utf8.DecodeLastRuneInString behind a byte below 128; strings.LastIndexAny at bytes below 128; strings.LastIndexAny at bytes below 128, whole; solve of package pres. Conditions: the arguments lie in memory as the slices say; bounds; the listed tables lie as the program lays them.
-/
import Derived.Test.YteephomlnbbjeaaGreatDoorJh
import Derived.StillTailTactics
import Derived.Laws.DeepStrings4
set_option linter.unusedVariables false
set_option linter.unusedSimpArgs false
set_option linter.unusedSectionVars false
namespace Go.Proofs.YteephomlnbbjeaaGreatDoor
open Go Go.RowKit

theorem own_some {w : World} {B e s n cap : Nat} {A : Option Addr} {xs : List Value} (h : w.ownsRow B e s (.slice A n cap) n xs) (hn : 0 < n) : ∃ g, A = some ⟨g, 0, none⟩ ∧ B ≤ g ∧ g < w.heap.size := by
  rcases own_shape h with ⟨_, h, _⟩ | ⟨g, h, hg⟩
  · omega
  · exact ⟨g, h, hg⟩
set_option maxHeartbeats 4000000 in
set_option maxRecDepth 100000 in
theorem newDropRel_any (p : Pr) (R : Option Addr) (rc : Nat) (t : Tz) (D : Option Addr) (dc : Nat) (w : World) (ht : Tabs w) (hr : StrsAt w R p.rels) (hR : R = none → p.rels = []) (hd : CellsAt w D t.proof) (hDN : D = none → t.proof = []) (hp : chkP p = 0) (hdm : t.proof.length ≤ maxLen) :
    Calls Tryz.prog 134 #[prV p.k R p.rels.length rc, tzV t D dc] w (ChgP w (dropRE p t) (dropRC p t)) := by
  have HBX := Lib.hid (Bx2.start w (prC p.k R p.rels.length rc) (tzC t D dc))
  have HT := Lib.hid ht
  have HR := Lib.hid hr
  have HRN := Lib.hid hR
  have HD := Lib.hid hd
  have HDN := Lib.hid hDN
  have HW := Lib.hid (chkP_words hp)
  have HM := Lib.hid hdm
  have h60 := (chkP_rels hp).2.2.1
  clear ht hr hR hd hp hdm hDN
  obtain ⟨kind, rel, word, proof⟩ := t
  simp only at *
  have hI := isRel_any p R rc rel ((w.alloc (.cells (prC p.k R p.rels.length rc) 24)).alloc (.cells #[.int .i64 kind, .int .i64 rel, .string ⟨word.toArray⟩, .slice D proof.length dc] 58)) (by unfold maxLen; omega)
  cases hin : relIn p rel with
  | false =>
    have HZ : Hid (dropRE p ⟨kind, rel, word, proof⟩ = 1) := Lib.hid (by unfold dropRE; rw [if_pos hin])
    have HZ2 : Hid (dropRC p ⟨kind, rel, word, proof⟩ = none) := Lib.hid (by unfold dropRC; rw [HZ.out, if_neg (by decide)])
    rw [hin] at hI
    clear hin
    go_enter Tryz.func134, Tryz.ntmps134
    go_wp2_with fail
    refine hI.mono ?_
    rintro e w1 ⟨rfl, hb⟩
    have HB := Lib.hid (HBX.out.on hb).below
    clear hb hI
    go_wp2
    go_ret2
    rw [HZ.out, HZ2.out]
    exact ChgP.no HB.out
  | true =>
    have HZ0 : Hid (dropRE p ⟨kind, rel, word, proof⟩ = if dskB (dropQ p ⟨kind, rel, word, proof⟩) proof (p.rels.getD rel.toNat []) = false then 5 else 0) := Lib.hid (by unfold dropRE; rw [if_neg (by rw [hin]; decide)])
    rw [hin] at hI
    simp only [relIn, Bool.and_eq_true, decide_eq_true_eq] at hin
    obtain ⟨i, rfl⟩ := Int.eq_ofNat_of_zero_le hin.1
    have hi : i < p.rels.length := by have := hin.2; omega
    clear hin
    have hw1 : IntKind.i64.wrap ((i : Int) + 1) = (i : Int) + 1 := IntWalk.i64_in _ (by omega)
    go_enter Tryz.func134, Tryz.ntmps134
    go_wp2_with fail
    refine hI.mono ?_
    rintro e w1 ⟨rfl, hb⟩
    have HB := Lib.hid (HBX.out.on hb)
    clear hb hI
    go_upto_region 3 with fail
    go_cut [6] (fun s6 wx => DropQ w w1 p i p.k s6 wx)
    case first =>
      have p0 := HB.out.p.cell 0
      have p1 := HB.out.p.cell 1
      have m1 := HB.out.m.cell 1
      simp only [List.getElem?_toArray, List.getElem?_cons_zero, List.getElem?_cons_succ] at p0 p1 m1
      have HSK : Hid (∀ X, Below w1.heap.size w1 X → X.cell? ⟨w.heap.size, 0, none⟩ = some (.int .i64 p.k) ∧ X.cell? ⟨w.heap.size, 1, none⟩ = some (.slice R p.rels.length rc) ∧ X.cell? ⟨w.heap.size + 1, 1, none⟩ = some (.int .i64 i)) := Lib.hid (fun X hX =>
        ⟨(hX.cell (p := ⟨w.heap.size, 0, none⟩) (lt_of_cell p0)).trans p0, (hX.cell (p := ⟨w.heap.size, 1, none⟩) (lt_of_cell p1)).trans p1, (hX.cell (p := ⟨w.heap.size + 1, 1, none⟩) (lt_of_cell m1)).trans m1⟩)
      have HCL : Hid (∀ X, Below w1.heap.size w1 X → Calls Tryz.prog 41 #[.slice R p.rels.length rc] X (StrsP X.heap.size X p.rels)) := Lib.hid (fun X hX => CloneS_any R rc p.rels X ((HR.out.below HB.out.below).below hX) HRN.out (by omega))
      have HSH : Hid (Short p.rels) := Lib.hid HR.out.short
      have HDL : Hid (∀ B g cap X, X.ownsRow B 9 1 (.slice (some ⟨g, 0, none⟩) p.rels.length cap) p.rels.length (ss p.rels) → Calls Tryz.prog 164 #[.slice (some ⟨g, 0, none⟩) p.rels.length cap, .int .i64 i, .int .i64 ((i : Int) + 1)] X fun e w' => e = .returned (.slice (some ⟨g, 0, none⟩) (p.rels.eraseIdx i).length cap) ∧
          StrsAt w' (some ⟨g, 0, none⟩) (p.rels.eraseIdx i) ∧ X.grownBy w' (some g)) := Lib.hid (fun B g cap X h => by have h2 := DelS_any B g cap i p.rels X h HSH.out hi; rw [Int.natCast_add] at h2; exact h2)
      have HX0 : Hid (Below w1.heap.size w1 w1.drew) := Lib.hid ((Below.refl _ _).drewN 1)
      have d0 : w1.drew.cell? ⟨w.heap.size, 0, none⟩ = some (.int .i64 p.k) := p0
      have d1 : w1.drew.cell? ⟨w.heap.size, 1, none⟩ = some (.slice R p.rels.length rc) := p1
      have d2 : w1.drew.cell? ⟨w.heap.size + 1, 1, none⟩ = some (.int .i64 i) := m1
      clear p0 p1 m1
      go_region_held3 (fun X => X.cell? ⟨w.heap.size, 0, none⟩ = some (.int .i64 p.k) ∧ X.cell? ⟨w.heap.size, 1, none⟩ = some (.slice R p.rels.length rc) ∧ X.cell? ⟨w.heap.size + 1, 1, none⟩ = some (.int .i64 i))
        (first | with_reducible exact ⟨d0, d1, d2⟩ | with_reducible exact ⟨e0, e1, e2⟩ | with_reducible exact ⟨f0, f1, f2⟩ | with_reducible exact HSK.out (w1.alloc _).drew ((Below.refl _ w1).alloc (Nat.le_refl _) _).drew | with_reducible exact HSK.out _ (HXA.out.alloc HXA.out.size _) | with_reducible exact HSK.out _ (HXB.out.alloc HXB.out.size _) | with_reducible exact HSK.out _ ((HXB.out.setCell HQB.out _).setCell HQB.out _) | with_reducible exact HSK.out _ (((HXB.out.alloc HXB.out.size _).setCell HXB.out.size _).setCell HXB.out.size _))
        (first
        | (go_at_call 41; ((with_reducible refine (HCL.out _ HX0.out).mono ?_); rintro e wA ⟨A, cap, rfl, hA, hbA⟩; have HXA := Lib.hid (HX0.out.trans hbA); obtain ⟨gr, rfl, hgr, hgl⟩ := own_some hA (by omega); have HGL := Lib.hid hgl; clear hgl; have HA := Lib.hid hA; have HGX := Lib.hid hgr; have HGR : Hid (w1.heap.size ≤ gr) := Lib.hid (Nat.le_trans (by simp) hgr); have HQ : Hid True := Lib.hid trivial; obtain ⟨e0, e1, e2⟩ := HSK.out wA HXA.out; clear hA hbA hgr d0 d1 d2))
        | (go_at_call 41; ((with_reducible refine (HCL.out (w1.alloc _).drew ((Below.refl _ w1).alloc (Nat.le_refl _) _).drew).mono ?_); rintro e wA ⟨A, cap, rfl, hA, hbA⟩; have HXA := Lib.hid (((Below.refl _ w1).alloc (Nat.le_refl _) (.cells #[.int .i64 0, .slice none 0 0] 24)).drew.trans (hbA.mono (by simp))); obtain ⟨gr, rfl, hgr, hgl⟩ := own_some hA (by omega); have HGL := Lib.hid hgl; clear hgl; have HA := Lib.hid hA; have HGX := Lib.hid hgr; have HGR : Hid (w1.heap.size ≤ gr) := Lib.hid (Nat.le_trans (by simp) hgr); have HQ := Lib.hid (heap_on (w := (w1.alloc (.cells #[.int .i64 0, .slice none 0 0] 24)).drew) (heap_alloc_new w1 (.cells #[.int .i64 0, .slice none 0 0] 24)) hbA); obtain ⟨e0, e1, e2⟩ := HSK.out wA HXA.out; clear hA hbA hgr d0 d1 d2))
        | (go_at_call 164; ((with_reducible refine (HDL.out _ gr cap wA HA.out).mono ?_); rintro e wB ⟨rfl, hSB, hGB⟩; have HXB := Lib.hid (below_of_grown (A := some ⟨gr, 0, none⟩) HXA.out hGB HXA.out.size (fun a ha => by cases ha; exact HGR.out)); (try (have HJ := Lib.hid (heap_grown HQ.out hGB (by have := HGX.out; simp at this ⊢; omega)); obtain ⟨j0, j1, k0, k1⟩ := blk2 HJ.out; have HQB : Hid (w1.heap.size ≤ w1.heap.size) := Lib.hid (Nat.le_refl _))); have HSB := Lib.hid hSB; have HGB := Lib.hid hGB; obtain ⟨f0, f1, f2⟩ := HSK.out wB HXB.out; clear hSB hGB e0 e1 e2))
        | (go_at_call 164; ((with_reducible refine (HDL.out _ gr cap (wA.alloc _) (HA.out.alloc _)).mono ?_); rintro e wB ⟨rfl, hSB, hGB⟩; have HXB := Lib.hid (below_of_grown (A := some ⟨gr, 0, none⟩) (HXA.out.alloc HXA.out.size _) hGB (Nat.le_trans HXA.out.size (by simp)) (fun a ha => by cases ha; exact HGR.out)); have HJ := Lib.hid (heap_grown (heap_alloc_new wA (.cells #[.int .i64 0, .slice none 0 0] 24)) hGB (by have := HGL.out; simp; omega)); obtain ⟨j0, j1, k0, k1⟩ := blk2 HJ.out; have HQB := Lib.hid HXA.out.size; have HSB := Lib.hid hSB; have HGB := Lib.hid hGB; obtain ⟨f0, f1, f2⟩ := HSK.out wB HXB.out; clear hSB hGB e0 e1 e2)))
      all_goals (
        rename_i hHeld
        clear hHeld
        go_wp2
        go_meet
        case rel =>
          first
          | with_reducible exact DropQ.one HXB.out HQB.out (by have := HGX.out; simp at this; omega) HJ.out HSB.out
          | with_reducible exact DropQ.one HXB.out HQB.out (by have := HGL.out; omega) HJ.out HSB.out
          | exact DropQ.two HXB.out HSB.out)
    case rest =>
      clear hw1
      obtain ⟨g, A, cap, rfl, hq0, hq1, hSq, hbq⟩ := hcut
      have hel : (p.rels.eraseIdx i).length = p.rels.length - 1 := by rw [List.length_eraseIdx, if_pos hi]
      have hWe : ∀ r ∈ p.rels.eraseIdx i, isW r = true := fun r hr => HW.out r (List.mem_of_mem_eraseIdx hr)
      have HZ1 : Hid (dropQ p ⟨kind, i, word, proof⟩ = ⟨p.k, p.rels.eraseIdx i⟩) := Lib.hid rfl
      have HRC : Hid (∀ E, E = (0 : Int) → dropRE p ⟨kind, i, word, proof⟩ = E → dropRC p ⟨kind, i, word, proof⟩ = some (.dropRel ⟨p.k, p.rels.eraseIdx i⟩ i proof)) := Lib.hid (fun E h1 h2 => by unfold dropRC; rw [h2, if_pos h1]; rfl)
      generalize p.rels.eraseIdx i = rl at *
      have hrl : rl.length ≤ 60 := by omega
      clear hel
      have HS := Lib.hid hSq
      have HB2 := Lib.hid (HB.out.on hbq)
      have HQQ := Lib.hid (⟨hq0, hq1⟩ : _ ∧ _)
      have p1 := HB2.out.p.cell 1
      have m1 := HB2.out.m.cell 1
      have m3 := HB2.out.m.cell 3
      simp only [List.getElem?_toArray, List.getElem?_cons_zero, List.getElem?_cons_succ] at p1 m1 m3
      have hK := isDisk_any ⟨p.k, rl⟩ (some A) cap D dc proof p.rels[i] wc.drew (HT.out.on HB2.out.below.drew) HS.out (HD.out.below HB2.out.below.drew) hWe (by unfold maxLen; simp only; omega) HM.out
      obtain ⟨b, o, hRb, hcl, _⟩ := HR.out.below HB2.out.below i hi
      subst hRb
      have hnl : ¬ ((p.rels.length : Int) ≤ (i : Int)) := by omega
      clear hq0 hq1 hSq hbq
      obtain ⟨hq0, hq1⟩ := HQQ.out
      have HSK : Hid (∀ X, Below wc.heap.size wc X → X.cell? ⟨g, 0, none⟩ = some (.int .i64 p.k) ∧ X.cell? ⟨g, 1, none⟩ = some (.slice (some A) rl.length cap) ∧ X.cell? ⟨w.heap.size, 1, none⟩ = some (.slice (some ⟨b, o, none⟩) p.rels.length rc) ∧ X.cell? ⟨w.heap.size + 1, 1, none⟩ = some (.int .i64 i) ∧ X.cell? ⟨w.heap.size + 1, 3, none⟩ = some (.slice D proof.length dc) ∧ X.cell? ⟨b, o + i, none⟩ = some (.string ⟨p.rels[i].toArray⟩)) := Lib.hid (fun X hX =>
        ⟨(hX.cell (p := ⟨g, 0, none⟩) (lt_of_cell hq0)).trans hq0, (hX.cell (p := ⟨g, 1, none⟩) (lt_of_cell hq1)).trans hq1, (hX.cell (p := ⟨w.heap.size, 1, none⟩) (lt_of_cell p1)).trans p1, (hX.cell (p := ⟨w.heap.size + 1, 1, none⟩) (lt_of_cell m1)).trans m1, (hX.cell (p := ⟨w.heap.size + 1, 3, none⟩) (lt_of_cell m3)).trans m3, (hX.cell (p := ⟨b, o + i, none⟩) (lt_of_cell hcl)).trans hcl⟩)
      change wc.drew.cell? ⟨g, 0, none⟩ = _ at hq0
      change wc.drew.cell? ⟨g, 1, none⟩ = _ at hq1
      change wc.drew.cell? ⟨w.heap.size, 1, none⟩ = _ at p1
      change wc.drew.cell? ⟨w.heap.size + 1, 1, none⟩ = _ at m1
      change wc.drew.cell? ⟨w.heap.size + 1, 3, none⟩ = _ at m3
      change wc.drew.cell? ⟨b, o + i, none⟩ = _ at hcl
      clear HQQ
      cases hdk : dskB ⟨p.k, rl⟩ proof p.rels[i] with
      | false =>
        have HZ : Hid (dropRE p ⟨kind, i, word, proof⟩ = 5) := Lib.hid (by rw [HZ0.out, HZ1.out, if_pos]; simpa [hi] using hdk)
        have HZ2 : Hid (dropRC p ⟨kind, i, word, proof⟩ = none) := Lib.hid (by unfold dropRC; rw [HZ.out, if_neg (by decide)])
        rw [hdk] at hK
        clear hdk
        have HK := Lib.hid hK
        clear hK
        go_wp2_with fail
        go_region_held3 (fun X => X.cell? ⟨g, 0, none⟩ = some (.int .i64 p.k) ∧ X.cell? ⟨g, 1, none⟩ = some (.slice (some A) rl.length cap) ∧ X.cell? ⟨w.heap.size, 1, none⟩ = some (.slice (some ⟨b, o, none⟩) p.rels.length rc) ∧ X.cell? ⟨w.heap.size + 1, 1, none⟩ = some (.int .i64 i) ∧ X.cell? ⟨w.heap.size + 1, 3, none⟩ = some (.slice D proof.length dc) ∧ X.cell? ⟨b, o + i, none⟩ = some (.string ⟨p.rels[i].toArray⟩))
          (first | with_reducible exact ⟨hq0, hq1, p1, m1, m3, hcl⟩ | with_reducible exact HSK.out _ HBW.out)
          (first
          | (go_at_call 162; ((with_reducible refine HK.out.mono ?_); rintro e w2 ⟨rfl, hb'⟩; have HBW : Hid (Below wc.heap.size wc w2) := Lib.hid ((Below.refl _ wc).drew.trans hb'); clear hb')))
        rename_i hHeld
        clear hHeld
        have hb := HBW.out
        have HB3 := Lib.hid (HB2.out.on hb).below
        clear hb p1 m1 m3 hq0 hq1 hcl
        go_wp2
        go_ret2
        rw [HZ.out, HZ2.out]
        exact ChgP.no HB3.out
      | true =>
        have HZ : Hid (dropRE p ⟨kind, i, word, proof⟩ = 0) := Lib.hid (by rw [HZ0.out, HZ1.out, if_neg]; simpa [hi] using hdk)
        have HZ2 : Hid (dropRC p ⟨kind, i, word, proof⟩ = some (.dropRel ⟨p.k, rl⟩ i proof)) := Lib.hid (HRC.out _ rfl HZ.out)
        rw [hdk] at hK
        clear hdk
        have HK := Lib.hid hK
        clear hK
        go_wp2_with fail
        go_region_held3 (fun X => X.cell? ⟨g, 0, none⟩ = some (.int .i64 p.k) ∧ X.cell? ⟨g, 1, none⟩ = some (.slice (some A) rl.length cap) ∧ X.cell? ⟨w.heap.size, 1, none⟩ = some (.slice (some ⟨b, o, none⟩) p.rels.length rc) ∧ X.cell? ⟨w.heap.size + 1, 1, none⟩ = some (.int .i64 i) ∧ X.cell? ⟨w.heap.size + 1, 3, none⟩ = some (.slice D proof.length dc) ∧ X.cell? ⟨b, o + i, none⟩ = some (.string ⟨p.rels[i].toArray⟩))
          (first | with_reducible exact ⟨hq0, hq1, p1, m1, m3, hcl⟩ | with_reducible exact HSK.out _ HBW.out)
          (first
          | (go_at_call 162; ((with_reducible refine HK.out.mono ?_); rintro e w2 ⟨rfl, hb'⟩; have HBW : Hid (Below wc.heap.size wc w2) := Lib.hid ((Below.refl _ wc).drew.trans hb'); clear hb')))
        rename_i hHeld
        clear hHeld
        have hb := HBW.out
        have HB3 := Lib.hid (HB2.out.on hb)
        obtain ⟨x0, x1, _⟩ := HSK.out w2 HBW.out
        have y1 := HB3.out.m.cell 1
        have y3 := HB3.out.m.cell 3
        simp only [List.getElem?_toArray, List.getElem?_cons_zero, List.getElem?_cons_succ] at y1 y3
        have HS2 := Lib.hid (HS.out.below hb)
        clear hb p1 m1 m3 hq0 hq1 hcl
        go_wp2
        go_ret2
        rw [HZ.out, HZ2.out]
        exact ⟨_, rfl, ⟨some A, cap, D, dc, ⟨HS2.out, fun h => by cases h⟩, HD.out.below HB3.out.below, HDN.out, rfl⟩, HB3.out.below⟩
end Go.Proofs.YteephomlnbbjeaaGreatDoor

namespace Go.Proofs.YteephomlnbbjeaaGreatDoor
open Go Go.RowKit

def genR (k : Int) (word : List UInt8) : List UInt8 := red ([let_ (2 * k)] ++ invW word)
def genRE (p : Pr) (t : Tz) : Int := if 8 ≤ p.k ∨ 60 ≤ p.rels.length ∨ 200 ≤ t.word.length then 2 else if checkI p.k t.word = 0 then 0 else 4
def genRC (p : Pr) (t : Tz) : Option Chg := if genRE p t = 0 then some (.addGen ⟨p.k + 1, p.rels ++ [genR p.k t.word]⟩ t.word) else none

theorem isW_put {c : UInt8} {l : List UInt8} (h1 : isW [c] = true) (h2 : isW l = true) (hl : l.length < 1000) : isW ([c] ++ l) = true := by
  simp only [isW, Bool.and_eq_true, decide_eq_true_eq, List.all_eq_true] at h1 h2 ⊢
  refine ⟨by simp; omega, fun x hx => ?_⟩
  rcases List.mem_append.1 hx with h | h
  · exact h1.2 x h
  · exact h2.2 x h

set_option maxHeartbeats 4000000 in
set_option maxRecDepth 100000 in
theorem newAddGen_any (p : Pr) (R : Option Addr) (rc : Nat) (t : Tz) (D : Option Addr) (dc : Nat) (w : World) (ht : Tabs w) (hr : StrsAt w R p.rels) (hR : R = none → p.rels = []) (hp : chkP p = 0) (hu : t.word.length ≤ 140737488351232) :
    Calls Tryz.prog 135 #[prV p.k R p.rels.length rc, tzV t D dc] w (ChgP w (genRE p t) (genRC p t)) := by
  have HBX := Lib.hid (Bx2.start w (prC p.k R p.rels.length rc) (tzC t D dc))
  have HT := Lib.hid ht
  have HR := Lib.hid hr
  have HRN := Lib.hid hR
  have HC0 := Lib.hid (chkP_rels hp)
  have hk1 := HC0.out.1
  have hk8 := HC0.out.2.1
  have h60 := HC0.out.2.2.1
  clear ht hr hR hp
  obtain ⟨kind, rel, word, proof⟩ := t
  simp only at *
  have hsz : (ByteArray.mk word.toArray).size = word.length := size_mk word
  have HSZ := Lib.hid hsz
  by_cases hbig : 8 ≤ p.k ∨ 60 ≤ p.rels.length ∨ 200 ≤ word.length
  · have HZ : Hid (genRE p ⟨kind, rel, word, proof⟩ = 2) := Lib.hid (by unfold genRE; rw [if_pos hbig])
    have HZ2 : Hid (genRC p ⟨kind, rel, word, proof⟩ = none) := Lib.hid (by unfold genRC; rw [HZ.out, if_neg (by decide)])
    by_cases h1 : 8 ≤ p.k
    · have hd1 : decide (8 ≤ p.k) = true := by simpa using h1
      clear hbig
      go_enter Tryz.func135, Tryz.ntmps135
      go_wp2
      go_ret2
      rw [HZ.out, HZ2.out]
      exact ChgP.no HBX.out.below
    · have hd1 : decide (8 ≤ p.k) = false := by simpa using h1
      by_cases h2 : 60 ≤ p.rels.length
      · have hd2 : decide ((60 : Int) ≤ (p.rels.length : Int)) = true := by simp; omega
        have hd3 : decide (60 ≤ p.rels.length) = true := by simpa using h2
        clear hbig
        go_enter Tryz.func135, Tryz.ntmps135
        go_wp2
        go_ret2
        rw [HZ.out, HZ2.out]
        exact ChgP.no HBX.out.below
      · have hd2 : decide ((60 : Int) ≤ (p.rels.length : Int)) = false := by simp; omega
        have hd3 : decide (60 ≤ p.rels.length) = false := by simpa using h2
        have h3 : 200 ≤ word.length := by omega
        have hd4 : decide ((200 : Int) ≤ (word.length : Int)) = true := by simp; omega
        have hd5 : decide (200 ≤ word.length) = true := by simpa using h3
        clear hbig
        go_enter Tryz.func135, Tryz.ntmps135
        go_wp2
        go_ret2
        rw [HZ.out, HZ2.out]
        exact ChgP.no HBX.out.below
  · have HZ0 : Hid (genRE p ⟨kind, rel, word, proof⟩ = if checkI p.k word = 0 then 0 else 4) := Lib.hid (by unfold genRE; rw [if_neg hbig])
    have h7 : p.k < 8 := by omega
    have h59 : p.rels.length < 60 := by omega
    have h199 : word.length < 200 := by omega
    have hd1 : decide (8 ≤ p.k) = false := by simp; omega
    have hd2 : decide ((60 : Int) ≤ (p.rels.length : Int)) = false := by simp; omega
    have hd3 : decide (60 ≤ p.rels.length) = false := by simp; omega
    have hd4 : decide ((200 : Int) ≤ (word.length : Int)) = false := by simp; omega
    have hd5 : decide (200 ≤ word.length) = false := by simp; omega
    clear hbig
    have hC := check_any p.k ⟨word.toArray⟩ ((w.alloc (.cells (prC p.k R p.rels.length rc) 24)).alloc (.cells #[.int .i64 kind, .int .i64 rel, .string ⟨word.toArray⟩, .slice D proof.length dc] 58)) (HT.out.on HBX.out.below) (by rw [size_mk]; unfold maxLen; omega)
    change Calls Tryz.prog 76 #[.int .i64 p.k, .string ⟨word.toArray⟩] _ (fun e w' => e = .returned (.int .i64 (checkI p.k word)) ∧ _ = w') at hC
    by_cases hck : checkI p.k word = 0
    · have HZ : Hid (genRE p ⟨kind, rel, word, proof⟩ = 0) := Lib.hid (by rw [HZ0.out, if_pos hck])
      have HZ2 : Hid (genRC p ⟨kind, rel, word, proof⟩ = some (.addGen ⟨p.k + 1, p.rels ++ [genR p.k word]⟩ word)) := Lib.hid (by unfold genRC; rw [HZ.out, if_pos rfl])
      have HISW : Hid (isW word = true) := Lib.hid (isW_of_check (k := p.k) (by rw [hck]; rfl))
      rw [hck] at hC
      clear hck
      go_enter Tryz.func135, Tryz.ntmps135
      go_wp2_with fail
      refine hC.mono ?_
      rintro e w1 ⟨rfl, rfl⟩
      generalize hw1 : ((w.alloc (.cells (prC p.k R p.rels.length rc) 24)).alloc (.cells #[.int .i64 kind, .int .i64 rel, .string ⟨word.toArray⟩, .slice D proof.length dc] 58)) = w1 at *
      have HB : Hid (Bx2 w (prC p.k R p.rels.length rc) (tzC ⟨kind, rel, word, proof⟩ D dc) w1) := HBX
      clear hw1 hC
      obtain ⟨k, hk⟩ := Int.eq_ofNat_of_zero_le (show 0 ≤ p.k by omega)
      have hk' : k < 8 := by omega
      have HK := Lib.hid hk
      clear hk
      go_upto_region 5 with fail
      go_cut [6] (fun s6 wx => s6 = .string ⟨(genR p.k word).toArray⟩ ∧ Below w1.heap.size w1 wx)
      case first =>
        have p0 := HB.out.p.cell 0
        have m2 := HB.out.m.cell 2
        simp only [List.getElem?_toArray, List.getElem?_cons_zero, List.getElem?_cons_succ] at p0 m2
        have HSK : Hid (∀ X, Below w1.heap.size w1 X → X.cell? ⟨w.heap.size, 0, none⟩ = some (.int .i64 p.k) ∧ X.cell? ⟨w.heap.size + 1, 2, none⟩ = some (.string ⟨word.toArray⟩)) := Lib.hid (fun X hX =>
          ⟨(hX.cell (p := ⟨w.heap.size, 0, none⟩) (lt_of_cell p0)).trans p0, (hX.cell (p := ⟨w.heap.size + 1, 2, none⟩) (lt_of_cell m2)).trans m2⟩)
        have HLT : Hid (∀ X, Below w1.heap.size w1 X → Calls Tryz.prog 117 #[.int .i64 p.k] X fun e w' => e = .returned (.int .u8 (let_ (2 * p.k)).toNat) ∧ X = w') := Lib.hid (fun X hX => by rw [HK.out]; exact letter_any k X ((HT.out.on HB.out.below).on hX) hk')
        have HIN : Hid (∀ X, Below w1.heap.size w1 X → Calls Tryz.prog 75 #[.string ⟨word.toArray⟩] X (fun e w' => e = .returned (.string ⟨(invW word).toArray⟩) ∧ Below X.heap.size X w')) := Lib.hid (fun X hX => Inverse_yes ⟨word.toArray⟩ X ((HT.out.on HB.out.below).on hX) HISW.out (by rw [size_mk]; omega))
        have HWW : Hid (isW ([let_ (2 * p.k)] ++ invW word) = true) := Lib.hid (isW_put (by rw [HK.out]; exact letS_isW8 k hk') (isW_invW HISW.out) (by rw [invW_len]; omega))
        have HRD : Hid (∀ X, Below w1.heap.size w1 X → Calls Tryz.prog 118 #[.string ⟨([let_ (2 * p.k)] ++ invW word).toArray⟩] X (fun e w' => e = .returned (.string ⟨(red ([let_ (2 * p.k)] ++ invW word)).toArray⟩) ∧ Below X.heap.size X w')) := Lib.hid (fun X hX => Reduce_yes ⟨([let_ (2 * p.k)] ++ invW word).toArray⟩ X ((HT.out.on HB.out.below).on hX) HWW.out (by have := isW_len HWW.out; rw [size_mk]; omega))
        have hcv := conv_let (let_ (2 * p.k)) (by rw [HK.out]; exact let_small k hk')
        have fadd : ∀ w, (Op.stringOp .add ⟨#[let_ (2 * p.k)]⟩ ⟨(invW word).toArray⟩).run Tryz.prog w = .ok (.string ⟨([let_ (2 * p.k)] ++ invW word).toArray⟩) w := fun w => by
          rw [run_string_add_sum w _ _ (by have h2 := size_mk (invW word); rw [h2, invW_len]; have : (ByteArray.mk #[let_ (2 * p.k)]).size = 1 := rfl; omega)]
          congr 2
        have HGR : Hid (genR p.k word = red ([let_ (2 * p.k)] ++ invW word)) := Lib.hid rfl
        generalize red ([let_ (2 * p.k)] ++ invW word) = rr at *
        generalize [let_ (2 * p.k)] ++ invW word = rw_ at *
        generalize let_ (2 * p.k) = cc at *
        generalize invW word = iw at *
        have HX0 : Hid (Below w1.heap.size w1 w1.drew) := Lib.hid ((Below.refl _ _).drewN 1)
        have d0 : w1.drew.cell? ⟨w.heap.size, 0, none⟩ = some (.int .i64 p.k) := p0
        have d1 : w1.drew.cell? ⟨w.heap.size + 1, 2, none⟩ = some (.string ⟨word.toArray⟩) := m2
        clear p0 m2 hsz
        go_wp2_with fail
        go_region_held3 (fun X => X.cell? ⟨w.heap.size, 0, none⟩ = some (.int .i64 p.k) ∧ X.cell? ⟨w.heap.size + 1, 2, none⟩ = some (.string ⟨word.toArray⟩))
          (first | with_reducible exact ⟨d0, d1⟩ | with_reducible exact HSK.out _ HXA.out | with_reducible exact HSK.out _ HXB.out)
          (first
          | (go_at_call 117; ((with_reducible refine (HLT.out _ HX0.out).mono ?_); rintro e w' ⟨rfl, rfl⟩))
          | (go_at_call 117; ((with_reducible refine (HLT.out _ HXA.out).mono ?_); rintro e w' ⟨rfl, rfl⟩))
          | (go_at_call 75; ((with_reducible refine (HIN.out _ HX0.out).mono ?_); rintro e wA ⟨rfl, hbA⟩; have HXA := Lib.hid (HX0.out.trans (hbA.mono HX0.out.size)); clear hbA d0 d1))
          | (go_at_call 118; ((with_reducible refine (HRD.out _ HXA.out).mono ?_); rintro e wB ⟨rfl, hbB⟩; have HXB := Lib.hid (HXA.out.trans (hbB.mono HXA.out.size)); clear hbB)))
        all_goals (
          rename_i hHeld
          clear hHeld
          go_wp2
          go_meet
          case rel => exact ⟨by rw [HGR.out], HXB.out⟩)
      case rest =>
        obtain ⟨rfl, hbc⟩ := hcut
        have HB2 := Lib.hid (HB.out.on hbc)
        have HGL : Hid ((genR p.k word).length ≤ 140737488351232) := Lib.hid (by unfold genR; have h1 := red_len ([let_ (2 * p.k)] ++ invW word); have h2 := invW_len word; simp only [List.length_append, List.length_cons, List.length_nil] at h1; omega)
        have hWR := withRelator_any (p.k + 1) R rc p.rels (genR p.k word) wc.drew (HR.out.below HB2.out.below.drew) HRN.out (by omega) HGL.out
        have hw1 : IntKind.i64.wrap (p.k + 1) = p.k + 1 := IntWalk.i64_in _ (by omega)
        have p0 := HB2.out.p.cell 0
        have p1 := HB2.out.p.cell 1
        have m2 := HB2.out.m.cell 2
        simp only [List.getElem?_toArray, List.getElem?_cons_zero, List.getElem?_cons_succ] at p0 p1 m2
        have HSK : Hid (∀ X, Below wc.heap.size wc X → X.cell? ⟨w.heap.size, 0, none⟩ = some (.int .i64 p.k) ∧ X.cell? ⟨w.heap.size, 1, none⟩ = some (.slice R p.rels.length rc) ∧ X.cell? ⟨w.heap.size + 1, 2, none⟩ = some (.string ⟨word.toArray⟩)) := Lib.hid (fun X hX =>
          ⟨(hX.cell (p := ⟨w.heap.size, 0, none⟩) (lt_of_cell p0)).trans p0, (hX.cell (p := ⟨w.heap.size, 1, none⟩) (lt_of_cell p1)).trans p1, (hX.cell (p := ⟨w.heap.size + 1, 2, none⟩) (lt_of_cell m2)).trans m2⟩)
        have HWR := Lib.hid hWR
        change wc.drew.cell? ⟨w.heap.size, 0, none⟩ = _ at p0
        change wc.drew.cell? ⟨w.heap.size, 1, none⟩ = _ at p1
        change wc.drew.cell? ⟨w.heap.size + 1, 2, none⟩ = _ at m2
        generalize genR p.k word = gr at *
        clear hbc hWR hsz
        go_wp2_with fail
        go_region_held3 (fun X => X.cell? ⟨w.heap.size, 0, none⟩ = some (.int .i64 p.k) ∧ X.cell? ⟨w.heap.size, 1, none⟩ = some (.slice R p.rels.length rc) ∧ X.cell? ⟨w.heap.size + 1, 2, none⟩ = some (.string ⟨word.toArray⟩))
          (first | with_reducible exact ⟨p0, p1, m2⟩ | with_reducible exact HSK.out _ HXA.out)
          (first
          | (go_at_call 163; ((with_reducible refine HWR.out.mono ?_); rintro e w3 ⟨A, cap, rfl, hS, hN, hb3⟩; have HS := Lib.hid hS; have HN := Lib.hid hN; have HXA : Hid (Below wc.heap.size wc w3) := Lib.hid ((Below.refl _ wc).drew.trans hb3); clear hS hN hb3)))
        all_goals (
          rename_i hHeld
          clear hHeld
          go_wp2
          go_ret2
          rw [HZ.out, HZ2.out]
          exact ⟨_, rfl, ⟨A, cap, ⟨HS.out, HN.out⟩, hu, by simp only [List.length_append, List.length_cons, List.length_nil, Nat.zero_add]; rfl⟩, (HB2.out.on HXA.out).below⟩)
    · have HZ : Hid (genRE p ⟨kind, rel, word, proof⟩ = 4) := Lib.hid (by rw [HZ0.out, if_neg hck])
      have HZ2 : Hid (genRC p ⟨kind, rel, word, proof⟩ = none) := Lib.hid (by unfold genRC; rw [HZ.out, if_neg (by decide)])
      have hne : (checkI p.k word != 0) = true := by simpa using hck
      generalize checkI p.k word = c at *
      go_enter Tryz.func135, Tryz.ntmps135
      go_wp2_with fail
      refine hC.mono ?_
      rintro e w1 ⟨rfl, rfl⟩
      go_wp2
      go_ret2
      rw [HZ.out, HZ2.out]
      exact ChgP.no HBX.out.below
end Go.Proofs.YteephomlnbbjeaaGreatDoor

namespace Go.Proofs.YteephomlnbbjeaaGreatDoor
open Go Go.RowKit

def lastN (s c : List UInt8) : Nat → Int
  | 0 => -1
  | n + 1 => if c.contains (s.getD n 0) then (n : Int) else lastN s c n
def lastAny (s c : List UInt8) : Int := lastN s c s.length

set_option maxHeartbeats 1000000 in
set_option maxRecDepth 100000 in
theorem DecodeLast_ascii (s : ByteArray) (c : UInt8) (w : World) (n : Nat) (hn : s.size = n + 1) (hx : s[n]'(by omega) = c) (hc : c.toNat < 128) (hs : s.size ≤ 1000000) :
    Calls Tryz.prog 203 #[.string s] w fun e w' => e = .returned (.tuple #[.int .i32 c.toNat, .int .i64 1]) ∧ w = w' := by
  have h1 : ((s.size : Int) == 0) = false := beq_eq_false_iff_ne.2 (by omega)
  have h2 : IntKind.i64.wrap ((s.size : Int) - 1) = (n : Int) := by
    have h : IntKind.i64.wrap ((s.size : Int) - 1) = (s.size : Int) - 1 := IntWalk.i64_in _ (by omega)
    rw [h]; omega
  have h3 : (c.toNat : Int) < 128 := by omega
  have h4 : decide ((c.toNat : Int) < 128) = true := by simp; omega
  have hsn : ((n : Int)) < (s.size : Int) := by omega
  go_enter Tryz.func203, Tryz.ntmps203
  go_wp2
  go_ret2
  exact ⟨rfl, rfl⟩

theorem indexByte_in (l : List UInt8) (c : UInt8) : decide (0 ≤ Lib.indexByte l c) = l.contains c := by
  induction l with
  | nil => rfl
  | cons b l ih =>
    unfold Lib.indexByte
    rw [List.contains_cons]
    by_cases h : (b == c) = true
    · have e : b = c := by simpa using h
      subst e
      simp
    · have hf : (b == c) = false := by simpa using h
      have hg : (c == b) = false := by rw [BEq.comm]; exact hf
      rw [hf, hg, Bool.false_or, ← ih]
      simp only [Bool.false_eq_true, if_false]
      have hge := Lib.indexByte_ge l c
      by_cases e : (Lib.indexByte l c == -1) = true
      · rw [if_pos e]; have : Lib.indexByte l c = -1 := by simpa using e
        rw [this]
      · rw [if_neg e]; have : Lib.indexByte l c ≠ -1 := by simpa using e
        simp; omega

set_option maxHeartbeats 1000000 in
set_option maxRecDepth 100000 in
/-- strings.LastIndexAny, two characters, at one byte. -/
theorem LastAny_one (s chars : ByteArray) (w : World) (h1 : s.size = 1) (h2 : chars.size = 2) (has : ∀ b ∈ s.data.toList, b.toNat < 128) :
    Calls Tryz.prog 193 #[.string s, .string chars] w fun e w' => e = .returned (.int .i64 (lastAny s.data.toList chars.data.toList)) ∧ Below w.heap.size w w' := by
  obtain ⟨c, hx⟩ : ∃ c : UInt8, s[0]'(by omega) = c := ⟨_, rfl⟩
  have hc : s.data.toList = [c] := by
    have hl : s.data.toList.length = 1 := by rw [← Lib.size_eq]; exact h1
    obtain ⟨d, hd⟩ := List.length_eq_one_iff.1 hl
    have := Lib.data_getElem? s 0 (by omega)
    rw [hd, hx] at this
    rw [hd]; simp at this; rw [this]
  have hcs : c.toNat < 128 := has c (by rw [hc]; simp)
  have hemp : chars.toList.isEmpty = false := by
    rw [Lib.toList_data]
    cases h : chars.data.toList with
    | nil => have := Lib.size_eq chars; rw [h, List.length_nil] at this; omega
    | cons _ _ => rfl
  have hI := Tryz.strings_IndexRune_ascii chars c.toNat w (by omega) (by omega)
  have hL : lastAny [c] chars.data.toList = if 0 ≤ Lib.indexByte chars.data.toList c then 0 else -1 := by
    have := indexByte_in chars.data.toList c
    simp only [lastAny, lastN, List.length_cons, List.length_nil, List.getD_cons_zero]
    rw [← this]; simp
  have hcz : (c.toNat : Int) < 128 := by omega
  have hd0 : decide (128 ≤ (c.toNat : Int)) = false := decide_eq_false (by omega)
  have hce : ((c.toNat : Int)).toNat.toUInt8 = c := by simp
  rw [hce] at hI
  have hn1 : ((s.size : Int) == 1) = true := by rw [h1]; rfl
  have hsz : (0 : Int) < (s.size : Int) := by omega
  rw [← hc] at hL
  have HL := Lib.hid hL
  clear hL has hc
  generalize Lib.indexByte chars.data.toList c = q at *
  generalize lastAny s.data.toList chars.data.toList = la at *
  by_cases hq : 0 ≤ q
  · have HL2 : Hid (la = 0) := Lib.hid (by rw [HL.out, if_pos hq])
    have hd : decide (0 ≤ q) = true := by simpa using hq
    clear HL hq
    go_enter Tryz.func193, Tryz.ntmps193
    go_wp2_with fail
    refine hI.mono ?_
    rintro e w1 ⟨rfl, rfl⟩
    go_wp2
    go_ret
    exact ⟨by rw [HL2.out]; rfl, Below.refl _ _⟩
  · have HL2 : Hid (la = -1) := Lib.hid (by rw [HL.out, if_neg hq])
    have hd : decide (0 ≤ q) = false := by simpa using hq
    clear HL hq
    go_enter Tryz.func193, Tryz.ntmps193
    go_wp2_with fail
    refine hI.mono ?_
    rintro e w1 ⟨rfl, rfl⟩
    go_wp2
    go_ret
    exact ⟨by rw [HL2.out]; rfl, Below.refl _ _⟩

theorem lastN_succ (s c : List UInt8) (n : Nat) : lastN s c (n + 1) = if c.contains (s.getD n 0) then (n : Int) else lastN s c n := rfl

set_option maxHeartbeats 4000000 in
set_option maxRecDepth 1000000 in
/-- strings.LastIndexAny, two characters, at more than eight bytes: by a set. -/
theorem LastAny_long (s chars : ByteArray) (w : World) (h8 : 8 < s.size) (hsz : s.size ≤ 1000000) (h2 : chars.size = 2) (hac : ∀ (j : Nat) b, chars.data.toList[j]? = some b → b.toNat < 128) :
    Calls Tryz.prog 193 #[.string s, .string chars] w fun e w' => e = .returned (.int .i64 (lastAny s.data.toList chars.data.toList)) ∧ Below w.heap.size w w' := by
  have hM := Tryz.strings_makeASCIISet (fun w => by kernel_rfl) chars w (by omega) hac
  clear hac
  have hemp : chars.toList.isEmpty = false := by
    rw [Lib.toList_data]
    cases h : chars.data.toList with
    | nil => have := Lib.size_eq chars; rw [h, List.length_nil] at this; omega
    | cons _ _ => rfl
  have hn1 : ((s.size : Int) == 1) = false := beq_eq_false_iff_ne.2 (by omega)
  have h8z : decide ((8 : Int) < (s.size : Int)) = true := decide_eq_true (by omega)
  have hU := Tryz.strings_shouldUseASCIISet (s.size : Int) w
  rw [h8z] at hU
  have hsc : (storeCells ⟨w.heap.size + 1, 0, none⟩ (Lib.setCells chars.data.toList).toList 0).run Tryz.prog ((w.alloc (.cells (Lib.setCells chars.data.toList) 190)).alloc (.cells (Array.replicate 256 (.bool false)) 190)) = .ok () ((w.alloc (.cells (Lib.setCells chars.data.toList) 190)).alloc (.cells (Lib.setCells chars.data.toList) 190)) := by
    have := run_storeCells_new (P := Tryz.prog) (w.alloc (.cells (Lib.setCells chars.data.toList) 190)) 190 (Array.replicate 256 (.bool false)) (Lib.setCells chars.data.toList) (by rw [Lib.setCells_size]; kernel_rfl) (by rw [Lib.setCells_size, Array.size_replicate]) (Lib.setCells_one _)
    simpa using this
  have hsz' := Lib.setCells_size chars.data.toList
  have HC : Hid (∀ x : UInt8, ((w.alloc (.cells (Lib.setCells chars.data.toList) 190)).alloc (.cells (Lib.setCells chars.data.toList) 190)).cell? ⟨w.heap.size + 1, x.toNat, none⟩ = some (.bool (chars.data.toList.contains x))) := Lib.hid (fun x => by
    rw [World.cell?_alloc_at _ _ _ _ (by simp), Lib.setCells_at])
  have HB : Hid (Below w.heap.size w ((w.alloc (.cells (Lib.setCells chars.data.toList) 190)).alloc (.cells (Lib.setCells chars.data.toList) 190))) := Lib.hid (((Below.refl _ _).alloc (Nat.le_refl _) _).alloc (by simp) _)
  have HL : Hid (lastAny s.data.toList chars.data.toList = lastN s.data.toList chars.data.toList s.size) := Lib.hid (by rw [lastAny, ← Lib.size_eq])
  have hw1 : IntKind.i64.wrap ((s.size : Int) - 1) = (s.size : Int) - 1 := IntWalk.i64_in _ (by omega)
  have hz : Tryz.zeroCells190 = Array.replicate 256 (.bool false) := by kernel_rfl
  go_enter Tryz.func193, Tryz.ntmps193
  go_wp2_with fail
  refine hU.mono ?_
  rintro e w1 ⟨rfl, rfl⟩
  go_wp2_with fail
  refine hM.mono ?_
  rintro e w1 ⟨rfl, rfl⟩
  go_wp2_with fail
  clear hM hsc hU hz
  go_loopg [8] s.size (fun g s8 wx => g ≤ s.size ∧ s8 = .int .i64 ((g : Int) - 1) ∧ wx = ((w1.alloc (.cells (Lib.setCells chars.data.toList) 190)).alloc (.cells (Lib.setCells chars.data.toList) 190)) ∧ lastN s.data.toList chars.data.toList s.size = lastN s.data.toList chars.data.toList g)
  case atStart => exact ⟨Nat.le_refl _, rfl, rfl, rfl⟩
  case round =>
    obtain ⟨hg, rfl, rfl, hno⟩ := hrel
    have HN := Lib.hid hno
    clear hno hw1
    cases gk with
    | zero =>
      have hd : decide ((0 : Int) ≤ -1) = false := rfl
      have hd2 : decide (((0 : Nat) : Int) - 1 ≥ 0) = false := rfl
      go_wp2
      go_ret
      exact ⟨by rw [HL.out, HN.out]; rfl, HB.out⟩
    | succ g =>
      have hi : g < s.size := by omega
      have hge : decide ((0 : Int) ≤ ((g + 1 : Nat) : Int) - 1) = true := decide_eq_true (by omega)
      obtain ⟨x, hx⟩ : ∃ x : UInt8, s[g]'hi = x := ⟨_, rfl⟩
      have hxl : s.data.toList.getD g 0 = x := by rw [← hx, List.getD_eq_getElem?_getD, Lib.data_getElem? s g hi]; rfl
      have HX := Lib.hid (lastN_succ s.data.toList chars.data.toList g)
      rw [hxl] at HX
      clear hxl
      have hcx := HC.out x
      cases hin : chars.data.toList.contains x <;> rw [hin] at hcx HX
      · have hA := Tryz.asciiSet_contains _ x _ _ hcx
        have hi2 : ((g + 1 : Nat) : Int) - 1 = (g : Int) := by omega
        have hw2 : IntKind.i64.wrap ((g : Int) - 1) = (g : Int) - 1 := IntWalk.i64_in _ (by omega)
        rw [hi2]
        go_wp2_with fail
        refine hA.mono ?_
        rintro e w2 ⟨rfl, rfl⟩
        go_wp2
        go_roundg g
        case measure => omega
        case rel => exact ⟨by omega, rfl, rfl, by rw [HN.out, HX.out]; rfl⟩
      · have hA := Tryz.asciiSet_contains _ x _ _ hcx
        have hi2 : ((g + 1 : Nat) : Int) - 1 = (g : Int) := by omega
        rw [hi2]
        go_wp2_with fail
        refine hA.mono ?_
        rintro e w2 ⟨rfl, rfl⟩
        go_wp2
        go_ret
        exact ⟨by rw [HL.out, HN.out, HX.out]; rfl, HB.out⟩
end Go.Proofs.YteephomlnbbjeaaGreatDoor

namespace Go.Proofs.YteephomlnbbjeaaGreatDoor
open Go Go.RowKit

set_option maxHeartbeats 4000000 in
set_option maxRecDepth 1000000 in
theorem LastAny_short (s chars : ByteArray) (w : World) (h8 : s.size ≤ 8) (h1 : s.size ≠ 1) (h2 : chars.size = 2) (has : ∀ (j : Nat) (h : j < s.size), (s[j]).toNat < 128) :
    Calls Tryz.prog 193 #[.string s, .string chars] w fun e w' => e = .returned (.int .i64 (lastAny s.data.toList chars.data.toList)) ∧ Below w.heap.size w w' := by
  have hemp : chars.toList.isEmpty = false := by
    rw [Lib.toList_data]
    cases h : chars.data.toList with
    | nil => have := Lib.size_eq chars; rw [h, List.length_nil] at this; omega
    | cons _ _ => rfl
  have hn1 : ((s.size : Int) == 1) = false := beq_eq_false_iff_ne.2 (by omega)
  have hn2 : ((chars.size : Int) == 1) = false := beq_eq_false_iff_ne.2 (by omega)
  have h8z : decide ((8 : Int) < (s.size : Int)) = false := decide_eq_false (by omega)
  have hU := Tryz.strings_shouldUseASCIISet (s.size : Int) w
  rw [h8z] at hU
  have HL : Hid (lastAny s.data.toList chars.data.toList = lastN s.data.toList chars.data.toList s.size) := Lib.hid (by rw [lastAny, ← Lib.size_eq])
  have HA := Lib.hid has
  clear has
  go_enter Tryz.func193, Tryz.ntmps193
  go_wp2_with fail
  refine hU.mono ?_
  rintro e w1 ⟨rfl, rfl⟩
  go_wp2_with fail
  clear hU
  go_loopg [13] s.size (fun g s8 wx => g ≤ s.size ∧ s8 = .int .i64 (g : Int) ∧ wx = w1 ∧ lastN s.data.toList chars.data.toList s.size = lastN s.data.toList chars.data.toList g)
  case atStart => exact ⟨Nat.le_refl _, rfl, rfl, rfl⟩
  case round =>
    obtain ⟨hg, rfl, rfl, hno⟩ := hrel
    have HN := Lib.hid hno
    clear hno
    cases gk with
    | zero =>
      have hd : decide ((0 : Int) < ((0 : Nat) : Int)) = false := rfl
      go_wp2
      go_ret
      exact ⟨by rw [HL.out, HN.out]; rfl, Below.refl _ _⟩
    | succ g =>
      have hi : g < s.size := by omega
      obtain ⟨x, hx⟩ : ∃ x : UInt8, s[g]'hi = x := ⟨_, rfl⟩
      have hxl : s.data.toList.getD g 0 = x := by rw [← hx, List.getD_eq_getElem?_getD, Lib.data_getElem? s g hi]; rfl
      have HX := Lib.hid (lastN_succ s.data.toList chars.data.toList g)
      rw [hxl] at HX
      clear hxl
      have hx128 : x.toNat < 128 := by rw [← hx]; exact HA.out g hi
      have hes : (s.extract 0 (g + 1)).size = g + 1 := by simp; omega
      have hex : (s.extract 0 (g + 1))[g]'(by omega) = x := by rw [← hx, ByteArray.getElem_extract]; simp
      have hD := DecodeLast_ascii (s.extract 0 (g + 1)) x wr g hes hex hx128 (by omega)
      have hI := Tryz.strings_IndexRune_ascii chars x.toNat wr (by omega) (by omega)
      rw [show ((x.toNat : Int)).toNat.toUInt8 = x by simp] at hI
      have hq := indexByte_in chars.data.toList x
      have HQ := Lib.hid hq
      clear hq
      generalize Lib.indexByte chars.data.toList x = q at *
      have hgz : (0 : Int) < ((g + 1 : Nat) : Int) := by omega
      have hgs : ((g + 1 : Nat) : Int) ≤ (s.size : Int) := by omega
      have hgs2 : g + 1 ≤ s.size := by omega
      have hw1 : IntKind.i64.wrap (((g + 1 : Nat) : Int) - 1) = (g : Int) := by
        have h : IntKind.i64.wrap (((g + 1 : Nat) : Int) - 1) = ((g + 1 : Nat) : Int) - 1 := IntWalk.i64_in _ (by omega)
        rw [h]; omega
      clear hes hex hx
      cases hin : chars.data.toList.contains x <;> rw [hin] at HX HQ
      · have hqd : decide (0 ≤ q) = false := HQ.out
        go_wp2_with fail
        refine hD.mono ?_
        rintro e w2 ⟨rfl, rfl⟩
        go_wp2_with fail
        refine hI.mono ?_
        rintro e w2 ⟨rfl, rfl⟩
        go_wp2
        go_roundg g
        case measure => omega
        case rel => exact ⟨by omega, rfl, rfl, by rw [HN.out, HX.out]; rfl⟩
      · have hqd : decide (0 ≤ q) = true := HQ.out
        go_wp2_with fail
        refine hD.mono ?_
        rintro e w2 ⟨rfl, rfl⟩
        go_wp2_with fail
        refine hI.mono ?_
        rintro e w2 ⟨rfl, rfl⟩
        go_wp2
        go_ret
        exact ⟨by rw [HL.out, HN.out, HX.out]; rfl, Below.refl _ _⟩

theorem small_of_isW {l : List UInt8} (h : isW l = true) : ∀ c ∈ l, c.toNat < 128 := by
  have h8 : ∀ c : UInt8, letterB 8 c = true → c.toNat < 128 := fun c => by
    have h : ∀ n : Fin 256, letterB 8 (UInt8.ofNat n.1) = true → n.1 < 128 := by decide +kernel
    have := h ⟨c.toNat, UInt8.toNat_lt c⟩
    simpa using this
  simp only [isW, Bool.and_eq_true, decide_eq_true_eq, List.all_eq_true] at h
  exact fun c hc => h8 c (h.2 c hc)

/-- strings.LastIndexAny of a word and two characters. -/
theorem LastAny_any (l : List UInt8) (chars : ByteArray) (w : World) (hl : isW l = true) (h2 : chars.size = 2) (hac : ∀ (j : Nat) b, chars.data.toList[j]? = some b → b.toNat < 128) :
    Calls Tryz.prog 193 #[.string ⟨l.toArray⟩, .string chars] w fun e w' => e = .returned (.int .i64 (lastAny l chars.data.toList)) ∧ Below w.heap.size w w' := by
  have hlen := isW_len hl
  have hsz := size_mk l
  have hsm := small_of_isW hl
  by_cases h1 : l.length = 1
  · exact LastAny_one ⟨l.toArray⟩ chars w (by rw [hsz]; exact h1) h2 (by simpa using hsm)
  · by_cases h8 : l.length ≤ 8
    · exact LastAny_short ⟨l.toArray⟩ chars w (by rw [hsz]; exact h8) (by rw [hsz]; exact h1) h2 (fun j hj => by
        have hj' : j < l.length := by rw [hsz] at hj; exact hj
        have := hsm l[j] (List.getElem_mem hj')
        exact this)
    · exact LastAny_long ⟨l.toArray⟩ chars w (by rw [hsz]; omega) (by rw [hsz]; omega) h2 hac

theorem IndexAny_any (l : List UInt8) (chars : ByteArray) (w : World) (hl : isW l = true) (h2 : chars.size = 2) (hac : ∀ (j : Nat) b, chars.data.toList[j]? = some b → b.toNat < 128) :
    Calls Tryz.prog 192 #[.string ⟨l.toArray⟩, .string chars] w fun e w' => e = .returned (.int .i64 (Lib.indexAny l chars.data.toList)) ∧ Below w.heap.size w w' := by
  have hlen := isW_len hl
  have hsm := small_of_isW hl
  exact Tryz.strings_IndexAny_laid ⟨l.toArray⟩ chars w (by rw [size_mk]; omega) (by omega) (fun j b hb => hsm b (by
    have := List.mem_of_getElem? hb; simpa using this)) hac
end Go.Proofs.YteephomlnbbjeaaGreatDoor
