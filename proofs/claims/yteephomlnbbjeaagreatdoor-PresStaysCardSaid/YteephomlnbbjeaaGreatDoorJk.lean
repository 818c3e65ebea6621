/-
  Our own text, in the proofs of the laws of package pres (cayleylaw03). Proved here: newDropGen of package pres; newChange of package pres; the methods maps and target of a change of package pres. Conditions: the arguments lie in memory as the slices say; bounds; the listed tables lie as the program lays them.
-/
import Derived.Test.YteephomlnbbjeaaGreatDoorJj
set_option linter.unusedVariables false
set_option linter.unusedSimpArgs false
set_option linter.unusedSectionVars false
namespace Go.Proofs.YteephomlnbbjeaaGreatDoor
open Go Go.RowKit

set_option maxHeartbeats 4000000 in
set_option maxRecDepth 100000 in
theorem newDropGen_any (p : Pr) (R : Option Addr) (rc : Nat) (t : Tz) (D : Option Addr) (dc : Nat) (w : World) (ht : Tabs w) (hr : StrsAt w R p.rels) (hp : chkP p = 0) :
    Calls Tryz.prog 136 #[prV p.k R p.rels.length rc, tzV t D dc] w (ChgP w (dgRE p t) (dgRC p t)) := by
  have HBX := Lib.hid (Bx2.start w (prC p.k R p.rels.length rc) (tzC t D dc))
  have HT := Lib.hid ht
  have HR := Lib.hid hr
  have HW := Lib.hid (chkP_words hp)
  have HC0 := Lib.hid (chkP_rels hp)
  have hk1 := HC0.out.1
  have hk8 := HC0.out.2.1
  have h60 := HC0.out.2.2.1
  clear ht hr hp
  obtain ⟨kind, rel, word, proof⟩ := t
  have hI := isRel_any p R rc rel ((w.alloc (.cells (prC p.k R p.rels.length rc) 24)).alloc (.cells #[.int .i64 kind, .int .i64 rel, .string ⟨word.toArray⟩, .slice D proof.length dc] 58)) (by unfold maxLen; omega)
  cases hin : relIn p rel with
  | false =>
    have HZ : Hid (dgRE p ⟨kind, rel, word, proof⟩ = 1) := Lib.hid (by unfold dgRE; rw [if_pos hin])
    have HZ2 : Hid (dgRC p ⟨kind, rel, word, proof⟩ = none) := Lib.hid (by unfold dgRC; rw [if_pos hin])
    rw [hin] at hI
    clear hin
    go_enter Tryz.func136, Tryz.ntmps136
    go_wp2_with fail
    refine hI.mono ?_
    rintro e w1 ⟨rfl, hb⟩
    have HB := Lib.hid (HBX.out.on hb).below
    clear hb hI
    go_wp2
    go_ret2
    rw [HZ.out, HZ2.out]
    exact ChgP.no HB.out
  | true =>
    have HIN := Lib.hid hin
    rw [hin] at hI
    simp only [relIn, Bool.and_eq_true, decide_eq_true_eq] at hin
    obtain ⟨i, rfl⟩ := Int.eq_ofNat_of_zero_le hin.1
    have hi : i < p.rels.length := by have := hin.2; omega
    clear hin
    have hw1 : IntKind.i64.wrap (p.k - 1) = p.k - 1 := IntWalk.i64_in _ (by omega)
    go_enter Tryz.func136, Tryz.ntmps136
    go_wp2_with fail
    refine hI.mono ?_
    rintro e w1 ⟨rfl, hb⟩
    have HB := Lib.hid (HBX.out.on hb)
    clear hb hI
    have p0 := HB.out.p.cell 0
    simp only [List.getElem?_toArray, List.getElem?_cons_zero] at p0
    go_upto_region 4 with fail
    obtain ⟨last, hlast⟩ := Int.eq_ofNat_of_zero_le (show 0 ≤ p.k - 1 by omega)
    have hl8 : last < 8 := by omega
    have HLA : Hid (p.k - 1 = (last : Int) ∧ dgLast p = last) := Lib.hid ⟨hlast, by unfold dgLast; omega⟩
    have HSO : Hid (dgImg p ⟨kind, i, word, proof⟩ = solL p.rels[i] (let_ (2 * (last : Int)))) := Lib.hid (by unfold dgImg; rw [HLA.out.2]; simp [hi])
    clear hlast hw1 p0
    generalize hso : solL p.rels[i] (let_ (2 * (last : Int))) = so at *
    have HSO2 := Lib.hid hso
    clear hso
    go_cut [7, 8] (fun s7 s8 wx => .tuple #[s7, s8] = solV so ∧ Below w1.heap.size w1 wx)
    case first =>
      obtain ⟨b, o, hRb, hcl, hsl⟩ := HR.out.below HB.out.below i hi
      subst hRb
      have p1 := HB.out.p.cell 1
      have m1 := HB.out.m.cell 1
      simp only [List.getElem?_toArray, List.getElem?_cons_zero, List.getElem?_cons_succ] at p1 m1
      have HSK : Hid (∀ X, Below w1.heap.size w1 X → X.cell? ⟨w.heap.size, 1, none⟩ = some (.slice (some ⟨b, o, none⟩) p.rels.length rc) ∧ X.cell? ⟨w.heap.size + 1, 1, none⟩ = some (.int .i64 i) ∧ X.cell? ⟨b, o + i, none⟩ = some (.string ⟨p.rels[i].toArray⟩)) := Lib.hid (fun X hX =>
        ⟨(hX.cell (p := ⟨w.heap.size, 1, none⟩) (lt_of_cell p1)).trans p1, (hX.cell (p := ⟨w.heap.size + 1, 1, none⟩) (lt_of_cell m1)).trans m1, (hX.cell (p := ⟨b, o + i, none⟩) (lt_of_cell hcl)).trans hcl⟩)
      have HLT : Hid (∀ X, Below w1.heap.size w1 X → Calls Tryz.prog 117 #[.int .i64 (p.k - 1)] X fun e w' => e = .returned (.int .u8 (let_ (2 * (last : Int))).toNat) ∧ X = w') := Lib.hid (fun X hX => by rw [HLA.out.1]; exact letter_any last X ((HT.out.on HB.out.below).on hX) hl8)
      have hr200 : p.rels[i].length ≤ 200 := by
        have h := HC0.out.2.2.2.1
        have h2 := List.any_eq_false.1 h p.rels[i] (List.getElem_mem _)
        simpa [longB] using h2
      have HSV : Hid (∀ X, Below w1.heap.size w1 X → Calls Tryz.prog 165 #[.string ⟨p.rels[i].toArray⟩, .int .u8 (let_ (2 * (last : Int))).toNat] X fun e w' => e = .returned (solV so) ∧ Below X.heap.size X w') := Lib.hid (fun X hX => by rw [← HSO2.out]; exact solve_any p.rels[i] _ X ((HT.out.on HB.out.below).on hX) (HW.out _ (List.getElem_mem _)) (letS_isW8 last hl8) (by omega))
      have HX0 : Hid (Below w1.heap.size w1 w1.drew) := Lib.hid (Below.refl _ _).drew
      have d0 : w1.drew.cell? ⟨w.heap.size, 1, none⟩ = some (.slice (some ⟨b, o, none⟩) p.rels.length rc) := p1
      have d1 : w1.drew.cell? ⟨w.heap.size + 1, 1, none⟩ = some (.int .i64 i) := m1
      have d2 : w1.drew.cell? ⟨b, o + i, none⟩ = some (.string ⟨p.rels[i].toArray⟩) := hcl
      clear p1 m1 hcl hr200 hsl
      generalize let_ (2 * (last : Int)) = cc at *
      generalize p.rels[i] = ri at *
      cases so with
      | none =>
        go_wp2_with fail
        go_region_held3 (fun X => X.cell? ⟨w.heap.size, 1, none⟩ = some (.slice (some ⟨b, o, none⟩) p.rels.length rc) ∧ X.cell? ⟨w.heap.size + 1, 1, none⟩ = some (.int .i64 i) ∧ X.cell? ⟨b, o + i, none⟩ = some (.string ⟨ri.toArray⟩))
          (first | with_reducible exact ⟨d0, d1, d2⟩ | with_reducible exact HSK.out _ HXA.out)
          (first
          | (go_at_call 117; ((with_reducible refine (HLT.out _ HX0.out).mono ?_); rintro e w' ⟨rfl, rfl⟩))
          | (go_at_call 165; ((with_reducible refine (HSV.out _ HX0.out).mono ?_); rintro e wA ⟨rfl, hbA⟩; unfold solV; have HXA := Lib.hid (HX0.out.trans (hbA.mono HX0.out.size)); clear hbA d0 d1 d2)))
        all_goals (
          rename_i hHeld
          clear hHeld
          go_wp2
          go_meet
          case rel => exact ⟨rfl, HXA.out⟩)
      | some im =>
        go_wp2_with fail
        go_region_held3 (fun X => X.cell? ⟨w.heap.size, 1, none⟩ = some (.slice (some ⟨b, o, none⟩) p.rels.length rc) ∧ X.cell? ⟨w.heap.size + 1, 1, none⟩ = some (.int .i64 i) ∧ X.cell? ⟨b, o + i, none⟩ = some (.string ⟨ri.toArray⟩))
          (first | with_reducible exact ⟨d0, d1, d2⟩ | with_reducible exact HSK.out _ HXA.out)
          (first
          | (go_at_call 117; ((with_reducible refine (HLT.out _ HX0.out).mono ?_); rintro e w' ⟨rfl, rfl⟩))
          | (go_at_call 165; ((with_reducible refine (HSV.out _ HX0.out).mono ?_); rintro e wA ⟨rfl, hbA⟩; unfold solV; have HXA := Lib.hid (HX0.out.trans (hbA.mono HX0.out.size)); clear hbA d0 d1 d2)))
        all_goals (
          rename_i hHeld
          clear hHeld
          go_wp2
          go_meet
          case rel => exact ⟨rfl, HXA.out⟩)
    case rest =>
      obtain ⟨hsv, hbc⟩ := hcut
      have HB2 := Lib.hid (HB.out.on hbc)
      clear hbc
      by_cases hk2 : p.k < 2
      · have HZ : Hid (dgRE p ⟨kind, i, word, proof⟩ = 30) := Lib.hid (by unfold dgRE; rw [if_neg (by rw [HIN.out]; decide), if_pos hk2])
        have HZ2 : Hid (dgRC p ⟨kind, i, word, proof⟩ = none) := Lib.hid (by unfold dgRC; rw [if_neg (by rw [HIN.out]; decide), if_pos hk2])
        have hd1 : decide (p.k - 1 < 1) = true := decide_eq_true (by omega)
        have hd2 : p.k - 1 < 1 := by omega
        clear hk2 hsv
        go_wp2
        go_ret2
        rw [HZ.out, HZ2.out]
        exact ChgP.no HB2.out.below
      · have hd1 : decide (p.k - 1 < 1) = false := decide_eq_false (by omega)
        have hd2 : ¬ (p.k - 1 < 1) := by omega
        cases so with
        | none =>
          have HZ : Hid (dgRE p ⟨kind, i, word, proof⟩ = 30) := Lib.hid (by unfold dgRE; rw [if_neg (by rw [HIN.out]; decide), if_neg hk2, HSO.out])
          have HZ2 : Hid (dgRC p ⟨kind, i, word, proof⟩ = none) := Lib.hid (by unfold dgRC; rw [if_neg (by rw [HIN.out]; decide), if_neg hk2, HSO.out])
          simp only [solV, Value.tuple.injEq, Array.mk.injEq, List.cons.injEq, and_true] at hsv
          obtain ⟨rfl, rfl⟩ := hsv
          clear hk2
          go_wp2
          go_ret2
          rw [HZ.out, HZ2.out]
          exact ChgP.no HB2.out.below
        | some im =>
          have HZ0 : Hid (dgRE p ⟨kind, i, word, proof⟩ = match dgL (homL (dgFwd p im)) p.rels with | none => 2 | some _ => 0) := Lib.hid (by unfold dgRE; rw [if_neg (by rw [HIN.out]; decide), if_neg hk2, HSO.out]; rfl)
          have HZC : Hid (dgRC p ⟨kind, i, word, proof⟩ = match dgL (homL (dgFwd p im)) p.rels with | none => none | some a => some (.dropGen ⟨(dgLast p : Int), a.1⟩ (dgFwd p im) a.2)) := Lib.hid (by unfold dgRC; rw [if_neg (by rw [HIN.out]; decide), if_neg hk2, HSO.out]; rfl)
          simp only [solV, Value.tuple.injEq, Array.mk.injEq, List.cons.injEq, and_true] at hsv
          obtain ⟨rfl, rfl⟩ := hsv
          have hr200 : p.rels[i].length ≤ 200 := by
            have h := HC0.out.2.2.2.1
            have h2 := List.any_eq_false.1 h p.rels[i] (List.getElem_mem _)
            simpa [longB] using h2
          have HIM := Lib.hid (isW_sol HSO2.out (HW.out _ (List.getElem_mem _)) (by omega))
          have himl := HIM.out.2
          have HLS : Hid (Calls Tryz.prog 62 #[.int .i64 (p.k - 1)] wc (StrsP wc.heap.size wc (letS last))) := Lib.hid (by rw [HLA.out.1]; exact letters_any last wc (HT.out.on HB2.out.below) (by omega))
          have HLL := Lib.hid (letS_len last)
          have HFW : Hid (dgFwd p im = letS last ++ [im]) := Lib.hid (by unfold dgFwd; rw [HLA.out.2])
          clear hr200 hk2
          go_wp2_with fail
          refine HLS.out.mono ?_
          rintro e w3 ⟨A, cap, rfl, hown, hb3⟩
          rw [HLL.out] at hown
          have HO := Lib.hid hown
          have HBC3 := Lib.hid hb3
          have hsz3 := hb3.size
          clear hown hb3
          rw [HLL.out]
          go_wp2_with (at_builtin; refine append_strs (w3.alloc (.cells #[.string ⟨im.toArray⟩] 9)) rfl (.tmp 45) (.tmp 47) rfl wc.heap.size A last cap (letS last) [im] rfl (HO.out.alloc _) ⟨w3.heap.size, 0, none⟩ 1 1 rfl rfl (strsOne w3 im (by omega)) (by omega) (by simp; omega) ?_; intro F fc w4 hown4 hg4 hm4; have HO4 := Lib.hid hown4; have HG4 := Lib.hid hg4; clear hown4 hg4 hm4)
          have HB4 : Hid (Bx2 w (prC p.k R p.rels.length rc) (tzC ⟨kind, i, word, proof⟩ D dc) w4) := Lib.hid (HB2.out.on (below_of_grown (HBC3.out.alloc hsz3 (.cells #[.string ⟨im.toArray⟩] 9)) HG4.out (by simp; omega) (own_ge HO.out)))
          have HFB : Hid (F ≠ none ∧ ∀ a, F = some a → a.block < w4.heap.size) := Lib.hid ⟨fun h => by subst h; have := own_none HO4.out; omega, fun a ha => by subst ha; exact (own_blk_lt HO4.out a.block rfl).2⟩
          have hFL : (letS last ++ [im]).length = last + 1 := by simp [letS_len]
          have HFL := Lib.hid hFL
          have HSH : Hid (Short (letS last ++ [im])) := Lib.hid (fun x hx => by
            rcases List.mem_append.1 hx with h | h
            · have := isW_len (letS_isW (by omega) x h); omega
            · simp at h; subst h; omega)
          have HWF : Hid (∀ x ∈ letS last ++ [im], isW x = true) := Lib.hid (fun x hx => by
            rcases List.mem_append.1 hx with h | h
            · exact letS_isW (by omega) x h
            · simp at h; subst h; exact HIM.out.1)
          have HB5 := Lib.hid (HB4.out.on ((Below.refl _ w4).alloc (Nat.le_refl _) (.cells #[.int .i64 (p.k - 1), .slice none 0 0, .slice F (last + 1) fc, .slice none 0 0] 133)))
          have HF5 : Hid (StrsAt (w4.alloc (.cells #[.int .i64 (p.k - 1), .slice none 0 0, .slice F (last + 1) fc, .slice none 0 0] 133)) F (letS last ++ [im])) := Lib.hid ((strsAt_own HO4.out HSH.out).below ((Below.refl _ w4).alloc (Nat.le_refl _) _))
          have hN := newHom_any F fc (letS last ++ [im]) _ (HT.out.on HB5.out.below) HF5.out HWF.out (by omega)
          rw [hFL] at hN
          have HG5 := Lib.hid (heap_alloc_new w4 (.cells #[.int .i64 (p.k - 1), .slice none 0 0, .slice F (last + 1) fc, .slice none 0 0] 133))
          have hgsz : w4.heap.size < (w4.alloc (.cells #[.int .i64 (p.k - 1), .slice none 0 0, .slice F (last + 1) fc, .slice none 0 0] 133)).heap.size := by simp
          generalize (w4.alloc (.cells #[.int .i64 (p.k - 1), .slice none 0 0, .slice F (last + 1) fc, .slice none 0 0] 133)) = w5 at *
          have hgw : w.heap.size ≤ w4.heap.size := HB4.out.below.size
          generalize w4.heap.size = g at *
          have HHL : Hid ((homL (letS last ++ [im])).length = 2 * (last + 1)) := Lib.hid (by rw [homL_len, HFL.out])
          have HHW := Lib.hid (homL_isW HWF.out)
          have HHS : Hid (Short (homL (letS last ++ [im]))) := Lib.hid (fun x hx => by have := isW_len (HHW.out x hx); omega)
          have hN2 : Calls Tryz.prog 77 #[.slice F (last + 1) fc] w5 fun e w' => ∃ A cap, e = .returned (.slice A (2 * (last + 1)) cap) ∧ w'.ownsRow w5.heap.size 9 1 (.slice A (2 * (last + 1)) cap) (2 * (last + 1)) (ss (homL (letS last ++ [im]))) ∧ Below w5.heap.size w5 w' := hN.mono (fun e w' h => by
            obtain ⟨A, cap, h1, h2, h3⟩ := h
            rw [HHL.out] at h1 h2
            exact ⟨A, cap, h1, h2, h3⟩)
          clear hN
          rw [← HFW.out] at HHL HHW HHS HF5 hN2
          generalize hHq : homL (dgFwd p im) = H at *
          refine hN2.mono ?_
          rintro e w6 ⟨A7, c7, rfl, hown7, hb6⟩
          have HB6 := Lib.hid (HB5.out.on hb6)
          have HD6 : Hid (DG w6 w6.heap.size g (p.k - 1) (.slice F (last + 1) fc) [] [] none 0 none 0) := Lib.hid ⟨heap_on HG5.out hb6, Nat.lt_of_lt_of_le hgsz hb6.size, Nat.le_refl _, World.ownsRow_nil _ _ _ _, World.ownsRow_nil _ _ _ _, fun b h => by cases h⟩
          have HA7 : Hid (StrsAt w6 A7 H) := Lib.hid (strsAt_own hown7 HHS.out)
          have HA8 : Hid (∀ a, A7 = some a → a.block < w6.heap.size ∧ a.block ≠ g) := Lib.hid (fun a ha => by
            subst ha
            have := own_blk_lt hown7 a.block rfl
            exact ⟨this.2, by omega⟩)
          have HF6 := Lib.hid (HF5.out.below hb6)
          have q1 := HB6.out.p.cell 1
          simp only [List.getElem?_toArray, List.getElem?_cons_zero, List.getElem?_cons_succ] at q1
          clear hown7 hb6 hN2
          go_wp2_with fail
          go_loopw [12, 13, 14, 56] (fun _ _ _ x wr => ∃ (n : Nat) (rl : List (List UInt8)) (pl : List Int), n ≤ p.rels.length ∧ x = .int .i64 (n : Int) ∧ Hid (dgL H (p.rels.take n) = some (rl, pl)) ∧ Hid (rl.length ≤ n ∧ Short rl) ∧ Hid (pl.length = n) ∧ Hid (∃ A cap L lc, DG wr w6.heap.size g (p.k - 1) (.slice F (last + 1) fc) rl pl A cap L lc) ∧ Hid (Far w6.heap.size g w6 wr)) (fun _ _ _ x _ => p.rels.length - (intOf x).toNat)
          case atStart => exact ⟨0, [], [], Nat.zero_le _, rfl, Lib.hid rfl, Lib.hid ⟨Nat.zero_le _, fun _ h => by cases h⟩, Lib.hid rfl, Lib.hid ⟨none, 0, none, 0, HD6.out⟩, Lib.hid ⟨Below.refl _ _, fun _ _ _ => rfl⟩⟩
          case round =>
            obtain ⟨n, rl, pl, hn, rfl, HACC, HRL, HPL, HDG, HFR⟩ := hrel
            have hrl := HRL.out.1
            have HBW : Hid (Below w.heap.size w wr) := Lib.hid (HB6.out.below.trans (HFR.out.1.mono hgw))
            have hgB : g < w6.heap.size := HD6.out.gb
            by_cases hlt : n < p.rels.length
            · have HST := Lib.hid (dgL_take H p.rels n hlt)
              obtain ⟨b, o, hRb, hcl, hsl⟩ := HR.out.below HBW.out n hlt
              subst hRb
              have HOK : Hid (okB p.k p.rels[n] = true) := Lib.hid (relB_ok (List.all_eq_true.1 HC0.out.2.2.2.2 _ (List.getElem_mem hlt))).1
              have hpk : p.k = ((last + 1 : Nat) : Int) := by have := HLA.out.1; omega
              have HUU : Hid (∀ c ∈ p.rels[n], 0 ≤ idx c ∧ idx c < H.length) := Lib.hid (fun c hc => by
                have h := HOK.out
                rw [hpk] at h
                have := idx_of_check h c hc
                have := HHL.out
                omega)
              have hIM := image_any A7 c7 H ⟨(p.rels[n]).toArray⟩ wr (HT.out.on HBW.out) (HA7.out.far HFR.out HA8.out) HHW.out HUU.out (by rw [size_mk]; have := isW_len (HW.out _ (List.getElem_mem hlt)); omega)
              change Calls Tryz.prog 78 #[.slice A7 H.length c7, .string ⟨(p.rels[n]).toArray⟩] wr (ImgP wr (imgR H p.rels[n]) (imgE H p.rels[n])) at hIM
              rw [HHL.out] at hIM
              have hvl : (imgR H p.rels[n]).length ≤ 100000 := by
                unfold imgR; split
                · simp
                · have := red_len (imgL H p.rels[n]); omega
              have HSTP : Hid (dgL H (p.rels.take (n + 1)) = if longB (imgR H p.rels[n]) then none else some (plR rl (imgR H p.rels[n]), plI rl pl (imgR H p.rels[n]))) := Lib.hid (by rw [HST.out, HACC.out]; rfl)
              have HNO := Lib.hid (dgL_no H p.rels n hlt)
              clear hsl hpk HST
              generalize imgR H p.rels[n] = v at *
              generalize imgE H p.rels[n] = z at *
              generalize p.rels[n] = r at *
              go_wp2_with fail
              refine hIM.mono ?_
              rintro e w7 ⟨rfl, hb7⟩
              have HF7 : Hid (Far w6.heap.size g w6 w7) := Lib.hid (HFR.out.trans (by
                obtain ⟨_, _, _, _, hdg⟩ := HDG.out
                exact Far.of_below hdg.bw hgB hb7))
              obtain ⟨A, cap, L, lc, hdg⟩ := HDG.out
              have HDG7 := Lib.hid (hdg.on hb7)
              have hTL := isTooLong_any v w7 (by omega)
              clear hdg hb7 hIM
              cases hlong : longB v with
              | true =>
                rw [hlong] at hTL HSTP
                have HNN : Hid (dgL H p.rels = none) := Lib.hid (HNO.out HSTP.out)
                have HZ : Hid (dgRE p ⟨kind, i, word, proof⟩ = 2) := Lib.hid (by rw [HZ0.out, HNN.out])
                have HZ2 : Hid (dgRC p ⟨kind, i, word, proof⟩ = none) := Lib.hid (by rw [HZC.out, HNN.out])
                clear hlong
                go_wp2_with fail
                refine hTL.mono ?_
                rintro e w8 ⟨rfl, rfl⟩
                go_wp2
                go_ret2
                rw [HZ.out, HZ2.out]
                exact ChgP.no (HB6.out.below.trans (HF7.out.1.mono hgw))
              | false =>
                rw [hlong] at hTL HSTP
                have hPL := place_any v w7 HDG7.out (by have := HPL.out; omega) (by omega) (by omega)
                have HPI := Lib.hid (plI_len rl pl v)
                have HPR := Lib.hid (plR_len rl v)
                clear hlong
                go_wp2_with fail
                refine hTL.mono ?_
                rintro e w8 ⟨rfl, rfl⟩
                go_wp2_with fail
                refine hPL.mono ?_
                rintro e w8 ⟨rfl, hdg8, hfar8⟩
                have HDG8 := Lib.hid hdg8
                have HF8 := Lib.hid (HF7.out.trans hfar8)
                clear hdg8 hfar8 hPL
                go_wp2
                go_roundw
                case rel => exact ⟨n + 1, _, _, by omega, by go_num, Lib.hid HSTP.out, Lib.hid ⟨by have := HPR.out; omega, HRL.out.2.plR (by omega)⟩, Lib.hid (by rw [HPI.out, HPL.out]), HDG8, HF8⟩
                case measure => simp [intOf]; omega
            · obtain rfl : n = p.rels.length := by omega
              have HALL : Hid (dgL H p.rels = some (rl, pl)) := Lib.hid (by have := HACC.out; rwa [List.take_length] at this)
              have HZ : Hid (dgRE p ⟨kind, i, word, proof⟩ = 0) := Lib.hid (by rw [HZ0.out, HALL.out])
              have HZ2 : Hid (dgRC p ⟨kind, i, word, proof⟩ = some (.dropGen ⟨(dgLast p : Int), rl⟩ (dgFwd p im) pl)) := Lib.hid (by rw [HZC.out, HALL.out])
              obtain ⟨A, cap, L, lc, hdg⟩ := HDG.out
              obtain ⟨c0, c1, c2, c3, f1, f3⟩ := blk4 hdg.heap
              have HDD := Lib.hid hdg
              have HFF : Hid (StrsAt wr F (dgFwd p im)) := Lib.hid (HF6.out.far HFR.out (fun a ha => by have := HFB.out.2 a ha; omega))
              have HFN : Hid ((dgFwd p im).length = last + 1) := Lib.hid (by rw [HFW.out]; exact HFL.out)
              clear hdg
              go_wp2
              go_ret2
              rw [HZ.out, HZ2.out]
              refine ⟨_, rfl, ⟨A, cap, F, fc, L, lc, ⟨strsAt_own HDD.out.ownR ?_, ?_⟩, HFF.out, ?_, ?_, ?_⟩, HB6.out.below.trans (HFR.out.1.mono hgw)⟩
              · exact HRL.out.2
              · intro h; subst h; have := own_none HDD.out.ownR; simpa using this
              · exact fun h => absurd h HFB.out.1
              · exact intsAt_own HDD.out.ownP
              · rw [HLA.out.2, ← HLA.out.1, HFN.out]; rfl
end Go.Proofs.YteephomlnbbjeaaGreatDoor

namespace Go.Proofs.YteephomlnbbjeaaGreatDoor
open Go Go.RowKit

def chgE (p : Pr) (t : Tz) : Int := if chkP p ≠ 0 then chkP p else if t.kind = 1 then addRE p t else if t.kind = 2 then dropRE p t else if t.kind = 3 then genRE p t else if t.kind = 4 then dgRE p t else 30
def chgC (p : Pr) (t : Tz) : Option Chg := if chkP p ≠ 0 then none else if t.kind = 1 then addRC p t else if t.kind = 2 then dropRC p t else if t.kind = 3 then genRC p t else if t.kind = 4 then dgRC p t else none

theorem ChgP.on {w w1 w' : World} {E : Int} {C : Option Chg} {e : Ending} (h : ChgP w1 E C e w') (hb : Below w.heap.size w w1) : ChgP w E C e w' := by
  obtain ⟨v, h1, h2, h3⟩ := h
  exact ⟨v, h1, h2, hb.trans (h3.mono hb.size)⟩

set_option maxHeartbeats 2000000 in
set_option maxRecDepth 100000 in
theorem newChange_any (p : Pr) (R : Option Addr) (rc : Nat) (t : Tz) (D : Option Addr) (dc : Nat) (w : World) (ht : Tabs w) (hr : StrsAt w R p.rels) (hR : R = none → p.rels = []) (hd : CellsAt w D t.proof) (hD : D = none → t.proof = []) (hm : p.rels.length ≤ maxLen) (hdm : t.proof.length ≤ maxLen) (hu : t.word.length ≤ 140737488351232) :
    Calls Tryz.prog 85 #[prV p.k R p.rels.length rc, tzV t D dc] w (ChgP w (chgE p t) (chgC p t)) := by
  have HBX := Lib.hid (Bx2.start w (prC p.k R p.rels.length rc) (tzC t D dc))
  have HT := Lib.hid ht
  have HR := Lib.hid hr
  have HRN := Lib.hid hR
  have HD := Lib.hid hd
  have HDN := Lib.hid hD
  have HM := Lib.hid hm
  have HDM := Lib.hid hdm
  clear ht hr hR hd hD hm hdm
  obtain ⟨kind, rel, word, proof⟩ := t
  have hCK := Check_any p R rc ((w.alloc (.cells (prC p.k R p.rels.length rc) 24)).alloc (.cells #[.int .i64 kind, .int .i64 rel, .string ⟨word.toArray⟩, .slice D proof.length dc] 58)) (HT.out.on HBX.out.below) (HR.out.below HBX.out.below) HM.out
  by_cases hc : chkP p = 0
  · have HP := Lib.hid hc
    have HE : Hid (chgE p ⟨kind, rel, word, proof⟩ = if kind = 1 then addRE p ⟨kind, rel, word, proof⟩ else if kind = 2 then dropRE p ⟨kind, rel, word, proof⟩ else if kind = 3 then genRE p ⟨kind, rel, word, proof⟩ else if kind = 4 then dgRE p ⟨kind, rel, word, proof⟩ else 30) := Lib.hid (by unfold chgE; rw [if_neg (by simpa using hc)])
    have HC : Hid (chgC p ⟨kind, rel, word, proof⟩ = if kind = 1 then addRC p ⟨kind, rel, word, proof⟩ else if kind = 2 then dropRC p ⟨kind, rel, word, proof⟩ else if kind = 3 then genRC p ⟨kind, rel, word, proof⟩ else if kind = 4 then dgRC p ⟨kind, rel, word, proof⟩ else none) := Lib.hid (by unfold chgC; rw [if_neg (by simpa using hc)])
    rw [hc] at hCK
    clear hc
    by_cases h1 : kind = 1
    · subst h1
      have HE1 : Hid (chgE p ⟨1, rel, word, proof⟩ = addRE p ⟨1, rel, word, proof⟩) := Lib.hid (by rw [HE.out]; rfl)
      have HC1 : Hid (chgC p ⟨1, rel, word, proof⟩ = addRC p ⟨1, rel, word, proof⟩) := Lib.hid (by rw [HC.out]; rfl)
      clear HE HC
      go_enter Tryz.func85, Tryz.ntmps85
      go_wp2_with fail
      refine hCK.mono ?_
      rintro e w1 ⟨rfl, hb⟩
      have HB := Lib.hid (HBX.out.on hb)
      have m0 := HB.out.m.cell 0
      have p0 := HB.out.p.cell 0
      have p1 := HB.out.p.cell 1
      have m1 := HB.out.m.cell 1
      have m2 := HB.out.m.cell 2
      have m3 := HB.out.m.cell 3
      simp only [List.getElem?_toArray, List.getElem?_cons_zero, List.getElem?_cons_succ] at m0 p0 p1 m1 m2 m3
      have hN := newAddRel_any p R rc ⟨1, rel, word, proof⟩ D dc w1 (HT.out.on HB.out.below) (HR.out.below HB.out.below) HRN.out (HD.out.below HB.out.below) HP.out HDM.out hu
      rw [← HE1.out, ← HC1.out] at hN
      clear hb hCK
      go_wp2_with fail
      refine hN.mono ?_
      rintro e w2 ⟨v, rfl, hv, hb2⟩
      have HV := Lib.hid hv
      have HB2 := Lib.hid (HB.out.on hb2).below
      clear hv hb2 hN
      go_wp2
      go_ret2
      exact ⟨v, rfl, HV.out, HB2.out⟩
    · by_cases h2 : kind = 2
      · subst h2
        have HE1 : Hid (chgE p ⟨2, rel, word, proof⟩ = dropRE p ⟨2, rel, word, proof⟩) := Lib.hid (by rw [HE.out]; rfl)
        have HC1 : Hid (chgC p ⟨2, rel, word, proof⟩ = dropRC p ⟨2, rel, word, proof⟩) := Lib.hid (by rw [HC.out]; rfl)
        clear HE HC
        go_enter Tryz.func85, Tryz.ntmps85
        go_wp2_with fail
        refine hCK.mono ?_
        rintro e w1 ⟨rfl, hb⟩
        have HB := Lib.hid (HBX.out.on hb)
        have m0 := HB.out.m.cell 0
        have p0 := HB.out.p.cell 0
        have p1 := HB.out.p.cell 1
        have m1 := HB.out.m.cell 1
        have m2 := HB.out.m.cell 2
        have m3 := HB.out.m.cell 3
        simp only [List.getElem?_toArray, List.getElem?_cons_zero, List.getElem?_cons_succ] at m0 p0 p1 m1 m2 m3
        have hN := newDropRel_any p R rc ⟨2, rel, word, proof⟩ D dc w1 (HT.out.on HB.out.below) (HR.out.below HB.out.below) HRN.out (HD.out.below HB.out.below) HDN.out HP.out HDM.out
        rw [← HE1.out, ← HC1.out] at hN
        clear hb hCK
        go_wp2_with fail
        refine hN.mono ?_
        rintro e w2 ⟨v, rfl, hv, hb2⟩
        have HV := Lib.hid hv
        have HB2 := Lib.hid (HB.out.on hb2).below
        clear hv hb2 hN
        go_wp2
        go_ret2
        exact ⟨v, rfl, HV.out, HB2.out⟩
      · by_cases h3 : kind = 3
        · subst h3
          have HE1 : Hid (chgE p ⟨3, rel, word, proof⟩ = genRE p ⟨3, rel, word, proof⟩) := Lib.hid (by rw [HE.out]; rfl)
          have HC1 : Hid (chgC p ⟨3, rel, word, proof⟩ = genRC p ⟨3, rel, word, proof⟩) := Lib.hid (by rw [HC.out]; rfl)
          clear HE HC
          go_enter Tryz.func85, Tryz.ntmps85
          go_wp2_with fail
          refine hCK.mono ?_
          rintro e w1 ⟨rfl, hb⟩
          have HB := Lib.hid (HBX.out.on hb)
          have m0 := HB.out.m.cell 0
          have p0 := HB.out.p.cell 0
          have p1 := HB.out.p.cell 1
          have m1 := HB.out.m.cell 1
          have m2 := HB.out.m.cell 2
          have m3 := HB.out.m.cell 3
          simp only [List.getElem?_toArray, List.getElem?_cons_zero, List.getElem?_cons_succ] at m0 p0 p1 m1 m2 m3
          have hN := newAddGen_any p R rc ⟨3, rel, word, proof⟩ D dc w1 (HT.out.on HB.out.below) (HR.out.below HB.out.below) HRN.out HP.out hu
          rw [← HE1.out, ← HC1.out] at hN
          clear hb hCK
          go_wp2_with fail
          refine hN.mono ?_
          rintro e w2 ⟨v, rfl, hv, hb2⟩
          have HV := Lib.hid hv
          have HB2 := Lib.hid (HB.out.on hb2).below
          clear hv hb2 hN
          go_wp2
          go_ret2
          exact ⟨v, rfl, HV.out, HB2.out⟩
        · by_cases h4 : kind = 4
          · subst h4
            have HE1 : Hid (chgE p ⟨4, rel, word, proof⟩ = dgRE p ⟨4, rel, word, proof⟩) := Lib.hid (by rw [HE.out]; rfl)
            have HC1 : Hid (chgC p ⟨4, rel, word, proof⟩ = dgRC p ⟨4, rel, word, proof⟩) := Lib.hid (by rw [HC.out]; rfl)
            clear HE HC
            go_enter Tryz.func85, Tryz.ntmps85
            go_wp2_with fail
            refine hCK.mono ?_
            rintro e w1 ⟨rfl, hb⟩
            have HB := Lib.hid (HBX.out.on hb)
            have m0 := HB.out.m.cell 0
            have p0 := HB.out.p.cell 0
            have p1 := HB.out.p.cell 1
            have m1 := HB.out.m.cell 1
            have m2 := HB.out.m.cell 2
            have m3 := HB.out.m.cell 3
            simp only [List.getElem?_toArray, List.getElem?_cons_zero, List.getElem?_cons_succ] at m0 p0 p1 m1 m2 m3
            have hN := newDropGen_any p R rc ⟨4, rel, word, proof⟩ D dc w1 (HT.out.on HB.out.below) (HR.out.below HB.out.below) HP.out
            rw [← HE1.out, ← HC1.out] at hN
            clear hb hCK
            go_wp2_with fail
            refine hN.mono ?_
            rintro e w2 ⟨v, rfl, hv, hb2⟩
            have HV := Lib.hid hv
            have HB2 := Lib.hid (HB.out.on hb2).below
            clear hv hb2 hN
            go_wp2
            go_ret2
            exact ⟨v, rfl, HV.out, HB2.out⟩
          · have hn1 : (kind == 1) = false := beq_eq_false_iff_ne.2 h1
            have hn2 : (kind == 2) = false := beq_eq_false_iff_ne.2 h2
            have hn3 : (kind == 3) = false := beq_eq_false_iff_ne.2 h3
            have hn4 : (kind == 4) = false := beq_eq_false_iff_ne.2 h4
            have HE1 : Hid (chgE p ⟨kind, rel, word, proof⟩ = 30) := Lib.hid (by rw [HE.out, if_neg h1, if_neg h2, if_neg h3, if_neg h4])
            have HC1 : Hid (chgC p ⟨kind, rel, word, proof⟩ = none) := Lib.hid (by rw [HC.out, if_neg h1, if_neg h2, if_neg h3, if_neg h4])
            clear HE HC
            go_enter Tryz.func85, Tryz.ntmps85
            go_wp2_with fail
            refine hCK.mono ?_
            rintro e w1 ⟨rfl, hb⟩
            have HB := Lib.hid (HBX.out.on hb)
            have m0 := HB.out.m.cell 0
            simp only [List.getElem?_toArray, List.getElem?_cons_zero, List.getElem?_cons_succ] at m0
            clear hb hCK
            go_wp2
            go_ret2
            rw [HE1.out, HC1.out]
            exact ChgP.no HB.out.below
  · have HE1 : Hid (chgE p ⟨kind, rel, word, proof⟩ = chkP p) := Lib.hid (by unfold chgE; rw [if_pos (by simpa using hc)])
    have HC1 : Hid (chgC p ⟨kind, rel, word, proof⟩ = none) := Lib.hid (by unfold chgC; rw [if_pos (by simpa using hc)])
    have hne : (chkP p != 0) = true := by simpa using hc
    clear hc
    generalize chkP p = c at *
    go_enter Tryz.func85, Tryz.ntmps85
    go_wp2_with fail
    refine hCK.mono ?_
    rintro e w1 ⟨rfl, hb⟩
    have HB := Lib.hid (HBX.out.on hb)
    clear hb hCK
    go_wp2
    go_ret2
    rw [HE1.out, HC1.out]
    exact ChgP.no HB.out.below
end Go.Proofs.YteephomlnbbjeaaGreatDoor

namespace Go.Proofs.YteephomlnbbjeaaGreatDoor
open Go Go.RowKit

theorem Tryz.maps177 (x : Value) (w : World) : (invoke (.fn (.method "cayley/pres.maps") #[]) #[.iface 177 x]).run Tryz.prog w = .ok (.enter 289 #[x]) w := by kernel_rfl
theorem Tryz.maps130 (x : Value) (w : World) : (invoke (.fn (.method "cayley/pres.maps") #[]) #[.iface 130 x]).run Tryz.prog w = .ok (.enter 286 #[x]) w := by kernel_rfl
theorem Tryz.maps180 (x : Value) (w : World) : (invoke (.fn (.method "cayley/pres.maps") #[]) #[.iface 180 x]).run Tryz.prog w = .ok (.enter 290 #[x]) w := by kernel_rfl
theorem Tryz.maps133 (x : Value) (w : World) : (invoke (.fn (.method "cayley/pres.maps") #[]) #[.iface 133 x]).run Tryz.prog w = .ok (.enter 287 #[x]) w := by kernel_rfl
theorem Tryz.target177 (a b : Value) (w : World) : (invoke (.fn (.method "cayley/pres.target") #[]) #[.iface 177 (.agg #[a, b])]).run Tryz.prog w = .ok (.enter 285 #[.agg #[a, b]]) w := by kernel_rfl
theorem Tryz.target130 (a b c d : Value) (w : World) : (invoke (.fn (.method "cayley/pres.target") #[]) #[.iface 130 (.agg #[a, b, c, d])]).run Tryz.prog w = .ok (.enter 285 #[.agg #[a, b]]) w := by kernel_rfl
theorem Tryz.target180 (a b c : Value) (w : World) : (invoke (.fn (.method "cayley/pres.target") #[]) #[.iface 180 (.agg #[a, b, c])]).run Tryz.prog w = .ok (.enter 285 #[.agg #[a, b]]) w := by kernel_rfl
theorem Tryz.target133 (a b c d : Value) (w : World) : (invoke (.fn (.method "cayley/pres.target") #[]) #[.iface 133 (.agg #[a, b, c, d])]).run Tryz.prog w = .ok (.enter 285 #[.agg #[a, b]]) w := by kernel_rfl

/-- The presentation to which a move leads, and the maps there and back. -/
def Chg.goal : Chg → Pr
  | .addRel q => q
  | .dropRel q _ _ => q
  | .addGen q _ => q
  | .dropGen q _ _ => q
def Chg.fwd : Chg → List (List UInt8)
  | .addRel q => letS q.k.toNat
  | .dropRel q _ _ => letS q.k.toNat
  | .addGen q _ => letS (q.k - 1).toNat
  | .dropGen _ f _ => f
def Chg.bwd : Chg → List (List UInt8)
  | .addRel q => letS q.k.toNat
  | .dropRel q _ _ => letS q.k.toNat
  | .addGen q x => letS (q.k - 1).toNat ++ [x]
  | .dropGen q _ _ => letS q.k.toNat
/-- What maps hands back. -/
def MapsP (w : World) (F G : List (List UInt8)) (e : Ending) (w' : World) : Prop :=
  ∃ A c A' c', e = .returned (.tuple #[.slice A F.length c, .slice A' G.length c']) ∧ StrsAt w' A F ∧ (A = none → F = []) ∧ StrsAt w' A' G ∧ (A' = none → G = []) ∧ Below w.heap.size w w'
theorem letS_short {k : Nat} (h : k ≤ 8) : Short (letS k) := fun x hx => by have := isW_len (letS_isW h x hx); omega

set_option maxHeartbeats 1000000 in
set_option maxRecDepth 100000 in
theorem target_any (k : Int) (A : Option Addr) (n cap : Nat) (w : World) :
    Calls Tryz.prog 285 #[.agg #[.int .i64 k, .slice A n cap]] w fun e w' => e = .returned (prV k A n cap) ∧ Below w.heap.size w w' := by
  go_enter Tryz.func285, Tryz.ntmps285
  go_wp2
  have HB := Lib.hid (((Below.refl w.heap.size w).alloc (Nat.le_refl _) (.cells #[.int .i64 k, .slice A n cap] 128)).alloc (by simp) (.cells #[.int .i64 k, .slice A n cap] 24))
  refine bodyPost_ret (v := prV k A n cap) ?_ rfl ⟨rfl, ?_⟩
  · simp [results, Tryz.results285, go_sem]
  · exact HB.out

set_option maxHeartbeats 2000000 in
set_option maxRecDepth 100000 in
theorem maps_addRel (k : Nat) (R : Value) (w : World) (ht : Tabs w) (hk : k ≤ 8) :
    Calls Tryz.prog 289 #[.agg #[.int .i64 k, R]] w (MapsP w (letS k) (letS k)) := by
  have HB0 := Lib.hid ((Below.refl w.heap.size w).alloc (Nat.le_refl _) (.cells #[.int .i64 k, R] 177))
  have HC := Lib.hid ((HasCells.new w #[.int .i64 k, R] 177).cell 0)
  have HT := Lib.hid ht
  have HLL := Lib.hid (letS_len k)
  have HSH := Lib.hid (letS_short hk)
  have hsz : (w.alloc (.cells #[.int .i64 k, R] 177)).heap.size = w.heap.size + 1 := by simp
  clear ht
  go_enter Tryz.func289, Tryz.ntmps289
  go_wp2_with fail
  generalize (w.alloc (.cells #[.int .i64 k, R] 177)) = w1 at *
  have hlt : w.heap.size < w1.heap.size := by omega
  have d0 : w1.drew.cell? ⟨w.heap.size, 0, none⟩ = some (.int .i64 k) := HC.out
  have HSK : Hid (∀ X, Below w1.heap.size w1 X → X.cell? ⟨w.heap.size, 0, none⟩ = some (.int .i64 k)) := Lib.hid (fun X hX => (hX.cell (p := ⟨w.heap.size, 0, none⟩) hlt).trans HC.out)
  have HLT : Hid (∀ X, Below w1.heap.size w1 X → Calls Tryz.prog 62 #[.int .i64 k] X (fun e w' => ∃ A cap, e = .returned (.slice A k cap) ∧ w'.ownsRow X.heap.size 9 1 (.slice A k cap) k (ss (letS k)) ∧ Below X.heap.size X w')) := Lib.hid (fun X hX => (letters_any k X (HT.out.on (HB0.out.trans (hX.mono (Nat.le_of_lt hlt)))) hk).mono (fun e w' h => by
    obtain ⟨A, cap, h1, h2, h3⟩ := h
    rw [HLL.out] at h1 h2
    exact ⟨A, cap, h1, h2, h3⟩))
  have HX0 : Hid (Below w1.heap.size w1 w1.drew) := Lib.hid (Below.refl _ _).drew
  clear hsz
  go_region_held3 (fun X => X.cell? ⟨w.heap.size, 0, none⟩ = some (.int .i64 k))
    (first | with_reducible exact d0 | with_reducible exact HSK.out _ HXA.out | with_reducible exact HSK.out _ HXB.out)
    (first
    | (go_at_call 62; ((with_reducible refine (HLT.out _ HX0.out).mono ?_); rintro e wA ⟨A1, c1, rfl, hA, hbA⟩; have HXA := Lib.hid (HX0.out.trans (hbA.mono HX0.out.size)); have HA := Lib.hid hA; clear hA hbA d0))
    | (go_at_call 62; ((with_reducible refine (HLT.out _ HXA.out).mono ?_); rintro e wB ⟨A2, c2, rfl, hA, hbA⟩; have HXB := Lib.hid (HXA.out.trans (hbA.mono HXA.out.size)); have HA2 := Lib.hid (strsAt_own hA HSH.out); have HN2 : Hid (A2 = none → letS k = []) := Lib.hid (fun h => by subst h; have := own_none hA; subst this; rfl); have HA1 := Lib.hid ((strsAt_own HA.out HSH.out).below hbA); have HN1 : Hid (A1 = none → letS k = []) := Lib.hid (fun h => by subst h; have := own_none HA.out; subst this; rfl); clear hA hbA)))
  all_goals (
    rename_i hHeld
    clear hHeld
    go_wp2
    go_ret2
    first
    | exact ⟨A1, c1, A2, c2, by rw [HLL.out]; rfl, HA1.out, HN1.out, HA2.out, HN2.out, HB0.out.trans (HXB.out.mono (Nat.le_of_lt hlt))⟩
    | exact ⟨A2, c2, A1, c1, by rw [HLL.out]; rfl, HA2.out, HN2.out, HA1.out, HN1.out, HB0.out.trans (HXB.out.mono (Nat.le_of_lt hlt))⟩)

set_option maxHeartbeats 2000000 in
set_option maxRecDepth 100000 in
theorem maps_dropRel (k : Nat) (R x y : Value) (w : World) (ht : Tabs w) (hk : k ≤ 8) :
    Calls Tryz.prog 286 #[.agg #[.int .i64 k, R, x, y]] w (MapsP w (letS k) (letS k)) := by
  have HB0 := Lib.hid ((Below.refl w.heap.size w).alloc (Nat.le_refl _) (.cells #[.int .i64 k, R, x, y] 130))
  have HC := Lib.hid ((HasCells.new w #[.int .i64 k, R, x, y] 130).cell 0)
  have HT := Lib.hid ht
  have HLL := Lib.hid (letS_len k)
  have HSH := Lib.hid (letS_short hk)
  have hsz : (w.alloc (.cells #[.int .i64 k, R, x, y] 130)).heap.size = w.heap.size + 1 := by simp
  clear ht
  go_enter Tryz.func286, Tryz.ntmps286
  go_wp2_with fail
  generalize (w.alloc (.cells #[.int .i64 k, R, x, y] 130)) = w1 at *
  have hlt : w.heap.size < w1.heap.size := by omega
  have d0 : w1.drew.cell? ⟨w.heap.size, 0, none⟩ = some (.int .i64 k) := HC.out
  have HSK : Hid (∀ X, Below w1.heap.size w1 X → X.cell? ⟨w.heap.size, 0, none⟩ = some (.int .i64 k)) := Lib.hid (fun X hX => (hX.cell (p := ⟨w.heap.size, 0, none⟩) hlt).trans HC.out)
  have HLT : Hid (∀ X, Below w1.heap.size w1 X → Calls Tryz.prog 62 #[.int .i64 k] X (fun e w' => ∃ A cap, e = .returned (.slice A k cap) ∧ w'.ownsRow X.heap.size 9 1 (.slice A k cap) k (ss (letS k)) ∧ Below X.heap.size X w')) := Lib.hid (fun X hX => (letters_any k X (HT.out.on (HB0.out.trans (hX.mono (Nat.le_of_lt hlt)))) hk).mono (fun e w' h => by
    obtain ⟨A, cap, h1, h2, h3⟩ := h
    rw [HLL.out] at h1 h2
    exact ⟨A, cap, h1, h2, h3⟩))
  have HX0 : Hid (Below w1.heap.size w1 w1.drew) := Lib.hid (Below.refl _ _).drew
  clear hsz
  go_region_held3 (fun X => X.cell? ⟨w.heap.size, 0, none⟩ = some (.int .i64 k))
    (first | with_reducible exact d0 | with_reducible exact HSK.out _ HXA.out | with_reducible exact HSK.out _ HXB.out)
    (first
    | (go_at_call 62; ((with_reducible refine (HLT.out _ HX0.out).mono ?_); rintro e wA ⟨A1, c1, rfl, hA, hbA⟩; have HXA := Lib.hid (HX0.out.trans (hbA.mono HX0.out.size)); have HA := Lib.hid hA; clear hA hbA d0))
    | (go_at_call 62; ((with_reducible refine (HLT.out _ HXA.out).mono ?_); rintro e wB ⟨A2, c2, rfl, hA, hbA⟩; have HXB := Lib.hid (HXA.out.trans (hbA.mono HXA.out.size)); have HA2 := Lib.hid (strsAt_own hA HSH.out); have HN2 : Hid (A2 = none → letS k = []) := Lib.hid (fun h => by subst h; have := own_none hA; subst this; rfl); have HA1 := Lib.hid ((strsAt_own HA.out HSH.out).below hbA); have HN1 : Hid (A1 = none → letS k = []) := Lib.hid (fun h => by subst h; have := own_none HA.out; subst this; rfl); clear hA hbA)))
  all_goals (
    rename_i hHeld
    clear hHeld
    go_wp2
    go_ret2
    first
    | exact ⟨A1, c1, A2, c2, by rw [HLL.out]; rfl, HA1.out, HN1.out, HA2.out, HN2.out, HB0.out.trans (HXB.out.mono (Nat.le_of_lt hlt))⟩
    | exact ⟨A2, c2, A1, c1, by rw [HLL.out]; rfl, HA2.out, HN2.out, HA1.out, HN1.out, HB0.out.trans (HXB.out.mono (Nat.le_of_lt hlt))⟩)
end Go.Proofs.YteephomlnbbjeaaGreatDoor
