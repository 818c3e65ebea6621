/-
  Our own text, in the proof of the law RopeSlices of package rope (cayleylaw02). Proved here: the slicer keeps a join, and a power. Conditions: the nodes lie in memory as the slice says.
-/
import Derived.Test.YtgklmcinbaghmaaGreatDoorFe
namespace Go.Proofs.YtgklmcinbaghmaaGreatDoor
open Go Go.RowKit

/-- A node's box stays. -/
theorem SGrow.box {Q B : Nat} {R R' : Option Nat} {w w' : World} (h : SGrow Q B R R' w w') {N : Nat} {t : TypeId} {cs : Array Value} (hb : Blk w N t cs) (h1 : N ≠ Q) (h2 : N ≠ B + 2) (h3 : some N ≠ R) : Blk w' N t cs :=
  (h.block N hb.lt h1 h2 h3).trans hb
theorem SGrow.row_ne {Q B : Nat} {R R' : Option Nat} {w w' : World} (h : SGrow Q B R R' w w') {N : Nat} (hN : N < w.heap.size) (h3 : some N ≠ R) : some N ≠ R' := by
  rcases h.row with e | ⟨g, e, hg⟩
  · rw [e]; exact h3
  · rw [e]; intro e2; cases e2; omega
theorem row_lt {w : World} {base Q P Bm B : Nat} {A : Option Addr} {cap : Nat} {a : List Nd} {L : List Nat} {o : List Nd} {Ao : Option Addr} {co n : Nat} {f : Int → Option Value}
    (h : Slc w base Q P Bm B A cap a L o Ao co n f) {N : Nat} (hN : w.heap.size ≤ N) : some N ≠ rowOf Ao := by
  intro e
  obtain ⟨_, cur, fz, e2⟩ := own_row h.own N e.symm
  have := (Array.getElem?_eq_some_iff.1 e2).1
  omega
theorem Has.moret {o o' : List Nd} {idx : Nat} {u : List UInt8} (h : Has o idx u) (he : ∃ t, o' = o ++ t) : Has o' idx u := by
  obtain ⟨t, rfl⟩ := he
  exact h.more t
theorem ext_trans {o o1 o2 : List Nd} (h : ∃ t, o1 = o ++ t) (k : ∃ t, o2 = o1 ++ t) : ∃ t, o2 = o ++ t := by
  obtain ⟨t, rfl⟩ := h
  obtain ⟨s, rfl⟩ := k
  exact ⟨t ++ s, by rw [List.append_assoc]⟩

/-- What is asked of an elder node. -/
abbrev KeepIH (base Q P Bm B : Nat) (ad : Addr) (cap : Nat) (a : List Nd) (L : List Nat) (j : Nat) : Prop :=
  ∀ W o Ao co n f, KS W base Q P Bm B (some ad) cap a L o Ao co n f → Phi a o f ≤ 4000 → Calls Tryz.prog 76 (argsK j B) W (CutP base Q P Bm B (some ad) cap a L j 0 (wordK a j) W o Ao f)

set_option maxHeartbeats 2000000 in
set_option maxRecDepth 100000 in
theorem keep_join {w : World} {base Q P Bm B : Nat} {ad : Addr} {cap : Nat} {a : List Nd} {L : List Nat} {o : List Nd} {Ao : Option Addr} {co n : Nat} {f : Int → Option Value}
    (hl : Lie base Q P Bm B) (h : KS w base Q P Bm B (some ad) cap a L o Ao co n f) (hlen : a.length ≤ 4000) (k : Nat) (hk : k < a.length) (hf : f k = none) (hP : Phi a o f ≤ 4000)
    (j m : Nat) (hj : j < k) (hm : m < k) (hw : a[k].word.data.toList = []) (hxl : a[k].l = j) (hxr : a[k].r = m) (hxt : a[k].t = 0) (hd : wordK a k = wordK a j ++ wordK a m) (hsz : ((wordK a j).length : Int) + (wordK a m).length ≤ 1152921504606846976)
    (IH1 : KeepIH base Q P Bm B ad cap a L j) (IH2 : KeepIH base Q P Bm B ad cap a L m) :
    Calls Tryz.prog 76 (argsK k B) w (CutP base Q P Bm B (some ad) cap a L k 0 (wordK a k) w o Ao f) := by
  obtain ⟨M, hM⟩ := h.val
  obtain ⟨r1, r2⟩ := room hf hk hP
  have hlt := h.st.keep.lt
  have hcn := h.cnt
  have hlk := h.st.keep.memo.look_none Tryz.underlying102 (zero3 w) k (wf_nat (by omega)) hf
  have hc : w.cell? ⟨B + 3, 0, none⟩ = some (.map (some (B + 2))) := h.st.keep.known.cell 0
  have hc2 : w.cell? ⟨B, 0, none⟩ = some (.slice (some ad) a.length cap) := h.st.keep.rope.cell 0
  obtain ⟨ad', e, hx, hxs⟩ := h.st.rope k hk
  cases e
  have HEQ := Lib.hid hd
  have HSZ := Lib.hid hsz
  have HI1 := Lib.hid IH1
  have HI2 := Lib.hid IH2
  generalize a[k] = x at *
  obtain ⟨s, l, q, t⟩ := x
  obtain ⟨f0, f1, f2, f3⟩ := hx
  simp only at f0 f1 f2 f3 hw hxs hxl hxr hxt
  subst hxl hxr hxt
  have hB0 : Below w.heap.size w (w.alloc (.cells #[.string s, .int .i64 (j : Int), .int .i64 (m : Int), .int .i64 0] 68)) := (Below.refl _ _).alloc (Nat.le_refl _) _
  have hK := kindOf_any ⟨s, (j : Int), (m : Int), 0⟩ (w.alloc (.cells #[.string s, .int .i64 (j : Int), .int .i64 (m : Int), .int .i64 0] 68))
  rw [kindI_join hw rfl] at hK
  have hblk := Blk.new w 68 #[.string s, .int .i64 (j : Int), .int .i64 (m : Int), .int .i64 0]
  have H := Lib.hid h
  have HB0 := Lib.hid hB0
  have HBLK := Lib.hid hblk
  have HL := Lib.hid hl
  have HF := Lib.hid hf
  have HPP := Lib.hid hP
  clear h hB0 hf hw hblk hd hl hM hsz IH1 IH2 hP
  go_enter Tryz.func76, Tryz.ntmps76
  go_wp2_with fail
  refine hK.mono ?_; rintro e w1 ⟨rfl, hb⟩
  have hb1 := HB0.out.trans (hb.mono HB0.out.size)
  have s1 := H.out.st.on hb1
  have k1 : KS w1 base Q P Bm B (some ad) cap a L o Ao co n f := ⟨s1, H.out.val, H.out.know, H.out.cnt⟩
  have k2 : KS w1.drew base Q P Bm B (some ad) cap a L o Ao co n f := ⟨s1.on ((Below.refl _ w1).drewN 1), H.out.val, H.out.know, H.out.cnt⟩
  have hnb := HBLK.out.below hb (by simp)
  have hql := H.out.st.q.lt
  have p1 : w1.drew.cell? ⟨B + 1, 1, none⟩ = some (.func (.func 67) #[.pointer (some ⟨Q, 0, none⟩)] #[]) := s1.keep.mean.cell 1
  have p2 : w1.drew.cell? ⟨B + 4, 0, none⟩ = some (envV 76 B) := s1.keep.self.cell 0
  have p3 : w1.drew.cell? ⟨w.heap.size, 1, none⟩ = some (.int .i64 (j : Int)) := hnb.cell 1
  have p4 : w1.drew.cell? ⟨w.heap.size, 2, none⟩ = some (.int .i64 (m : Int)) := hnb.cell 2
  have HC1 := Lib.hid (HI1.out w1.drew o Ao co n f k2 HPP.out)
  have HNB := Lib.hid (hnb.gb (gb_drew w1 none) (by simp))
  have HRN := Lib.hid (row_lt H.out.st (Nat.le_refl w.heap.size))
  have HG1 := Lib.hid (SGrow.of_below (Q := Q) (B := B) (R := rowOf Ao) (w := w) (w' := w1.drew) (by have := hb1.drewN 1; exact ⟨this.os, this.tape, this.output, this.size, this.block⟩))
  have hwz : w.heap.size < w1.drew.heap.size := hnb.lt
  clear hb1 hb hlk hc hc2 f0 f1 f2 f3 hK s1 k1 k2 hnb
  go_wp2
  go_region_held3 (fun W => W.cell? ⟨B + 1, 1, none⟩ = some (.func (.func 67) #[.pointer (some ⟨Q, 0, none⟩)] #[]) ∧ W.cell? ⟨B + 4, 0, none⟩ = some (envV 76 B) ∧ W.cell? ⟨w.heap.size, 1, none⟩ = some (.int .i64 (j : Int)) ∧ W.cell? ⟨w.heap.size, 2, none⟩ = some (.int .i64 (m : Int)))
    (first | with_reducible exact ⟨p1, p2, p3, p4⟩ | with_reducible exact ⟨s1, s2, s3, s4⟩ | with_reducible exact ⟨q1, q2, q3, q4⟩ | with_reducible exact ⟨r1, r2, r3, r4⟩)
    (first
      | (go_at_call 76; ((with_reducible refine HC1.out.mono ?_); rintro e wa ⟨ia, oa, Aa, ca, na, fa, rfl, ka, xa, pa, ha, ua, _, ga⟩; have nba := ga.box HNB.out (by omega) (by omega) HRN.out; have s1 : wa.cell? ⟨B + 1, 1, none⟩ = some (.func (.func 67) #[.pointer (some ⟨Q, 0, none⟩)] #[]) := ka.st.keep.mean.cell 1; have s2 : wa.cell? ⟨B + 4, 0, none⟩ = some (envV 76 B) := ka.st.keep.self.cell 0; have s3 : wa.cell? ⟨w.heap.size, 1, none⟩ = some (.int .i64 (j : Int)) := nba.cell 1; have s4 : wa.cell? ⟨w.heap.size, 2, none⟩ = some (.int .i64 (m : Int)) := nba.cell 2; have HC2 := Lib.hid (HI2.out wa oa Aa ca na fa ka (Nat.le_trans pa HPP.out)); have HNA := Lib.hid nba; have HRA := Lib.hid (ga.row_ne hwz HRN.out); have HXA := Lib.hid xa; have HPA := Lib.hid pa; have HHA := Lib.hid ha; have HUA := Lib.hid ua; have HGA := Lib.hid (HG1.out.trans ga); have zwa : w.heap.size < wa.heap.size := nba.lt; clear nba ka xa pa ha ua ga p1 p2 p3 p4))
      | (go_at_call 76; ((with_reducible refine HC2.out.mono ?_); rintro e wb ⟨ib, ob, Ab, cb, nb, fb, rfl, kb, xb, pb, hb, ub, _, gb⟩; have nbb := gb.box HNA.out (by omega) (by omega) HRA.out; have q1 : wb.cell? ⟨B + 1, 1, none⟩ = some (.func (.func 67) #[.pointer (some ⟨Q, 0, none⟩)] #[]) := kb.st.keep.mean.cell 1; have q2 : wb.cell? ⟨B + 4, 0, none⟩ = some (envV 76 B) := kb.st.keep.self.cell 0; have q3 : wb.cell? ⟨w.heap.size, 1, none⟩ = some (.int .i64 (j : Int)) := nbb.cell 1; have q4 : wb.cell? ⟨w.heap.size, 2, none⟩ = some (.int .i64 (m : Int)) := nbb.cell 2; have hfk : fb k = none := (by rw [ub k (by omega), HUA.out k (by omega)]; exact HF.out); have hpb : Phi a ob fb ≤ Phi a o f := (by have := HPA.out; omega); have hrm := room hfk hk (Nat.le_trans hpb HPP.out); have HJ := Lib.hid (join_any (ia : Int) (ib : Int) kb.st HL.out.dis (by omega)); have HNB2 := Lib.hid nbb; have HRB := Lib.hid (gb.row_ne zwa HRA.out); have HKB := Lib.hid kb; have HXB := Lib.hid (ext_trans HXA.out xb); have HPB := Lib.hid hpb; have HHB := Lib.hid hb; have HHA2 := Lib.hid (HHA.out.moret xb); have HUB := Lib.hid (fun (i : Int) (hi : (k : Int) < i) => (ub i (by omega)).trans (HUA.out i (by omega))); have HFK := Lib.hid hfk; have HRM := Lib.hid hrm; have HGB := Lib.hid (HGA.out.trans gb); have zwb : w.heap.size < wb.heap.size := nbb.lt; clear nbb kb xb pb hb ub gb hfk hpb hrm s1 s2 s3 s4))
      | (go_at_call 67; ((with_reducible refine HJ.out.mono ?_); rintro e wc ⟨rfl, Ac, cc, sc, gc⟩; have nbc := gc.box HNB2.out (by omega) (by omega) HRB.out; have r1 : wc.cell? ⟨B + 1, 1, none⟩ = some (.func (.func 67) #[.pointer (some ⟨Q, 0, none⟩)] #[]) := sc.keep.mean.cell 1; have r2 : wc.cell? ⟨B + 4, 0, none⟩ = some (envV 76 B) := sc.keep.self.cell 0; have r3 : wc.cell? ⟨w.heap.size, 1, none⟩ = some (.int .i64 (j : Int)) := nbc.cell 1; have r4 : wc.cell? ⟨w.heap.size, 2, none⟩ = some (.int .i64 (m : Int)) := nbc.cell 2; have HSC := Lib.hid sc; have HGC := Lib.hid (HGB.out.trans gc); clear nbc sc gc q1 q2 q3 q4)))
  rename_i hHeld
  clear hHeld r1 r2 r3 r4
  obtain ⟨M9, hM9⟩ := HKB.out.val
  have HGR := Lib.hid (grown_join hM9 HRM.out.1 HHA2.out HHB.out HSZ.out)
  have ck : wc.cell? ⟨B + 3, 0, none⟩ = some (.map (some (B + 2))) := HSC.out.keep.known.cell 0
  have hnb : nb ≤ 4000 := by have h1 := HKB.out.cnt; have h2 := cntF_le a.length fb; omega
  clear hM9
  go_wp2_with (at_mapUpdate; refine wpList_mapUpdate_memo wc rfl _ _ _ 102 rfl 3 Tryz.underlying102 (B + 2) nb fb rfl HSC.out.keep.memo (by unfold maxLen; omega) k rfl (wf_nat (by omega)) (.int .i64 (ob.length : Int)) rfl ?_; intro w9 hm9 hg9)
  go_ret
  have hks := add_step (w' := wc) HKB.out HGR.out HSC.out
  exact keep_end HL.out hks.1 hk HFK.out (ext_trans HXB.out ⟨_, rfl⟩) (by rw [hks.2.2]; have := HPB.out; omega) (by rw [HEQ.out]; exact hks.2.1) (by simp) HUB.out HGC.out hg9 hm9 _ rfl

set_option maxHeartbeats 2000000 in
set_option maxRecDepth 100000 in
theorem keep_pow {w : World} {base Q P Bm B : Nat} {ad : Addr} {cap : Nat} {a : List Nd} {L : List Nat} {o : List Nd} {Ao : Option Addr} {co n : Nat} {f : Int → Option Value}
    (hl : Lie base Q P Bm B) (h : KS w base Q P Bm B (some ad) cap a L o Ao co n f) (hlen : a.length ≤ 4000) (k : Nat) (hk : k < a.length) (hf : f k = none) (hP : Phi a o f ≤ 4000)
    (j m : Nat) (hj : j < k) (hm : 1 ≤ m) (hw : a[k].word.data.toList = []) (hxl : a[k].l = j) (hxt : a[k].t = m) (hd : wordK a k = copies m (wordK a j)) (hu : 1 ≤ (wordK a j).length) (hsz : (m : Int) * (wordK a j).length ≤ 1152921504606846976)
    (IH1 : KeepIH base Q P Bm B ad cap a L j) :
    Calls Tryz.prog 76 (argsK k B) w (CutP base Q P Bm B (some ad) cap a L k 0 (wordK a k) w o Ao f) := by
  obtain ⟨M, hM⟩ := h.val
  obtain ⟨r1, r2⟩ := room hf hk hP
  have hlt := h.st.keep.lt
  have hcn := h.cnt
  have hlk := h.st.keep.memo.look_none Tryz.underlying102 (zero3 w) k (wf_nat (by omega)) hf
  have hc : w.cell? ⟨B + 3, 0, none⟩ = some (.map (some (B + 2))) := h.st.keep.known.cell 0
  have hc2 : w.cell? ⟨B, 0, none⟩ = some (.slice (some ad) a.length cap) := h.st.keep.rope.cell 0
  obtain ⟨ad', e, hx, hxs⟩ := h.st.rope k hk
  cases e
  have HEQ := Lib.hid hd
  have HSZ := Lib.hid hsz
  have HI1 := Lib.hid IH1
  have HU1 := Lib.hid hu
  generalize a[k] = x at *
  obtain ⟨s, l, q, t⟩ := x
  obtain ⟨f0, f1, f2, f3⟩ := hx
  simp only at f0 f1 f2 f3 hw hxs hxl hxt
  subst hxl hxt
  have hB0 : Below w.heap.size w (w.alloc (.cells #[.string s, .int .i64 (j : Int), .int .i64 q, .int .i64 (m : Int)] 68)) := (Below.refl _ _).alloc (Nat.le_refl _) _
  have hK := kindOf_any ⟨s, (j : Int), q, (m : Int)⟩ (w.alloc (.cells #[.string s, .int .i64 (j : Int), .int .i64 q, .int .i64 (m : Int)] 68))
  rw [kindI_pow hw (show (m : Int) ≠ 0 by omega)] at hK
  have hblk := Blk.new w 68 #[.string s, .int .i64 (j : Int), .int .i64 q, .int .i64 (m : Int)]
  have H := Lib.hid h
  have HB0 := Lib.hid hB0
  have HBLK := Lib.hid hblk
  have HL := Lib.hid hl
  have HF := Lib.hid hf
  have HPP := Lib.hid hP
  clear h hB0 hf hw hblk hd hl hM hsz IH1 hu hP
  go_enter Tryz.func76, Tryz.ntmps76
  go_wp2_with fail
  refine hK.mono ?_; rintro e w1 ⟨rfl, hb⟩
  have hb1 := HB0.out.trans (hb.mono HB0.out.size)
  have s1 := H.out.st.on hb1
  have k1 : KS w1 base Q P Bm B (some ad) cap a L o Ao co n f := ⟨s1, H.out.val, H.out.know, H.out.cnt⟩
  have k2 : KS w1.drew base Q P Bm B (some ad) cap a L o Ao co n f := ⟨s1.on ((Below.refl _ w1).drewN 1), H.out.val, H.out.know, H.out.cnt⟩
  have hnb := HBLK.out.below hb (by simp)
  have hql := H.out.st.q.lt
  have p1 : w1.drew.cell? ⟨B + 1, 2, none⟩ = some (.func (.func 68) #[.pointer (some ⟨Q, 0, none⟩)] #[]) := s1.keep.mean.cell 2
  have p2 : w1.drew.cell? ⟨B + 4, 0, none⟩ = some (envV 76 B) := s1.keep.self.cell 0
  have p3 : w1.drew.cell? ⟨w.heap.size, 1, none⟩ = some (.int .i64 (j : Int)) := hnb.cell 1
  have p4 : w1.drew.cell? ⟨w.heap.size, 3, none⟩ = some (.int .i64 (m : Int)) := hnb.cell 3
  have HC1 := Lib.hid (HI1.out w1.drew o Ao co n f k2 HPP.out)
  have HNB := Lib.hid (hnb.gb (gb_drew w1 none) (by simp))
  have HRN := Lib.hid (row_lt H.out.st (Nat.le_refl w.heap.size))
  have HG1 := Lib.hid (SGrow.of_below (Q := Q) (B := B) (R := rowOf Ao) (w := w) (w' := w1.drew) (by have := hb1.drewN 1; exact ⟨this.os, this.tape, this.output, this.size, this.block⟩))
  have hwz : w.heap.size < w1.drew.heap.size := hnb.lt
  clear hb1 hb hlk hc hc2 f0 f1 f2 f3 hK s1 k1 k2 hnb
  go_wp2
  go_region_held3 (fun W => W.cell? ⟨B + 1, 2, none⟩ = some (.func (.func 68) #[.pointer (some ⟨Q, 0, none⟩)] #[]) ∧ W.cell? ⟨B + 4, 0, none⟩ = some (envV 76 B) ∧ W.cell? ⟨w.heap.size, 1, none⟩ = some (.int .i64 (j : Int)) ∧ W.cell? ⟨w.heap.size, 3, none⟩ = some (.int .i64 (m : Int)))
    (first | with_reducible exact ⟨p1, p2, p3, p4⟩ | with_reducible exact ⟨q1, q2, q3, q4⟩ | with_reducible exact ⟨r1, r2, r3, r4⟩)
    (first
      | (go_at_call 76; ((with_reducible refine HC1.out.mono ?_); rintro e wb ⟨ib, ob, Ab, cb, nb, fb, rfl, kb, xb, pb, hb, ub, _, gb⟩; have nbb := gb.box HNB.out (by omega) (by omega) HRN.out; have q1 : wb.cell? ⟨B + 1, 2, none⟩ = some (.func (.func 68) #[.pointer (some ⟨Q, 0, none⟩)] #[]) := kb.st.keep.mean.cell 2; have q2 : wb.cell? ⟨B + 4, 0, none⟩ = some (envV 76 B) := kb.st.keep.self.cell 0; have q3 : wb.cell? ⟨w.heap.size, 1, none⟩ = some (.int .i64 (j : Int)) := nbb.cell 1; have q4 : wb.cell? ⟨w.heap.size, 3, none⟩ = some (.int .i64 (m : Int)) := nbb.cell 3; have hfk : fb k = none := (by rw [ub k (by omega)]; exact HF.out); have hpb : Phi a ob fb ≤ Phi a o f := pb; have hrm := room hfk hk (Nat.le_trans hpb HPP.out); have HJ := Lib.hid (power_any (ib : Int) (m : Int) kb.st HL.out.dis (by omega)); have HNB2 := Lib.hid nbb; have HRB := Lib.hid (gb.row_ne hwz HRN.out); have HKB := Lib.hid kb; have HXB := Lib.hid xb; have HPB := Lib.hid hpb; have HHB := Lib.hid hb; have HUB := Lib.hid (fun (i : Int) (hi : (k : Int) < i) => ub i (by omega)); have HFK := Lib.hid hfk; have HRM := Lib.hid hrm; have HGB := Lib.hid (HG1.out.trans gb); have zwb : w.heap.size < wb.heap.size := nbb.lt; clear nbb kb xb pb hb ub gb hfk hpb hrm p1 p2 p3 p4))
      | (go_at_call 68; ((with_reducible refine HJ.out.mono ?_); rintro e wc ⟨rfl, Ac, cc, sc, gc⟩; have nbc := gc.box HNB2.out (by omega) (by omega) HRB.out; have r1 : wc.cell? ⟨B + 1, 2, none⟩ = some (.func (.func 68) #[.pointer (some ⟨Q, 0, none⟩)] #[]) := sc.keep.mean.cell 2; have r2 : wc.cell? ⟨B + 4, 0, none⟩ = some (envV 76 B) := sc.keep.self.cell 0; have r3 : wc.cell? ⟨w.heap.size, 1, none⟩ = some (.int .i64 (j : Int)) := nbc.cell 1; have r4 : wc.cell? ⟨w.heap.size, 3, none⟩ = some (.int .i64 (m : Int)) := nbc.cell 3; have HSC := Lib.hid sc; have HGC := Lib.hid (HGB.out.trans gc); clear nbc sc gc q1 q2 q3 q4)))
  rename_i hHeld
  clear hHeld r1 r2 r3 r4
  obtain ⟨M9, hM9⟩ := HKB.out.val
  have HGR := Lib.hid (grown_pow hM9 HRM.out.1 HHB.out hm HU1.out HSZ.out)
  have ck : wc.cell? ⟨B + 3, 0, none⟩ = some (.map (some (B + 2))) := HSC.out.keep.known.cell 0
  have hnb : nb ≤ 4000 := by have h1 := HKB.out.cnt; have h2 := cntF_le a.length fb; omega
  clear hM9
  go_wp2_with (at_mapUpdate; refine wpList_mapUpdate_memo wc rfl _ _ _ 102 rfl 3 Tryz.underlying102 (B + 2) nb fb rfl HSC.out.keep.memo (by unfold maxLen; omega) k rfl (wf_nat (by omega)) (.int .i64 (ob.length : Int)) rfl ?_; intro w9 hm9 hg9)
  go_ret
  have hks := add_step (w' := wc) HKB.out HGR.out HSC.out
  exact keep_end HL.out hks.1 hk HFK.out (ext_trans HXB.out ⟨_, rfl⟩) (by rw [hks.2.2]; have := HPB.out; omega) (by rw [HEQ.out]; exact hks.2.1) (by simp) HUB.out HGC.out hg9 hm9 _ rfl

end Go.Proofs.YtgklmcinbaghmaaGreatDoor
