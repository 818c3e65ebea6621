/-
  Our own text, in the proofs of the laws of package disk (cayleylaw04). Proved here: record.add. Conditions: the record and the walk lie in memory beside each other; the move has been applied.
-/
import Derived.Test.YtbcckfggnlmhoaaLa
import Derived.Test.YtbcckfggnlmhoaaEa
import Derived.StillTailTactics
import Derived.Deep.RegionHeld3
namespace Go.Proofs.Ytbcckfggnlmhoaa
open Go Go.RowKit

/-- How add ends: a cell more. -/
def AddP (B rb : Nat) (O C : Option Addr) (r : List UInt8) (q : Nat) (ds : List Cel) (L : Nat) (c : Cel) (w : World) (e : Ending) (w' : World) : Prop :=
  e = .returned (.tuple #[]) ∧ ∃ O' oc' C' cc', RecAt B rb O' oc' C' cc' r q (ds ++ [c]) (L + c.conj.length) w' ∧ Touch (RecS rb O C) w w' ∧ Moved w O O' ∧ Moved w C C'

/-- The last steps of add: the letters counted, the cell behind the others. -/
theorem RecAt.last {B rb : Nat} {O : Option Addr} {oc : Nat} {C : Option Addr} {cc : Nat} {r : List UInt8} {a : Nat} {ds : List Cel} {L : Nat} {W W5 W6 : World} (h : RecAt B rb O oc C cc r a ds L W) {C' : Option Addr} {cc' : Nat} {c : Cel} (L' : Nat) (h5 : W5 = W.setCell ⟨rb, 3, none⟩ (.int .i64 L'))
    (hg : W5.grownBy W6 (blk C)) (hown : W6.ownsRow B 61 3 (.slice C' (ds ++ [c]).length cc') (ds ++ [c]).length (cs3 (ds ++ [c]))) (hm : Moved W5 C C') :
    RecAt B rb O oc C' cc' r a (ds ++ [c]) L' (W6.setCell ⟨rb, 2, none⟩ (.slice C' (ds ++ [c]).length cc')) ∧ Touch (RecS rb O C) W (W6.setCell ⟨rb, 2, none⟩ (.slice C' (ds ++ [c]).length cc')) ∧ Moved W C C' := by
  subst h5
  have hlo := h.front.lo
  have hs5 := World.size_setCell W ⟨rb, 3, none⟩ (.int .i64 L')
  have hCr : blk C ≠ some rb := fun e => by have := (blk_lt h.own _ e).1; omega
  have b6 := hg.block rb (by rw [hs5]; exact h.front.lt) (fun e => hCr e.symm)
  have x2 : (W.setCell ⟨rb, 3, none⟩ (.int .i64 L')).cell? ⟨rb, 2, none⟩ = some (.slice C ds.length cc) := by rw [World.cell?_setCell_other (h := by simp)]; exact h.c2
  have x3 : (W.setCell ⟨rb, 3, none⟩ (.int .i64 L')).cell? ⟨rb, 3, none⟩ = some (.int .i64 L') := World.cell?_setCell_same _ _ _ h.c3
  have hkey : ∀ k, k < W.heap.size → k ≠ rb → blk C ≠ some k → (W6.setCell ⟨rb, 2, none⟩ (.slice C' (ds ++ [c]).length cc')).heap[k]? = W.heap[k]? := fun k hk h1 h2 => by
    rw [heap_setCell_other W6 ⟨rb, 2, none⟩ k _ (fun e => h1 e), hg.block k (by rw [hs5]; exact hk) (fun e => h2 e.symm), heap_setCell_other W ⟨rb, 3, none⟩ k _ (fun e => h1 e)]
  have hf : ∀ i, (W6.setCell ⟨rb, 2, none⟩ (.slice C' (ds ++ [c]).length cc')).frozen? ⟨rb, i, none⟩ = W.frozen? ⟨rb, i, none⟩ := fun i => by
    rw [World.frozen?_setCell, frozen_same b6 i, World.frozen?_setCell]
  have hc : ∀ i, i ≠ 2 → i ≠ 3 → (W6.setCell ⟨rb, 2, none⟩ (.slice C' (ds ++ [c]).length cc')).cell? ⟨rb, i, none⟩ = W.cell? ⟨rb, i, none⟩ := fun i h2 h3 => by
    rw [World.cell?_setCell_other (h := by intro e; cases e; exact h2 rfl), cell_same b6 i, World.cell?_setCell_other (h := by intro e; cases e; exact h3 rfl)]
  have hs6 : W.heap.size ≤ W6.heap.size := by have := hg.size; omega
  have hmw : Moved W C C' := by
    rcases hm with hm | hm
    · exact .inl hm
    · exact .inr fun k hk => by have := hm k hk; omega
  refine ⟨⟨⟨(hc 0 (by omega) (by omega)).trans h.front.c0, (hc 1 (by omega) (by omega)).trans h.front.c1, (hf 0).trans h.front.f0, (hf 1).trans h.front.f1, own_same h.front.own (fun k hk => ?_), hlo, by rw [World.size_setCell]; exact Nat.le_trans h.front.hi hs6⟩, World.cell?_setCell_same _ _ _ ((cell_same b6 2).trans x2), ?_, (hf 2).trans h.f2, (hf 3).trans h.f3, ?_, fun k hk e => ?_⟩, ⟨?_, ?_, ?_, ?_, fun k hk hs => ?_⟩, hmw⟩
  · rw [ownBlock_slice] at hk
    have hkl := blk_lt h.front.own _ hk
    exact hkey k hkl.2 (by omega) (fun e => h.ne k hk e)
  · rw [World.cell?_setCell_other (h := by simp), cell_same b6 3]; exact x3
  · refine own_same hown (fun k hk => ?_)
    rw [ownBlock_slice] at hk
    have hkl := blk_lt hown _ hk
    rw [heap_setCell_other W6 ⟨rb, 2, none⟩ k _ (fun e => by have : k = rb := e; omega)]
  · rcases hmw with hm | hm
    · exact h.ne k hk (hm ▸ e)
    · have := hm k e; have := (blk_lt h.front.own _ hk).2; omega
  · exact hg.os
  · exact hg.tape
  · exact hg.output
  · rw [World.size_setCell]; exact hs6
  · exact hkey k hk (fun e => hs (.inl e)) (fun e => hs (.inr (.inr e)))

set_option maxHeartbeats 8000000 in
set_option maxRecDepth 100000 in
theorem add_any {F : Gh} (w1 : World) (p : Pr) (R : Option Addr) (rc kb mb g cap : Nat) (y : List UInt8) (W : World) (hk : WkAt F w1 p R rc kb mb g cap y W) (hp : presB p = true) (hr : RelsAt w1 R p.rels) (B rb : Nat) (O : Option Addr) (oc : Nat) (C : Option Addr) (cc a : Nat) (ds : List Cel) (L : Nat)
    (hR : RecAt B rb O oc C cc (run [] (y.take a)) a ds L W) (ha : a ≤ y.length) (ho : Off (RecS rb O C) kb mb g) (hw1 : w1.heap.size ≤ rb) (hl : y.length ≤ 100000) (hL : L ≤ 1000000) (hds : ds.length ≤ 100000)
    (m : Mv) (hm0 : 0 ≤ m.pos) (hm1 : m.pos ≤ y.length) (hrel : isRelB p m.rel = true) (hs0 : 0 ≤ m.shift) (hs1 : m.shift < (relOf p m.rel m.inv).length) (hkd : isRM m = true) :
    Calls Try.prog 65 #[.pointer (some ⟨rb, 0, none⟩), .pointer (some ⟨kb, 0, none⟩), mvV m] W (AddP B rb O C (run [] (y.take m.pos.toNat)) m.pos.toNat ds L (cellM p y m) W) := by
  obtain ⟨mk, mp, ml, mr, ms, mi⟩ := m
  simp only at hm0 hm1 hrel hs0 hs1
  obtain ⟨q, rfl⟩ := Int.eq_ofNat_of_zero_le hm0
  obtain ⟨s, rfl⟩ := Int.eq_ofNat_of_zero_le hs0
  have hq : q ≤ y.length := by omega
  have hst : s < (relOf p mr mi).length := by omega
  have hk34 : mk = 3 ∨ mk = 4 := by simpa [isRM] using hkd
  have HT2 := Lib.hid (relOf_len hp hrel mi)
  have HP := Lib.hid hp
  have HREL := Lib.hid hrel
  have HRS := Lib.hid hr
  have hb0 := (Boxd.start W #[.int .i64 mk, .int .i64 q, .int .i64 ml, .int .i64 mr, .int .i64 s, .bool mi] 52)
  have HBX := Lib.hid hb0
  have HB0 := Lib.hid hb0.old
  have HK := Lib.hid (hk.below hb0.old)
  have HR := Lib.hid (hR.below hb0.old)
  have HRE : Hid (run [] (y.take q) = (red (y.take q)).reverse) := Lib.hid (by show _ = (run [] _).reverse.reverse; rw [List.reverse_reverse])
  have HO := Lib.hid ho
  have hszW : W.heap.size < (W.alloc (.cells #[.int .i64 mk, .int .i64 q, .int .i64 ml, .int .i64 mr, .int .i64 s, .bool mi] 52)).heap.size := by simp
  have HSZ := Lib.hid hszW
  have c3 : (W.alloc (.cells #[.int .i64 mk, .int .i64 q, .int .i64 ml, .int .i64 mr, .int .i64 s, .bool mi] 52)).cell? ⟨rb, 3, none⟩ = some (.int .i64 L) := HR.out.c3
  have HLT := Lib.hid hR.lt
  clear hb0 hk hR hp hr hrel ho hszW hm0 hs0 hkd
  show Calls Try.prog 65 #[.pointer (some ⟨rb, 0, none⟩), .pointer (some ⟨kb, 0, none⟩), .agg #[.int .i64 mk, .int .i64 q, .int .i64 ml, .int .i64 mr, .int .i64 s, .bool mi]] W (AddP B rb O C (run [] (y.take q)) q ds L (cellM p y ⟨mk, q, ml, mr, s, mi⟩) W)
  have hIO := isOver_any rb L (W.alloc (.cells #[.int .i64 mk, .int .i64 q, .int .i64 ml, .int .i64 mr, .int .i64 s, .bool mi] 52)) c3
  have hd1 : decide ((1000000 : Int) < (L : Int)) = false := by simp; omega
  have hd2 : decide (1000000 < L) = false := by simp; omega
  go_enter Try.func65, Try.ntmps65
  go_wp2_with fail
  generalize W.alloc (.cells #[.int .i64 mk, .int .i64 q, .int .i64 ml, .int .i64 mr, .int .i64 s, .bool mi] 52) = W0 at *
  have hdr : Below W0.heap.size W0 W0.drew := (Below.refl _ W0).drewN 1
  have hS := seek_any B rb O oc g cap y a q W0.drew (HR.out.below hdr).front (HK.out.below hdr).word ha hq (fun e => HO.out.2.2 (.inr (.inl e))) hl
  refine hIO.mono ?_
  rintro e1 wx ⟨rfl, rfl⟩
  have hb1 : W0.cell? ⟨W.heap.size, 1, none⟩ = some (.int .i64 q) := HBX.out.cell 1
  have hk2 : W0.cell? ⟨kb, 1 + 1, none⟩ = some (.slice (some ⟨g, 0, none⟩) y.length cap) := HK.out.c2
  clear hIO c3
  go_wp2_with fail
  go_still_tail 9, (by kernel_rfl)
  change wpList _ _ _ _ _ W0.drew
  go_wp2_with fail
  refine hS.mono ?_
  rintro e2 w2 ⟨rfl, O', oc', hf2, ht2, hm2, hr2⟩
  have HR2 := Lib.hid ((HR.out.below hdr).moved hf2 ht2 hm2 hr2)
  have HT2W : Hid (Touch (RecS rb O C) W w2) := Lib.hid ((Touch.of_below (RecS rb O C) (HB0.out.trans (hdr.mono HB0.out.size))).trans ht2 (fun k _ hk => hk.elim .inl (fun h => .inr (.inl h))))
  have HM2 : Hid (Moved W O O') := Lib.hid (Moved.trans (Moved.refl W O) hm2 HB0.out.size)
  have HK2 := Lib.hid ((HK.out.below hdr).touch ht2 ⟨fun h => HO.out.1 (h.elim .inl (fun h => .inr (.inl h))), fun h => HO.out.2.1 (h.elim .inl (fun h => .inr (.inl h))), fun h => HO.out.2.2 (h.elim .inl (fun h => .inr (.inl h)))⟩ (fun k h => Nat.le_trans hw1 (HR.out.ge k (h.elim .inl (fun h => .inr (.inl h))))))
  have hbx : w2.heap[W.heap.size]? = W0.drew.heap[W.heap.size]? := ht2.block W.heap.size HSZ.out (fun h => absurd (HLT.out W.heap.size (h.elim .inl (fun h => .inr (.inl h)))) (Nat.lt_irrefl _))
  have HBC : Hid (∀ i, w2.cell? ⟨W.heap.size, i, none⟩ = (#[.int .i64 mk, .int .i64 q, .int .i64 ml, .int .i64 mr, .int .i64 s, .bool mi] : Array Value)[i]?) := Lib.hid (fun i => (cell_same hbx i).trans ((HBX.out.drewN 1).cell i))
  have HSZ2 : Hid (W.heap.size < w2.heap.size) := Lib.hid (Nat.lt_of_lt_of_le HSZ.out ht2.size)
  clear hS hb1 hk2 hf2 ht2 hm2 hr2 hbx
  have hb3 : w2.cell? ⟨W.heap.size, 3, none⟩ = some (.int .i64 mr) := HBC.out 3
  have hb5 : w2.cell? ⟨W.heap.size, 5, none⟩ = some (.bool mi) := HBC.out 5
  have hk0 : w2.cell? ⟨kb, 0, none⟩ = some (.int .i64 p.k) := HK2.out.c0
  have hk1 : w2.cell? ⟨kb, 1, none⟩ = some (.slice R p.rels.length rc) := HK2.out.c1
  go_wp2_with fail
  go_still_tail 8, (by kernel_rfl)
  change wpList _ _ _ _ _ w2.drew
  have hT := relatorO_any p R rc mr mi w2.drew HP.out HREL.out (HRS.out.below (HK2.out.old.drewN 1))
  go_wp2_with fail
  refine hT.mono ?_
  rintro e3 w3 ⟨tg, tc, rfl, hrow, htc, htm, htg, hb4⟩
  have HB3 : Hid (Below w2.heap.size w2 w3) := Lib.hid (((Below.refl _ w2).drewN 1).trans hb4)
  have HR3 := Lib.hid (HR2.out.below HB3.out)
  have HBC3 : Hid (∀ i, w3.cell? ⟨W.heap.size, i, none⟩ = (#[.int .i64 mk, .int .i64 q, .int .i64 ml, .int .i64 mr, .int .i64 s, .bool mi] : Array Value)[i]?) := Lib.hid (fun i => (HB3.out.cell (p := ⟨W.heap.size, i, none⟩) HSZ2.out).trans (HBC.out i))
  have HROW := Lib.hid hrow
  have hrl : (run [] (y.take q)).length ≤ 100000 := by
    have := run_len [] (y.take q); rw [List.length_take] at this; simp only [List.length_nil] at this; omega
  have htg3 : tg < w3.drew.heap.size := by
    obtain ⟨b, o, hA, hc⟩ := hrow 0 (by omega)
    cases hA
    exact lt_of_cell hc
  have hdr3 : Below w3.heap.size w3 w3.drew := (Below.refl _ w3).drewN 1
  have HCJ : Hid (cellM p y ⟨mk, q, ml, mr, s, mi⟩ = ⟨(run (run [] (y.take q)) (invW ((relOf p mr mi).take s))).reverse, mr, mi != decide (mk = 3)⟩) := Lib.hid (by
    unfold cellM
    simp only [Int.toNat_natCast]
    congr 1
    show (grun invc [] (y.take q ++ _)).reverse = _
    rw [grun_app])
  have hCC := conj_calls B O' oc' (run [] (y.take q)) tg tc s (relOf p mr mi) w3.drew (HR3.out.below hdr3).front.own (HROW.out.below hdr3) htg3 (by omega) hrl HT2.out
  have HCL : Hid ((run (run [] (y.take q)) (invW ((relOf p mr mi).take s))).reverse.length ≤ 200000) := Lib.hid (by
    rw [List.length_reverse]
    have h1 := run_len (run [] (y.take q)) (invW ((relOf p mr mi).take s))
    have h2 : (invW ((relOf p mr mi).take s)).length = ((relOf p mr mi).take s).length := ginv_len _ _
    rw [List.length_take] at h2
    have := HT2.out
    omega)
  have htc2 : (s : Int) ≤ (tc : Int) := by omega
  have htc3 : s ≤ tc := by omega
  have htm2 : tc ≤ 9223372036854775807 := by unfold maxLen at htm; omega
  generalize (run (run [] (y.take q)) (invW ((relOf p mr mi).take s))).reverse = cj at *
  generalize run [] (y.take q) = r at *
  generalize relOf p mr mi = t at *
  clear hT hb4 hb3 hb5 hk0 hk1 hrow htm htg htg3 hrl
  have HCC := Lib.hid hCC
  clear hCC
  have e1 : w3.drew.cell? ⟨rb, 1, none⟩ = some (.slice O' r.length oc') := HR3.out.front.c1
  have e2 : w3.drew.cell? ⟨W.heap.size, 4, none⟩ = some (.int .i64 s) := HBC3.out 4
  have HS3 : Hid (W.heap.size < w3.drew.heap.size) := Lib.hid (Nat.lt_of_lt_of_le HSZ2.out HB3.out.size)
  have HRB : Hid (rb < w3.drew.heap.size) := Lib.hid HR3.out.front.lt
  have HSK : Hid (∀ X, Below w3.drew.heap.size w3.drew X → X.cell? ⟨rb, 1, none⟩ = some (.slice O' r.length oc') ∧ X.cell? ⟨W.heap.size, 4, none⟩ = some (.int .i64 s)) := Lib.hid (fun X hX => ⟨(hX.cell (p := ⟨rb, 1, none⟩) HRB.out).trans e1, (hX.cell (p := ⟨W.heap.size, 4, none⟩) HS3.out).trans e2⟩)
  go_wp2_with fail
  go_region_held3 (fun X => X.cell? ⟨rb, 1, none⟩ = some (.slice O' r.length oc') ∧ X.cell? ⟨W.heap.size, 4, none⟩ = some (.int .i64 s))
    (first | with_reducible exact ⟨e1, e2⟩ | with_reducible exact ⟨f1, f2⟩ | with_reducible exact ⟨g1, g2⟩ | with_reducible exact ⟨k1, k2⟩)
    (first
    | (go_at_call 51; ((with_reducible refine HCC.out.mono ?_); rintro e wA ⟨A5, c5, rfl, hbA, hCA⟩; obtain ⟨f1, f2⟩ := HSK.out wA hbA; have HCA := Lib.hid hCA; clear hbA hCA e1 e2))
    | (go_at_call 77; ((with_reducible refine HCA.out.mono ?_); rintro e wB ⟨A6, c6, rfl, hbB, hCB⟩; obtain ⟨g1, g2⟩ := HSK.out wB hbB; have HCB := Lib.hid hCB; clear hbB hCB f1 f2))
    | (go_at_call 50; ((with_reducible refine HCB.out.mono ?_); rintro e wC ⟨A7, c7, rfl, hrow7, hbC, hf7⟩; have HF7 := Lib.hid hf7; clear hf7; obtain ⟨k1, k2⟩ := HSK.out wC hbC; have HROW7 := Lib.hid hrow7; have HBC7 := Lib.hid hbC; clear hrow7 hbC g1 g2)))
  all_goals (
    rename_i hHeld
    clear hHeld
    have HRC := Lib.hid ((HR3.out.below hdr3).below HBC7.out)
    have HBC5 : Hid (∀ i, wC.cell? ⟨W.heap.size, i, none⟩ = (#[.int .i64 mk, .int .i64 q, .int .i64 ml, .int .i64 mr, .int .i64 s, .bool mi] : Array Value)[i]?) := Lib.hid (fun i => (HBC7.out.cell (p := ⟨W.heap.size, i, none⟩) HS3.out).trans (HBC3.out i))
    have HFAR : Hid (∀ b o, A7 = some ⟨b, o, none⟩ → b ≠ rb ∧ blk C ≠ some b) := Lib.hid (fun b o hA => by have h1 := HF7.out b o hA; have h2 := HRB.out; exact ⟨by omega, fun e => by have h3 := HR3.out.lt b (.inr (.inr e)); exact absurd (Nat.lt_of_lt_of_le h3 h1) (Nat.lt_irrefl _)⟩)
    have HTW : Hid (Touch (RecS rb O C) W wC) := Lib.hid (HT2W.out.trans (Touch.of_below (fun _ => False) (HB3.out.trans ((hdr3.trans HBC7.out).mono HB3.out.size))) (fun _ _ h => h.elim))
    have HSW : Hid (W.heap.size ≤ wC.heap.size) := Lib.hid HTW.out.size
    have HSO : Hid (∀ k, k < W.heap.size → RecS rb O' C k → RecS rb O C k) := Lib.hid (fun k hk h => by
      rcases h with h | h | h
      · exact .inl h
      · rcases HM2.out with hm | hm
        · exact .inr (.inl (hm ▸ h))
        · have := hm k h; omega
      · exact .inr (.inr h))
    have k3 : wC.cell? ⟨rb, 3, none⟩ = some (.int .i64 L) := HRC.out.c3
    have kf3 : wC.frozen? ⟨rb, 3, none⟩ = false := HRC.out.f3
    have hcl := HCL.out
    obtain ⟨i0, hi, hz0, hz1, hz2⟩ := info_parts Try.info61
    go_wp2_with fail
    generalize hw5 : wC.setCell ⟨rb, 3, none⟩ (.int .i64 ((L : Int) + (cj.length : Int))) = w5 at *
    have HW5 : Hid (w5 = wC.setCell ⟨rb, 3, none⟩ (.int .i64 ((L + cj.length : Nat) : Int))) := Lib.hid hw5.symm
    have hs5 : w5.heap.size = wC.heap.size := by rw [← hw5, World.size_setCell]
    have HS5 := Lib.hid hs5
    have hh5 : ∀ k, k ≠ rb → w5.heap[k]? = wC.heap[k]? := fun k hne => by rw [← hw5, heap_setCell_other wC ⟨rb, 3, none⟩ k _ (fun e => hne e)]
    have HH5 := Lib.hid hh5
    have d2 : w5.drew.cell? ⟨rb, 2, none⟩ = some (.slice C ds.length cc) := by
      show w5.cell? _ = _
      rw [← hw5, World.cell?_setCell_other (h := by simp)]; exact HRC.out.c2
    have df2 : w5.frozen? ⟨rb, 2, none⟩ = false := by rw [← hw5, World.frozen?_setCell]; exact HRC.out.f2
    have hbr : W.heap.size ≠ rb := fun e => by have := HLT.out rb (.inl rfl); omega
    have x0 : w5.drew.cell? ⟨W.heap.size, 0, none⟩ = some (.int .i64 mk) := (cell_same (hh5 _ hbr) 0).trans (HBC5.out 0)
    have x3 : w5.drew.cell? ⟨W.heap.size, 3, none⟩ = some (.int .i64 mr) := (cell_same (hh5 _ hbr) 3).trans (HBC5.out 3)
    have x5 : w5.drew.cell? ⟨W.heap.size, 5, none⟩ = some (.bool mi) := (cell_same (hh5 _ hbr) 5).trans (HBC5.out 5)
    have hrow5 : RowAt w5.drew A7 cj := fun i hi => by
      obtain ⟨b, o, hA, hc⟩ := HROW7.out i hi
      refine ⟨b, o, hA, ?_⟩
      show w5.cell? _ = _
      rw [← hw5]
      refine (World.cell?_setCell_other wC ⟨rb, 3, none⟩ ⟨b, o + i, none⟩ _ ?_).trans hc
      intro e
      have e1 : rb = b := by injection e
      exact (HFAR.out b o hA).1 e1.symm
    have hrs := run_string_row w5.drew A7 c7 cj hrow5
    have HO5 : Hid (w5.ownsRow B 61 3 (.slice C ds.length cc) ds.length (cs3 ds)) := Lib.hid (own_same HRC.out.own (fun k hk => hh5 k (fun e => by rw [ownBlock_slice] at hk; have := (blk_lt HRC.out.own _ hk).1; have := HRC.out.front.lo; omega)))
    have hB5 : B ≤ w5.heap.size := by rw [hs5]; exact HRC.out.front.hi
    have hrb5 : rb < w5.heap.size := by rw [hs5]; exact HRC.out.front.lt
    have HCV : Hid (∀ X : World, (∀ k, k < w5.heap.size → k ≠ rb → blk C ≠ some k → X.heap[k]? = w5.heap[k]?) → X.cell? ⟨W.heap.size, 0, none⟩ = some (.int .i64 mk) ∧ X.cell? ⟨W.heap.size, 3, none⟩ = some (.int .i64 mr) ∧ X.cell? ⟨W.heap.size, 5, none⟩ = some (.bool mi) ∧ (convert 58 9 (.slice A7 cj.length c7)).run Try.prog X = .ok (.string ⟨cj.toArray⟩) X) := Lib.hid (fun X hX => by
      have hbb := hX W.heap.size (lt_of_cell x0) hbr (fun e => absurd (HLT.out _ (.inr (.inr e))) (Nat.lt_irrefl _))
      refine ⟨(cell_same hbb 0).trans x0, (cell_same hbb 3).trans x3, (cell_same hbb 5).trans x5, run_string_row X A7 c7 cj (fun i hi => ?_)⟩
      obtain ⟨b, o, hA, hc⟩ := hrow5 i hi
      exact ⟨b, o, hA, (cell_same (hX b (lt_of_cell hc) (HFAR.out b o hA).1 (HFAR.out b o hA).2) _).trans hc⟩)
    have d2' : w5.cell? ⟨rb, 2, none⟩ = some (.slice C ds.length cc) := d2
    clear hw5 hs5 hh5 hrow5 hrs x0 x3 x5
    rcases hk34 with rfl | rfl <;> cases mi
    · have HCJ2 : Hid (cellM p y ⟨3, q, ml, mr, s, false⟩ = ⟨cj, mr, true⟩) := Lib.hid (by rw [HCJ.out]; rfl)
      have HNW := Lib.hid (cells_news (cellOne w5 cj mr true 61 (by omega)))
      have HS6 : Hid ((w5.alloc (.cells (celC cj mr true) 61)).drew.heap.size = w5.heap.size + 1) := Lib.hid (by show (w5.alloc _).heap.size = _; simp)
      have HO6 : Hid ((w5.alloc (.cells (celC cj mr true) 61)).drew.ownsRow B 61 3 (.slice C ds.length cc) ds.length (cs3 ds)) := Lib.hid (HO5.out.alloc _)
      have hal : Below w5.heap.size w5 (w5.alloc (.cells (celC cj mr true) 61)) := (Below.refl _ _).alloc (Nat.le_refl _) _
      have dA : (w5.alloc (.cells (celC cj mr true) 61)).drew.cell? ⟨rb, 2, none⟩ = some (.slice C ds.length cc) := (hal.cell (p := ⟨rb, 2, none⟩) hrb5).trans d2
      have S1 := HCV.out w5.drew (fun _ _ _ _ => rfl)
      have S2 := HCV.out (w5.alloc (.cells (celC cj mr true) 61)).drew (fun k hk _ _ => hal.block k hk)
      have HRF : Hid (∀ X, (w5.alloc (.cells (celC cj mr true) 61)).drew.grownBy X (Value.slice C ds.length cc).ownBlock → X.cell? ⟨rb, 2, none⟩ = some (.slice C ds.length cc) ∧ X.frozen? ⟨rb, 2, none⟩ = false ∧ w5.grownBy X (blk C)) := Lib.hid (fun X hX => by
        rw [ownBlock_slice] at hX
        have g1 := grown_trans (A := C) (A1 := C) (World.grownBy_alloc w5 (.cells (celC cj mr true) 61) (blk C)) (grown_drew hX) (.inl rfl)
        have hb := g1.block rb hrb5 (fun e => by have := (blk_lt HRC.out.own rb e.symm).1; have := HRC.out.front.lo; omega)
        exact ⟨(cell_same hb 2).trans d2, (frozen_same hb 2).trans df2, g1⟩)
      have HS1 := Lib.hid S1
      have HS2 := Lib.hid S2
      clear hrb5 hal S1 S2
      refine wp_region_held_drew (S := fun X => X.cell? ⟨W.heap.size, 0, none⟩ = some (.int .i64 3) ∧ X.cell? ⟨W.heap.size, 3, none⟩ = some (.int .i64 mr) ∧ X.cell? ⟨W.heap.size, 5, none⟩ = some (.bool false) ∧ (convert 58 9 (.slice A7 cj.length c7)).run Try.prog X = .ok (.string ⟨cj.toArray⟩) X) (by kernel_rfl) HS1.out (fun hHeld => ?_)
      refine wpAnyH_take (i := 0) (v := .pointer (some ⟨rb, 0, none⟩)) rfl (by kernel_rfl) (by kernel_rfl) (by kernel_rfl) (fun _ _ _ h => h) (Or.inl ⟨by rfl, by intro w hSw; (try dsimp only at hSw); go_simp⟩) (by assumption) ?_
      refine wpAnyH_take (i := 1) (v := .pointer (some ⟨rb, 0, none⟩)) rfl (by kernel_rfl) (by kernel_rfl) (by kernel_rfl) (fun _ _ _ h => h) (Or.inl ⟨by rfl, by intro w hSw; (try dsimp only at hSw); go_simp⟩) (by assumption) ?_
      refine wpAnyH_take (i := 2) (v := .pointer (some ⟨rb, 0, none⟩)) rfl (by kernel_rfl) (by kernel_rfl) (by kernel_rfl) (fun _ _ _ h => h) (Or.inl ⟨by rfl, by intro w hSw; (try dsimp only at hSw); go_simp⟩) (by assumption) ?_
      refine wpAnyH_take (i := 3) (v := .pointer (some ⟨rb, 2, none⟩)) rfl (by kernel_rfl) (by kernel_rfl) (by kernel_rfl) (fun _ _ _ h => h) (Or.inl ⟨by rfl, by intro w hSw; (try dsimp only at hSw); go_simp⟩) (by assumption) ?_
      refine wpAnyH_take (i := 5) (v := .slice A7 cj.length c7) rfl (by kernel_rfl) (by kernel_rfl) (by kernel_rfl) (fun _ _ _ h => h) (Or.inl ⟨by rfl, by intro w hSw; (try dsimp only at hSw); go_simp⟩) (by assumption) ?_
      refine wpAnyH_take (i := 6) (v := .string ⟨cj.toArray⟩) rfl (by kernel_rfl) (by kernel_rfl) (by kernel_rfl) (fun _ _ _ h => h) (Or.inl ⟨by rfl, by intro w hSw; (try dsimp only at hSw); go_simp⟩) (by assumption) ?_
      refine wpAnyH_take (i := 7) (v := .pointer (some ⟨W.heap.size, 3, none⟩)) rfl (by kernel_rfl) (by kernel_rfl) (by kernel_rfl) (fun _ _ _ h => h) (Or.inl ⟨by rfl, by intro w hSw; (try dsimp only at hSw); go_simp⟩) (by assumption) ?_
      refine wpAnyH_take (i := 8) (v := .int .i64 mr) rfl (by kernel_rfl) (by kernel_rfl) (by kernel_rfl) (fun _ _ _ h => h) (Or.inl ⟨by rfl, by intro w hSw; (try dsimp only at hSw); go_simp⟩) (by assumption) ?_
      refine wpAnyH_take (i := 9) (v := .pointer (some ⟨W.heap.size, 5, none⟩)) rfl (by kernel_rfl) (by kernel_rfl) (by kernel_rfl) (fun _ _ _ h => h) (Or.inl ⟨by rfl, by intro w hSw; (try dsimp only at hSw); go_simp⟩) (by assumption) ?_
      refine wpAnyH_take (i := 10) (v := .bool false) rfl (by kernel_rfl) (by kernel_rfl) (by kernel_rfl) (fun _ _ _ h => h) (Or.inl ⟨by rfl, by intro w hSw; (try dsimp only at hSw); go_simp⟩) (by assumption) ?_
      refine wpAnyH_take (i := 11) (v := .pointer (some ⟨W.heap.size, 0, none⟩)) rfl (by kernel_rfl) (by kernel_rfl) (by kernel_rfl) (fun _ _ _ h => h) (Or.inl ⟨by rfl, by intro w hSw; (try dsimp only at hSw); go_simp⟩) (by assumption) ?_
      refine wpAnyH_take (i := 12) (v := .int .i64 3) rfl (by kernel_rfl) (by kernel_rfl) (by kernel_rfl) (fun _ _ _ h => h) (Or.inl ⟨by rfl, by intro w hSw; (try dsimp only at hSw); go_simp⟩) (by assumption) ?_
      refine wpAnyH_take (i := 13) (v := .bool true) rfl (by kernel_rfl) (by kernel_rfl) (by kernel_rfl) (fun _ _ _ h => h) (Or.inl ⟨by rfl, by intro w hSw; (try dsimp only at hSw); go_simp⟩) (by assumption) ?_
      refine wpAnyH_take (i := 14) (v := .bool true) rfl (by kernel_rfl) (by kernel_rfl) (by kernel_rfl) (fun _ _ _ h => h) (Or.inl ⟨by rfl, by intro w hSw; (try dsimp only at hSw); go_simp⟩) (by assumption) ?_
      refine wpAnyH_take (i := 15) (v := .agg #[.string ⟨cj.toArray⟩, .int .i64 mr, .bool true]) rfl (by kernel_rfl) (by kernel_rfl) (by kernel_rfl) (fun _ _ _ h => h) (Or.inl ⟨by rfl, by intro w hSw; (try dsimp only at hSw); go_simp⟩) (by assumption) ?_
      refine wpAnyH_ready (rs := [4, 16]) (by kernel_rfl) (by simp) ?_
      refine AllReadyH.cons rfl (fun K hK => ?_) (AllReadyH.cons rfl (fun K hK => ?_) (AllReadyH.nil))
      · go_simp
        refine hK.out _ _ (HS1.out) (fun hHeld => ?_)
        clear hK K
        refine wpAnyH_ready (rs := [16]) (by kernel_rfl) (by simp) ?_
        refine AllReadyH.cons rfl (fun K hK => ?_) (AllReadyH.nil)
        go_simp
        refine hK.out _ _ (HS2.out) (fun hHeld => ?_)
        clear hK K
        refine wpAnyH_ready (rs := [17]) (by kernel_rfl) (by simp) ?_
        refine AllReadyH.cons rfl (fun K hK => ?_) (AllReadyH.nil)
        refine step_append_lies (w := (w5.alloc (.cells (celC cj mr true) 61)).drew) rfl (.tmp 54) (.tmp 66) 25 rfl B 61 i0 (.agg #[.string ⟨#[]⟩, .int .i64 0, .bool false]) 3 32 Try.underlying25 hi hz0 hz1 hz2 rfl (by decide) (.slice C ds.length cc) ds.length (cs3 ds) rfl HO6.out ⟨w5.heap.size, 0, none⟩ 1 1 (cs3 [⟨cj, mr, true⟩]) rfl rfl HNW.out (cs3_one _) (by omega) (by unfold maxLen; omega) (by omega) (by rw [HS6.out]; omega) (w5.heap.size + 1) HS6.out ?_
        intro g7 c8 w7 hown7 hgrow7 hor7 hlt7
        obtain ⟨y2, yf, hg7⟩ := HRF.out w7 hgrow7
        have S3 := HCV.out w7 (fun k hk _ hne => hg7.block k hk (fun e => hne e.symm))
        have HS4 := Lib.hid (fun v => HCV.out (w7.setCell ⟨rb, 2, none⟩ v) (fun k hk hr hne => by rw [heap_setCell_other w7 ⟨rb, 2, none⟩ k _ (fun e => hr e)]; exact hg7.block k hk (fun e => hne e.symm)))
        refine hK.out _ _ (S3) (fun hHeld => ?_)
        clear hK K
        refine wpAnyH_take (i := 18) (v := .pointer (some ⟨rb, 0, none⟩)) rfl (by kernel_rfl) (by kernel_rfl) (by kernel_rfl) (fun _ _ _ h => h) (Or.inl ⟨by rfl, by intro w hSw; (try dsimp only at hSw); go_simp⟩) (by assumption) ?_
        refine wpAnyH_take (i := 19) (v := .pointer (some ⟨rb, 2, none⟩)) rfl (by kernel_rfl) (by kernel_rfl) (by kernel_rfl) (fun _ _ _ h => h) (Or.inl ⟨by rfl, by intro w hSw; (try dsimp only at hSw); go_simp⟩) (by assumption) ?_
        refine wpAnyH_ready (rs := [20]) (by kernel_rfl) (by simp) ?_
        refine AllReadyH.cons rfl (fun K hK => ?_) (AllReadyH.nil)
        go_simp
        refine hK.out _ _ (HS4.out _) (fun hHeld => ?_)
        clear hK K
        refine wpAnyH_done (by kernel_rfl) ?_ _
        have hmv : Moved w5 C (some ⟨g7, 0, none⟩) := by
          rcases hor7 with e | e
          · rw [ownBlock_slice] at e; exact .inl e.symm
          · exact .inr fun k hk => by cases hk; show w5.heap.size ≤ g7; omega
        have hown8 : w7.ownsRow B 61 3 (.slice (some ⟨g7, 0, none⟩) (ds ++ [(⟨cj, mr, true⟩ : Cel)]).length c8) (ds ++ [(⟨cj, mr, true⟩ : Cel)]).length (cs3 (ds ++ [(⟨cj, mr, true⟩ : Cel)])) := by
          rw [List.length_append, cs3_app]; exact hown7
        obtain ⟨q1, q2, q3⟩ := HRC.out.last (L + cj.length) HW5.out hg7 hown8 hmv
        rw [List.length_append] at q1 q2
        have Q1 := Lib.hid q1
        have Q2 := Lib.hid q2
        have Q3 := Lib.hid q3
        clear q1 q2 q3 hown8 hmv hown7 hgrow7 hor7 hlt7 hg7
        go_wp2
        go_end0
        rw [HCJ2.out]
        exact ⟨rfl, O', oc', some ⟨g7, 0, none⟩, c8, Q1.out, (HTW.out.trans Q2.out (fun k hk h => HSO.out k hk h)), HM2.out, Moved.trans (Moved.refl W C) Q3.out HSW.out⟩
      · go_simp
        refine hK.out _ _ (HS2.out) (fun hHeld => ?_)
        clear hK K
        refine wpAnyH_ready (rs := [4]) (by kernel_rfl) (by simp) ?_
        refine AllReadyH.cons rfl (fun K hK => ?_) (AllReadyH.nil)
        go_simp
        refine hK.out _ _ (HS2.out) (fun hHeld => ?_)
        clear hK K
        refine wpAnyH_ready (rs := [17]) (by kernel_rfl) (by simp) ?_
        refine AllReadyH.cons rfl (fun K hK => ?_) (AllReadyH.nil)
        refine step_append_lies (w := (w5.alloc (.cells (celC cj mr true) 61)).drew) rfl (.tmp 54) (.tmp 66) 25 rfl B 61 i0 (.agg #[.string ⟨#[]⟩, .int .i64 0, .bool false]) 3 32 Try.underlying25 hi hz0 hz1 hz2 rfl (by decide) (.slice C ds.length cc) ds.length (cs3 ds) rfl HO6.out ⟨w5.heap.size, 0, none⟩ 1 1 (cs3 [⟨cj, mr, true⟩]) rfl rfl HNW.out (cs3_one _) (by omega) (by unfold maxLen; omega) (by omega) (by rw [HS6.out]; omega) (w5.heap.size + 1) HS6.out ?_
        intro g7 c8 w7 hown7 hgrow7 hor7 hlt7
        obtain ⟨y2, yf, hg7⟩ := HRF.out w7 hgrow7
        have S3 := HCV.out w7 (fun k hk _ hne => hg7.block k hk (fun e => hne e.symm))
        have HS4 := Lib.hid (fun v => HCV.out (w7.setCell ⟨rb, 2, none⟩ v) (fun k hk hr hne => by rw [heap_setCell_other w7 ⟨rb, 2, none⟩ k _ (fun e => hr e)]; exact hg7.block k hk (fun e => hne e.symm)))
        refine hK.out _ _ (S3) (fun hHeld => ?_)
        clear hK K
        refine wpAnyH_take (i := 18) (v := .pointer (some ⟨rb, 0, none⟩)) rfl (by kernel_rfl) (by kernel_rfl) (by kernel_rfl) (fun _ _ _ h => h) (Or.inl ⟨by rfl, by intro w hSw; (try dsimp only at hSw); go_simp⟩) (by assumption) ?_
        refine wpAnyH_take (i := 19) (v := .pointer (some ⟨rb, 2, none⟩)) rfl (by kernel_rfl) (by kernel_rfl) (by kernel_rfl) (fun _ _ _ h => h) (Or.inl ⟨by rfl, by intro w hSw; (try dsimp only at hSw); go_simp⟩) (by assumption) ?_
        refine wpAnyH_ready (rs := [20]) (by kernel_rfl) (by simp) ?_
        refine AllReadyH.cons rfl (fun K hK => ?_) (AllReadyH.nil)
        go_simp
        refine hK.out _ _ (HS4.out _) (fun hHeld => ?_)
        clear hK K
        refine wpAnyH_done (by kernel_rfl) ?_ _
        have hmv : Moved w5 C (some ⟨g7, 0, none⟩) := by
          rcases hor7 with e | e
          · rw [ownBlock_slice] at e; exact .inl e.symm
          · exact .inr fun k hk => by cases hk; show w5.heap.size ≤ g7; omega
        have hown8 : w7.ownsRow B 61 3 (.slice (some ⟨g7, 0, none⟩) (ds ++ [(⟨cj, mr, true⟩ : Cel)]).length c8) (ds ++ [(⟨cj, mr, true⟩ : Cel)]).length (cs3 (ds ++ [(⟨cj, mr, true⟩ : Cel)])) := by
          rw [List.length_append, cs3_app]; exact hown7
        obtain ⟨q1, q2, q3⟩ := HRC.out.last (L + cj.length) HW5.out hg7 hown8 hmv
        rw [List.length_append] at q1 q2
        have Q1 := Lib.hid q1
        have Q2 := Lib.hid q2
        have Q3 := Lib.hid q3
        clear q1 q2 q3 hown8 hmv hown7 hgrow7 hor7 hlt7 hg7
        go_wp2
        go_end0
        rw [HCJ2.out]
        exact ⟨rfl, O', oc', some ⟨g7, 0, none⟩, c8, Q1.out, (HTW.out.trans Q2.out (fun k hk h => HSO.out k hk h)), HM2.out, Moved.trans (Moved.refl W C) Q3.out HSW.out⟩
    · have HCJ2 : Hid (cellM p y ⟨3, q, ml, mr, s, true⟩ = ⟨cj, mr, false⟩) := Lib.hid (by rw [HCJ.out]; rfl)
      have HNW := Lib.hid (cells_news (cellOne w5 cj mr false 61 (by omega)))
      have HS6 : Hid ((w5.alloc (.cells (celC cj mr false) 61)).drew.heap.size = w5.heap.size + 1) := Lib.hid (by show (w5.alloc _).heap.size = _; simp)
      have HO6 : Hid ((w5.alloc (.cells (celC cj mr false) 61)).drew.ownsRow B 61 3 (.slice C ds.length cc) ds.length (cs3 ds)) := Lib.hid (HO5.out.alloc _)
      have hal : Below w5.heap.size w5 (w5.alloc (.cells (celC cj mr false) 61)) := (Below.refl _ _).alloc (Nat.le_refl _) _
      have dA : (w5.alloc (.cells (celC cj mr false) 61)).drew.cell? ⟨rb, 2, none⟩ = some (.slice C ds.length cc) := (hal.cell (p := ⟨rb, 2, none⟩) hrb5).trans d2
      have S1 := HCV.out w5.drew (fun _ _ _ _ => rfl)
      have S2 := HCV.out (w5.alloc (.cells (celC cj mr false) 61)).drew (fun k hk _ _ => hal.block k hk)
      have HRF : Hid (∀ X, (w5.alloc (.cells (celC cj mr false) 61)).drew.grownBy X (Value.slice C ds.length cc).ownBlock → X.cell? ⟨rb, 2, none⟩ = some (.slice C ds.length cc) ∧ X.frozen? ⟨rb, 2, none⟩ = false ∧ w5.grownBy X (blk C)) := Lib.hid (fun X hX => by
        rw [ownBlock_slice] at hX
        have g1 := grown_trans (A := C) (A1 := C) (World.grownBy_alloc w5 (.cells (celC cj mr false) 61) (blk C)) (grown_drew hX) (.inl rfl)
        have hb := g1.block rb hrb5 (fun e => by have := (blk_lt HRC.out.own rb e.symm).1; have := HRC.out.front.lo; omega)
        exact ⟨(cell_same hb 2).trans d2, (frozen_same hb 2).trans df2, g1⟩)
      have HS1 := Lib.hid S1
      have HS2 := Lib.hid S2
      clear hrb5 hal S1 S2
      refine wp_region_held_drew (S := fun X => X.cell? ⟨W.heap.size, 0, none⟩ = some (.int .i64 3) ∧ X.cell? ⟨W.heap.size, 3, none⟩ = some (.int .i64 mr) ∧ X.cell? ⟨W.heap.size, 5, none⟩ = some (.bool true) ∧ (convert 58 9 (.slice A7 cj.length c7)).run Try.prog X = .ok (.string ⟨cj.toArray⟩) X) (by kernel_rfl) HS1.out (fun hHeld => ?_)
      refine wpAnyH_take (i := 0) (v := .pointer (some ⟨rb, 0, none⟩)) rfl (by kernel_rfl) (by kernel_rfl) (by kernel_rfl) (fun _ _ _ h => h) (Or.inl ⟨by rfl, by intro w hSw; (try dsimp only at hSw); go_simp⟩) (by assumption) ?_
      refine wpAnyH_take (i := 1) (v := .pointer (some ⟨rb, 0, none⟩)) rfl (by kernel_rfl) (by kernel_rfl) (by kernel_rfl) (fun _ _ _ h => h) (Or.inl ⟨by rfl, by intro w hSw; (try dsimp only at hSw); go_simp⟩) (by assumption) ?_
      refine wpAnyH_take (i := 2) (v := .pointer (some ⟨rb, 0, none⟩)) rfl (by kernel_rfl) (by kernel_rfl) (by kernel_rfl) (fun _ _ _ h => h) (Or.inl ⟨by rfl, by intro w hSw; (try dsimp only at hSw); go_simp⟩) (by assumption) ?_
      refine wpAnyH_take (i := 3) (v := .pointer (some ⟨rb, 2, none⟩)) rfl (by kernel_rfl) (by kernel_rfl) (by kernel_rfl) (fun _ _ _ h => h) (Or.inl ⟨by rfl, by intro w hSw; (try dsimp only at hSw); go_simp⟩) (by assumption) ?_
      refine wpAnyH_take (i := 5) (v := .slice A7 cj.length c7) rfl (by kernel_rfl) (by kernel_rfl) (by kernel_rfl) (fun _ _ _ h => h) (Or.inl ⟨by rfl, by intro w hSw; (try dsimp only at hSw); go_simp⟩) (by assumption) ?_
      refine wpAnyH_take (i := 6) (v := .string ⟨cj.toArray⟩) rfl (by kernel_rfl) (by kernel_rfl) (by kernel_rfl) (fun _ _ _ h => h) (Or.inl ⟨by rfl, by intro w hSw; (try dsimp only at hSw); go_simp⟩) (by assumption) ?_
      refine wpAnyH_take (i := 7) (v := .pointer (some ⟨W.heap.size, 3, none⟩)) rfl (by kernel_rfl) (by kernel_rfl) (by kernel_rfl) (fun _ _ _ h => h) (Or.inl ⟨by rfl, by intro w hSw; (try dsimp only at hSw); go_simp⟩) (by assumption) ?_
      refine wpAnyH_take (i := 8) (v := .int .i64 mr) rfl (by kernel_rfl) (by kernel_rfl) (by kernel_rfl) (fun _ _ _ h => h) (Or.inl ⟨by rfl, by intro w hSw; (try dsimp only at hSw); go_simp⟩) (by assumption) ?_
      refine wpAnyH_take (i := 9) (v := .pointer (some ⟨W.heap.size, 5, none⟩)) rfl (by kernel_rfl) (by kernel_rfl) (by kernel_rfl) (fun _ _ _ h => h) (Or.inl ⟨by rfl, by intro w hSw; (try dsimp only at hSw); go_simp⟩) (by assumption) ?_
      refine wpAnyH_take (i := 10) (v := .bool true) rfl (by kernel_rfl) (by kernel_rfl) (by kernel_rfl) (fun _ _ _ h => h) (Or.inl ⟨by rfl, by intro w hSw; (try dsimp only at hSw); go_simp⟩) (by assumption) ?_
      refine wpAnyH_take (i := 11) (v := .pointer (some ⟨W.heap.size, 0, none⟩)) rfl (by kernel_rfl) (by kernel_rfl) (by kernel_rfl) (fun _ _ _ h => h) (Or.inl ⟨by rfl, by intro w hSw; (try dsimp only at hSw); go_simp⟩) (by assumption) ?_
      refine wpAnyH_take (i := 12) (v := .int .i64 3) rfl (by kernel_rfl) (by kernel_rfl) (by kernel_rfl) (fun _ _ _ h => h) (Or.inl ⟨by rfl, by intro w hSw; (try dsimp only at hSw); go_simp⟩) (by assumption) ?_
      refine wpAnyH_take (i := 13) (v := .bool true) rfl (by kernel_rfl) (by kernel_rfl) (by kernel_rfl) (fun _ _ _ h => h) (Or.inl ⟨by rfl, by intro w hSw; (try dsimp only at hSw); go_simp⟩) (by assumption) ?_
      refine wpAnyH_take (i := 14) (v := .bool false) rfl (by kernel_rfl) (by kernel_rfl) (by kernel_rfl) (fun _ _ _ h => h) (Or.inl ⟨by rfl, by intro w hSw; (try dsimp only at hSw); go_simp⟩) (by assumption) ?_
      refine wpAnyH_take (i := 15) (v := .agg #[.string ⟨cj.toArray⟩, .int .i64 mr, .bool false]) rfl (by kernel_rfl) (by kernel_rfl) (by kernel_rfl) (fun _ _ _ h => h) (Or.inl ⟨by rfl, by intro w hSw; (try dsimp only at hSw); go_simp⟩) (by assumption) ?_
      refine wpAnyH_ready (rs := [4, 16]) (by kernel_rfl) (by simp) ?_
      refine AllReadyH.cons rfl (fun K hK => ?_) (AllReadyH.cons rfl (fun K hK => ?_) (AllReadyH.nil))
      · go_simp
        refine hK.out _ _ (HS1.out) (fun hHeld => ?_)
        clear hK K
        refine wpAnyH_ready (rs := [16]) (by kernel_rfl) (by simp) ?_
        refine AllReadyH.cons rfl (fun K hK => ?_) (AllReadyH.nil)
        go_simp
        refine hK.out _ _ (HS2.out) (fun hHeld => ?_)
        clear hK K
        refine wpAnyH_ready (rs := [17]) (by kernel_rfl) (by simp) ?_
        refine AllReadyH.cons rfl (fun K hK => ?_) (AllReadyH.nil)
        refine step_append_lies (w := (w5.alloc (.cells (celC cj mr false) 61)).drew) rfl (.tmp 54) (.tmp 66) 25 rfl B 61 i0 (.agg #[.string ⟨#[]⟩, .int .i64 0, .bool false]) 3 32 Try.underlying25 hi hz0 hz1 hz2 rfl (by decide) (.slice C ds.length cc) ds.length (cs3 ds) rfl HO6.out ⟨w5.heap.size, 0, none⟩ 1 1 (cs3 [⟨cj, mr, false⟩]) rfl rfl HNW.out (cs3_one _) (by omega) (by unfold maxLen; omega) (by omega) (by rw [HS6.out]; omega) (w5.heap.size + 1) HS6.out ?_
        intro g7 c8 w7 hown7 hgrow7 hor7 hlt7
        obtain ⟨y2, yf, hg7⟩ := HRF.out w7 hgrow7
        have S3 := HCV.out w7 (fun k hk _ hne => hg7.block k hk (fun e => hne e.symm))
        have HS4 := Lib.hid (fun v => HCV.out (w7.setCell ⟨rb, 2, none⟩ v) (fun k hk hr hne => by rw [heap_setCell_other w7 ⟨rb, 2, none⟩ k _ (fun e => hr e)]; exact hg7.block k hk (fun e => hne e.symm)))
        refine hK.out _ _ (S3) (fun hHeld => ?_)
        clear hK K
        refine wpAnyH_take (i := 18) (v := .pointer (some ⟨rb, 0, none⟩)) rfl (by kernel_rfl) (by kernel_rfl) (by kernel_rfl) (fun _ _ _ h => h) (Or.inl ⟨by rfl, by intro w hSw; (try dsimp only at hSw); go_simp⟩) (by assumption) ?_
        refine wpAnyH_take (i := 19) (v := .pointer (some ⟨rb, 2, none⟩)) rfl (by kernel_rfl) (by kernel_rfl) (by kernel_rfl) (fun _ _ _ h => h) (Or.inl ⟨by rfl, by intro w hSw; (try dsimp only at hSw); go_simp⟩) (by assumption) ?_
        refine wpAnyH_ready (rs := [20]) (by kernel_rfl) (by simp) ?_
        refine AllReadyH.cons rfl (fun K hK => ?_) (AllReadyH.nil)
        go_simp
        refine hK.out _ _ (HS4.out _) (fun hHeld => ?_)
        clear hK K
        refine wpAnyH_done (by kernel_rfl) ?_ _
        have hmv : Moved w5 C (some ⟨g7, 0, none⟩) := by
          rcases hor7 with e | e
          · rw [ownBlock_slice] at e; exact .inl e.symm
          · exact .inr fun k hk => by cases hk; show w5.heap.size ≤ g7; omega
        have hown8 : w7.ownsRow B 61 3 (.slice (some ⟨g7, 0, none⟩) (ds ++ [(⟨cj, mr, false⟩ : Cel)]).length c8) (ds ++ [(⟨cj, mr, false⟩ : Cel)]).length (cs3 (ds ++ [(⟨cj, mr, false⟩ : Cel)])) := by
          rw [List.length_append, cs3_app]; exact hown7
        obtain ⟨q1, q2, q3⟩ := HRC.out.last (L + cj.length) HW5.out hg7 hown8 hmv
        rw [List.length_append] at q1 q2
        have Q1 := Lib.hid q1
        have Q2 := Lib.hid q2
        have Q3 := Lib.hid q3
        clear q1 q2 q3 hown8 hmv hown7 hgrow7 hor7 hlt7 hg7
        go_wp2
        go_end0
        rw [HCJ2.out]
        exact ⟨rfl, O', oc', some ⟨g7, 0, none⟩, c8, Q1.out, (HTW.out.trans Q2.out (fun k hk h => HSO.out k hk h)), HM2.out, Moved.trans (Moved.refl W C) Q3.out HSW.out⟩
      · go_simp
        refine hK.out _ _ (HS2.out) (fun hHeld => ?_)
        clear hK K
        refine wpAnyH_ready (rs := [4]) (by kernel_rfl) (by simp) ?_
        refine AllReadyH.cons rfl (fun K hK => ?_) (AllReadyH.nil)
        go_simp
        refine hK.out _ _ (HS2.out) (fun hHeld => ?_)
        clear hK K
        refine wpAnyH_ready (rs := [17]) (by kernel_rfl) (by simp) ?_
        refine AllReadyH.cons rfl (fun K hK => ?_) (AllReadyH.nil)
        refine step_append_lies (w := (w5.alloc (.cells (celC cj mr false) 61)).drew) rfl (.tmp 54) (.tmp 66) 25 rfl B 61 i0 (.agg #[.string ⟨#[]⟩, .int .i64 0, .bool false]) 3 32 Try.underlying25 hi hz0 hz1 hz2 rfl (by decide) (.slice C ds.length cc) ds.length (cs3 ds) rfl HO6.out ⟨w5.heap.size, 0, none⟩ 1 1 (cs3 [⟨cj, mr, false⟩]) rfl rfl HNW.out (cs3_one _) (by omega) (by unfold maxLen; omega) (by omega) (by rw [HS6.out]; omega) (w5.heap.size + 1) HS6.out ?_
        intro g7 c8 w7 hown7 hgrow7 hor7 hlt7
        obtain ⟨y2, yf, hg7⟩ := HRF.out w7 hgrow7
        have S3 := HCV.out w7 (fun k hk _ hne => hg7.block k hk (fun e => hne e.symm))
        have HS4 := Lib.hid (fun v => HCV.out (w7.setCell ⟨rb, 2, none⟩ v) (fun k hk hr hne => by rw [heap_setCell_other w7 ⟨rb, 2, none⟩ k _ (fun e => hr e)]; exact hg7.block k hk (fun e => hne e.symm)))
        refine hK.out _ _ (S3) (fun hHeld => ?_)
        clear hK K
        refine wpAnyH_take (i := 18) (v := .pointer (some ⟨rb, 0, none⟩)) rfl (by kernel_rfl) (by kernel_rfl) (by kernel_rfl) (fun _ _ _ h => h) (Or.inl ⟨by rfl, by intro w hSw; (try dsimp only at hSw); go_simp⟩) (by assumption) ?_
        refine wpAnyH_take (i := 19) (v := .pointer (some ⟨rb, 2, none⟩)) rfl (by kernel_rfl) (by kernel_rfl) (by kernel_rfl) (fun _ _ _ h => h) (Or.inl ⟨by rfl, by intro w hSw; (try dsimp only at hSw); go_simp⟩) (by assumption) ?_
        refine wpAnyH_ready (rs := [20]) (by kernel_rfl) (by simp) ?_
        refine AllReadyH.cons rfl (fun K hK => ?_) (AllReadyH.nil)
        go_simp
        refine hK.out _ _ (HS4.out _) (fun hHeld => ?_)
        clear hK K
        refine wpAnyH_done (by kernel_rfl) ?_ _
        have hmv : Moved w5 C (some ⟨g7, 0, none⟩) := by
          rcases hor7 with e | e
          · rw [ownBlock_slice] at e; exact .inl e.symm
          · exact .inr fun k hk => by cases hk; show w5.heap.size ≤ g7; omega
        have hown8 : w7.ownsRow B 61 3 (.slice (some ⟨g7, 0, none⟩) (ds ++ [(⟨cj, mr, false⟩ : Cel)]).length c8) (ds ++ [(⟨cj, mr, false⟩ : Cel)]).length (cs3 (ds ++ [(⟨cj, mr, false⟩ : Cel)])) := by
          rw [List.length_append, cs3_app]; exact hown7
        obtain ⟨q1, q2, q3⟩ := HRC.out.last (L + cj.length) HW5.out hg7 hown8 hmv
        rw [List.length_append] at q1 q2
        have Q1 := Lib.hid q1
        have Q2 := Lib.hid q2
        have Q3 := Lib.hid q3
        clear q1 q2 q3 hown8 hmv hown7 hgrow7 hor7 hlt7 hg7
        go_wp2
        go_end0
        rw [HCJ2.out]
        exact ⟨rfl, O', oc', some ⟨g7, 0, none⟩, c8, Q1.out, (HTW.out.trans Q2.out (fun k hk h => HSO.out k hk h)), HM2.out, Moved.trans (Moved.refl W C) Q3.out HSW.out⟩
    · have HCJ2 : Hid (cellM p y ⟨4, q, ml, mr, s, false⟩ = ⟨cj, mr, false⟩) := Lib.hid (by rw [HCJ.out]; rfl)
      have HNW := Lib.hid (cells_news (cellOne w5 cj mr false 61 (by omega)))
      have HS6 : Hid ((w5.alloc (.cells (celC cj mr false) 61)).drew.heap.size = w5.heap.size + 1) := Lib.hid (by show (w5.alloc _).heap.size = _; simp)
      have HO6 : Hid ((w5.alloc (.cells (celC cj mr false) 61)).drew.ownsRow B 61 3 (.slice C ds.length cc) ds.length (cs3 ds)) := Lib.hid (HO5.out.alloc _)
      have hal : Below w5.heap.size w5 (w5.alloc (.cells (celC cj mr false) 61)) := (Below.refl _ _).alloc (Nat.le_refl _) _
      have dA : (w5.alloc (.cells (celC cj mr false) 61)).drew.cell? ⟨rb, 2, none⟩ = some (.slice C ds.length cc) := (hal.cell (p := ⟨rb, 2, none⟩) hrb5).trans d2
      have S1 := HCV.out w5.drew (fun _ _ _ _ => rfl)
      have S2 := HCV.out (w5.alloc (.cells (celC cj mr false) 61)).drew (fun k hk _ _ => hal.block k hk)
      have HRF : Hid (∀ X, (w5.alloc (.cells (celC cj mr false) 61)).drew.grownBy X (Value.slice C ds.length cc).ownBlock → X.cell? ⟨rb, 2, none⟩ = some (.slice C ds.length cc) ∧ X.frozen? ⟨rb, 2, none⟩ = false ∧ w5.grownBy X (blk C)) := Lib.hid (fun X hX => by
        rw [ownBlock_slice] at hX
        have g1 := grown_trans (A := C) (A1 := C) (World.grownBy_alloc w5 (.cells (celC cj mr false) 61) (blk C)) (grown_drew hX) (.inl rfl)
        have hb := g1.block rb hrb5 (fun e => by have := (blk_lt HRC.out.own rb e.symm).1; have := HRC.out.front.lo; omega)
        exact ⟨(cell_same hb 2).trans d2, (frozen_same hb 2).trans df2, g1⟩)
      have HS1 := Lib.hid S1
      have HS2 := Lib.hid S2
      clear hrb5 hal S1 S2
      refine wp_region_held_drew (S := fun X => X.cell? ⟨W.heap.size, 0, none⟩ = some (.int .i64 4) ∧ X.cell? ⟨W.heap.size, 3, none⟩ = some (.int .i64 mr) ∧ X.cell? ⟨W.heap.size, 5, none⟩ = some (.bool false) ∧ (convert 58 9 (.slice A7 cj.length c7)).run Try.prog X = .ok (.string ⟨cj.toArray⟩) X) (by kernel_rfl) HS1.out (fun hHeld => ?_)
      refine wpAnyH_take (i := 0) (v := .pointer (some ⟨rb, 0, none⟩)) rfl (by kernel_rfl) (by kernel_rfl) (by kernel_rfl) (fun _ _ _ h => h) (Or.inl ⟨by rfl, by intro w hSw; (try dsimp only at hSw); go_simp⟩) (by assumption) ?_
      refine wpAnyH_take (i := 1) (v := .pointer (some ⟨rb, 0, none⟩)) rfl (by kernel_rfl) (by kernel_rfl) (by kernel_rfl) (fun _ _ _ h => h) (Or.inl ⟨by rfl, by intro w hSw; (try dsimp only at hSw); go_simp⟩) (by assumption) ?_
      refine wpAnyH_take (i := 2) (v := .pointer (some ⟨rb, 0, none⟩)) rfl (by kernel_rfl) (by kernel_rfl) (by kernel_rfl) (fun _ _ _ h => h) (Or.inl ⟨by rfl, by intro w hSw; (try dsimp only at hSw); go_simp⟩) (by assumption) ?_
      refine wpAnyH_take (i := 3) (v := .pointer (some ⟨rb, 2, none⟩)) rfl (by kernel_rfl) (by kernel_rfl) (by kernel_rfl) (fun _ _ _ h => h) (Or.inl ⟨by rfl, by intro w hSw; (try dsimp only at hSw); go_simp⟩) (by assumption) ?_
      refine wpAnyH_take (i := 5) (v := .slice A7 cj.length c7) rfl (by kernel_rfl) (by kernel_rfl) (by kernel_rfl) (fun _ _ _ h => h) (Or.inl ⟨by rfl, by intro w hSw; (try dsimp only at hSw); go_simp⟩) (by assumption) ?_
      refine wpAnyH_take (i := 6) (v := .string ⟨cj.toArray⟩) rfl (by kernel_rfl) (by kernel_rfl) (by kernel_rfl) (fun _ _ _ h => h) (Or.inl ⟨by rfl, by intro w hSw; (try dsimp only at hSw); go_simp⟩) (by assumption) ?_
      refine wpAnyH_take (i := 7) (v := .pointer (some ⟨W.heap.size, 3, none⟩)) rfl (by kernel_rfl) (by kernel_rfl) (by kernel_rfl) (fun _ _ _ h => h) (Or.inl ⟨by rfl, by intro w hSw; (try dsimp only at hSw); go_simp⟩) (by assumption) ?_
      refine wpAnyH_take (i := 8) (v := .int .i64 mr) rfl (by kernel_rfl) (by kernel_rfl) (by kernel_rfl) (fun _ _ _ h => h) (Or.inl ⟨by rfl, by intro w hSw; (try dsimp only at hSw); go_simp⟩) (by assumption) ?_
      refine wpAnyH_take (i := 9) (v := .pointer (some ⟨W.heap.size, 5, none⟩)) rfl (by kernel_rfl) (by kernel_rfl) (by kernel_rfl) (fun _ _ _ h => h) (Or.inl ⟨by rfl, by intro w hSw; (try dsimp only at hSw); go_simp⟩) (by assumption) ?_
      refine wpAnyH_take (i := 10) (v := .bool false) rfl (by kernel_rfl) (by kernel_rfl) (by kernel_rfl) (fun _ _ _ h => h) (Or.inl ⟨by rfl, by intro w hSw; (try dsimp only at hSw); go_simp⟩) (by assumption) ?_
      refine wpAnyH_take (i := 11) (v := .pointer (some ⟨W.heap.size, 0, none⟩)) rfl (by kernel_rfl) (by kernel_rfl) (by kernel_rfl) (fun _ _ _ h => h) (Or.inl ⟨by rfl, by intro w hSw; (try dsimp only at hSw); go_simp⟩) (by assumption) ?_
      refine wpAnyH_take (i := 12) (v := .int .i64 4) rfl (by kernel_rfl) (by kernel_rfl) (by kernel_rfl) (fun _ _ _ h => h) (Or.inl ⟨by rfl, by intro w hSw; (try dsimp only at hSw); go_simp⟩) (by assumption) ?_
      refine wpAnyH_take (i := 13) (v := .bool false) rfl (by kernel_rfl) (by kernel_rfl) (by kernel_rfl) (fun _ _ _ h => h) (Or.inl ⟨by rfl, by intro w hSw; (try dsimp only at hSw); go_simp⟩) (by assumption) ?_
      refine wpAnyH_take (i := 14) (v := .bool false) rfl (by kernel_rfl) (by kernel_rfl) (by kernel_rfl) (fun _ _ _ h => h) (Or.inl ⟨by rfl, by intro w hSw; (try dsimp only at hSw); go_simp⟩) (by assumption) ?_
      refine wpAnyH_take (i := 15) (v := .agg #[.string ⟨cj.toArray⟩, .int .i64 mr, .bool false]) rfl (by kernel_rfl) (by kernel_rfl) (by kernel_rfl) (fun _ _ _ h => h) (Or.inl ⟨by rfl, by intro w hSw; (try dsimp only at hSw); go_simp⟩) (by assumption) ?_
      refine wpAnyH_ready (rs := [4, 16]) (by kernel_rfl) (by simp) ?_
      refine AllReadyH.cons rfl (fun K hK => ?_) (AllReadyH.cons rfl (fun K hK => ?_) (AllReadyH.nil))
      · go_simp
        refine hK.out _ _ (HS1.out) (fun hHeld => ?_)
        clear hK K
        refine wpAnyH_ready (rs := [16]) (by kernel_rfl) (by simp) ?_
        refine AllReadyH.cons rfl (fun K hK => ?_) (AllReadyH.nil)
        go_simp
        refine hK.out _ _ (HS2.out) (fun hHeld => ?_)
        clear hK K
        refine wpAnyH_ready (rs := [17]) (by kernel_rfl) (by simp) ?_
        refine AllReadyH.cons rfl (fun K hK => ?_) (AllReadyH.nil)
        refine step_append_lies (w := (w5.alloc (.cells (celC cj mr false) 61)).drew) rfl (.tmp 54) (.tmp 66) 25 rfl B 61 i0 (.agg #[.string ⟨#[]⟩, .int .i64 0, .bool false]) 3 32 Try.underlying25 hi hz0 hz1 hz2 rfl (by decide) (.slice C ds.length cc) ds.length (cs3 ds) rfl HO6.out ⟨w5.heap.size, 0, none⟩ 1 1 (cs3 [⟨cj, mr, false⟩]) rfl rfl HNW.out (cs3_one _) (by omega) (by unfold maxLen; omega) (by omega) (by rw [HS6.out]; omega) (w5.heap.size + 1) HS6.out ?_
        intro g7 c8 w7 hown7 hgrow7 hor7 hlt7
        obtain ⟨y2, yf, hg7⟩ := HRF.out w7 hgrow7
        have S3 := HCV.out w7 (fun k hk _ hne => hg7.block k hk (fun e => hne e.symm))
        have HS4 := Lib.hid (fun v => HCV.out (w7.setCell ⟨rb, 2, none⟩ v) (fun k hk hr hne => by rw [heap_setCell_other w7 ⟨rb, 2, none⟩ k _ (fun e => hr e)]; exact hg7.block k hk (fun e => hne e.symm)))
        refine hK.out _ _ (S3) (fun hHeld => ?_)
        clear hK K
        refine wpAnyH_take (i := 18) (v := .pointer (some ⟨rb, 0, none⟩)) rfl (by kernel_rfl) (by kernel_rfl) (by kernel_rfl) (fun _ _ _ h => h) (Or.inl ⟨by rfl, by intro w hSw; (try dsimp only at hSw); go_simp⟩) (by assumption) ?_
        refine wpAnyH_take (i := 19) (v := .pointer (some ⟨rb, 2, none⟩)) rfl (by kernel_rfl) (by kernel_rfl) (by kernel_rfl) (fun _ _ _ h => h) (Or.inl ⟨by rfl, by intro w hSw; (try dsimp only at hSw); go_simp⟩) (by assumption) ?_
        refine wpAnyH_ready (rs := [20]) (by kernel_rfl) (by simp) ?_
        refine AllReadyH.cons rfl (fun K hK => ?_) (AllReadyH.nil)
        go_simp
        refine hK.out _ _ (HS4.out _) (fun hHeld => ?_)
        clear hK K
        refine wpAnyH_done (by kernel_rfl) ?_ _
        have hmv : Moved w5 C (some ⟨g7, 0, none⟩) := by
          rcases hor7 with e | e
          · rw [ownBlock_slice] at e; exact .inl e.symm
          · exact .inr fun k hk => by cases hk; show w5.heap.size ≤ g7; omega
        have hown8 : w7.ownsRow B 61 3 (.slice (some ⟨g7, 0, none⟩) (ds ++ [(⟨cj, mr, false⟩ : Cel)]).length c8) (ds ++ [(⟨cj, mr, false⟩ : Cel)]).length (cs3 (ds ++ [(⟨cj, mr, false⟩ : Cel)])) := by
          rw [List.length_append, cs3_app]; exact hown7
        obtain ⟨q1, q2, q3⟩ := HRC.out.last (L + cj.length) HW5.out hg7 hown8 hmv
        rw [List.length_append] at q1 q2
        have Q1 := Lib.hid q1
        have Q2 := Lib.hid q2
        have Q3 := Lib.hid q3
        clear q1 q2 q3 hown8 hmv hown7 hgrow7 hor7 hlt7 hg7
        go_wp2
        go_end0
        rw [HCJ2.out]
        exact ⟨rfl, O', oc', some ⟨g7, 0, none⟩, c8, Q1.out, (HTW.out.trans Q2.out (fun k hk h => HSO.out k hk h)), HM2.out, Moved.trans (Moved.refl W C) Q3.out HSW.out⟩
      · go_simp
        refine hK.out _ _ (HS2.out) (fun hHeld => ?_)
        clear hK K
        refine wpAnyH_ready (rs := [4]) (by kernel_rfl) (by simp) ?_
        refine AllReadyH.cons rfl (fun K hK => ?_) (AllReadyH.nil)
        go_simp
        refine hK.out _ _ (HS2.out) (fun hHeld => ?_)
        clear hK K
        refine wpAnyH_ready (rs := [17]) (by kernel_rfl) (by simp) ?_
        refine AllReadyH.cons rfl (fun K hK => ?_) (AllReadyH.nil)
        refine step_append_lies (w := (w5.alloc (.cells (celC cj mr false) 61)).drew) rfl (.tmp 54) (.tmp 66) 25 rfl B 61 i0 (.agg #[.string ⟨#[]⟩, .int .i64 0, .bool false]) 3 32 Try.underlying25 hi hz0 hz1 hz2 rfl (by decide) (.slice C ds.length cc) ds.length (cs3 ds) rfl HO6.out ⟨w5.heap.size, 0, none⟩ 1 1 (cs3 [⟨cj, mr, false⟩]) rfl rfl HNW.out (cs3_one _) (by omega) (by unfold maxLen; omega) (by omega) (by rw [HS6.out]; omega) (w5.heap.size + 1) HS6.out ?_
        intro g7 c8 w7 hown7 hgrow7 hor7 hlt7
        obtain ⟨y2, yf, hg7⟩ := HRF.out w7 hgrow7
        have S3 := HCV.out w7 (fun k hk _ hne => hg7.block k hk (fun e => hne e.symm))
        have HS4 := Lib.hid (fun v => HCV.out (w7.setCell ⟨rb, 2, none⟩ v) (fun k hk hr hne => by rw [heap_setCell_other w7 ⟨rb, 2, none⟩ k _ (fun e => hr e)]; exact hg7.block k hk (fun e => hne e.symm)))
        refine hK.out _ _ (S3) (fun hHeld => ?_)
        clear hK K
        refine wpAnyH_take (i := 18) (v := .pointer (some ⟨rb, 0, none⟩)) rfl (by kernel_rfl) (by kernel_rfl) (by kernel_rfl) (fun _ _ _ h => h) (Or.inl ⟨by rfl, by intro w hSw; (try dsimp only at hSw); go_simp⟩) (by assumption) ?_
        refine wpAnyH_take (i := 19) (v := .pointer (some ⟨rb, 2, none⟩)) rfl (by kernel_rfl) (by kernel_rfl) (by kernel_rfl) (fun _ _ _ h => h) (Or.inl ⟨by rfl, by intro w hSw; (try dsimp only at hSw); go_simp⟩) (by assumption) ?_
        refine wpAnyH_ready (rs := [20]) (by kernel_rfl) (by simp) ?_
        refine AllReadyH.cons rfl (fun K hK => ?_) (AllReadyH.nil)
        go_simp
        refine hK.out _ _ (HS4.out _) (fun hHeld => ?_)
        clear hK K
        refine wpAnyH_done (by kernel_rfl) ?_ _
        have hmv : Moved w5 C (some ⟨g7, 0, none⟩) := by
          rcases hor7 with e | e
          · rw [ownBlock_slice] at e; exact .inl e.symm
          · exact .inr fun k hk => by cases hk; show w5.heap.size ≤ g7; omega
        have hown8 : w7.ownsRow B 61 3 (.slice (some ⟨g7, 0, none⟩) (ds ++ [(⟨cj, mr, false⟩ : Cel)]).length c8) (ds ++ [(⟨cj, mr, false⟩ : Cel)]).length (cs3 (ds ++ [(⟨cj, mr, false⟩ : Cel)])) := by
          rw [List.length_append, cs3_app]; exact hown7
        obtain ⟨q1, q2, q3⟩ := HRC.out.last (L + cj.length) HW5.out hg7 hown8 hmv
        rw [List.length_append] at q1 q2
        have Q1 := Lib.hid q1
        have Q2 := Lib.hid q2
        have Q3 := Lib.hid q3
        clear q1 q2 q3 hown8 hmv hown7 hgrow7 hor7 hlt7 hg7
        go_wp2
        go_end0
        rw [HCJ2.out]
        exact ⟨rfl, O', oc', some ⟨g7, 0, none⟩, c8, Q1.out, (HTW.out.trans Q2.out (fun k hk h => HSO.out k hk h)), HM2.out, Moved.trans (Moved.refl W C) Q3.out HSW.out⟩
    · have HCJ2 : Hid (cellM p y ⟨4, q, ml, mr, s, true⟩ = ⟨cj, mr, true⟩) := Lib.hid (by rw [HCJ.out]; rfl)
      have HNW := Lib.hid (cells_news (cellOne w5 cj mr true 61 (by omega)))
      have HS6 : Hid ((w5.alloc (.cells (celC cj mr true) 61)).drew.heap.size = w5.heap.size + 1) := Lib.hid (by show (w5.alloc _).heap.size = _; simp)
      have HO6 : Hid ((w5.alloc (.cells (celC cj mr true) 61)).drew.ownsRow B 61 3 (.slice C ds.length cc) ds.length (cs3 ds)) := Lib.hid (HO5.out.alloc _)
      have hal : Below w5.heap.size w5 (w5.alloc (.cells (celC cj mr true) 61)) := (Below.refl _ _).alloc (Nat.le_refl _) _
      have dA : (w5.alloc (.cells (celC cj mr true) 61)).drew.cell? ⟨rb, 2, none⟩ = some (.slice C ds.length cc) := (hal.cell (p := ⟨rb, 2, none⟩) hrb5).trans d2
      have S1 := HCV.out w5.drew (fun _ _ _ _ => rfl)
      have S2 := HCV.out (w5.alloc (.cells (celC cj mr true) 61)).drew (fun k hk _ _ => hal.block k hk)
      have HRF : Hid (∀ X, (w5.alloc (.cells (celC cj mr true) 61)).drew.grownBy X (Value.slice C ds.length cc).ownBlock → X.cell? ⟨rb, 2, none⟩ = some (.slice C ds.length cc) ∧ X.frozen? ⟨rb, 2, none⟩ = false ∧ w5.grownBy X (blk C)) := Lib.hid (fun X hX => by
        rw [ownBlock_slice] at hX
        have g1 := grown_trans (A := C) (A1 := C) (World.grownBy_alloc w5 (.cells (celC cj mr true) 61) (blk C)) (grown_drew hX) (.inl rfl)
        have hb := g1.block rb hrb5 (fun e => by have := (blk_lt HRC.out.own rb e.symm).1; have := HRC.out.front.lo; omega)
        exact ⟨(cell_same hb 2).trans d2, (frozen_same hb 2).trans df2, g1⟩)
      have HS1 := Lib.hid S1
      have HS2 := Lib.hid S2
      clear hrb5 hal S1 S2
      refine wp_region_held_drew (S := fun X => X.cell? ⟨W.heap.size, 0, none⟩ = some (.int .i64 4) ∧ X.cell? ⟨W.heap.size, 3, none⟩ = some (.int .i64 mr) ∧ X.cell? ⟨W.heap.size, 5, none⟩ = some (.bool true) ∧ (convert 58 9 (.slice A7 cj.length c7)).run Try.prog X = .ok (.string ⟨cj.toArray⟩) X) (by kernel_rfl) HS1.out (fun hHeld => ?_)
      refine wpAnyH_take (i := 0) (v := .pointer (some ⟨rb, 0, none⟩)) rfl (by kernel_rfl) (by kernel_rfl) (by kernel_rfl) (fun _ _ _ h => h) (Or.inl ⟨by rfl, by intro w hSw; (try dsimp only at hSw); go_simp⟩) (by assumption) ?_
      refine wpAnyH_take (i := 1) (v := .pointer (some ⟨rb, 0, none⟩)) rfl (by kernel_rfl) (by kernel_rfl) (by kernel_rfl) (fun _ _ _ h => h) (Or.inl ⟨by rfl, by intro w hSw; (try dsimp only at hSw); go_simp⟩) (by assumption) ?_
      refine wpAnyH_take (i := 2) (v := .pointer (some ⟨rb, 0, none⟩)) rfl (by kernel_rfl) (by kernel_rfl) (by kernel_rfl) (fun _ _ _ h => h) (Or.inl ⟨by rfl, by intro w hSw; (try dsimp only at hSw); go_simp⟩) (by assumption) ?_
      refine wpAnyH_take (i := 3) (v := .pointer (some ⟨rb, 2, none⟩)) rfl (by kernel_rfl) (by kernel_rfl) (by kernel_rfl) (fun _ _ _ h => h) (Or.inl ⟨by rfl, by intro w hSw; (try dsimp only at hSw); go_simp⟩) (by assumption) ?_
      refine wpAnyH_take (i := 5) (v := .slice A7 cj.length c7) rfl (by kernel_rfl) (by kernel_rfl) (by kernel_rfl) (fun _ _ _ h => h) (Or.inl ⟨by rfl, by intro w hSw; (try dsimp only at hSw); go_simp⟩) (by assumption) ?_
      refine wpAnyH_take (i := 6) (v := .string ⟨cj.toArray⟩) rfl (by kernel_rfl) (by kernel_rfl) (by kernel_rfl) (fun _ _ _ h => h) (Or.inl ⟨by rfl, by intro w hSw; (try dsimp only at hSw); go_simp⟩) (by assumption) ?_
      refine wpAnyH_take (i := 7) (v := .pointer (some ⟨W.heap.size, 3, none⟩)) rfl (by kernel_rfl) (by kernel_rfl) (by kernel_rfl) (fun _ _ _ h => h) (Or.inl ⟨by rfl, by intro w hSw; (try dsimp only at hSw); go_simp⟩) (by assumption) ?_
      refine wpAnyH_take (i := 8) (v := .int .i64 mr) rfl (by kernel_rfl) (by kernel_rfl) (by kernel_rfl) (fun _ _ _ h => h) (Or.inl ⟨by rfl, by intro w hSw; (try dsimp only at hSw); go_simp⟩) (by assumption) ?_
      refine wpAnyH_take (i := 9) (v := .pointer (some ⟨W.heap.size, 5, none⟩)) rfl (by kernel_rfl) (by kernel_rfl) (by kernel_rfl) (fun _ _ _ h => h) (Or.inl ⟨by rfl, by intro w hSw; (try dsimp only at hSw); go_simp⟩) (by assumption) ?_
      refine wpAnyH_take (i := 10) (v := .bool true) rfl (by kernel_rfl) (by kernel_rfl) (by kernel_rfl) (fun _ _ _ h => h) (Or.inl ⟨by rfl, by intro w hSw; (try dsimp only at hSw); go_simp⟩) (by assumption) ?_
      refine wpAnyH_take (i := 11) (v := .pointer (some ⟨W.heap.size, 0, none⟩)) rfl (by kernel_rfl) (by kernel_rfl) (by kernel_rfl) (fun _ _ _ h => h) (Or.inl ⟨by rfl, by intro w hSw; (try dsimp only at hSw); go_simp⟩) (by assumption) ?_
      refine wpAnyH_take (i := 12) (v := .int .i64 4) rfl (by kernel_rfl) (by kernel_rfl) (by kernel_rfl) (fun _ _ _ h => h) (Or.inl ⟨by rfl, by intro w hSw; (try dsimp only at hSw); go_simp⟩) (by assumption) ?_
      refine wpAnyH_take (i := 13) (v := .bool false) rfl (by kernel_rfl) (by kernel_rfl) (by kernel_rfl) (fun _ _ _ h => h) (Or.inl ⟨by rfl, by intro w hSw; (try dsimp only at hSw); go_simp⟩) (by assumption) ?_
      refine wpAnyH_take (i := 14) (v := .bool true) rfl (by kernel_rfl) (by kernel_rfl) (by kernel_rfl) (fun _ _ _ h => h) (Or.inl ⟨by rfl, by intro w hSw; (try dsimp only at hSw); go_simp⟩) (by assumption) ?_
      refine wpAnyH_take (i := 15) (v := .agg #[.string ⟨cj.toArray⟩, .int .i64 mr, .bool true]) rfl (by kernel_rfl) (by kernel_rfl) (by kernel_rfl) (fun _ _ _ h => h) (Or.inl ⟨by rfl, by intro w hSw; (try dsimp only at hSw); go_simp⟩) (by assumption) ?_
      refine wpAnyH_ready (rs := [4, 16]) (by kernel_rfl) (by simp) ?_
      refine AllReadyH.cons rfl (fun K hK => ?_) (AllReadyH.cons rfl (fun K hK => ?_) (AllReadyH.nil))
      · go_simp
        refine hK.out _ _ (HS1.out) (fun hHeld => ?_)
        clear hK K
        refine wpAnyH_ready (rs := [16]) (by kernel_rfl) (by simp) ?_
        refine AllReadyH.cons rfl (fun K hK => ?_) (AllReadyH.nil)
        go_simp
        refine hK.out _ _ (HS2.out) (fun hHeld => ?_)
        clear hK K
        refine wpAnyH_ready (rs := [17]) (by kernel_rfl) (by simp) ?_
        refine AllReadyH.cons rfl (fun K hK => ?_) (AllReadyH.nil)
        refine step_append_lies (w := (w5.alloc (.cells (celC cj mr true) 61)).drew) rfl (.tmp 54) (.tmp 66) 25 rfl B 61 i0 (.agg #[.string ⟨#[]⟩, .int .i64 0, .bool false]) 3 32 Try.underlying25 hi hz0 hz1 hz2 rfl (by decide) (.slice C ds.length cc) ds.length (cs3 ds) rfl HO6.out ⟨w5.heap.size, 0, none⟩ 1 1 (cs3 [⟨cj, mr, true⟩]) rfl rfl HNW.out (cs3_one _) (by omega) (by unfold maxLen; omega) (by omega) (by rw [HS6.out]; omega) (w5.heap.size + 1) HS6.out ?_
        intro g7 c8 w7 hown7 hgrow7 hor7 hlt7
        obtain ⟨y2, yf, hg7⟩ := HRF.out w7 hgrow7
        have S3 := HCV.out w7 (fun k hk _ hne => hg7.block k hk (fun e => hne e.symm))
        have HS4 := Lib.hid (fun v => HCV.out (w7.setCell ⟨rb, 2, none⟩ v) (fun k hk hr hne => by rw [heap_setCell_other w7 ⟨rb, 2, none⟩ k _ (fun e => hr e)]; exact hg7.block k hk (fun e => hne e.symm)))
        refine hK.out _ _ (S3) (fun hHeld => ?_)
        clear hK K
        refine wpAnyH_take (i := 18) (v := .pointer (some ⟨rb, 0, none⟩)) rfl (by kernel_rfl) (by kernel_rfl) (by kernel_rfl) (fun _ _ _ h => h) (Or.inl ⟨by rfl, by intro w hSw; (try dsimp only at hSw); go_simp⟩) (by assumption) ?_
        refine wpAnyH_take (i := 19) (v := .pointer (some ⟨rb, 2, none⟩)) rfl (by kernel_rfl) (by kernel_rfl) (by kernel_rfl) (fun _ _ _ h => h) (Or.inl ⟨by rfl, by intro w hSw; (try dsimp only at hSw); go_simp⟩) (by assumption) ?_
        refine wpAnyH_ready (rs := [20]) (by kernel_rfl) (by simp) ?_
        refine AllReadyH.cons rfl (fun K hK => ?_) (AllReadyH.nil)
        go_simp
        refine hK.out _ _ (HS4.out _) (fun hHeld => ?_)
        clear hK K
        refine wpAnyH_done (by kernel_rfl) ?_ _
        have hmv : Moved w5 C (some ⟨g7, 0, none⟩) := by
          rcases hor7 with e | e
          · rw [ownBlock_slice] at e; exact .inl e.symm
          · exact .inr fun k hk => by cases hk; show w5.heap.size ≤ g7; omega
        have hown8 : w7.ownsRow B 61 3 (.slice (some ⟨g7, 0, none⟩) (ds ++ [(⟨cj, mr, true⟩ : Cel)]).length c8) (ds ++ [(⟨cj, mr, true⟩ : Cel)]).length (cs3 (ds ++ [(⟨cj, mr, true⟩ : Cel)])) := by
          rw [List.length_append, cs3_app]; exact hown7
        obtain ⟨q1, q2, q3⟩ := HRC.out.last (L + cj.length) HW5.out hg7 hown8 hmv
        rw [List.length_append] at q1 q2
        have Q1 := Lib.hid q1
        have Q2 := Lib.hid q2
        have Q3 := Lib.hid q3
        clear q1 q2 q3 hown8 hmv hown7 hgrow7 hor7 hlt7 hg7
        go_wp2
        go_end0
        rw [HCJ2.out]
        exact ⟨rfl, O', oc', some ⟨g7, 0, none⟩, c8, Q1.out, (HTW.out.trans Q2.out (fun k hk h => HSO.out k hk h)), HM2.out, Moved.trans (Moved.refl W C) Q3.out HSW.out⟩
      · go_simp
        refine hK.out _ _ (HS2.out) (fun hHeld => ?_)
        clear hK K
        refine wpAnyH_ready (rs := [4]) (by kernel_rfl) (by simp) ?_
        refine AllReadyH.cons rfl (fun K hK => ?_) (AllReadyH.nil)
        go_simp
        refine hK.out _ _ (HS2.out) (fun hHeld => ?_)
        clear hK K
        refine wpAnyH_ready (rs := [17]) (by kernel_rfl) (by simp) ?_
        refine AllReadyH.cons rfl (fun K hK => ?_) (AllReadyH.nil)
        refine step_append_lies (w := (w5.alloc (.cells (celC cj mr true) 61)).drew) rfl (.tmp 54) (.tmp 66) 25 rfl B 61 i0 (.agg #[.string ⟨#[]⟩, .int .i64 0, .bool false]) 3 32 Try.underlying25 hi hz0 hz1 hz2 rfl (by decide) (.slice C ds.length cc) ds.length (cs3 ds) rfl HO6.out ⟨w5.heap.size, 0, none⟩ 1 1 (cs3 [⟨cj, mr, true⟩]) rfl rfl HNW.out (cs3_one _) (by omega) (by unfold maxLen; omega) (by omega) (by rw [HS6.out]; omega) (w5.heap.size + 1) HS6.out ?_
        intro g7 c8 w7 hown7 hgrow7 hor7 hlt7
        obtain ⟨y2, yf, hg7⟩ := HRF.out w7 hgrow7
        have S3 := HCV.out w7 (fun k hk _ hne => hg7.block k hk (fun e => hne e.symm))
        have HS4 := Lib.hid (fun v => HCV.out (w7.setCell ⟨rb, 2, none⟩ v) (fun k hk hr hne => by rw [heap_setCell_other w7 ⟨rb, 2, none⟩ k _ (fun e => hr e)]; exact hg7.block k hk (fun e => hne e.symm)))
        refine hK.out _ _ (S3) (fun hHeld => ?_)
        clear hK K
        refine wpAnyH_take (i := 18) (v := .pointer (some ⟨rb, 0, none⟩)) rfl (by kernel_rfl) (by kernel_rfl) (by kernel_rfl) (fun _ _ _ h => h) (Or.inl ⟨by rfl, by intro w hSw; (try dsimp only at hSw); go_simp⟩) (by assumption) ?_
        refine wpAnyH_take (i := 19) (v := .pointer (some ⟨rb, 2, none⟩)) rfl (by kernel_rfl) (by kernel_rfl) (by kernel_rfl) (fun _ _ _ h => h) (Or.inl ⟨by rfl, by intro w hSw; (try dsimp only at hSw); go_simp⟩) (by assumption) ?_
        refine wpAnyH_ready (rs := [20]) (by kernel_rfl) (by simp) ?_
        refine AllReadyH.cons rfl (fun K hK => ?_) (AllReadyH.nil)
        go_simp
        refine hK.out _ _ (HS4.out _) (fun hHeld => ?_)
        clear hK K
        refine wpAnyH_done (by kernel_rfl) ?_ _
        have hmv : Moved w5 C (some ⟨g7, 0, none⟩) := by
          rcases hor7 with e | e
          · rw [ownBlock_slice] at e; exact .inl e.symm
          · exact .inr fun k hk => by cases hk; show w5.heap.size ≤ g7; omega
        have hown8 : w7.ownsRow B 61 3 (.slice (some ⟨g7, 0, none⟩) (ds ++ [(⟨cj, mr, true⟩ : Cel)]).length c8) (ds ++ [(⟨cj, mr, true⟩ : Cel)]).length (cs3 (ds ++ [(⟨cj, mr, true⟩ : Cel)])) := by
          rw [List.length_append, cs3_app]; exact hown7
        obtain ⟨q1, q2, q3⟩ := HRC.out.last (L + cj.length) HW5.out hg7 hown8 hmv
        rw [List.length_append] at q1 q2
        have Q1 := Lib.hid q1
        have Q2 := Lib.hid q2
        have Q3 := Lib.hid q3
        clear q1 q2 q3 hown8 hmv hown7 hgrow7 hor7 hlt7 hg7
        go_wp2
        go_end0
        rw [HCJ2.out]
        exact ⟨rfl, O', oc', some ⟨g7, 0, none⟩, c8, Q1.out, (HTW.out.trans Q2.out (fun k hk h => HSO.out k hk h)), HM2.out, Moved.trans (Moved.refl W C) Q3.out HSW.out⟩
    )
end Go.Proofs.Ytbcckfggnlmhoaa
