/-
  Our own text, in the proofs of the laws of package disk (cayleylaw04). Proved here: relator, IsPres, IsDisk, checked of the reference; IsDisk and checked of the reference; Join, Turn, Same, Product, Inverse of the reference; products, inverses, conjugates and simplified disks are valid, and their boundaries; Shift, Conjugate and Simplify of the reference. Conditions: the arguments lie in memory as the slices say; bounds; where a presentation is named valid, it is.
-/
import Derived.Test.YtbcckfggnlmhoaaAm
import Derived.Test.YtbcckfggnlmhoaaEa
namespace Go.Proofs.Ytbcckfggnlmhoaa
open Go Go.RowKit

set_option maxHeartbeats 1000000 in
set_option maxRecDepth 100000 in
theorem rRelator_any (p : Pr) (R : Option Addr) (rc : Nat) (i : Int) (inv : Bool) (w : World) (hp : presB p = true) (hi : isRelB p i = true) (hr : RelsAt w R p.rels) :
    Calls Try.prog 73 #[prV p.k R p.rels.length rc, .int .i64 i, .bool inv] w fun e w' => e = .returned (.string ⟨(relOf p i inv).toArray⟩) ∧ Below w.heap.size w w' := by
  have h60 := (presB_k hp).2.2
  have hall := all_mono (presB_k hp).2.1 (relOf_all hp hi false)
  have hlen := relOf_len hp hi false
  simp only [isRelB, Bool.and_eq_true, decide_eq_true_eq] at hi
  obtain ⟨hi0, hi1⟩ := hi
  obtain ⟨n, rfl⟩ := Int.eq_ofNat_of_zero_le hi0
  have hn : n < p.rels.length := by omega
  obtain ⟨b, o, rfl, hc, _⟩ := hr n hn
  have HL : Hid (p.rels.getD n [] = p.rels[n]) := Lib.hid (by simp [List.getD, hn])
  have hl : (p.rels[n]).length ≤ 200 := by have := hlen; simp only [relOf, Int.toNat_natCast, HL.out] at this; simpa using this
  have ha : (p.rels[n]).all (letB 8) = true := by have := hall; simp only [relOf, Int.toNat_natCast, HL.out] at this; simpa using this
  generalize hrr : p.rels[n] = l at *
  have HRR := Lib.hid hrr
  have hbw : b < w.heap.size := lt_of_cell hc
  have HB0 : Hid (Below w.heap.size w (w.alloc (.cells (prC p.k (some ⟨b, o, none⟩) p.rels.length rc) 24))) := Lib.hid ((Below.refl _ _).alloc (Nat.le_refl _) _)
  have hI : Calls Try.prog 26 #[.string ⟨l.toArray⟩] (w.alloc (.cells (prC p.k (some ⟨b, o, none⟩) p.rels.length rc) 24)) fun e w' => e = .returned (.string ⟨(invW l).toArray⟩) ∧ Below (w.alloc (.cells (prC p.k (some ⟨b, o, none⟩) p.rels.length rc) 24)).heap.size (w.alloc (.cells (prC p.k (some ⟨b, o, none⟩) p.rels.length rc) 24)) w' :=
    Invert_any ⟨l.toArray⟩ _ ha (by rw [size_mk]; omega)
  clear hrr hlen hall ha
  cases inv with
  | false =>
    have HE : Hid (relOf p (n : Int) false = l) := Lib.hid (by simp only [relOf, Int.toNat_natCast, HL.out]; rfl)
    clear hI
    go_enter Try.func73, Try.ntmps73
    go_wp2
    go_ret
    rw [HE.out]
    exact ⟨rfl, HB0.out⟩
  | true =>
    have HE : Hid (relOf p (n : Int) true = invW l) := Lib.hid (by simp only [relOf, Int.toNat_natCast, HL.out]; rfl)
    go_enter Try.func73, Try.ntmps73
    go_wp2_with fail
    refine hI.mono ?_
    rintro e w2 ⟨rfl, hb⟩
    have HB := Lib.hid (HB0.out.trans (hb.mono (by simp)))
    clear hb hI
    go_wp2
    go_ret
    rw [HE.out]
    exact ⟨rfl, HB.out⟩

set_option maxHeartbeats 2000000 in
set_option maxRecDepth 100000 in
theorem IsPres_any (p : Pr) (R : Option Addr) (rc : Nat) (w : World) (hr : RelsAt w R p.rels) (hm : p.rels.length ≤ maxLen) :
    Calls Try.prog 34 #[prV p.k R p.rels.length rc] w fun e w' => e = .returned (.bool (presB p)) ∧ Below w.heap.size w w' := by
  unfold maxLen at hm
  have HBX := Lib.hid (Boxd.start w (prC p.k R p.rels.length rc) 24)
  by_cases h1 : p.k < 1
  · have HR := Lib.hid (presB_no (p := p) (by omega))
    have hd : decide (p.k < 1) = true := by simpa using h1
    clear hr
    generalize p.rels.length = n at *
    go_enter Try.func34, Try.ntmps34
    go_wp2
    go_ret
    exact ⟨ret_bool HR.out.symm, HBX.out.old⟩
  have hd1 : decide (p.k < 1) = false := by simpa using h1
  by_cases h2 : 8 < p.k
  · have HR := Lib.hid (presB_no (p := p) (by omega))
    have hd : decide (8 < p.k) = true := by simpa using h2
    clear hr
    generalize p.rels.length = n at *
    go_enter Try.func34, Try.ntmps34
    go_wp2
    go_ret
    exact ⟨ret_bool HR.out.symm, HBX.out.old⟩
  have hd2 : decide (8 < p.k) = false := by simpa using h2
  by_cases h3 : 60 < p.rels.length
  · have HR := Lib.hid (presB_no (p := p) (by omega))
    have hd : decide ((60 : Int) < (p.rels.length : Int)) = true := by simp; omega
    have hd' : decide (60 < p.rels.length) = true := by simpa using h3
    clear hr
    generalize p.rels.length = n at *
    go_enter Try.func34, Try.ntmps34
    go_wp2
    go_ret
    exact ⟨ret_bool HR.out.symm, HBX.out.old⟩
  have hd3 : decide ((60 : Int) < (p.rels.length : Int)) = false := by simp; omega
  have hd3' : decide (60 < p.rels.length) = false := by simpa using h3
  have HR := Lib.hid (presB_yes (p := p) (by omega) (by omega) (by omega))
  have HREL := Lib.hid hr
  have HK1 := Lib.hid (show 1 ≤ p.k by omega)
  have HK8 := Lib.hid (show p.k ≤ 8 by omega)
  clear hr
  go_enter Try.func34, Try.ntmps34
  go_wp2
  go_loopw [4, 22] (fun _ i wr => ∃ n : Nat, n ≤ p.rels.length ∧ i = .int .i64 n ∧ (p.rels.take n).all (relB p.k) = true ∧ Boxd w (prC p.k R p.rels.length rc) 24 wr) (fun _ i _ => p.rels.length - (intOf i).toNat)
  case atStart => exact ⟨0, Nat.zero_le _, rfl, rfl, HBX.out⟩
  case round =>
    obtain ⟨n, hn, rfl, hall, hbx⟩ := hrel
    have HA := Lib.hid hall
    have HX := Lib.hid hbx
    clear hall hbx
    by_cases hlt : n < p.rels.length
    · have HS := Lib.hid (all_take_succL p.rels (relB p.k) n hlt)
      have HN := Lib.hid (all_noL p.rels (relB p.k) n hlt)
      obtain ⟨b, o, hR, hc, hl⟩ := (HREL.out.below HX.out.old) n hlt
      have c0 := HX.out.cell 0
      have hsz := HX.out.size
      subst hR
      simp only [List.getElem?_toArray, List.getElem?_cons_zero] at c0
      generalize p.rels[n] = r at *
      have HSZ : (ByteArray.mk r.toArray).size = r.length := size_mk r
      have hI : Calls Try.prog 71 #[.string ⟨r.toArray⟩, .int .i64 p.k] wr fun e w' => e = .returned (.bool (isWd p.k r)) ∧ wr = w' := IsWord_any p.k ⟨r.toArray⟩ wr HK1.out HK8.out (by rw [HSZ]; exact hl)
      unfold maxLen at hl
      by_cases g1 : 1 ≤ r.length
      case neg =>
        have HZ := Lib.hid (HN.out (relB_no1 g1))
        have e1 : decide ((r.length : Int) < 1) = true := decide_eq_true (by omega)
        have e1' : decide (r.length < 1) = true := decide_eq_true (by omega)
        have e1'' : r = [] := List.length_eq_zero_iff.1 (by omega)
        subst e1''
        clear g1
        go_wp2
        go_ret
        exact ⟨ret_bool (by rw [HR.out, HZ.out]), HX.out.old⟩
      have e1 : decide ((r.length : Int) < 1) = false := decide_eq_false (by omega)
      have e1' : decide (r.length < 1) = false := decide_eq_false (by omega)
      have e1'' : decide (r.length = 0) = false := decide_eq_false (by omega)
      by_cases g2 : r.length ≤ 200
      case neg =>
        have HZ := Lib.hid (HN.out (relB_no2 g2))
        have e2 : decide ((200 : Int) < (r.length : Int)) = true := decide_eq_true (by omega)
        have e2' : decide (200 < r.length) = true := decide_eq_true (by omega)
        go_wp2
        go_ret
        exact ⟨ret_bool (by rw [HR.out, HZ.out]), HX.out.old⟩
      have e2 : decide ((200 : Int) < (r.length : Int)) = false := decide_eq_false (by omega)
      have e2' : decide (200 < r.length) = false := decide_eq_false (by omega)
      cases hw : isWd p.k r with
      | false =>
        have HZ := Lib.hid (HN.out (relB_no3 hw))
        rw [hw] at hI
        clear hw
        go_wp2_with fail
        refine hI.mono ?_
        rintro e w1 ⟨rfl, rfl⟩
        go_wp2
        go_ret
        exact ⟨ret_bool (by rw [HR.out, HZ.out]), HX.out.old⟩
      | true =>
        have HRY := Lib.hid (relB_yes g1 g2 hw)
        rw [hw] at hI
        have hRd : Calls Try.prog 25 #[.string ⟨r.toArray⟩] wr fun e w' => e = .returned (.string ⟨(red r).toArray⟩) ∧ Below wr.heap.size wr w' := Reduce_any ⟨r.toArray⟩ wr (all_mono HK8.out (isWd_all hw)) (by rw [HSZ]; omega)
        clear hw
        cases hq : (red r == r) with
        | true =>
          have HG : Hid (relB p.k r = true) := Lib.hid (by rw [HRY.out]; simpa using hq)
          generalize red r = q at *
          go_wp2_with fail
          refine hI.mono ?_
          rintro e w1 ⟨rfl, rfl⟩
          go_wp2_with fail
          refine hRd.mono ?_
          rintro e w2 ⟨rfl, hb⟩
          have HB := Lib.hid hb
          clear hb
          go_wp2
          go_roundw
          case rel => exact ⟨n + 1, by omega, by go_num, by rw [HS.out, HA.out, HG.out]; rfl, HX.out.on HB.out⟩
          case measure => simp [intOf]; omega
        | false =>
          have HZ := Lib.hid (HN.out (by rw [HRY.out]; simpa using hq))
          generalize red r = q at *
          go_wp2_with fail
          refine hI.mono ?_
          rintro e w1 ⟨rfl, rfl⟩
          go_wp2_with fail
          refine hRd.mono ?_
          rintro e w2 ⟨rfl, hb⟩
          have HB := Lib.hid hb
          clear hb
          go_wp2
          go_ret
          exact ⟨ret_bool (by rw [HR.out, HZ.out]), (HX.out.on HB.out).old⟩
    · obtain rfl : n = p.rels.length := by omega
      have HZ := HA.out
      rw [List.take_length] at HZ
      have HZ := Lib.hid HZ
      go_wp2
      go_ret
      exact ⟨ret_bool (by rw [HR.out, HZ.out]), HX.out.old⟩
end Go.Proofs.Ytbcckfggnlmhoaa

namespace Go.Proofs.Ytbcckfggnlmhoaa
open Go Go.RowKit

set_option maxHeartbeats 2000000 in
set_option maxRecDepth 100000 in
theorem IsDisk_any (p : Pr) (R : Option Addr) (rc : Nat) (D : Option Addr) (dc : Nat) (d : List Cel) (w : World) (hd : CellsAt w D d) (hm : p.rels.length ≤ maxLen) (hdm : d.length ≤ 5000000000000) (hk1 : 1 ≤ p.k) (hk8 : p.k ≤ 8) :
    Calls Try.prog 42 #[prV p.k R p.rels.length rc, .slice D d.length dc] w fun e w' => e = .returned (.bool (diskB p d)) ∧ Below w.heap.size w w' := by
  have HM := Lib.hid hm
  have HBX := Lib.hid (Boxd.start w (prC p.k R p.rels.length rc) 24)
  have HD := Lib.hid hd
  have HK1 := Lib.hid hk1
  have HK8 := Lib.hid hk8
  clear hm hd hk1 hk8
  go_enter Try.func42, Try.ntmps42
  go_wp2
  go_loopw [5, 7, 10] (fun s _ i wr => ∃ (n m : Nat), n ≤ d.length ∧ i = .int .i64 (n : Int) ∧ s = .int .i64 (m : Int) ∧ m = conjs (d.take n) ∧ m ≤ 100000 * n ∧ (d.take n).all (cellB p) = true ∧ Boxd w (prC p.k R p.rels.length rc) 24 wr) (fun _ _ i _ => d.length - (intOf i).toNat)
  case atStart => exact ⟨0, 0, Nat.zero_le _, rfl, rfl, rfl, by omega, rfl, HBX.out⟩
  case round =>
    obtain ⟨n, m, hn, rfl, rfl, hmm, hm1, hall, hbx⟩ := hrel
    have HMM := Lib.hid hmm
    have HA := Lib.hid hall
    have HX := Lib.hid hbx
    clear hmm hall hbx
    by_cases hlt : n < d.length
    · have HS := Lib.hid (all_take_succL d (cellB p) n hlt)
      have HN := Lib.hid (all_noL d (cellB p) n hlt)
      have HC : Hid (conjs (d.take (n + 1)) = m + (d[n]).conj.length) := Lib.hid (by rw [conjs_take_succ d n hlt, HMM.out])
      obtain ⟨b, o, hD, hcel⟩ := (HD.out.below HX.out.old) n hlt
      obtain ⟨q1, q2, q3, q4⟩ := hcel
      subst hD
      have HCB : Hid (cellB p d[n] = (isRelB p (d[n]).rel && isWd p.k (d[n]).conj)) := Lib.hid rfl
      generalize d[n] = x at *
      obtain ⟨c, rel, inv⟩ := x
      simp only at q1 q2 q3 q4
      have HCB : Hid (cellB p ⟨c, rel, inv⟩ = (isRelB p rel && isWd p.k c)) := HCB
      have HC : Hid (conjs (d.take (n + 1)) = m + c.length) := HC
      have hsz := HX.out.size
      have HSZ : (ByteArray.mk c.toArray).size = c.length := size_mk c
      have HX2 := Lib.hid (Boxd.start wr (celC c rel inv) 61)
      have HX1 := Lib.hid (HX.out.on HX2.out.old)
      have c0 := HX1.out.cell 0
      have c1 := HX1.out.cell 1
      simp only [List.getElem?_toArray, List.getElem?_cons_zero, List.getElem?_cons_succ] at c0 c1
      have hmr := HM.out
      unfold maxLen at hmr
      by_cases g1 : rel < 0
      · have HR := Lib.hid (diskB_bad (p := p) (d := d) (HN.out (by rw [HCB.out]; simp [isRelB]; omega)))
        have e1 : decide (rel < 0) = true := by simpa using g1
        go_wp2
        go_ret
        exact ⟨ret_bool HR.out.symm, HX1.out.old⟩
      have e1 : decide (rel < 0) = false := by simpa using g1
      by_cases g2 : (p.rels.length : Int) ≤ rel
      · have HR := Lib.hid (diskB_bad (p := p) (d := d) (HN.out (by rw [HCB.out]; simp [isRelB]; omega)))
        have e2 : decide ((p.rels.length : Int) ≤ rel) = true := by simpa using g2
        go_wp2
        go_ret
        exact ⟨ret_bool HR.out.symm, HX1.out.old⟩
      have e2 : decide ((p.rels.length : Int) ≤ rel) = false := by simpa using g2
      have HREL : Hid (isRelB p rel = true) := Lib.hid (by simp [isRelB]; omega)
      rw [HREL.out] at HCB
      have hW : Calls Try.prog 71 #[.string ⟨c.toArray⟩, .int .i64 p.k] (wr.alloc (.cells (celC c rel inv) 61)) fun e w' => e = .returned (.bool (isWd p.k c)) ∧ (wr.alloc (.cells (celC c rel inv) 61)) = w' := IsWord_any p.k ⟨c.toArray⟩ _ HK1.out HK8.out (by rw [HSZ]; unfold maxLen; omega)
      cases hw : isWd p.k c with
      | false =>
        rw [hw] at hW
        have HR := Lib.hid (diskB_bad (p := p) (d := d) (HN.out (by rw [HCB.out, hw]; rfl)))
        clear hw
        go_wp2_with fail
        refine hW.mono ?_
        rintro e w2 ⟨rfl, rfl⟩
        go_wp2
        go_ret
        exact ⟨ret_bool HR.out.symm, HX1.out.old⟩
      | true =>
        have hc5 := isWd_len hw
        rw [hw] at hW HCB
        clear hw
        go_wp2_with fail
        refine hW.mono ?_
        rintro e w2 ⟨rfl, rfl⟩
        go_wp2
        go_roundw
        case rel => exact ⟨n + 1, m + c.length, by omega, by go_num, by go_num, HC.out.symm, by omega, by rw [HS.out, HA.out, HCB.out]; rfl, HX1.out⟩
        case measure => simp [intOf]; omega
    · obtain rfl : n = d.length := by omega
      have hz := HA.out
      have hmz := HMM.out
      rw [List.take_length] at hz hmz
      have HZ := Lib.hid hz
      have HMZ := Lib.hid hmz
      clear hz hmz
      by_cases hlong : 100000 < d.length
      · have HR := Lib.hid (diskB_long (p := p) hlong)
        have e1 : decide ((d.length : Int) ≤ 100000) = false := by simp; omega
        have e1' : decide (d.length ≤ 100000) = false := by simp; omega
        go_wp2
        go_ret
        exact ⟨ret_bool HR.out.symm, HX.out.old⟩
      have e1 : decide ((d.length : Int) ≤ 100000) = true := by simp; omega
      have e1' : decide (d.length ≤ 100000) = true := by simp; omega
      by_cases hfat : 1000000 < m
      · have HR := Lib.hid (diskB_fat (p := p) (d := d) (by rw [← HMZ.out]; exact hfat))
        have e2 : decide ((m : Int) ≤ 1000000) = false := by simp; omega
        have e2' : decide (m ≤ 1000000) = false := by simp; omega
        go_wp2
        go_ret
        exact ⟨ret_bool HR.out.symm, HX.out.old⟩
      have e2 : decide ((m : Int) ≤ 1000000) = true := by simp; omega
      have e2' : decide (m ≤ 1000000) = true := by simp; omega
      have HR := Lib.hid (diskB_good (p := p) (d := d) (by omega) (by rw [← HMZ.out]; omega) HZ.out)
      go_wp2
      go_ret
      exact ⟨ret_bool HR.out.symm, HX.out.old⟩

set_option maxHeartbeats 2000000 in
set_option maxRecDepth 100000 in
theorem checked_any (p : Pr) (R : Option Addr) (rc : Nat) (W : Option Addr) (wc : Nat) (ws : List (List UInt8)) (X : Option Addr) (xc : Nat) (ds : List Dk) (w : World) (hr : RelsAt w R p.rels) (hm : p.rels.length ≤ maxLen)
    (hw : RelsAt w W ws) (hd : DisksAt w X ds) (hws : ws.length ≤ 2) (hds : ds.length ≤ 2) :
    Calls Try.prog 36 #[prV p.k R p.rels.length rc, .slice W ws.length wc, .slice X ds.length xc] w fun e w' => e = .returned (.int .i64 (chk p ws (ds.map (·.cells)))) ∧ Below w.heap.size w w' := by
  have HM := Lib.hid hm
  have HBX := Lib.hid (Boxd.start w (prC p.k R p.rels.length rc) 24)
  have HREL := Lib.hid hr
  have HWS := Lib.hid hw
  have HDS := Lib.hid hd
  have hP := IsPres_any p R rc (w.alloc (.cells (prC p.k R p.rels.length rc) 24)) (hr.below HBX.out.old) hm
  clear hm hr hw hd
  cases hp : presB p with
  | false =>
    rw [hp] at hP
    have HR := Lib.hid (chk_40 (ws := ws) (ds := ds.map (·.cells)) hp)
    clear hp
    go_enter Try.func36, Try.ntmps36
    go_wp2_with fail
    refine hP.mono ?_
    rintro e w1 ⟨rfl, hb1⟩
    go_wp2
    go_ret
    exact ⟨ret_int HR.out.symm, (HBX.out.on hb1).old⟩
  | true =>
    rw [hp] at hP
    have HP := Lib.hid hp
    clear hp
    go_enter Try.func36, Try.ntmps36
    go_wp2_with fail
    refine hP.mono ?_
    rintro e w1 ⟨rfl, hb1⟩
    have HX1 := Lib.hid (HBX.out.on hb1)
    clear hb1 hP
    go_wp2
    go_loopw [8, 16] (fun _ i wr => ∃ n : Nat, n ≤ ws.length ∧ i = .int .i64 (n : Int) ∧ (ws.take n).all (isWd p.k) = true ∧ Boxd w (prC p.k R p.rels.length rc) 24 wr) (fun _ i _ => ws.length - (intOf i).toNat)
    case atStart => exact ⟨0, Nat.zero_le _, rfl, rfl, HX1.out⟩
    case round =>
      obtain ⟨n, hn, rfl, hall, hbx⟩ := hrel
      have HA := Lib.hid hall
      have HX := Lib.hid hbx
      clear hall hbx
      by_cases hlt : n < ws.length
      · have HS := Lib.hid (all_take_succL ws (isWd p.k) n hlt)
        have HN := Lib.hid (all_noL ws (isWd p.k) n hlt)
        obtain ⟨b, o, hW, hc, hl⟩ := (HWS.out.below HX.out.old) n hlt
        have c0 := HX.out.cell 0
        have hsz := HX.out.size
        subst hW
        simp only [List.getElem?_toArray, List.getElem?_cons_zero] at c0
        have hI : Calls Try.prog 71 #[.string ⟨(ws[n]).toArray⟩, .int .i64 p.k] wr fun e w' => e = .returned (.bool (isWd p.k ws[n])) ∧ wr = w' := IsWord_any p.k ⟨(ws[n]).toArray⟩ wr (presB_k HP.out).1 (presB_k HP.out).2.1 (by rw [size_mk]; exact hl)
        clear hl
        cases hb : isWd p.k ws[n] with
        | false =>
          rw [hb] at hI
          have HR := Lib.hid (chk_41 (ds := ds.map (·.cells)) HP.out (HN.out hb))
          clear hb
          generalize ws[n] = r at *
          go_wp2_with fail
          refine hI.mono ?_
          rintro e w2 ⟨rfl, rfl⟩
          go_wp2
          go_ret
          exact ⟨ret_int HR.out.symm, HX.out.old⟩
        | true =>
          rw [hb] at hI HS
          clear hb
          generalize ws[n] = r at *
          go_wp2_with fail
          refine hI.mono ?_
          rintro e w2 ⟨rfl, rfl⟩
          go_wp2
          go_roundw
          case rel => exact ⟨n + 1, by omega, by go_num, by rw [HS.out, HA.out]; rfl, HX.out⟩
          case measure => simp [intOf]; omega
      · obtain rfl : n = ws.length := by omega
        have HZ := HA.out
        rw [List.take_length] at HZ
        have HZ := Lib.hid HZ
        have HXW := Lib.hid HX.out
        clear HA HX
        go_wp2
        go_loopw [10, 28] (fun _ i wr => ∃ n : Nat, n ≤ ds.length ∧ i = .int .i64 (n : Int) ∧ ((ds.map (·.cells)).take n).all (diskB p) = true ∧ Boxd w (prC p.k R p.rels.length rc) 24 wr) (fun _ i _ => ds.length - (intOf i).toNat)
        case atStart => exact ⟨0, Nat.zero_le _, rfl, rfl, HXW.out⟩
        case round =>
          obtain ⟨n, hn2, rfl, hall, hbx⟩ := hrel
          have HA := Lib.hid hall
          have HX := Lib.hid hbx
          clear hall hbx
          by_cases hlt2 : n < ds.length
          · have hlt' : n < (ds.map (·.cells)).length := by simpa using hlt2
            have HS := Lib.hid (all_take_succL (ds.map (·.cells)) (diskB p) n hlt')
            have HN := Lib.hid (all_noL (ds.map (·.cells)) (diskB p) n hlt')
            rw [show (ds.map (·.cells))[n] = (ds[n]).cells by simp] at HS HN
            obtain ⟨b, o, hW, hc, hcl, hl⟩ := (HDS.out.below HX.out.old) n hlt2
            have c0 := HX.out.cell 0
            have c1 := HX.out.cell 1
            have hsz := HX.out.size
            subst hW
            simp only [List.getElem?_toArray, List.getElem?_cons_zero, List.getElem?_cons_succ] at c0 c1
            clear hlt'
            generalize ds[n] = x at *
            obtain ⟨D, dc, d⟩ := x
            simp only at hc hcl hl HS HN
            have hI := IsDisk_any p R rc D dc d wr hcl HM.out hl (presB_k HP.out).1 (presB_k HP.out).2.1
            clear hcl hl
            cases hb : diskB p d with
            | false =>
              rw [hb] at hI
              have HR := Lib.hid (chk_42 HP.out HZ.out (HN.out hb))
              clear hb
              go_wp2_with fail
              refine hI.mono ?_
              rintro e w2 ⟨rfl, hb2⟩
              go_wp2
              go_ret
              exact ⟨ret_int HR.out.symm, (HX.out.on hb2).old⟩
            | true =>
              rw [hb] at hI HS
              clear hb
              go_wp2_with fail
              refine hI.mono ?_
              rintro e w2 ⟨rfl, hb2⟩
              have HX2 := Lib.hid (HX.out.on hb2)
              clear hb2
              go_wp2
              go_roundw
              case rel => exact ⟨n + 1, by omega, by go_num, by rw [HS.out, HA.out]; rfl, HX2.out⟩
              case measure => simp [intOf]; omega
          · obtain rfl : n = ds.length := by omega
            have HZ2 := HA.out
            rw [List.take_of_length_le (by simp)] at HZ2
            have HR := Lib.hid (chk_0 HP.out HZ.out HZ2)
            clear HZ2
            go_wp2
            go_ret
            exact ⟨ret_int HR.out.symm, HX.out.old⟩
end Go.Proofs.Ytbcckfggnlmhoaa

namespace Go.Proofs.Ytbcckfggnlmhoaa
open Go Go.RowKit

/-- append of one cell; the new block's number given apart. -/
theorem append_oneD {ops : Array Oper} {rest : List Oper} {o : Oper} {a : Act} {Q : Exit → Act → World → Prop} (w : World) (g : Nat) (hg : w.heap.size = g) (hgd : o.guard = none) (s x : Operand)
    (ho : o.op = .call { callee := .builtin .append, args := #[s, x], argTypes := #[25, 25] })
    (B : Nat) (A : Option Addr) (n cap : Nat) (d : List Cel) (c : List UInt8) (r : Int) (i : Bool) (hc : c.length ≤ 140737488351232) (hs : a.eval s = .slice A n cap) (hown : w.ownsRow B 61 3 (.slice A n cap) n (cs3 d))
    (hx : a.eval x = .slice (some ⟨g, 0, none⟩) 1 1) (hn : n ≤ 100000000000) (hB : B ≤ w.heap.size)
    (h : ∀ A' cap' w', w'.ownsRow B 61 3 (.slice A' (n + 1) cap') (n + 1) (cs3 (d ++ [⟨c, r, i⟩])) → w.grownBy w' (blk A) → Moved w A A' → wpList Try.prog ops Q rest (a.put o.dst (.slice A' (n + 1) cap')) w') :
    wpList Try.prog ops Q (o :: rest) a (w.alloc (.cells (celC c r i) 61)) := by
  subst hg
  exact append_oneC w hgd s x ho B A n cap d c r i hc hs hown hx hn hB h

set_option maxHeartbeats 1000000 in
set_option maxRecDepth 100000 in
theorem Same_any (A B : Option Addr) (l : List Cel) (ca cb : Nat) (w : World) (ha : CellsAt w A l) (hb : CellsAt w B l) (hl : l.length ≤ 5000000000000) :
    Calls Try.prog 24 #[.slice A l.length ca, .slice B l.length cb] w fun e w' => e = .returned (.bool true) ∧ Below w.heap.size w w' := by
  have HA := Lib.hid ha
  have HB := Lib.hid hb
  clear ha hb
  go_enter Try.func24, Try.ntmps24
  go_wp2
  go_loopw [5, 13] (fun _ i wr => ∃ k : Nat, k ≤ l.length ∧ i = .int .i64 (k : Int) ∧ Below w.heap.size w wr) (fun _ i _ => l.length - (intOf i).toNat)
  case atStart => exact ⟨0, Nat.zero_le _, rfl, Below.refl _ _⟩
  case round =>
    obtain ⟨k, hk, rfl, hbw⟩ := hrel
    have HBW := Lib.hid hbw
    by_cases hlt : k < l.length
    · have hd : decide ((k : Int) < (l.length : Int)) = true := by simp; omega
      have hd' : decide (k < l.length) = true := by simpa using hlt
      obtain ⟨a, o, hA, hx⟩ := (HA.out.below hbw) k hlt
      obtain ⟨b, o2, hB, hy⟩ := (HB.out.below hbw) k hlt
      subst hA hB
      generalize l[k] = x at *
      obtain ⟨xc, xr, xi⟩ := x
      obtain ⟨x0, x1, x2, _⟩ := hx
      obtain ⟨y0, y1, y2, _⟩ := hy
      simp only at x0 x1 x2 y0 y1 y2
      have hk1 : (k : Int) < (l.length : Int) := by omega
      clear hbw
      go_wp2
      go_quiet (fail)
      go_wp2
      go_roundw
      case rel => exact ⟨k + 1, by omega, by go_num, HBW.out.drewN nq⟩
      case measure => simp [intOf]; omega
    · have hd : decide ((k : Int) < (l.length : Int)) = false := by simp; omega
      have hd' : decide (k < l.length) = false := by simpa using hlt
      clear hbw
      go_wp2
      go_ret
      exact ⟨rfl, HBW.out⟩

set_option maxHeartbeats 2000000 in
set_option maxRecDepth 100000 in
theorem Join_any (A B : Option Addr) (a b : List Cel) (ca cb : Nat) (w : World) (ha : CellsAt w A a) (hb : CellsAt w B b) (hA : A = none → a = [] ∧ ca = 0) (hB : B = none → b = [] ∧ cb = 0) (hn : a.length + b.length ≤ 1000000000) :
    Calls Try.prog 41 #[.slice A a.length ca, .slice B b.length cb] w (CloneC w (a ++ b)) := by
  have HA := Lib.hid ha
  have HB := Lib.hid hb
  have HAN := Lib.hid hA
  have HBN := Lib.hid hB
  have HO := Lib.hid (own_empty w w.heap.size 61 3 (Nat.le_refl _))
  have HBW : Hid (Below w.heap.size w (w.alloc (.cells #[] 61))) := Lib.hid ((Below.refl _ _).alloc (Nat.le_refl _) _)
  clear ha hb hA hB
  go_enter Try.func41, Try.ntmps41
  go_wp2_with (first
    | (at_builtin; refine append_opt (w.alloc (.cells #[] 61)) rfl (.tmp 7) (.tmp 8) rfl w.heap.size (some ⟨w.heap.size, 0, none⟩) 0 0 [] a rfl HO.out A a.length ca rfl rfl (HA.out.below HBW.out) HAN.out (by omega) (by simp) ?_; intro A1 c1 w1 hown1 hb1; simp only [Nat.zero_add, List.nil_append] at hown1; have HO1 := Lib.hid hown1; have HB1 := Lib.hid (HBW.out.trans hb1); clear hown1 hb1)
    | (at_builtin; refine append_opt w1 rfl (.tmp 10) (.tmp 11) rfl w.heap.size A1 a.length c1 a b rfl HO1.out B b.length cb rfl rfl (HB.out.below HB1.out) HBN.out (by omega) HB1.out.size ?_; intro A2 c2 w2 hown2 hb2; have HO2 := Lib.hid hown2; have HB2 := Lib.hid (HB1.out.trans hb2); clear hown2 hb2))
  go_ret
  exact ⟨A2, c2, by rw [List.length_append]; rfl, by rw [List.length_append]; exact HO2.out, HB2.out⟩

set_option maxHeartbeats 2000000 in
set_option maxRecDepth 100000 in
theorem Turn_any (A : Option Addr) (cap : Nat) (l : List Cel) (w : World) (ha : CellsAt w A l) (hn : l.length ≤ 1000000000) :
    Calls Try.prog 43 #[.slice A l.length cap] w (CloneC w (ginv invC l)) := by
  have HA := Lib.hid ha
  have HSZ := Lib.hid (cell_sized ha)
  have HO0 := Lib.hid (own_empty w w.heap.size 61 3 (Nat.le_refl _))
  have HB0 : Hid (Below w.heap.size w (w.alloc (.cells #[] 61))) := Lib.hid ((Below.refl _ _).alloc (Nat.le_refl _) _)
  clear ha
  go_enter Try.func43, Try.ntmps43
  go_wp2
  go_loopw [3, 4, 5] (fun out i _ wr => ∃ (m k : Nat) (q : Int) (O' : Option Addr) (oc' : Nat), m + k = l.length ∧ i = .int .i64 q ∧ q + 1 = (m : Int) ∧ out = .slice O' k oc' ∧ wr.ownsRow w.heap.size 61 3 (.slice O' k oc') k (cs3 (ginv invC (l.drop m))) ∧ Below w.heap.size w wr)
    (fun _ i _ _ => ((intOf i) + 1).toNat)
  case atStart => exact ⟨l.length, 0, _, _, 0, by omega, rfl, by omega, rfl, by rw [List.drop_length]; exact HO0.out, HB0.out⟩
  case round =>
    obtain ⟨m, k, q, O', oc', hk, rfl, hq, rfl, hown, hb⟩ := hrel
    have HOW := Lib.hid hown
    have HB := Lib.hid hb
    clear hown hb
    cases m with
    | succ m =>
      obtain rfl : q = (m : Int) := by omega
      clear hq
      have hlt : m < l.length := by omega
      have HSN : Hid (ginv invC (l.drop m) = ginv invC (l.drop (m + 1)) ++ [invC l[m]]) := Lib.hid (by
        rw [List.drop_eq_getElem_cons hlt]; exact ginv_cons _ _ _)
      obtain ⟨b, o, hA, hx⟩ := (HA.out.below HB.out) m hlt
      subst hA
      have hxs := HSZ.out l[m] (List.getElem_mem _)
      generalize l[m] = x at *
      obtain ⟨xc, xr, xi⟩ := x
      obtain ⟨x0, x1, x2, _⟩ := hx
      simp only at x0 x1 x2 hxs
      have HXS := Lib.hid hxs
      have HK : Hid (m + 1 + k = l.length) := Lib.hid hk
      have hk2 : k ≤ 1000000000 := by omega
      have HBX : Hid (Below w.heap.size w (wr.alloc (.cells (celC xc xr (!xi)) 61))) := Lib.hid (HB.out.alloc HB.out.size _)
      have HO1 := Lib.hid (HOW.out.alloc (.cells (celC xc xr (!xi)) 61))
      have HSN2 : Hid (ginv invC (l.drop m) = ginv invC (l.drop (m + 1)) ++ [⟨xc, xr, !xi⟩]) := HSN
      clear hk hxs
      go_wp2_with (at_builtin; refine append_oneD (wr.alloc (.cells (celC xc xr (!xi)) 61)) (wr.heap.size + 1) (World.size_alloc _ _) rfl (.tmp 22) (.tmp 24) rfl w.heap.size O' k oc' _ xc xr (!xi) HXS.out rfl HO1.out rfl (by omega) HBX.out.size ?_; intro A' cap' w1 hown1 hg1 hm1)
      have H1 := Lib.hid hown1
      have B1 := Lib.hid (below_of_grown HBX.out hg1 HBX.out.size (own_ge HO1.out))
      clear hown1 hg1 hm1
      go_wp2
      go_roundw
      case rel => exact ⟨m, k + 1, _, A', cap', by have := HK.out; omega, rfl, by omega, rfl, by rw [HSN2.out]; exact H1.out, B1.out⟩
      case measure => simp [intOf]
    | zero =>
      obtain rfl : q = -1 := by omega
      obtain rfl : k = l.length := by omega
      have HN := Lib.hid (show (ginv invC l).length = l.length from ginv_len _ _)
      clear hq hk
      go_wp2
      go_ret
      have h := HOW.out
      rw [List.drop_zero] at h
      exact ⟨O', oc', by rw [HN.out]; rfl, by rw [HN.out]; exact h, HB.out⟩

set_option maxHeartbeats 4000000 in
set_option maxRecDepth 100000 in
theorem rProduct_any (p : Pr) (R : Option Addr) (rc : Nat) (D : Option Addr) (dc : Nat) (d : List Cel) (E : Option Addr) (ec : Nat) (e : List Cel) (w : World) (hr : RelsAt w R p.rels) (hm : p.rels.length ≤ maxLen) (hd : CellsAt w D d) (hdm : d.length ≤ 5000000000000) (hD : D = none → d = [] ∧ dc = 0)
    (he : CellsAt w E e) (hem : e.length ≤ 5000000000000) (hE : E = none → e = [] ∧ ec = 0) :
    Calls Try.prog 16 #[prV p.k R p.rels.length rc, .slice D d.length dc, .slice E e.length ec] w (CellsP w (prodL p d e) (prodI p d e)) := by
  have HBX := Lib.hid (Boxd.start w (prC p.k R p.rels.length rc) 24)
  have HB1 := Lib.hid (HBX.out.on (Boxd.start (w.alloc (.cells (prC p.k R p.rels.length rc) 24)) #[.slice D d.length dc, .slice E e.length ec] 25).old)
  have hX := checked_any p R rc none 0 [] (some ⟨(w.alloc (.cells (prC p.k R p.rels.length rc) 24)).heap.size, 0, none⟩) 2 [⟨D, dc, d⟩, ⟨E, ec, e⟩] ((w.alloc (.cells (prC p.k R p.rels.length rc) 24)).alloc (.cells #[.slice D d.length dc, .slice E e.length ec] 25)) (hr.below HB1.out.old) hm (rels_none _ _) (disks_two (hd.below HBX.out.old) (he.below HBX.out.old) hdm hem 25) (by simp) (by simp)
  simp only [World.size_alloc, List.map_cons, List.map_nil, List.length_cons, List.length_nil] at hX
  have HM := Lib.hid hm
  have HREL := Lib.hid hr
  have HCD := Lib.hid hd
  have HCE := Lib.hid he
  have HDN := Lib.hid hD
  have HEN := Lib.hid hE
  clear hr hd he hm hD hE
  by_cases hk : chk p [] [d, e] = 0
  · have HK := Lib.hid hk
    have HPI : Hid (prodI p d e = if diskB p (d ++ e) = true then 0 else 2) := Lib.hid (if_pos hk)
    have hdb := (chk_ok hk).2.2
    have HK1 := Lib.hid (presB_k (chk_ok hk).1).1
    have HK8 := Lib.hid (presB_k (chk_ok hk).1).2.1
    simp only [List.all_cons, List.all_nil, Bool.and_true, Bool.and_eq_true] at hdb
    have hd1 := (diskB_facts hdb.1).1
    have he1 := (diskB_facts hdb.2).1
    have HSD := Lib.hid (show Sized (d ++ e) from fun c hc => by
      rcases List.mem_append.1 hc with hc | hc
      · exact disk_sized hdb.1 c hc
      · exact disk_sized hdb.2 c hc)
    rw [hk] at hX
    clear hk hdb
    go_enter Try.func16, Try.ntmps16
    go_wp2_with fail
    refine hX.mono ?_
    rintro e1 w1 ⟨rfl, hb1⟩
    have HX := Lib.hid (HB1.out.on' (hb1.mono (by omega)))
    have HX2 := Lib.hid HX.out
    have hC := Join_any D E d e dc ec w1 (HCD.out.below HX2.out.old) (HCE.out.below HX2.out.old) HDN.out HEN.out (by omega)
    have HPL0 : Hid (prodI p d e = 0 → prodL p d e = d ++ e) := Lib.hid (fun h => if_pos h)
    have hxl : (d ++ e).length ≤ 200000 := by rw [List.length_append]; omega
    generalize d ++ e = x at *
    clear hX hb1
    go_wp2_with fail
    refine hC.mono ?_
    rintro e2 w2 ⟨A2, c2, rfl, hown2, hb2⟩
    have HX3 := Lib.hid (HX2.out.on hb2)
    have HO2 := Lib.hid hown2
    have hI := IsDisk_any p R rc A2 c2 x w2 (cells_own hown2 HSD.out) HM.out (by omega) HK1.out HK8.out
    have c0 := HX3.out.cell 0
    have c1 := HX3.out.cell 1
    simp only [List.getElem?_toArray, List.getElem?_cons_zero, List.getElem?_cons_succ] at c0 c1
    clear hC hown2 hb2
    cases hb : diskB p x with
    | false =>
      rw [hb] at hI
      have HP2 : Hid (prodI p d e = 2) := Lib.hid (by rw [HPI.out, hb]; rfl)
      have HPL : Hid (prodL p d e = []) := Lib.hid (by unfold prodL; rw [HP2.out]; rfl)
      clear hb
      go_wp2_with fail
      refine hI.mono ?_
      rintro e3 w3 ⟨rfl, hb3⟩
      have HX4 := Lib.hid (HX3.out.on hb3)
      clear hb3 hI c0 c1
      go_wp2
      go_ret2
      rw [HP2.out, HPL.out]
      exact CellsP.no HX4.out.old
    | true =>
      rw [hb] at hI
      have HP2 : Hid (prodI p d e = 0) := Lib.hid (by rw [HPI.out, hb]; rfl)
      have HPL : Hid (prodL p d e = x) := Lib.hid (HPL0.out HP2.out)
      clear hb
      go_wp2_with fail
      refine hI.mono ?_
      rintro e3 w3 ⟨rfl, hb3⟩
      have HX4 := Lib.hid (HX3.out.on hb3)
      have HO4 := Lib.hid (own_below HO2.out hb3)
      clear hb3 hI c0 c1
      go_wp2
      go_ret2
      rw [HP2.out, HPL.out]
      exact CellsP.of_own HO4.out HSD.out HX4.out.old
  · have HPI : Hid (prodI p d e = chk p [] [d, e]) := Lib.hid (if_neg hk)
    have HPL : Hid (prodL p d e = []) := Lib.hid (by unfold prodL; rw [HPI.out, if_neg hk])
    have hne : (chk p [] [d, e] != 0) = true := by simpa using hk
    clear hk
    generalize chk p [] [d, e] = q at *
    go_enter Try.func16, Try.ntmps16
    go_wp2_with fail
    refine hX.mono ?_
    rintro e1 w1 ⟨rfl, hb1⟩
    have HX := Lib.hid (HB1.out.on' (hb1.mono (by omega)))
    clear hb1 hX
    go_wp2
    go_ret2
    rw [HPI.out, HPL.out]
    exact CellsP.no HX.out.old

set_option maxHeartbeats 4000000 in
set_option maxRecDepth 100000 in
theorem rInverse_any (p : Pr) (R : Option Addr) (rc : Nat) (D : Option Addr) (dc : Nat) (d : List Cel) (w : World) (hr : RelsAt w R p.rels) (hm : p.rels.length ≤ maxLen) (hd : CellsAt w D d) (hdm : d.length ≤ 5000000000000) (hD : D = none → d = [] ∧ dc = 0) :
    Calls Try.prog 17 #[prV p.k R p.rels.length rc, .slice D d.length dc] w (CellsP w (invL p d) (chk p [] [d])) := by
  have HBX := Lib.hid (Boxd.start w (prC p.k R p.rels.length rc) 24)
  have HB1 := Lib.hid (HBX.out.on (Boxd.start (w.alloc (.cells (prC p.k R p.rels.length rc) 24)) #[.slice D d.length dc] 25).old)
  have hX := checked_any p R rc none 0 [] (some ⟨(w.alloc (.cells (prC p.k R p.rels.length rc) 24)).heap.size, 0, none⟩) 1 [⟨D, dc, d⟩] ((w.alloc (.cells (prC p.k R p.rels.length rc) 24)).alloc (.cells #[.slice D d.length dc] 25)) (hr.below HB1.out.old) hm (rels_none _ _) (disks_one (hd.below HBX.out.old) hdm 25) (by simp) (by simp)
  simp only [World.size_alloc, List.map_cons, List.map_nil, List.length_cons, List.length_nil] at hX
  have HCD := Lib.hid hd
  have HDN := Lib.hid hD
  clear hr hd hm hD
  by_cases hk : chk p [] [d] = 0
  · have HIL : Hid (invL p d = ginv invC d) := Lib.hid (if_pos hk)
    have HK := Lib.hid hk
    have hdb := (chk_ok hk).2.2
    simp only [List.all_cons, List.all_nil, Bool.and_true] at hdb
    have hd1 := (diskB_facts hdb).1
    have HSD := Lib.hid (disk_sized hdb)
    have HSI := Lib.hid (show Sized (ginv invC d) from fun c hc => by
      simp only [ginv, List.mem_reverse, List.mem_map] at hc
      obtain ⟨x, hx, rfl⟩ := hc
      exact HSD.out x hx)
    rw [hk] at hX
    clear hk hdb
    go_enter Try.func17, Try.ntmps17
    go_wp2_with fail
    refine hX.mono ?_
    rintro e1 w1 ⟨rfl, hb1⟩
    have HX := Lib.hid (HB1.out.on' (hb1.mono (by omega)))
    have hI := Turn_any D dc d w1 (HCD.out.below HX.out.old) (by omega)
    clear hX hb1
    go_wp2_with fail
    refine hI.mono ?_
    rintro e2 w2 ⟨A2, c2, rfl, hown2, hb2⟩
    have HO2 := Lib.hid hown2
    have HX2 := Lib.hid (HX.out.on hb2)
    clear hown2 hb2 hI
    go_wp2
    go_ret2
    rw [HIL.out, HK.out]
    exact CellsP.of_own HO2.out HSI.out HX2.out.old
  · have HIL : Hid (invL p d = []) := Lib.hid (if_neg hk)
    have hne : (chk p [] [d] != 0) = true := by simpa using hk
    clear hk
    generalize chk p [] [d] = q at *
    go_enter Try.func17, Try.ntmps17
    go_wp2_with fail
    refine hX.mono ?_
    rintro e1 w1 ⟨rfl, hb1⟩
    have HX := Lib.hid (HB1.out.on' (hb1.mono (by omega)))
    clear hb1 hX
    go_wp2
    go_ret2
    rw [HIL.out]
    exact CellsP.no HX.out.old

end Go.Proofs.Ytbcckfggnlmhoaa

namespace Go.Proofs.Ytbcckfggnlmhoaa

theorem chk_one {p : Pr} {d : List Cel} (hp : presB p = true) (hd : diskB p d = true) : chk p [] [d] = 0 := chk_0 hp rfl (by simp [hd])
theorem chk_one' {p : Pr} {d : List Cel} (h : chk p [] [d] = 0) : presB p = true ∧ diskB p d = true := by
  obtain ⟨h1, _, h3⟩ := chk_ok h
  exact ⟨h1, by simpa using h3⟩
theorem chk_word {p : Pr} {u : List UInt8} {d : List Cel} (h : chk p [u] [d] = 0) : presB p = true ∧ isWd p.k u = true ∧ diskB p d = true := by
  obtain ⟨h1, h2, h3⟩ := chk_ok h
  exact ⟨h1, by simpa using h2, by simpa using h3⟩

theorem diskB_mk {p : Pr} {d : List Cel} (h1 : d.length ≤ 100000) (h2 : conjs d ≤ 1000000) (h3 : ∀ c ∈ d, isRelB p c.rel = true ∧ isWd p.k c.conj = true) : diskB p d = true :=
  diskB_good h1 h2 (List.all_eq_true.2 fun c hc => by unfold cellB; rw [(h3 c hc).1, (h3 c hc).2]; rfl)
theorem conjs_rev (d : List Cel) : conjs d.reverse = conjs d := by simp [conjs, List.map_reverse]
theorem conjs_map_inv (d : List Cel) : conjs (d.map invC) = conjs d := by
  unfold conjs; rw [List.map_map]; rfl
theorem diskB_inv {p : Pr} {d : List Cel} (h : diskB p d = true) : diskB p (ginv invC d) = true := by
  obtain ⟨h1, h2, h3⟩ := diskB_facts h
  refine diskB_mk (by rw [ginv_len]; exact h1) (by unfold ginv; rw [conjs_rev, conjs_map_inv]; exact h2) ?_
  intro c hc
  simp only [ginv, List.mem_reverse, List.mem_map] at hc
  obtain ⟨x, hx, rfl⟩ := hc
  exact h3 x hx
theorem conjs_gstp (r : List Cel) (c : Cel) : conjs (gstp invC r c) ≤ conjs r + c.conj.length := by
  cases r with
  | nil => simp [gstp, conjs]
  | cons x t =>
    rw [gstp_cons]; split
    · rw [conjs_cons]; omega
    · rw [conjs_cons, conjs_cons]; omega
theorem conjs_grun : ∀ (l r : List Cel), conjs (grun invC r l) ≤ conjs r + conjs l
  | [], r => by simp [grun, conjs]
  | c :: l, r => by
    have h1 := conjs_grun l (gstp invC r c)
    have h2 := conjs_gstp r c
    rw [conjs_cons]
    show conjs (grun invC (gstp invC r c) l) ≤ _
    omega
theorem conjs_redC : ∀ d : List Cel, conjs (d.map redC) ≤ conjs d
  | [] => Nat.le_refl _
  | c :: d => by
    rw [List.map_cons, conjs_cons, conjs_cons]
    have h1 := conjs_redC d
    have h2 := redC_len c
    omega
theorem diskB_simp {p : Pr} {d : List Cel} (h : diskB p d = true) : diskB p (simp4 d) = true := by
  obtain ⟨h1, h2, h3⟩ := diskB_facts h
  refine diskB_mk (Nat.le_trans (simp4_len d) h1) ?_ ?_
  · have a1 := conjs_grun (d.map redC) []
    have a2 := conjs_redC d
    have a3 : conjs ([] : List Cel) = 0 := rfl
    unfold simp4 gred
    rw [conjs_rev]; omega
  · intro c hc
    obtain ⟨x, hx, rfl⟩ := simp4_mem d c hc
    obtain ⟨g1, g2⟩ := h3 x hx
    refine ⟨g1, ?_⟩
    have := isWd_len g2
    have l := redC_len x
    have e : (redC x).conj = red x.conj := rfl
    unfold isWd
    rw [e, all_red (isWd_all g2)]
    rw [e] at l
    simp; omega
theorem conI_0 {p : Pr} {d : List Cel} {u : List UInt8} (h : conI p d u = 0) : chk p [u] [d] = 0 ∧ (∀ c ∈ d, u.length + c.conj.length ≤ 100000) ∧ conjs (d.map (conC u)) ≤ 1000000 := by
  unfold conI at h
  split at h
  · rename_i hk
    split at h
    · rename_i hh
      refine ⟨hk, fun c hc => ?_, hh.2⟩
      have := List.all_eq_true.1 hh.1 c hc
      simpa using this
    · omega
  · rename_i hk; exact absurd h hk
theorem diskB_con {p : Pr} {d : List Cel} {u : List UInt8} (h : conI p d u = 0) : diskB p (d.map (conC u)) = true := by
  obtain ⟨hk, ha, hc⟩ := conI_0 h
  obtain ⟨hp, hu, hd⟩ := chk_word hk
  obtain ⟨h1, h2, h3⟩ := diskB_facts hd
  refine diskB_mk (by rw [List.length_map]; exact h1) hc ?_
  intro c hc
  obtain ⟨x, hx, rfl⟩ := List.mem_map.1 hc
  obtain ⟨g1, g2⟩ := h3 x hx
  refine ⟨g1, ?_⟩
  have hl := gred_len invc (u ++ x.conj)
  rw [List.length_append] at hl
  have hx := ha x hx
  have e : (conC u x).conj = red (u ++ x.conj) := rfl
  unfold isWd
  rw [e, all_red (k := p.k) (by rw [List.all_append, isWd_all hu, isWd_all g2]; rfl)]
  simp only [Bool.and_true, decide_eq_true_eq]
  show (gred invc (u ++ x.conj)).length ≤ _
  omega
theorem prodI_0 {p : Pr} {d e : List Cel} (h : prodI p d e = 0) : diskB p (d ++ e) = true := by
  unfold prodI at h
  split at h
  · split at h
    · assumption
    · omega
  · rename_i hk; exact absurd h hk

theorem bdS_prod {p : Pr} {d e : List Cel} (hd : chk p [] [d] = 0) (he : chk p [] [e] = 0) (h : prodI p d e = 0) : chk p [] [prodL p d e] = 0 ∧ bdS p (prodL p d e) = red (bdS p d ++ bdS p e) ∧ (prodL p d e).length ≤ 5000000000000 := by
  have e1 : prodL p d e = d ++ e := if_pos h
  have h1 := prodI_0 h
  rw [e1]
  have hk := chk_one (chk_one' hd).1 h1
  exact ⟨hk, by rw [bdS_yes hk, bdS_yes hd, bdS_yes he, bnd_app], by have := (diskB_facts h1).1; omega⟩
theorem bdS_inv {p : Pr} {d : List Cel} (hd : chk p [] [d] = 0) : chk p [] [invL p d] = 0 ∧ bdS p (invL p d) = invW (bdS p d) ∧ (invL p d).length ≤ 5000000000000 := by
  have e1 : invL p d = ginv invC d := if_pos hd
  have h1 := diskB_inv (chk_one' hd).2
  rw [e1]
  have hk := chk_one (chk_one' hd).1 h1
  exact ⟨hk, by rw [bdS_yes hk, bdS_yes hd, bnd_inv], by have := (diskB_facts h1).1; omega⟩
theorem bdS_con {p : Pr} {d : List Cel} {u : List UInt8} (hd : chk p [] [d] = 0) (h : conI p d u = 0) : chk p [] [conL p d u] = 0 ∧ bdS p (conL p d u) = red (u ++ bdS p d ++ invW u) ∧ (conL p d u).length ≤ 5000000000000 := by
  have e1 : conL p d u = d.map (conC u) := if_pos h
  have h1 := diskB_con h
  rw [e1]
  have hk := chk_one (chk_one' hd).1 h1
  exact ⟨hk, by rw [bdS_yes hk, bdS_yes hd, bnd_con], by have := (diskB_facts h1).1; omega⟩
theorem bdS_simp {p : Pr} {d : List Cel} (hd : chk p [] [d] = 0) : chk p [] [simL p d] = 0 ∧ bdS p (simL p d) = bdS p d ∧ (simL p d).length ≤ d.length := by
  have e1 : simL p d = simp4 d := if_pos hd
  have h1 := diskB_simp (chk_one' hd).2
  rw [e1]
  have hk := chk_one (chk_one' hd).1 h1
  exact ⟨hk, by rw [bdS_yes hk, bdS_yes hd, bnd_simp4], simp4_len d⟩
theorem bdS_all {p : Pr} {d : List Cel} (hd : chk p [] [d] = 0) : (bdS p d).all (letB 8) = true ∧ (bdS p d).length ≤ 100000000 := by
  rw [bdS_yes hd]
  obtain ⟨h1, h2⟩ := chk_one' hd
  exact ⟨all_mono (presB_k h1).2.1 (bnd_all h1 h2), bnd_len h1 h2⟩
theorem word_all {p : Pr} {d : List Cel} {u : List UInt8} (h : conI p d u = 0) : u.all (letB 8) = true ∧ u.length ≤ 100000 := by
  obtain ⟨h1, h2, _⟩ := chk_word (conI_0 h).1
  exact ⟨all_mono (presB_k h1).2.1 (isWd_all h2), isWd_len h2⟩
end Go.Proofs.Ytbcckfggnlmhoaa

namespace Go.Proofs.Ytbcckfggnlmhoaa
open Go Go.RowKit

theorem catC (a b c : List UInt8) (h : a ++ b = c) : ByteArray.mk a.toArray ++ ByteArray.mk b.toArray = ⟨c.toArray⟩ := by
  subst h
  have e : ∀ x y : ByteArray, x.data = y.data → x = y := fun x y h => by cases x; cases y; simp only at h; subst h; rfl
  exact e _ _ (by simp [ByteArray.data_append])

theorem frozen_new (w : World) (cs : Array Value) (t : TypeId) (i : Nat) : (w.alloc (.cells cs t)).frozen? ⟨w.heap.size, i, none⟩ = false := by
  unfold World.frozen?
  have := heap_alloc_new w (.cells cs t)
  simp only [this]
  simp

set_option maxHeartbeats 2000000 in
set_option maxRecDepth 100000 in
theorem Shift_any (A : Option Addr) (cap : Nat) (l : List Cel) (u : List UInt8) (w : World) (ha : CellsAt w A l) (hn : l.length ≤ 1000000000) (hu : u.all (letB 8) = true) (hul : u.length ≤ 100000) (hl : ∀ c ∈ l, c.conj.all (letB 8) = true ∧ c.conj.length ≤ 100000) :
    Calls Try.prog 44 #[.slice A l.length cap, .string ⟨u.toArray⟩] w (CloneC w (l.map (conC u))) := by
  have HA := Lib.hid ha
  have HL := Lib.hid hl
  have HU := Lib.hid hu
  have HO0 := Lib.hid (own_empty w w.heap.size 61 3 (Nat.le_refl _))
  have HB0 : Hid (Below w.heap.size w (w.alloc (.cells #[] 61))) := Lib.hid ((Below.refl _ _).alloc (Nat.le_refl _) _)
  clear ha hl hu
  go_enter Try.func44, Try.ntmps44
  go_wp2
  go_loopw [5, 7, 11] (fun out _ i wr => ∃ (k : Nat) (O' : Option Addr) (oc' : Nat), k ≤ l.length ∧ i = .int .i64 (k : Int) ∧ out = .slice O' k oc' ∧ wr.ownsRow w.heap.size 61 3 (.slice O' k oc') k (cs3 ((l.take k).map (conC u))) ∧ Below w.heap.size w wr)
    (fun _ _ i _ => l.length - (intOf i).toNat)
  case atStart => exact ⟨0, _, 0, Nat.zero_le _, rfl, rfl, HO0.out, HB0.out⟩
  case round =>
    obtain ⟨k, O', oc', hk, rfl, rfl, hown, hb⟩ := hrel
    have HOW := Lib.hid hown
    have HB := Lib.hid hb
    clear hown hb
    by_cases hlt : k < l.length
    · have HSN : Hid ((l.take (k + 1)).map (conC u) = (l.take k).map (conC u) ++ [conC u l[k]]) := Lib.hid (by rw [List.take_succ_eq_append_getElem hlt, List.map_append]; rfl)
      obtain ⟨b, o, hA, hx⟩ := (HA.out.below HB.out) k hlt
      subst hA
      obtain ⟨hc1, hc2⟩ := HL.out l[k] (List.getElem_mem _)
      generalize l[k] = x at *
      obtain ⟨xc, xr, xi⟩ := x
      obtain ⟨x0, x1, x2, _⟩ := hx
      simp only at x0 x1 x2 hc1 hc2
      obtain ⟨uc, huc⟩ : ∃ uc, u ++ xc = uc := ⟨_, rfl⟩
      have hcat := catC u xc uc huc
      have hula : uc.length ≤ 200000 := by rw [← huc, List.length_append]; omega
      have HSN2 : Hid ((l.take (k + 1)).map (conC u) = (l.take k).map (conC u) ++ [⟨red uc, xr, xi⟩]) := Lib.hid (by rw [HSN.out, ← huc]; rfl)
      have hrl : (red uc).length ≤ 200000 := Nat.le_trans (gred_len invc uc) hula
      have hR : Calls Try.prog 25 #[.string ⟨uc.toArray⟩] (wr.alloc (.cells (celC xc xr xi) 61)) fun e w' => e = .returned (.string ⟨(red uc).toArray⟩) ∧ Below (wr.alloc (.cells (celC xc xr xi) 61)).heap.size (wr.alloc (.cells (celC xc xr xi) 61)) w' :=
        Reduce_any ⟨uc.toArray⟩ _ (by show uc.all _ = true; rw [← huc, List.all_append, HU.out, hc1]; rfl) (by rw [size_mk]; omega)
      have HBX := Lib.hid (HasCells.new wr (celC xc xr xi) 61)
      have HBA : Hid (Below wr.heap.size wr (wr.alloc (.cells (celC xc xr xi) 61))) := Lib.hid ((Below.refl _ _).alloc (Nat.le_refl _) _)
      have HFZ : Hid ((wr.alloc (.cells (celC xc xr xi) 61)).frozen? ⟨wr.heap.size, 0, none⟩ = false) := Lib.hid (frozen_new wr _ 61 0)
      have HSZ := Lib.hid (World.size_alloc wr (.cells (celC xc xr xi) 61))
      generalize red uc = r at *
      clear huc hc1
      go_wp2_with fail
      refine hR.mono ?_
      rintro e w3 ⟨rfl, hb3⟩
      have HB3 := Lib.hid (HBA.out.trans (hb3.mono HBA.out.size))
      have HX3 := Lib.hid (HBX.out.below hb3)
      have b0 := HX3.out.cell 0
      have b1 := HX3.out.cell 1
      have b2 := HX3.out.cell 2
      have f0 : w3.frozen? ⟨wr.heap.size, 0, none⟩ = false := (hb3.frozen (p := ⟨wr.heap.size, 0, none⟩) (by rw [HSZ.out]; exact Nat.lt_succ_self _)).trans HFZ.out
      simp only [List.getElem?_toArray, List.getElem?_cons_zero, List.getElem?_cons_succ] at b0 b1 b2
      have HB4 : Hid (Below wr.heap.size wr (w3.setCell ⟨wr.heap.size, 0, none⟩ (.string ⟨r.toArray⟩))) := Lib.hid (HB3.out.setCell (p := ⟨wr.heap.size, 0, none⟩) (Nat.le_refl _) _)
      have HO4 := Lib.hid (own_below HOW.out HB4.out)
      clear x0 x1 x2 hb3 hR hcat
      go_wp2_with (at_builtin; refine append_oneD (w3.setCell ⟨wr.heap.size, 0, none⟩ (.string ⟨r.toArray⟩)) w3.heap.size (World.size_setCell _ _ _) rfl (.tmp 21) (.tmp 23) rfl w.heap.size O' k oc' _ r xr xi (by omega) rfl HO4.out rfl (by omega) (Nat.le_trans HB.out.size HB4.out.size) ?_; intro A' cap' w5 hown5 hg5 hm5)
      have H5 := Lib.hid hown5
      have B5 := Lib.hid (below_of_grown (HB.out.trans (HB4.out.mono HB.out.size)) hg5 (Nat.le_trans HB.out.size HB4.out.size) (own_ge HO4.out))
      clear hown5 hg5 hm5
      go_wp2
      go_roundw
      case rel => exact ⟨k + 1, A', cap', by omega, by go_num, rfl, by rw [HSN2.out]; exact H5.out, B5.out⟩
      case measure => simp [intOf]; omega
    · obtain rfl : k = l.length := by omega
      have hml : (l.map (conC u)).length = l.length := List.length_map _
      have HML := Lib.hid hml
      clear hml
      go_wp2
      go_ret
      have h := HOW.out
      rw [List.take_length] at h
      exact ⟨O', oc', by rw [HML.out]; rfl, by rw [HML.out]; exact h, HB.out⟩

theorem conI_all_no {p : Pr} {d : List Cel} {u : List UInt8} (hk : chk p [u] [d] = 0) {k : Nat} (hlt : k < d.length) (h : 100000 < u.length + (d[k]).conj.length) : conI p d u = 2 := by
  unfold conI
  rw [if_pos hk, if_neg]
  rintro ⟨h1, _⟩
  have := List.all_eq_true.1 h1 d[k] (List.getElem_mem _)
  simp at this; omega
theorem conI_disk {p : Pr} {d : List Cel} {u : List UInt8} (hk : chk p [u] [d] = 0) (ha : (d.all fun c => decide (u.length + c.conj.length ≤ 100000)) = true) : conI p d u = if diskB p (d.map (conC u)) = true then 0 else 2 := by
  have e : conI p d u = if conjs (d.map (conC u)) ≤ 1000000 then 0 else 2 := by
    unfold conI; rw [if_pos hk]
    by_cases h : conjs (d.map (conC u)) ≤ 1000000
    · rw [if_pos ⟨ha, h⟩, if_pos h]
    · rw [if_neg (fun x => h x.2), if_neg h]
  by_cases h : conjs (d.map (conC u)) ≤ 1000000
  · rw [if_pos h] at e
    rw [e, if_pos (diskB_con e)]
  · rw [e, if_neg h, if_neg]
    intro hb; exact h (diskB_facts hb).2.1

set_option maxHeartbeats 4000000 in
set_option maxRecDepth 100000 in
theorem rConjugate_any (p : Pr) (R : Option Addr) (rc : Nat) (D : Option Addr) (dc : Nat) (d : List Cel) (u : List UInt8) (w : World) (hr : RelsAt w R p.rels) (hm : p.rels.length ≤ maxLen) (hd : CellsAt w D d) (hdm : d.length ≤ 5000000000000) (hul : u.length ≤ maxLen) :
    Calls Try.prog 18 #[prV p.k R p.rels.length rc, .slice D d.length dc, .string ⟨u.toArray⟩] w (CellsP w (conL p d u) (conI p d u)) := by
  have HBX := Lib.hid (Boxd.start w (prC p.k R p.rels.length rc) 24)
  have HB1 := Lib.hid (HBX.out.on (Boxd.start (w.alloc (.cells (prC p.k R p.rels.length rc) 24)) #[.string ⟨u.toArray⟩] 9).old)
  have HB2 := Lib.hid (HB1.out.on (Boxd.start ((w.alloc (.cells (prC p.k R p.rels.length rc) 24)).alloc (.cells #[.string ⟨u.toArray⟩] 9)) #[.slice D d.length dc] 25).old)
  have hE := checked_any p R rc (some ⟨(w.alloc (.cells (prC p.k R p.rels.length rc) 24)).heap.size, 0, none⟩) 1 [u] (some ⟨((w.alloc (.cells (prC p.k R p.rels.length rc) 24)).alloc (.cells #[.string ⟨u.toArray⟩] 9)).heap.size, 0, none⟩) 1 [⟨D, dc, d⟩] (((w.alloc (.cells (prC p.k R p.rels.length rc) 24)).alloc (.cells #[.string ⟨u.toArray⟩] 9)).alloc (.cells #[.slice D d.length dc] 25)) (hr.below HB2.out.old) hm
    ((rels_one hul 9).below ((Below.refl _ _).alloc (Nat.le_refl _) _)) (disks_one (hd.below HB1.out.old) hdm 25) (by simp) (by simp)
  simp only [World.size_alloc, List.map_cons, List.map_nil, List.length_cons, List.length_nil] at hE
  have HM := Lib.hid hm
  have HCD := Lib.hid hd
  by_cases hk : chk p [u] [d] = 0
  case neg =>
    have HCI : Hid (conI p d u = chk p [u] [d]) := Lib.hid (if_neg hk)
    have HCL : Hid (conL p d u = []) := Lib.hid (by unfold conL; rw [HCI.out, if_neg hk])
    have hne : (chk p [u] [d] != 0) = true := by simpa using hk
    clear hk hr hd hm
    generalize chk p [u] [d] = q at *
    go_enter Try.func18, Try.ntmps18
    go_wp2_with fail
    refine hE.mono ?_
    rintro e1 w1 ⟨rfl, hb1⟩
    have HX := Lib.hid (HB2.out.on' (hb1.mono (by omega)))
    clear hb1 hE
    go_wp2
    go_ret2
    rw [HCI.out, HCL.out]
    exact CellsP.no HX.out.old
  case pos =>
  obtain ⟨hpp, hpu, hpd⟩ := chk_word hk
  have HK := Lib.hid hk
  have HK1 := Lib.hid (presB_k hpp).1
  have HK8 := Lib.hid (presB_k hpp).2.1
  have hd1 := (diskB_facts hpd).1
  have HU := Lib.hid (all_mono (presB_k hpp).2.1 (isWd_all hpu))
  have hu5 := isWd_len hpu
  have HC5 := Lib.hid (show ∀ c ∈ d, c.conj.all (letB 8) = true ∧ c.conj.length ≤ 100000 from fun c hc => by
    have := ((diskB_facts hpd).2.2 c hc).2
    exact ⟨all_mono (presB_k hpp).2.1 (isWd_all this), isWd_len this⟩)
  have HSZ := Lib.hid (show Sized (d.map (conC u)) from fun c hc => by
    obtain ⟨x, hx, rfl⟩ := List.mem_map.1 hc
    have h1 := (HC5.out x hx).2
    have h2 := gred_len invc (u ++ x.conj)
    rw [List.length_append] at h2
    show (gred invc (u ++ x.conj)).length ≤ _
    omega)
  have HSU : (ByteArray.mk u.toArray).size = u.length := size_mk u
  rw [hk] at hE
  clear hr hd hm hdm hul hk hpp hpu hpd
  go_enter Try.func18, Try.ntmps18
  go_wp2_with fail
  refine hE.mono ?_
  rintro e1 w1 ⟨rfl, hb1⟩
  have HX1 := Lib.hid (HB2.out.on' (hb1.mono (by omega)))
  clear hE hb1
  go_wp2
  go_loopw [10, 23] (fun _ i wr => ∃ (k : Nat), k ≤ d.length ∧ i = .int .i64 (k : Int) ∧ (d.take k).all (fun c => decide (u.length + c.conj.length ≤ 100000)) = true ∧ Boxd w (prC p.k R p.rels.length rc) 24 wr)
    (fun _ i _ => d.length - (intOf i).toNat)
  case atStart => exact ⟨0, Nat.zero_le _, rfl, rfl, HX1.out⟩
  case round =>
    obtain ⟨k, hk, rfl, hall, hbx⟩ := hrel
    have HALL := Lib.hid hall
    have HX := Lib.hid hbx
    clear hall hbx
    by_cases hlt : k < d.length
    · have HS := Lib.hid (all_take_succL d (fun c => decide (u.length + c.conj.length ≤ 100000)) k hlt)
      have HNO := Lib.hid (conI_all_no HK.out hlt)
      obtain ⟨b, o, hDA, hcel⟩ := (HCD.out.below HX.out.old) k hlt
      have hc5 := (HC5.out d[k] (List.getElem_mem _)).2
      subst hDA
      generalize d[k] = x at *
      obtain ⟨xc, xr, xi⟩ := x
      obtain ⟨q0, q1, q2, q3⟩ := hcel
      simp only at q0 q1 q2 q3 hc5
      have HSX : (ByteArray.mk xc.toArray).size = xc.length := size_mk xc
      have HX2 := Lib.hid (HX.out.on (Boxd.start wr (celC xc xr xi) 61).old)
      by_cases hbig : 100000 < u.length + xc.length
      · have HE := Lib.hid (HNO.out hbig)
        have HEL : Hid (conL p d u = []) := Lib.hid (by unfold conL; rw [HE.out]; rfl)
        have e1 : decide ((100000 : Int) < (u.length : Int) + (xc.length : Int)) = true := by simp; omega
        have e2 : decide (100000 < u.length + xc.length) = true := by simpa using hbig
        go_wp2
        go_ret2
        rw [HE.out, HEL.out]
        exact CellsP.no HX2.out.old
      have e1 : decide ((100000 : Int) < (u.length : Int) + (xc.length : Int)) = false := by simp; omega
      have e2 : decide (100000 < u.length + xc.length) = false := by simpa using hbig
      go_wp2
      go_roundw
      case rel => exact ⟨k + 1, by omega, by go_num, by rw [HS.out, HALL.out]; simp; omega, HX2.out⟩
      case measure => simp [intOf]; omega
    · obtain rfl : k = d.length := by omega
      have hz := HALL.out
      rw [List.take_length] at hz
      have HCI := Lib.hid (conI_disk HK.out hz)
      have hS := Shift_any D dc d u wr (HCD.out.below HX.out.old) (by omega) HU.out hu5 HC5.out
      have hml : (d.map (conC u)).length = d.length := List.length_map _
      have HCL0 : Hid (conI p d u = 0 → conL p d u = d.map (conC u)) := Lib.hid (fun h => if_pos h)
      have HCL2 : Hid (conI p d u = 2 → conL p d u = []) := Lib.hid (fun h => by unfold conL; rw [h]; rfl)
      have hxl : (d.map (conC u)).length ≤ 100000 := by rw [hml]; exact hd1
      generalize d.map (conC u) = x at *
      clear hz hml
      go_wp2_with fail
      refine hS.mono ?_
      rintro e2 w2 ⟨A2, c2, rfl, hown2, hb2⟩
      have HX2 := Lib.hid (HX.out.on hb2)
      have HO2 := Lib.hid hown2
      have hI := IsDisk_any p R rc A2 c2 x w2 (cells_own hown2 HSZ.out) HM.out (by omega) HK1.out HK8.out
      have c0 := HX2.out.cell 0
      have c1 := HX2.out.cell 1
      simp only [List.getElem?_toArray, List.getElem?_cons_zero, List.getElem?_cons_succ] at c0 c1
      clear hS hown2 hb2
      cases hb : diskB p x with
      | false =>
        rw [hb] at hI
        have HP2 : Hid (conI p d u = 2) := Lib.hid (by rw [HCI.out, hb]; rfl)
        have HPL := Lib.hid (HCL2.out HP2.out)
        clear hb
        go_wp2_with fail
        refine hI.mono ?_
        rintro e3 w3 ⟨rfl, hb3⟩
        have HX4 := Lib.hid (HX2.out.on hb3)
        clear hb3 hI c0 c1
        go_wp2
        go_ret2
        rw [HP2.out, HPL.out]
        exact CellsP.no HX4.out.old
      | true =>
        rw [hb] at hI
        have HP2 : Hid (conI p d u = 0) := Lib.hid (by rw [HCI.out, hb]; rfl)
        have HPL := Lib.hid (HCL0.out HP2.out)
        clear hb
        go_wp2_with fail
        refine hI.mono ?_
        rintro e3 w3 ⟨rfl, hb3⟩
        have HX4 := Lib.hid (HX2.out.on hb3)
        have HO4 := Lib.hid (own_below HO2.out hb3)
        clear hb3 hI c0 c1
        go_wp2
        go_ret2
        rw [HP2.out, HPL.out]
        exact CellsP.of_own HO4.out HSZ.out HX4.out.old
end Go.Proofs.Ytbcckfggnlmhoaa
