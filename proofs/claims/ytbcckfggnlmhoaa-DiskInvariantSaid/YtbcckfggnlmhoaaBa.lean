/-
  Our own text, in the proofs of the laws of package disk (cayleylaw04). Proved here: relator, IsPres, IsDisk, checked of the reference. Conditions: the relators and cells lie in memory as the slices say.
-/
import Derived.Test.YtbcckfggnlmhoaaAo
namespace Go.Proofs.Ytbcckfggnlmhoaa
open Go Go.RowKit

set_option maxHeartbeats 1000000 in
set_option maxRecDepth 100000 in
theorem rRelator_any (p : Pr) (R : Option Addr) (rc : Nat) (i : Int) (inv : Bool) (w : World) (hp : presB p = true) (hi : isRelB p i = true) (hr : RelsAt w R p.rels) :
    Calls Try.prog 73 #[prV p.k R p.rels.length rc, .int .i64 i, .bool inv] w fun e w' => e = .returned (.string ⟨(relOf p i inv).toArray⟩) ∧ Below w.heap.size w w' := by
  have h60 := (presB_k hp).2.2
  have hall := all_mono (presB_k hp).2.1 (relOf_all hp hi false)
  have hlen := relOf_len hp hi false
  simp only [isRelB, Bool.and_eq_true, decide_eq_true_eq] at hi
  obtain ⟨hi0, hi1⟩ := hi
  obtain ⟨n, rfl⟩ := Int.eq_ofNat_of_zero_le hi0
  have hn : n < p.rels.length := by omega
  obtain ⟨b, o, rfl, hc, _⟩ := hr n hn
  have HL : Hid (p.rels.getD n [] = p.rels[n]) := Lib.hid (by simp [List.getD, hn])
  have hl : (p.rels[n]).length ≤ 200 := by have := hlen; simp only [relOf, Int.toNat_natCast, HL.out] at this; simpa using this
  have ha : (p.rels[n]).all (letB 8) = true := by have := hall; simp only [relOf, Int.toNat_natCast, HL.out] at this; simpa using this
  generalize hrr : p.rels[n] = l at *
  have HRR := Lib.hid hrr
  have hbw : b < w.heap.size := lt_of_cell hc
  have HB0 : Hid (Below w.heap.size w (w.alloc (.cells (prC p.k (some ⟨b, o, none⟩) p.rels.length rc) 24))) := Lib.hid ((Below.refl _ _).alloc (Nat.le_refl _) _)
  have hI : Calls Try.prog 26 #[.string ⟨l.toArray⟩] (w.alloc (.cells (prC p.k (some ⟨b, o, none⟩) p.rels.length rc) 24)) fun e w' => e = .returned (.string ⟨(invW l).toArray⟩) ∧ Below (w.alloc (.cells (prC p.k (some ⟨b, o, none⟩) p.rels.length rc) 24)).heap.size (w.alloc (.cells (prC p.k (some ⟨b, o, none⟩) p.rels.length rc) 24)) w' :=
    Invert_any ⟨l.toArray⟩ _ ha (by rw [size_mk]; omega)
  clear hrr hlen hall ha
  cases inv with
  | false =>
    have HE : Hid (relOf p (n : Int) false = l) := Lib.hid (by simp only [relOf, Int.toNat_natCast, HL.out]; rfl)
    clear hI
    go_enter Try.func73, Try.ntmps73
    go_wp2
    go_ret
    rw [HE.out]
    exact ⟨rfl, HB0.out⟩
  | true =>
    have HE : Hid (relOf p (n : Int) true = invW l) := Lib.hid (by simp only [relOf, Int.toNat_natCast, HL.out]; rfl)
    go_enter Try.func73, Try.ntmps73
    go_wp2_with fail
    refine hI.mono ?_
    rintro e w2 ⟨rfl, hb⟩
    have HB := Lib.hid (HB0.out.trans (hb.mono (by simp)))
    clear hb hI
    go_wp2
    go_ret
    rw [HE.out]
    exact ⟨rfl, HB.out⟩

set_option maxHeartbeats 2000000 in
set_option maxRecDepth 100000 in
theorem IsPres_any (p : Pr) (R : Option Addr) (rc : Nat) (w : World) (hr : RelsAt w R p.rels) (hm : p.rels.length ≤ maxLen) :
    Calls Try.prog 34 #[prV p.k R p.rels.length rc] w fun e w' => e = .returned (.bool (presB p)) ∧ Below w.heap.size w w' := by
  unfold maxLen at hm
  have HBX := Lib.hid (Boxd.start w (prC p.k R p.rels.length rc) 24)
  by_cases h1 : p.k < 1
  · have HR := Lib.hid (presB_no (p := p) (by omega))
    have hd : decide (p.k < 1) = true := by simpa using h1
    clear hr
    generalize p.rels.length = n at *
    go_enter Try.func34, Try.ntmps34
    go_wp2
    go_ret
    exact ⟨ret_bool HR.out.symm, HBX.out.old⟩
  have hd1 : decide (p.k < 1) = false := by simpa using h1
  by_cases h2 : 8 < p.k
  · have HR := Lib.hid (presB_no (p := p) (by omega))
    have hd : decide (8 < p.k) = true := by simpa using h2
    clear hr
    generalize p.rels.length = n at *
    go_enter Try.func34, Try.ntmps34
    go_wp2
    go_ret
    exact ⟨ret_bool HR.out.symm, HBX.out.old⟩
  have hd2 : decide (8 < p.k) = false := by simpa using h2
  by_cases h3 : 60 < p.rels.length
  · have HR := Lib.hid (presB_no (p := p) (by omega))
    have hd : decide ((60 : Int) < (p.rels.length : Int)) = true := by simp; omega
    have hd' : decide (60 < p.rels.length) = true := by simpa using h3
    clear hr
    generalize p.rels.length = n at *
    go_enter Try.func34, Try.ntmps34
    go_wp2
    go_ret
    exact ⟨ret_bool HR.out.symm, HBX.out.old⟩
  have hd3 : decide ((60 : Int) < (p.rels.length : Int)) = false := by simp; omega
  have hd3' : decide (60 < p.rels.length) = false := by simpa using h3
  have HR := Lib.hid (presB_yes (p := p) (by omega) (by omega) (by omega))
  have HREL := Lib.hid hr
  have HK1 := Lib.hid (show 1 ≤ p.k by omega)
  have HK8 := Lib.hid (show p.k ≤ 8 by omega)
  clear hr
  go_enter Try.func34, Try.ntmps34
  go_wp2
  go_loopw [4, 22] (fun _ i wr => ∃ n : Nat, n ≤ p.rels.length ∧ i = .int .i64 n ∧ (p.rels.take n).all (relB p.k) = true ∧ Boxd w (prC p.k R p.rels.length rc) 24 wr) (fun _ i _ => p.rels.length - (intOf i).toNat)
  case atStart => exact ⟨0, Nat.zero_le _, rfl, rfl, HBX.out⟩
  case round =>
    obtain ⟨n, hn, rfl, hall, hbx⟩ := hrel
    have HA := Lib.hid hall
    have HX := Lib.hid hbx
    clear hall hbx
    by_cases hlt : n < p.rels.length
    · have HS := Lib.hid (all_take_succL p.rels (relB p.k) n hlt)
      have HN := Lib.hid (all_noL p.rels (relB p.k) n hlt)
      obtain ⟨b, o, hR, hc, hl⟩ := (HREL.out.below HX.out.old) n hlt
      have c0 := HX.out.cell 0
      have hsz := HX.out.size
      subst hR
      simp only [List.getElem?_toArray, List.getElem?_cons_zero] at c0
      generalize p.rels[n] = r at *
      have HSZ : (ByteArray.mk r.toArray).size = r.length := size_mk r
      have hI : Calls Try.prog 71 #[.string ⟨r.toArray⟩, .int .i64 p.k] wr fun e w' => e = .returned (.bool (isWd p.k r)) ∧ wr = w' := IsWord_any p.k ⟨r.toArray⟩ wr HK1.out HK8.out (by rw [HSZ]; exact hl)
      unfold maxLen at hl
      by_cases g1 : 1 ≤ r.length
      case neg =>
        have HZ := Lib.hid (HN.out (relB_no1 g1))
        have e1 : decide ((r.length : Int) < 1) = true := decide_eq_true (by omega)
        have e1' : decide (r.length < 1) = true := decide_eq_true (by omega)
        have e1'' : r = [] := List.length_eq_zero_iff.1 (by omega)
        subst e1''
        clear g1
        go_wp2
        go_ret
        exact ⟨ret_bool (by rw [HR.out, HZ.out]), HX.out.old⟩
      have e1 : decide ((r.length : Int) < 1) = false := decide_eq_false (by omega)
      have e1' : decide (r.length < 1) = false := decide_eq_false (by omega)
      have e1'' : decide (r.length = 0) = false := decide_eq_false (by omega)
      by_cases g2 : r.length ≤ 200
      case neg =>
        have HZ := Lib.hid (HN.out (relB_no2 g2))
        have e2 : decide ((200 : Int) < (r.length : Int)) = true := decide_eq_true (by omega)
        have e2' : decide (200 < r.length) = true := decide_eq_true (by omega)
        go_wp2
        go_ret
        exact ⟨ret_bool (by rw [HR.out, HZ.out]), HX.out.old⟩
      have e2 : decide ((200 : Int) < (r.length : Int)) = false := decide_eq_false (by omega)
      have e2' : decide (200 < r.length) = false := decide_eq_false (by omega)
      cases hw : isWd p.k r with
      | false =>
        have HZ := Lib.hid (HN.out (relB_no3 hw))
        rw [hw] at hI
        clear hw
        go_wp2_with fail
        refine hI.mono ?_
        rintro e w1 ⟨rfl, rfl⟩
        go_wp2
        go_ret
        exact ⟨ret_bool (by rw [HR.out, HZ.out]), HX.out.old⟩
      | true =>
        have HRY := Lib.hid (relB_yes g1 g2 hw)
        rw [hw] at hI
        have hRd : Calls Try.prog 25 #[.string ⟨r.toArray⟩] wr fun e w' => e = .returned (.string ⟨(red r).toArray⟩) ∧ Below wr.heap.size wr w' := Reduce_any ⟨r.toArray⟩ wr (all_mono HK8.out (isWd_all hw)) (by rw [HSZ]; omega)
        clear hw
        cases hq : (red r == r) with
        | true =>
          have HG : Hid (relB p.k r = true) := Lib.hid (by rw [HRY.out]; simpa using hq)
          generalize red r = q at *
          go_wp2_with fail
          refine hI.mono ?_
          rintro e w1 ⟨rfl, rfl⟩
          go_wp2_with fail
          refine hRd.mono ?_
          rintro e w2 ⟨rfl, hb⟩
          have HB := Lib.hid hb
          clear hb
          go_wp2
          go_roundw
          case rel => exact ⟨n + 1, by omega, by go_num, by rw [HS.out, HA.out, HG.out]; rfl, HX.out.on HB.out⟩
          case measure => simp [intOf]; omega
        | false =>
          have HZ := Lib.hid (HN.out (by rw [HRY.out]; simpa using hq))
          generalize red r = q at *
          go_wp2_with fail
          refine hI.mono ?_
          rintro e w1 ⟨rfl, rfl⟩
          go_wp2_with fail
          refine hRd.mono ?_
          rintro e w2 ⟨rfl, hb⟩
          have HB := Lib.hid hb
          clear hb
          go_wp2
          go_ret
          exact ⟨ret_bool (by rw [HR.out, HZ.out]), (HX.out.on HB.out).old⟩
    · obtain rfl : n = p.rels.length := by omega
      have HZ := HA.out
      rw [List.take_length] at HZ
      have HZ := Lib.hid HZ
      go_wp2
      go_ret
      exact ⟨ret_bool (by rw [HR.out, HZ.out]), HX.out.old⟩
end Go.Proofs.Ytbcckfggnlmhoaa
