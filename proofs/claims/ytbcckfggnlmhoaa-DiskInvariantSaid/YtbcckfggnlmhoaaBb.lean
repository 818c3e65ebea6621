/-
  Our own text, in the proofs of the laws of package disk (cayleylaw04). Proved here: IsDisk and checked of the reference. Conditions: the relators, words and cells lie in memory as the slices say.
-/
import Derived.Test.YtbcckfggnlmhoaaBa
namespace Go.Proofs.Ytbcckfggnlmhoaa
open Go Go.RowKit

set_option maxHeartbeats 2000000 in
set_option maxRecDepth 100000 in
theorem IsDisk_any (p : Pr) (R : Option Addr) (rc : Nat) (D : Option Addr) (dc : Nat) (d : List Cel) (w : World) (hd : CellsAt w D d) (hm : p.rels.length ≤ maxLen) (hdm : d.length ≤ 5000000000000) (hk1 : 1 ≤ p.k) (hk8 : p.k ≤ 8) :
    Calls Try.prog 42 #[prV p.k R p.rels.length rc, .slice D d.length dc] w fun e w' => e = .returned (.bool (diskB p d)) ∧ Below w.heap.size w w' := by
  have HM := Lib.hid hm
  have HBX := Lib.hid (Boxd.start w (prC p.k R p.rels.length rc) 24)
  have HD := Lib.hid hd
  have HK1 := Lib.hid hk1
  have HK8 := Lib.hid hk8
  clear hm hd hk1 hk8
  go_enter Try.func42, Try.ntmps42
  go_wp2
  go_loopw [5, 7, 10] (fun s _ i wr => ∃ (n m : Nat), n ≤ d.length ∧ i = .int .i64 (n : Int) ∧ s = .int .i64 (m : Int) ∧ m = conjs (d.take n) ∧ m ≤ 100000 * n ∧ (d.take n).all (cellB p) = true ∧ Boxd w (prC p.k R p.rels.length rc) 24 wr) (fun _ _ i _ => d.length - (intOf i).toNat)
  case atStart => exact ⟨0, 0, Nat.zero_le _, rfl, rfl, rfl, by omega, rfl, HBX.out⟩
  case round =>
    obtain ⟨n, m, hn, rfl, rfl, hmm, hm1, hall, hbx⟩ := hrel
    have HMM := Lib.hid hmm
    have HA := Lib.hid hall
    have HX := Lib.hid hbx
    clear hmm hall hbx
    by_cases hlt : n < d.length
    · have HS := Lib.hid (all_take_succL d (cellB p) n hlt)
      have HN := Lib.hid (all_noL d (cellB p) n hlt)
      have HC : Hid (conjs (d.take (n + 1)) = m + (d[n]).conj.length) := Lib.hid (by rw [conjs_take_succ d n hlt, HMM.out])
      obtain ⟨b, o, hD, hcel⟩ := (HD.out.below HX.out.old) n hlt
      obtain ⟨q1, q2, q3, q4⟩ := hcel
      subst hD
      have HCB : Hid (cellB p d[n] = (isRelB p (d[n]).rel && isWd p.k (d[n]).conj)) := Lib.hid rfl
      generalize d[n] = x at *
      obtain ⟨c, rel, inv⟩ := x
      simp only at q1 q2 q3 q4
      have HCB : Hid (cellB p ⟨c, rel, inv⟩ = (isRelB p rel && isWd p.k c)) := HCB
      have HC : Hid (conjs (d.take (n + 1)) = m + c.length) := HC
      have hsz := HX.out.size
      have HSZ : (ByteArray.mk c.toArray).size = c.length := size_mk c
      have HX2 := Lib.hid (Boxd.start wr (celC c rel inv) 61)
      have HX1 := Lib.hid (HX.out.on HX2.out.old)
      have c0 := HX1.out.cell 0
      have c1 := HX1.out.cell 1
      simp only [List.getElem?_toArray, List.getElem?_cons_zero, List.getElem?_cons_succ] at c0 c1
      have hmr := HM.out
      unfold maxLen at hmr
      by_cases g1 : rel < 0
      · have HR := Lib.hid (diskB_bad (p := p) (d := d) (HN.out (by rw [HCB.out]; simp [isRelB]; omega)))
        have e1 : decide (rel < 0) = true := by simpa using g1
        go_wp2
        go_ret
        exact ⟨ret_bool HR.out.symm, HX1.out.old⟩
      have e1 : decide (rel < 0) = false := by simpa using g1
      by_cases g2 : (p.rels.length : Int) ≤ rel
      · have HR := Lib.hid (diskB_bad (p := p) (d := d) (HN.out (by rw [HCB.out]; simp [isRelB]; omega)))
        have e2 : decide ((p.rels.length : Int) ≤ rel) = true := by simpa using g2
        go_wp2
        go_ret
        exact ⟨ret_bool HR.out.symm, HX1.out.old⟩
      have e2 : decide ((p.rels.length : Int) ≤ rel) = false := by simpa using g2
      have HREL : Hid (isRelB p rel = true) := Lib.hid (by simp [isRelB]; omega)
      rw [HREL.out] at HCB
      have hW : Calls Try.prog 71 #[.string ⟨c.toArray⟩, .int .i64 p.k] (wr.alloc (.cells (celC c rel inv) 61)) fun e w' => e = .returned (.bool (isWd p.k c)) ∧ (wr.alloc (.cells (celC c rel inv) 61)) = w' := IsWord_any p.k ⟨c.toArray⟩ _ HK1.out HK8.out (by rw [HSZ]; unfold maxLen; omega)
      cases hw : isWd p.k c with
      | false =>
        rw [hw] at hW
        have HR := Lib.hid (diskB_bad (p := p) (d := d) (HN.out (by rw [HCB.out, hw]; rfl)))
        clear hw
        go_wp2_with fail
        refine hW.mono ?_
        rintro e w2 ⟨rfl, rfl⟩
        go_wp2
        go_ret
        exact ⟨ret_bool HR.out.symm, HX1.out.old⟩
      | true =>
        have hc5 := isWd_len hw
        rw [hw] at hW HCB
        clear hw
        go_wp2_with fail
        refine hW.mono ?_
        rintro e w2 ⟨rfl, rfl⟩
        go_wp2
        go_roundw
        case rel => exact ⟨n + 1, m + c.length, by omega, by go_num, by go_num, HC.out.symm, by omega, by rw [HS.out, HA.out, HCB.out]; rfl, HX1.out⟩
        case measure => simp [intOf]; omega
    · obtain rfl : n = d.length := by omega
      have hz := HA.out
      have hmz := HMM.out
      rw [List.take_length] at hz hmz
      have HZ := Lib.hid hz
      have HMZ := Lib.hid hmz
      clear hz hmz
      by_cases hlong : 100000 < d.length
      · have HR := Lib.hid (diskB_long (p := p) hlong)
        have e1 : decide ((d.length : Int) ≤ 100000) = false := by simp; omega
        have e1' : decide (d.length ≤ 100000) = false := by simp; omega
        go_wp2
        go_ret
        exact ⟨ret_bool HR.out.symm, HX.out.old⟩
      have e1 : decide ((d.length : Int) ≤ 100000) = true := by simp; omega
      have e1' : decide (d.length ≤ 100000) = true := by simp; omega
      by_cases hfat : 1000000 < m
      · have HR := Lib.hid (diskB_fat (p := p) (d := d) (by rw [← HMZ.out]; exact hfat))
        have e2 : decide ((m : Int) ≤ 1000000) = false := by simp; omega
        have e2' : decide (m ≤ 1000000) = false := by simp; omega
        go_wp2
        go_ret
        exact ⟨ret_bool HR.out.symm, HX.out.old⟩
      have e2 : decide ((m : Int) ≤ 1000000) = true := by simp; omega
      have e2' : decide (m ≤ 1000000) = true := by simp; omega
      have HR := Lib.hid (diskB_good (p := p) (d := d) (by omega) (by rw [← HMZ.out]; omega) HZ.out)
      go_wp2
      go_ret
      exact ⟨ret_bool HR.out.symm, HX.out.old⟩

set_option maxHeartbeats 2000000 in
set_option maxRecDepth 100000 in
theorem checked_any (p : Pr) (R : Option Addr) (rc : Nat) (W : Option Addr) (wc : Nat) (ws : List (List UInt8)) (X : Option Addr) (xc : Nat) (ds : List Dk) (w : World) (hr : RelsAt w R p.rels) (hm : p.rels.length ≤ maxLen)
    (hw : RelsAt w W ws) (hd : DisksAt w X ds) (hws : ws.length ≤ 2) (hds : ds.length ≤ 2) :
    Calls Try.prog 36 #[prV p.k R p.rels.length rc, .slice W ws.length wc, .slice X ds.length xc] w fun e w' => e = .returned (.int .i64 (chk p ws (ds.map (·.cells)))) ∧ Below w.heap.size w w' := by
  have HM := Lib.hid hm
  have HBX := Lib.hid (Boxd.start w (prC p.k R p.rels.length rc) 24)
  have HREL := Lib.hid hr
  have HWS := Lib.hid hw
  have HDS := Lib.hid hd
  have hP := IsPres_any p R rc (w.alloc (.cells (prC p.k R p.rels.length rc) 24)) (hr.below HBX.out.old) hm
  clear hm hr hw hd
  cases hp : presB p with
  | false =>
    rw [hp] at hP
    have HR := Lib.hid (chk_40 (ws := ws) (ds := ds.map (·.cells)) hp)
    clear hp
    go_enter Try.func36, Try.ntmps36
    go_wp2_with fail
    refine hP.mono ?_
    rintro e w1 ⟨rfl, hb1⟩
    go_wp2
    go_ret
    exact ⟨ret_int HR.out.symm, (HBX.out.on hb1).old⟩
  | true =>
    rw [hp] at hP
    have HP := Lib.hid hp
    clear hp
    go_enter Try.func36, Try.ntmps36
    go_wp2_with fail
    refine hP.mono ?_
    rintro e w1 ⟨rfl, hb1⟩
    have HX1 := Lib.hid (HBX.out.on hb1)
    clear hb1 hP
    go_wp2
    go_loopw [8, 16] (fun _ i wr => ∃ n : Nat, n ≤ ws.length ∧ i = .int .i64 (n : Int) ∧ (ws.take n).all (isWd p.k) = true ∧ Boxd w (prC p.k R p.rels.length rc) 24 wr) (fun _ i _ => ws.length - (intOf i).toNat)
    case atStart => exact ⟨0, Nat.zero_le _, rfl, rfl, HX1.out⟩
    case round =>
      obtain ⟨n, hn, rfl, hall, hbx⟩ := hrel
      have HA := Lib.hid hall
      have HX := Lib.hid hbx
      clear hall hbx
      by_cases hlt : n < ws.length
      · have HS := Lib.hid (all_take_succL ws (isWd p.k) n hlt)
        have HN := Lib.hid (all_noL ws (isWd p.k) n hlt)
        obtain ⟨b, o, hW, hc, hl⟩ := (HWS.out.below HX.out.old) n hlt
        have c0 := HX.out.cell 0
        have hsz := HX.out.size
        subst hW
        simp only [List.getElem?_toArray, List.getElem?_cons_zero] at c0
        have hI : Calls Try.prog 71 #[.string ⟨(ws[n]).toArray⟩, .int .i64 p.k] wr fun e w' => e = .returned (.bool (isWd p.k ws[n])) ∧ wr = w' := IsWord_any p.k ⟨(ws[n]).toArray⟩ wr (presB_k HP.out).1 (presB_k HP.out).2.1 (by rw [size_mk]; exact hl)
        clear hl
        cases hb : isWd p.k ws[n] with
        | false =>
          rw [hb] at hI
          have HR := Lib.hid (chk_41 (ds := ds.map (·.cells)) HP.out (HN.out hb))
          clear hb
          generalize ws[n] = r at *
          go_wp2_with fail
          refine hI.mono ?_
          rintro e w2 ⟨rfl, rfl⟩
          go_wp2
          go_ret
          exact ⟨ret_int HR.out.symm, HX.out.old⟩
        | true =>
          rw [hb] at hI HS
          clear hb
          generalize ws[n] = r at *
          go_wp2_with fail
          refine hI.mono ?_
          rintro e w2 ⟨rfl, rfl⟩
          go_wp2
          go_roundw
          case rel => exact ⟨n + 1, by omega, by go_num, by rw [HS.out, HA.out]; rfl, HX.out⟩
          case measure => simp [intOf]; omega
      · obtain rfl : n = ws.length := by omega
        have HZ := HA.out
        rw [List.take_length] at HZ
        have HZ := Lib.hid HZ
        have HXW := Lib.hid HX.out
        clear HA HX
        go_wp2
        go_loopw [10, 28] (fun _ i wr => ∃ n : Nat, n ≤ ds.length ∧ i = .int .i64 (n : Int) ∧ ((ds.map (·.cells)).take n).all (diskB p) = true ∧ Boxd w (prC p.k R p.rels.length rc) 24 wr) (fun _ i _ => ds.length - (intOf i).toNat)
        case atStart => exact ⟨0, Nat.zero_le _, rfl, rfl, HXW.out⟩
        case round =>
          obtain ⟨n, hn2, rfl, hall, hbx⟩ := hrel
          have HA := Lib.hid hall
          have HX := Lib.hid hbx
          clear hall hbx
          by_cases hlt2 : n < ds.length
          · have hlt' : n < (ds.map (·.cells)).length := by simpa using hlt2
            have HS := Lib.hid (all_take_succL (ds.map (·.cells)) (diskB p) n hlt')
            have HN := Lib.hid (all_noL (ds.map (·.cells)) (diskB p) n hlt')
            rw [show (ds.map (·.cells))[n] = (ds[n]).cells by simp] at HS HN
            obtain ⟨b, o, hW, hc, hcl, hl⟩ := (HDS.out.below HX.out.old) n hlt2
            have c0 := HX.out.cell 0
            have c1 := HX.out.cell 1
            have hsz := HX.out.size
            subst hW
            simp only [List.getElem?_toArray, List.getElem?_cons_zero, List.getElem?_cons_succ] at c0 c1
            clear hlt'
            generalize ds[n] = x at *
            obtain ⟨D, dc, d⟩ := x
            simp only at hc hcl hl HS HN
            have hI := IsDisk_any p R rc D dc d wr hcl HM.out hl (presB_k HP.out).1 (presB_k HP.out).2.1
            clear hcl hl
            cases hb : diskB p d with
            | false =>
              rw [hb] at hI
              have HR := Lib.hid (chk_42 HP.out HZ.out (HN.out hb))
              clear hb
              go_wp2_with fail
              refine hI.mono ?_
              rintro e w2 ⟨rfl, hb2⟩
              go_wp2
              go_ret
              exact ⟨ret_int HR.out.symm, (HX.out.on hb2).old⟩
            | true =>
              rw [hb] at hI HS
              clear hb
              go_wp2_with fail
              refine hI.mono ?_
              rintro e w2 ⟨rfl, hb2⟩
              have HX2 := Lib.hid (HX.out.on hb2)
              clear hb2
              go_wp2
              go_roundw
              case rel => exact ⟨n + 1, by omega, by go_num, by rw [HS.out, HA.out]; rfl, HX2.out⟩
              case measure => simp [intOf]; omega
          · obtain rfl : n = ds.length := by omega
            have HZ2 := HA.out
            rw [List.take_of_length_le (by simp)] at HZ2
            have HR := Lib.hid (chk_0 HP.out HZ.out HZ2)
            clear HZ2
            go_wp2
            go_ret
            exact ⟨ret_int HR.out.symm, HX.out.old⟩
end Go.Proofs.Ytbcckfggnlmhoaa
