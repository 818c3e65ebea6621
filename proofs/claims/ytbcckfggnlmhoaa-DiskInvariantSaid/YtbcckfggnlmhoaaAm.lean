/-
  Our own text, in the proofs of the laws of package disk (cayleylaw04). Proved here: examine of the program. Conditions: the relators, words and cells lie in memory as the slices say.
-/
import Derived.Test.YtbcckfggnlmhoaaAl
namespace Go.Proofs.Ytbcckfggnlmhoaa
open Go Go.RowKit

/-- A list of disks: each a slice of cells. -/
structure Dk where
  at_ : Option Addr
  cap : Nat
  cells : List Cel
def DisksAt (w : World) (X : Option Addr) (ds : List Dk) : Prop :=
  ∀ i (h : i < ds.length), ∃ b o, X = some ⟨b, o, none⟩ ∧ w.cell? ⟨b, o + i, none⟩ = some (.slice (ds[i]).at_ (ds[i]).cells.length (ds[i]).cap) ∧ CellsAt w (ds[i]).at_ (ds[i]).cells ∧ (ds[i]).cells.length ≤ 5000000000000
theorem DisksAt.below {w w' : World} {X : Option Addr} {ds : List Dk} (h : DisksAt w X ds) (hb : Below w.heap.size w w') : DisksAt w' X ds := by
  intro i hi
  obtain ⟨b, o, hA, hc, hd, hl⟩ := h i hi
  exact ⟨b, o, hA, (hb.cell (p := ⟨b, o + i, none⟩) (lt_of_cell hc)).trans hc, hd.below hb, hl⟩

theorem chk_40 {p : Pr} {ws : List (List UInt8)} {ds : List (List Cel)} (h : presB p = false) : chk p ws ds = 40 := by simp [chk, h]
theorem chk_41 {p : Pr} {ws : List (List UInt8)} {ds : List (List Cel)} (h : presB p = true) (h2 : ws.all (isWd p.k) = false) : chk p ws ds = 41 := by
  unfold chk; rw [if_neg (by simp [h]), if_pos h2]
theorem chk_42 {p : Pr} {ws : List (List UInt8)} {ds : List (List Cel)} (h : presB p = true) (h2 : ws.all (isWd p.k) = true) (h3 : ds.all (diskB p) = false) : chk p ws ds = 42 := by
  unfold chk; rw [if_neg (by simp [h]), if_neg (by rw [h2]; simp), if_pos h3]
theorem chk_0 {p : Pr} {ws : List (List UInt8)} {ds : List (List Cel)} (h : presB p = true) (h2 : ws.all (isWd p.k) = true) (h3 : ds.all (diskB p) = true) : chk p ws ds = 0 := by
  unfold chk; rw [if_neg (by simp [h]), if_neg (by rw [h2]; simp), if_neg (by rw [h3]; simp)]

set_option maxHeartbeats 2000000 in
set_option maxRecDepth 100000 in
theorem examine_any (p : Pr) (R : Option Addr) (rc : Nat) (W : Option Addr) (wc : Nat) (ws : List (List UInt8)) (X : Option Addr) (xc : Nat) (ds : List Dk) (w : World) (hr : RelsAt w R p.rels) (hm : p.rels.length ≤ maxLen)
    (hw : RelsAt w W ws) (hd : DisksAt w X ds) (hws : ws.length ≤ 2) (hds : ds.length ≤ 2) :
    Calls Try.prog 38 #[prV p.k R p.rels.length rc, .slice W ws.length wc, .slice X ds.length xc] w fun e w' => e = .returned (.int .i64 (chk p ws (ds.map (·.cells)))) ∧ Below w.heap.size w w' := by
  have HM := Lib.hid hm
  have HBX := Lib.hid (Boxd.start w (prC p.k R p.rels.length rc) 24)
  have HREL := Lib.hid hr
  have HWS := Lib.hid hw
  have HDS := Lib.hid hd
  have hP := isPresentation_any p R rc (w.alloc (.cells (prC p.k R p.rels.length rc) 24)) (hr.below HBX.out.old) hm
  clear hm hr hw hd
  cases hp : presB p with
  | false =>
    rw [hp] at hP
    have HR := Lib.hid (chk_40 (ws := ws) (ds := ds.map (·.cells)) hp)
    clear hp
    go_enter Try.func38, Try.ntmps38
    go_wp2_with fail
    refine hP.mono ?_
    rintro e w1 ⟨rfl, hb1⟩
    go_wp2
    go_ret
    exact ⟨ret_int HR.out.symm, (HBX.out.on hb1).old⟩
  | true =>
    rw [hp] at hP
    have HP := Lib.hid hp
    clear hp
    go_enter Try.func38, Try.ntmps38
    go_wp2_with fail
    refine hP.mono ?_
    rintro e w1 ⟨rfl, hb1⟩
    have HX1 := Lib.hid (HBX.out.on hb1)
    clear hb1 hP
    go_wp2
    go_loopw [8, 16] (fun _ i wr => ∃ n : Nat, n ≤ ws.length ∧ i = .int .i64 (n : Int) ∧ (ws.take n).all (isWd p.k) = true ∧ Boxd w (prC p.k R p.rels.length rc) 24 wr) (fun _ i _ => ws.length - (intOf i).toNat)
    case atStart => exact ⟨0, Nat.zero_le _, rfl, rfl, HX1.out⟩
    case round =>
      obtain ⟨n, hn, rfl, hall, hbx⟩ := hrel
      have HA := Lib.hid hall
      have HX := Lib.hid hbx
      clear hall hbx
      by_cases hlt : n < ws.length
      · have HS := Lib.hid (all_take_succL ws (isWd p.k) n hlt)
        have HN := Lib.hid (all_noL ws (isWd p.k) n hlt)
        obtain ⟨b, o, hW, hc, hl⟩ := (HWS.out.below HX.out.old) n hlt
        have c0 := HX.out.cell 0
        have hsz := HX.out.size
        subst hW
        simp only [List.getElem?_toArray, List.getElem?_cons_zero] at c0
        have hI : Calls Try.prog 75 #[.int .i64 p.k, .string ⟨(ws[n]).toArray⟩] wr fun e w' => e = .returned (.bool (isWd p.k ws[n])) ∧ wr = w' := isWord_any p.k ⟨(ws[n]).toArray⟩ wr (by rw [size_mk]; exact hl)
        clear hl
        cases hb : isWd p.k ws[n] with
        | false =>
          rw [hb] at hI
          have HR := Lib.hid (chk_41 (ds := ds.map (·.cells)) HP.out (HN.out hb))
          clear hb
          generalize ws[n] = r at *
          go_wp2_with fail
          refine hI.mono ?_
          rintro e w2 ⟨rfl, rfl⟩
          go_wp2
          go_ret
          exact ⟨ret_int HR.out.symm, HX.out.old⟩
        | true =>
          rw [hb] at hI HS
          clear hb
          generalize ws[n] = r at *
          go_wp2_with fail
          refine hI.mono ?_
          rintro e w2 ⟨rfl, rfl⟩
          go_wp2
          go_roundw
          case rel => exact ⟨n + 1, by omega, by go_num, by rw [HS.out, HA.out]; rfl, HX.out⟩
          case measure => simp [intOf]; omega
      · obtain rfl : n = ws.length := by omega
        have HZ := HA.out
        rw [List.take_length] at HZ
        have HZ := Lib.hid HZ
        have HXW := Lib.hid HX.out
        clear HA HX
        go_wp2
        go_loopw [10, 28] (fun _ i wr => ∃ n : Nat, n ≤ ds.length ∧ i = .int .i64 (n : Int) ∧ ((ds.map (·.cells)).take n).all (diskB p) = true ∧ Boxd w (prC p.k R p.rels.length rc) 24 wr) (fun _ i _ => ds.length - (intOf i).toNat)
        case atStart => exact ⟨0, Nat.zero_le _, rfl, rfl, HXW.out⟩
        case round =>
          obtain ⟨n, hn2, rfl, hall, hbx⟩ := hrel
          have HA := Lib.hid hall
          have HX := Lib.hid hbx
          clear hall hbx
          by_cases hlt2 : n < ds.length
          · have hlt' : n < (ds.map (·.cells)).length := by simpa using hlt2
            have HS := Lib.hid (all_take_succL (ds.map (·.cells)) (diskB p) n hlt')
            have HN := Lib.hid (all_noL (ds.map (·.cells)) (diskB p) n hlt')
            rw [show (ds.map (·.cells))[n] = (ds[n]).cells by simp] at HS HN
            obtain ⟨b, o, hW, hc, hcl, hl⟩ := (HDS.out.below HX.out.old) n hlt2
            have c0 := HX.out.cell 0
            have c1 := HX.out.cell 1
            have hsz := HX.out.size
            subst hW
            simp only [List.getElem?_toArray, List.getElem?_cons_zero, List.getElem?_cons_succ] at c0 c1
            clear hlt'
            generalize ds[n] = x at *
            obtain ⟨D, dc, d⟩ := x
            simp only at hc hcl hl HS HN
            have hI := isDisk_any p R rc D dc d wr hcl HM.out (by unfold maxLen; omega)
            clear hcl hl
            cases hb : diskB p d with
            | false =>
              rw [hb] at hI
              have HR := Lib.hid (chk_42 HP.out HZ.out (HN.out hb))
              clear hb
              go_wp2_with fail
              refine hI.mono ?_
              rintro e w2 ⟨rfl, hb2⟩
              go_wp2
              go_ret
              exact ⟨ret_int HR.out.symm, (HX.out.on hb2).old⟩
            | true =>
              rw [hb] at hI HS
              clear hb
              go_wp2_with fail
              refine hI.mono ?_
              rintro e w2 ⟨rfl, hb2⟩
              have HX2 := Lib.hid (HX.out.on hb2)
              clear hb2
              go_wp2
              go_roundw
              case rel => exact ⟨n + 1, by omega, by go_num, by rw [HS.out, HA.out]; rfl, HX2.out⟩
              case measure => simp [intOf]; omega
          · obtain rfl : n = ds.length := by omega
            have HZ2 := HA.out
            rw [List.take_of_length_le (by simp)] at HZ2
            have HR := Lib.hid (chk_0 HP.out HZ.out HZ2)
            clear HZ2
            go_wp2
            go_ret
            exact ⟨ret_int HR.out.symm, HX.out.old⟩
end Go.Proofs.Ytbcckfggnlmhoaa
