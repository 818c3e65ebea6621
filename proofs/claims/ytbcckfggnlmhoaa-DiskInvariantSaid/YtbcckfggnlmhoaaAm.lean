/-
  Our own text, in the proofs of the laws of package disk (cayleylaw04). Proved here: examine of the program; boundary of the program, of a valid disk; Boundary and Proves of the program. Conditions: the arguments lie in memory as the slices say; bounds; where a presentation is named valid, it is.
-/
import Derived.Test.YtbcckfggnlmhoaaAb
import Derived.Deep.RegionHeld3
import Derived.Deep.RegionWith
namespace Go.Proofs.Ytbcckfggnlmhoaa
open Go Go.RowKit

/-- A list of disks: each a slice of cells. -/
structure Dk where
  at_ : Option Addr
  cap : Nat
  cells : List Cel
def DisksAt (w : World) (X : Option Addr) (ds : List Dk) : Prop :=
  ∀ i (h : i < ds.length), ∃ b o, X = some ⟨b, o, none⟩ ∧ w.cell? ⟨b, o + i, none⟩ = some (.slice (ds[i]).at_ (ds[i]).cells.length (ds[i]).cap) ∧ CellsAt w (ds[i]).at_ (ds[i]).cells ∧ (ds[i]).cells.length ≤ 5000000000000
theorem DisksAt.below {w w' : World} {X : Option Addr} {ds : List Dk} (h : DisksAt w X ds) (hb : Below w.heap.size w w') : DisksAt w' X ds := by
  intro i hi
  obtain ⟨b, o, hA, hc, hd, hl⟩ := h i hi
  exact ⟨b, o, hA, (hb.cell (p := ⟨b, o + i, none⟩) (lt_of_cell hc)).trans hc, hd.below hb, hl⟩

theorem chk_40 {p : Pr} {ws : List (List UInt8)} {ds : List (List Cel)} (h : presB p = false) : chk p ws ds = 40 := by simp [chk, h]
theorem chk_41 {p : Pr} {ws : List (List UInt8)} {ds : List (List Cel)} (h : presB p = true) (h2 : ws.all (isWd p.k) = false) : chk p ws ds = 41 := by
  unfold chk; rw [if_neg (by simp [h]), if_pos h2]
theorem chk_42 {p : Pr} {ws : List (List UInt8)} {ds : List (List Cel)} (h : presB p = true) (h2 : ws.all (isWd p.k) = true) (h3 : ds.all (diskB p) = false) : chk p ws ds = 42 := by
  unfold chk; rw [if_neg (by simp [h]), if_neg (by rw [h2]; simp), if_pos h3]
theorem chk_0 {p : Pr} {ws : List (List UInt8)} {ds : List (List Cel)} (h : presB p = true) (h2 : ws.all (isWd p.k) = true) (h3 : ds.all (diskB p) = true) : chk p ws ds = 0 := by
  unfold chk; rw [if_neg (by simp [h]), if_neg (by rw [h2]; simp), if_neg (by rw [h3]; simp)]

set_option maxHeartbeats 2000000 in
set_option maxRecDepth 100000 in
theorem examine_any (p : Pr) (R : Option Addr) (rc : Nat) (W : Option Addr) (wc : Nat) (ws : List (List UInt8)) (X : Option Addr) (xc : Nat) (ds : List Dk) (w : World) (hr : RelsAt w R p.rels) (hm : p.rels.length ≤ maxLen)
    (hw : RelsAt w W ws) (hd : DisksAt w X ds) (hws : ws.length ≤ 2) (hds : ds.length ≤ 2) :
    Calls Try.prog 38 #[prV p.k R p.rels.length rc, .slice W ws.length wc, .slice X ds.length xc] w fun e w' => e = .returned (.int .i64 (chk p ws (ds.map (·.cells)))) ∧ Below w.heap.size w w' := by
  have HM := Lib.hid hm
  have HBX := Lib.hid (Boxd.start w (prC p.k R p.rels.length rc) 24)
  have HREL := Lib.hid hr
  have HWS := Lib.hid hw
  have HDS := Lib.hid hd
  have hP := isPresentation_any p R rc (w.alloc (.cells (prC p.k R p.rels.length rc) 24)) (hr.below HBX.out.old) hm
  clear hm hr hw hd
  cases hp : presB p with
  | false =>
    rw [hp] at hP
    have HR := Lib.hid (chk_40 (ws := ws) (ds := ds.map (·.cells)) hp)
    clear hp
    go_enter Try.func38, Try.ntmps38
    go_wp2_with fail
    refine hP.mono ?_
    rintro e w1 ⟨rfl, hb1⟩
    go_wp2
    go_ret
    exact ⟨ret_int HR.out.symm, (HBX.out.on hb1).old⟩
  | true =>
    rw [hp] at hP
    have HP := Lib.hid hp
    clear hp
    go_enter Try.func38, Try.ntmps38
    go_wp2_with fail
    refine hP.mono ?_
    rintro e w1 ⟨rfl, hb1⟩
    have HX1 := Lib.hid (HBX.out.on hb1)
    clear hb1 hP
    go_wp2
    go_loopw [8, 16] (fun _ i wr => ∃ n : Nat, n ≤ ws.length ∧ i = .int .i64 (n : Int) ∧ (ws.take n).all (isWd p.k) = true ∧ Boxd w (prC p.k R p.rels.length rc) 24 wr) (fun _ i _ => ws.length - (intOf i).toNat)
    case atStart => exact ⟨0, Nat.zero_le _, rfl, rfl, HX1.out⟩
    case round =>
      obtain ⟨n, hn, rfl, hall, hbx⟩ := hrel
      have HA := Lib.hid hall
      have HX := Lib.hid hbx
      clear hall hbx
      by_cases hlt : n < ws.length
      · have HS := Lib.hid (all_take_succL ws (isWd p.k) n hlt)
        have HN := Lib.hid (all_noL ws (isWd p.k) n hlt)
        obtain ⟨b, o, hW, hc, hl⟩ := (HWS.out.below HX.out.old) n hlt
        have c0 := HX.out.cell 0
        have hsz := HX.out.size
        subst hW
        simp only [List.getElem?_toArray, List.getElem?_cons_zero] at c0
        have hI : Calls Try.prog 75 #[.int .i64 p.k, .string ⟨(ws[n]).toArray⟩] wr fun e w' => e = .returned (.bool (isWd p.k ws[n])) ∧ wr = w' := isWord_any p.k ⟨(ws[n]).toArray⟩ wr (by rw [size_mk]; exact hl)
        clear hl
        cases hb : isWd p.k ws[n] with
        | false =>
          rw [hb] at hI
          have HR := Lib.hid (chk_41 (ds := ds.map (·.cells)) HP.out (HN.out hb))
          clear hb
          generalize ws[n] = r at *
          go_wp2_with fail
          refine hI.mono ?_
          rintro e w2 ⟨rfl, rfl⟩
          go_wp2
          go_ret
          exact ⟨ret_int HR.out.symm, HX.out.old⟩
        | true =>
          rw [hb] at hI HS
          clear hb
          generalize ws[n] = r at *
          go_wp2_with fail
          refine hI.mono ?_
          rintro e w2 ⟨rfl, rfl⟩
          go_wp2
          go_roundw
          case rel => exact ⟨n + 1, by omega, by go_num, by rw [HS.out, HA.out]; rfl, HX.out⟩
          case measure => simp [intOf]; omega
      · obtain rfl : n = ws.length := by omega
        have HZ := HA.out
        rw [List.take_length] at HZ
        have HZ := Lib.hid HZ
        have HXW := Lib.hid HX.out
        clear HA HX
        go_wp2
        go_loopw [10, 28] (fun _ i wr => ∃ n : Nat, n ≤ ds.length ∧ i = .int .i64 (n : Int) ∧ ((ds.map (·.cells)).take n).all (diskB p) = true ∧ Boxd w (prC p.k R p.rels.length rc) 24 wr) (fun _ i _ => ds.length - (intOf i).toNat)
        case atStart => exact ⟨0, Nat.zero_le _, rfl, rfl, HXW.out⟩
        case round =>
          obtain ⟨n, hn2, rfl, hall, hbx⟩ := hrel
          have HA := Lib.hid hall
          have HX := Lib.hid hbx
          clear hall hbx
          by_cases hlt2 : n < ds.length
          · have hlt' : n < (ds.map (·.cells)).length := by simpa using hlt2
            have HS := Lib.hid (all_take_succL (ds.map (·.cells)) (diskB p) n hlt')
            have HN := Lib.hid (all_noL (ds.map (·.cells)) (diskB p) n hlt')
            rw [show (ds.map (·.cells))[n] = (ds[n]).cells by simp] at HS HN
            obtain ⟨b, o, hW, hc, hcl, hl⟩ := (HDS.out.below HX.out.old) n hlt2
            have c0 := HX.out.cell 0
            have c1 := HX.out.cell 1
            have hsz := HX.out.size
            subst hW
            simp only [List.getElem?_toArray, List.getElem?_cons_zero, List.getElem?_cons_succ] at c0 c1
            clear hlt'
            generalize ds[n] = x at *
            obtain ⟨D, dc, d⟩ := x
            simp only at hc hcl hl HS HN
            have hI := isDisk_any p R rc D dc d wr hcl HM.out (by unfold maxLen; omega)
            clear hcl hl
            cases hb : diskB p d with
            | false =>
              rw [hb] at hI
              have HR := Lib.hid (chk_42 HP.out HZ.out (HN.out hb))
              clear hb
              go_wp2_with fail
              refine hI.mono ?_
              rintro e w2 ⟨rfl, hb2⟩
              go_wp2
              go_ret
              exact ⟨ret_int HR.out.symm, (HX.out.on hb2).old⟩
            | true =>
              rw [hb] at hI HS
              clear hb
              go_wp2_with fail
              refine hI.mono ?_
              rintro e w2 ⟨rfl, hb2⟩
              have HX2 := Lib.hid (HX.out.on hb2)
              clear hb2
              go_wp2
              go_roundw
              case rel => exact ⟨n + 1, by omega, by go_num, by rw [HS.out, HA.out]; rfl, HX2.out⟩
              case measure => simp [intOf]; omega
          · obtain rfl : n = ds.length := by omega
            have HZ2 := HA.out
            rw [List.take_of_length_le (by simp)] at HZ2
            have HR := Lib.hid (chk_0 HP.out HZ.out HZ2)
            clear HZ2
            go_wp2
            go_ret
            exact ⟨ret_int HR.out.symm, HX.out.old⟩
end Go.Proofs.Ytbcckfggnlmhoaa

namespace Go.Proofs.Ytbcckfggnlmhoaa
open Go Go.RowKit

/-- A block whose cells are known. -/
structure HasCells (w : World) (b : Nat) (cs : Array Value) : Prop where
  lt : b < w.heap.size
  cell : ∀ i, w.cell? ⟨b, i, none⟩ = cs[i]?
theorem HasCells.new (w : World) (cs : Array Value) (t : TypeId) : HasCells (w.alloc (.cells cs t)) w.heap.size cs :=
  ⟨by simp, fun i => cell_of_row _ w.heap.size i cs t (0, 0) (heap_alloc_new w _)⟩
theorem HasCells.below {w w' : World} {b : Nat} {cs : Array Value} (h : HasCells w b cs) (hb : Below w.heap.size w w') : HasCells w' b cs :=
  ⟨Nat.lt_of_lt_of_le h.lt hb.size, fun i => (hb.cell (p := ⟨b, i, none⟩) h.lt).trans (h.cell i)⟩
theorem HasCells.grown {w w' : World} {b : Nat} {cs : Array Value} {row : Option Nat} (h : HasCells w b cs) (hg : w.grownBy w' row) (hne : row ≠ some b) : HasCells w' b cs :=
  ⟨Nat.lt_of_lt_of_le h.lt hg.size, fun i => (World.cell?_of_block (w := w) (a := ⟨b, i, none⟩) (hg.block b h.lt (fun e => hne e.symm))).trans (h.cell i)⟩
theorem HasCells.drewN {w : World} {b : Nat} {cs : Array Value} (h : HasCells w b cs) (n : Nat) : HasCells (w.drewN n) b cs := ⟨h.lt, h.cell⟩
theorem Boxd.grown {w : World} {cs : Array Value} {t : TypeId} {wr w' : World} {row : Option Nat} (h : Boxd w cs t wr) (hg : wr.grownBy w' row) (hr : ∀ k, row = some k → w.heap.size + 1 ≤ k) : Boxd w cs t w' :=
  ⟨h.below.grown hg h.size hr⟩

theorem own_below {w w' : World} {B e sz n : Nat} {v : Value} {xs : List Value} (h : w.ownsRow B e sz v n xs) (hb : Below w.heap.size w w') : w'.ownsRow B e sz v n xs :=
  h.kept (row := none) ⟨hb.os, hb.tape, hb.output, hb.size, fun k hk _ => hb.block k hk⟩ (by cases v.ownBlock <;> simp)
theorem blk_lt {w : World} {B e sz n cap : Nat} {A : Option Addr} {xs : List Value} (h : w.ownsRow B e sz (.slice A n cap) n xs) : ∀ k, blk A = some k → B ≤ k ∧ k < w.heap.size := by
  intro k hk
  rcases own_shape h with ⟨h, _⟩ | ⟨g, h, h1, h2⟩
  · rw [h] at hk; cases hk
  · rw [h] at hk; cases hk; exact ⟨h1, h2⟩

/-- How boundary goes on within a round. -/
structure Bd (w wr : World) (p : Pr) (R : Option Addr) (rc : Nat) (c : List UInt8) (rel : Int) (inv : Bool) (gc : Nat) (O : Option Addr) (oc : Nat) (s : List UInt8) (w1 : World) : Prop where
  box : Boxd w (prC p.k R p.rels.length rc) 24 w1
  cel : HasCells w1 wr.heap.size (celC c rel inv)
  row : RowAt w1 (some ⟨gc, 0, none⟩) c
  lo : wr.heap.size < gc
  hi : gc < w1.heap.size
  own : w1.ownsRow (w.heap.size + 1) 5 1 (.slice O s.length oc) s.length (bs s.reverse)
  far : ∀ k, blk O = some k → k ≠ wr.heap.size ∧ k ≠ gc

theorem Bd.below {w wr : World} {p : Pr} {R : Option Addr} {rc : Nat} {c : List UInt8} {rel : Int} {inv : Bool} {gc : Nat} {O : Option Addr} {oc : Nat} {s : List UInt8} {w1 w2 : World}
    (h : Bd w wr p R rc c rel inv gc O oc s w1) (hb : Below w1.heap.size w1 w2) : Bd w wr p R rc c rel inv gc O oc s w2 :=
  ⟨h.box.on hb, h.cel.below hb, h.row.below hb, h.lo, Nat.lt_of_lt_of_le h.hi hb.size, own_below h.own hb, h.far⟩
/-- One more part: a call of appendReduced. -/
theorem Bd.app {w wr : World} {p : Pr} {R : Option Addr} {rc : Nat} {c : List UInt8} {rel : Int} {inv : Bool} {gc : Nat} {O : Option Addr} {oc : Nat} {s : List UInt8} {w1 : World}
    (h : Bd w wr p R rc c rel inv gc O oc s w1) (A : Option Addr) (cap : Nat) (l : List UInt8) (hl : RowAt w1 A l) (hap : ∀ a, A = some a → blk O ≠ some a.block) (hlt : ∀ a, A = some a → a.block < w1.heap.size) (hn : s.length + l.length ≤ 1000000000) :
    Calls Try.prog 50 #[.slice O s.length oc, .slice A l.length cap, .func (.func 52) #[] #[]] w1 fun e w2 => ∃ O' oc', e = .returned (.slice O' (run s l).length oc') ∧ Bd w wr p R rc c rel inv gc O' oc' (run s l) w2 ∧ w1.heap.size ≤ w2.heap.size := by
  refine (appRed_any (w.heap.size + 1) O oc s l A cap w1 h.own hl hap hlt hn h.box.size).mono ?_
  rintro e w2 ⟨O', oc', rfl, hown, hg, hm⟩
  have hb := blk_lt h.own
  refine ⟨O', oc', rfl, ⟨h.box.grown hg (fun k hk => (hb k hk).1), h.cel.grown hg (fun e => (h.far _ e).1 rfl), h.row.grown hg (fun a ha => by cases ha; exact fun e => (h.far _ e).2 rfl), h.lo, Nat.lt_of_lt_of_le h.hi hg.size, hown, ?_⟩, hg.size⟩
  intro k hk
  rcases hm with hm | hm
  · exact h.far k (hm ▸ hk)
  · have := hm k hk
    have h1 := h.cel.lt
    have h2 := h.hi
    exact ⟨by omega, by omega⟩

def BndP (w : World) (l : List UInt8) (e : Ending) (w' : World) : Prop :=
  ∃ A' cap', e = .returned (.slice A' l.length cap') ∧ RowAt w' A' l ∧ Below w.heap.size w w'

set_option maxHeartbeats 4000000 in
set_option maxRecDepth 100000 in
theorem boundary_any (p : Pr) (R : Option Addr) (rc : Nat) (D : Option Addr) (dc : Nat) (d : List Cel) (w : World) (hr : RelsAt w R p.rels) (hd : CellsAt w D d) (hp : presB p = true) (hdb : diskB p d = true) :
    Calls Try.prog 39 #[prV p.k R p.rels.length rc, .slice D d.length dc] w (BndP w (bnd p d)) := by
  have HBX := Lib.hid (Boxd.start w (prC p.k R p.rels.length rc) 24)
  have HREL := Lib.hid hr
  have HD := Lib.hid hd
  have HP := Lib.hid hp
  have HDB := Lib.hid hdb
  have h100 := (diskB_facts hdb).1
  clear hr hd hp hdb
  go_enter Try.func39, Try.ntmps39
  go_wp2
  go_loopw [5, 7, 8, 11] (fun out _ _ i wr => ∃ (n : Nat) (s : List UInt8) (O : Option Addr) (oc : Nat), n ≤ d.length ∧ i = .int .i64 (n : Int) ∧ s = bndR p (d.take n) ∧ out = .slice O s.length oc ∧ wr.ownsRow (w.heap.size + 1) 5 1 (.slice O s.length oc) s.length (bs s.reverse) ∧ Boxd w (prC p.k R p.rels.length rc) 24 wr)
    (fun _ _ _ i _ => d.length - (intOf i).toNat)
  case atStart => exact ⟨0, [], none, 0, Nat.zero_le _, rfl, rfl, rfl, World.ownsRow_nil _ _ _ _, HBX.out⟩
  case round =>
    obtain ⟨n, s, O, oc, hn, rfl, hs, rfl, hown, hbx⟩ := hrel
    have HS := Lib.hid hs
    have HX := Lib.hid hbx
    have HOW := Lib.hid hown
    clear hs hbx hown
    by_cases hlt : n < d.length
    · have HSN : Hid (bndR p (d.take (n + 1)) = cellR p s d[n]) := Lib.hid (by rw [bndR_snoc hlt, HS.out])
      have hls : s.length ≤ 100000000 := by rw [HS.out]; exact bndR_take_len HP.out HDB.out n
      have hcf := (diskB_facts HDB.out).2.2 d[n] (List.getElem_mem _)
      obtain ⟨b, o, hD, hcel⟩ := (HD.out.below HX.out.old) n hlt
      obtain ⟨q1, q2, q3, q4⟩ := hcel
      subst hD
      generalize d[n] = x at *
      obtain ⟨c, rel, inv⟩ := x
      simp only at q1 q2 q3 q4 hcf
      have HIR := Lib.hid hcf.1
      have hc5 := isWd_len hcf.2
      have hr2 := relOf_len HP.out hcf.1 inv
      clear hcf q4
      obtain ⟨w2, cap, hconv, hrow, hb2, _⟩ := run_bytes (wr.alloc (.cells (celC c rel inv) 61)) c
      have hlt2 := run_bytes_lt hconv
      simp only [World.size_alloc] at hrow hb2 hlt2
      have hBd0 : Bd w wr p R rc c rel inv (wr.heap.size + 1) O oc s w2 := by
        have hz := HX.out.size
        refine ⟨(HX.out.on (Boxd.start wr (celC c rel inv) 61).old).on (by simpa using hb2), (HasCells.new wr (celC c rel inv) 61).below (by simpa using hb2), hrow, by omega, by omega, own_below (HOW.out.alloc _) (by simpa using hb2), ?_⟩
        intro k hk
        have := blk_lt HOW.out k hk
        exact ⟨by omega, by omega⟩
      have HB0 := Lib.hid hBd0
      have HN := Lib.hid hn
      clear hrow hb2 hBd0 hn
      have hA0 := HB0.out.app (some ⟨wr.heap.size + 1, 0, none⟩) cap c HB0.out.row (fun a ha => by cases ha; exact fun e => (HB0.out.far _ e).2 rfl) (fun a ha => by cases ha; exact HB0.out.hi) (by omega)
      go_wp2_with fail
      refine hA0.mono ?_
      rintro e w3 ⟨O3, oc3, rfl, hB3, hs3⟩
      have HB3 := Lib.hid hB3
      have hl3 := grun_len invc c s
      clear hA0 hB3 hs3 q1 q2 q3 hconv hlt2
      have c0 := HB3.out.box.cell 0
      have c1 := HB3.out.box.cell 1
      have k1 := HB3.out.cel.cell 1
      have k2 := HB3.out.cel.cell 2
      simp only [List.getElem?_toArray, List.getElem?_cons_zero, List.getElem?_cons_succ] at c0 c1 k1 k2
      have hR := relator_any p R rc rel inv w3 HP.out HIR.out (HREL.out.below HB3.out.box.old)
      go_wp2_with fail
      refine hR.mono ?_
      rintro e w4 ⟨A4, cap4, rfl, hrow4, hb4, ha4, hn4⟩
      have HB4 := Lib.hid (HB3.out.below hb4)
      have hA4 := HB4.out.app A4 cap4 (relOf p rel inv) hrow4 (fun a ha e => by
        have h1 := (ha4 a ha).1
        have h2 := (blk_lt HB3.out.own _ e).2
        omega) (fun a ha => (ha4 a ha).2) (by simp only [run] at *; omega)
      have HL4 := Lib.hid hr2
      clear hR hrow4 hb4 ha4 hn4 c0 c1 k1 k2
      go_wp2_with fail
      refine hA4.mono ?_
      rintro e w5 ⟨O5, oc5, rfl, hB5, hs5⟩
      have HB5 := Lib.hid hB5
      have hl5 := grun_len invc (relOf p rel inv) (run s c)
      have hI := inverseOf_any (some ⟨wr.heap.size + 1, 0, none⟩) cap c w5 HB5.out.row (fun h => by cases h) (by omega)
      clear hA4 hB5 hs5
      go_wp2_with fail
      refine hI.mono ?_
      intro e w6 hcl
      obtain ⟨A6, cap6, rfl, hrow6, hb6, ha6, hn6⟩ := hcl.row
      have HB6 := Lib.hid (HB5.out.below hb6)
      have hlw : (invW c).length = c.length := ginv_len _ _
      have hA6 := HB6.out.app A6 cap6 (invW c) hrow6 (fun a ha e => by
        have h1 := (ha6 a ha).1
        have h2 := (blk_lt HB5.out.own _ e).2
        omega) (fun a ha => (ha6 a ha).2) (by simp only [run] at *; omega)
      have HLW := Lib.hid hlw
      clear hI hrow6 hb6 ha6 hn6 hlw hcl
      go_wp2_with fail
      refine hA6.mono ?_
      rintro e w7 ⟨O7, oc7, rfl, hB7, hs7⟩
      have HB7 := Lib.hid hB7
      have HS7 : Hid (run (run (run s c) (relOf p rel inv)) (invW c) = bndR p (d.take (n + 1))) := Lib.hid (by rw [HSN.out]; rfl)
      clear hA6 hB7 hs7 hl3 hl5
      go_wp2
      go_roundw
      case rel => exact ⟨n + 1, _, O7, oc7, by omega, by go_num, HS7.out, rfl, HB7.out.own, HB7.out.box⟩
      case measure => simp [intOf]; omega
    · obtain rfl : n = d.length := by omega
      have HE : Hid (s.reverse = bnd p d) := Lib.hid (by rw [HS.out, List.take_length]; rfl)
      go_wp2
      go_ret
      have := rowAt_own HOW.out
      rw [HE.out] at this
      have hl : s.length = (bnd p d).length := by rw [← HE.out, List.length_reverse]
      refine ⟨O, oc, ?_, this, HX.out.old⟩
      rw [← hl]; rfl
end Go.Proofs.Ytbcckfggnlmhoaa

namespace Go.Proofs.Ytbcckfggnlmhoaa
open Go Go.RowKit

/-- What Boundary hands back. -/
def bdS (p : Pr) (d : List Cel) : List UInt8 := if chk p [] [d] = 0 then bnd p d else []
theorem bdS_no {p : Pr} {d : List Cel} (h : chk p [] [d] ≠ 0) : bdS p d = [] := if_neg h
theorem bdS_yes {p : Pr} {d : List Cel} (h : chk p [] [d] = 0) : bdS p d = bnd p d := if_pos h

theorem alloc_cell (w : World) (cs : Array Value) (t : TypeId) (i : Nat) : (w.alloc (.cells cs t)).cell? ⟨w.heap.size, i, none⟩ = cs[i]? := (HasCells.new w cs t).cell i
theorem disks_one {w : World} {D : Option Addr} {dc : Nat} {d : List Cel} (hd : CellsAt w D d) (hm : d.length ≤ 5000000000000) (t : TypeId) :
    DisksAt (w.alloc (.cells #[.slice D d.length dc] t)) (some ⟨w.heap.size, 0, none⟩) [⟨D, dc, d⟩] := by
  intro i hi
  obtain rfl : i = 0 := by simpa using hi
  exact ⟨w.heap.size, 0, rfl, by rw [Nat.zero_add, alloc_cell]; rfl, hd.below ((Below.refl _ w).alloc (Nat.le_refl _) _), hm⟩
theorem rels_none (w : World) (A : Option Addr) : RelsAt w A [] := fun i hi => absurd hi (Nat.not_lt_zero i)
theorem rels_one {w : World} {l : List UInt8} (hm : l.length ≤ maxLen) (t : TypeId) : RelsAt (w.alloc (.cells #[.string ⟨l.toArray⟩] t)) (some ⟨w.heap.size, 0, none⟩) [l] := by
  intro i hi
  obtain rfl : i = 0 := by simpa using hi
  exact ⟨w.heap.size, 0, rfl, by rw [Nat.zero_add, alloc_cell]; rfl, hm⟩

set_option maxHeartbeats 2000000 in
set_option maxRecDepth 100000 in
theorem Boundary_any (p : Pr) (R : Option Addr) (rc : Nat) (D : Option Addr) (dc : Nat) (d : List Cel) (w : World) (hr : RelsAt w R p.rels) (hm : p.rels.length ≤ maxLen) (hd : CellsAt w D d) (hdm : d.length ≤ 5000000000000) :
    Calls Try.prog 12 #[prV p.k R p.rels.length rc, .slice D d.length dc] w fun e w' => e = .returned (.tuple #[.string ⟨(bdS p d).toArray⟩, .int .i64 (chk p [] [d])]) ∧ Below w.heap.size w w' := by
  have HBX := Lib.hid (Boxd.start w (prC p.k R p.rels.length rc) 24)
  have HB1 := Lib.hid (HBX.out.on (Boxd.start (w.alloc (.cells (prC p.k R p.rels.length rc) 24)) #[.slice D d.length dc] 25).old)
  have hE := examine_any p R rc none 0 [] (some ⟨(w.alloc (.cells (prC p.k R p.rels.length rc) 24)).heap.size, 0, none⟩) 1 [⟨D, dc, d⟩] ((w.alloc (.cells (prC p.k R p.rels.length rc) 24)).alloc (.cells #[.slice D d.length dc] 25)) (hr.below HB1.out.old) hm (rels_none _ _) (disks_one (hd.below HBX.out.old) hdm 25) (by simp) (by simp)
  simp only [World.size_alloc, List.map_cons, List.map_nil, List.length_cons, List.length_nil] at hE
  have HREL := Lib.hid hr
  have HD := Lib.hid hd
  clear hr hd
  by_cases hk : chk p [] [d] = 0
  · have HK := Lib.hid hk
    rw [hk] at hE
    clear hk
    go_enter Try.func12, Try.ntmps12
    go_wp2_with fail
    refine hE.mono ?_
    rintro e w1 ⟨rfl, hb1⟩
    have HX := Lib.hid (HB1.out.on' (hb1.mono (by omega)))
    have hB := boundary_any p R rc D dc d w1 (HREL.out.below HX.out.old) (HD.out.below HX.out.old) (chk_ok HK.out).1 (by have := (chk_ok HK.out).2.2; simpa using this)
    have c0 := HX.out.cell 0
    have c1 := HX.out.cell 1
    simp only [List.getElem?_toArray, List.getElem?_cons_zero, List.getElem?_cons_succ] at c0 c1
    clear hE hb1
    go_wp2_with fail
    refine hB.mono ?_
    rintro e w2 ⟨A2, cap2, rfl, hrow2, hb2⟩
    have hrun := run_string_row w2 A2 cap2 _ hrow2
    have HX2 := Lib.hid (HX.out.on hb2)
    clear hrow2 hb2 hB c0 c1
    have HS := Lib.hid (bdS_yes HK.out)
    go_wp2
    go_ret2
    exact ⟨by rw [HS.out, HK.out]; rfl, HX2.out.old⟩
  · have HK := Lib.hid (bdS_no hk)
    have hne : (chk p [] [d] != 0) = true := by simpa using hk
    clear hk
    generalize chk p [] [d] = q at *
    go_enter Try.func12, Try.ntmps12
    go_wp2_with fail
    refine hE.mono ?_
    rintro e w1 ⟨rfl, hb1⟩
    go_wp2
    go_ret2
    exact ⟨by rw [HK.out]; rfl, (HB1.out.on' (hb1.mono (by omega))).old⟩

/-- What Proves hands back. -/
def prI (p : Pr) (d : List Cel) (l : List UInt8) : Int := if chk p [l] [d] = 0 then (if bnd p d = red l then 0 else 5) else chk p [l] [d]
theorem prI_no {p : Pr} {d : List Cel} {l : List UInt8} (h : chk p [l] [d] ≠ 0) : prI p d l = chk p [l] [d] := if_neg h
theorem prI_yes {p : Pr} {d : List Cel} {l : List UInt8} (h : chk p [l] [d] = 0) : prI p d l = if (bnd p d != red l) = true then 5 else 0 := by
  unfold prI; rw [if_pos h]; by_cases e : bnd p d = red l <;> simp [e]

set_option maxHeartbeats 4000000 in
set_option maxRecDepth 100000 in
theorem Proves_any (p : Pr) (R : Option Addr) (rc : Nat) (D : Option Addr) (dc : Nat) (d : List Cel) (l : List UInt8) (w : World) (hr : RelsAt w R p.rels) (hm : p.rels.length ≤ maxLen) (hd : CellsAt w D d) (hdm : d.length ≤ 5000000000000) (hl : l.length ≤ maxLen) :
    Calls Try.prog 14 #[prV p.k R p.rels.length rc, .slice D d.length dc, .string ⟨l.toArray⟩] w fun e w' => e = .returned (.int .i64 (prI p d l)) ∧ Below w.heap.size w w' := by
  have HBX := Lib.hid (Boxd.start w (prC p.k R p.rels.length rc) 24)
  have HB1 := Lib.hid (HBX.out.on (Boxd.start (w.alloc (.cells (prC p.k R p.rels.length rc) 24)) #[.string ⟨l.toArray⟩] 9).old)
  have HB2 := Lib.hid (HB1.out.on (Boxd.start ((w.alloc (.cells (prC p.k R p.rels.length rc) 24)).alloc (.cells #[.string ⟨l.toArray⟩] 9)) #[.slice D d.length dc] 25).old)
  have hE := examine_any p R rc (some ⟨(w.alloc (.cells (prC p.k R p.rels.length rc) 24)).heap.size, 0, none⟩) 1 [l] (some ⟨((w.alloc (.cells (prC p.k R p.rels.length rc) 24)).alloc (.cells #[.string ⟨l.toArray⟩] 9)).heap.size, 0, none⟩) 1 [⟨D, dc, d⟩] (((w.alloc (.cells (prC p.k R p.rels.length rc) 24)).alloc (.cells #[.string ⟨l.toArray⟩] 9)).alloc (.cells #[.slice D d.length dc] 25)) (hr.below HB2.out.old) hm
    ((rels_one hl 9).below ((Below.refl _ _).alloc (Nat.le_refl _) _)) (disks_one (hd.below HB1.out.old) hdm 25) (by simp) (by simp)
  simp only [World.size_alloc, List.map_cons, List.map_nil, List.length_cons, List.length_nil] at hE
  have HREL := Lib.hid hr
  have HD := Lib.hid hd
  clear hr hd
  by_cases hk : chk p [l] [d] = 0
  · have HK := Lib.hid hk
    rw [hk] at hE
    clear hk
    go_enter Try.func14, Try.ntmps14
    go_wp2_with fail
    refine hE.mono ?_
    rintro e w1 ⟨rfl, hb1⟩
    have HX := Lib.hid (HB2.out.on' (hb1.mono (by omega)))
    clear hE hb1
    have c0 : w1.drew.cell? ⟨w.heap.size, 0, none⟩ = some (.int .i64 p.k) := HX.out.cell 0
    have c1 : w1.drew.cell? ⟨w.heap.size, 1, none⟩ = some (.slice R p.rels.length rc) := HX.out.cell 1
    have HXd := Lib.hid (HX.out.drewN 1)
    have HB := Lib.hid (boundary_any p R rc D dc d w1.drew (HREL.out.below HXd.out.old) (HD.out.below HXd.out.old) (chk_ok HK.out).1 (by have := (chk_ok HK.out).2.2; simpa using this))
    have HL5 := Lib.hid (isWd_len (k := p.k) (l := l) (by have := (chk_ok HK.out).2.1; simpa using this))
    have HR := Lib.hid (prI_yes HK.out)
    generalize bnd p d = b at *
    go_wp2
    go_region_with (first
        | (go_at_call 39; ((with_reducible refine HB.out.mono ?_); rintro e w2 ⟨A2, cap2, rfl, hrow2, hb2⟩; have HROW2 := Lib.hid hrow2; have hrun := run_string_row w2 A2 cap2 _ hrow2; have HX2 := Lib.hid (HXd.out.on hb2); have d0 : w2.cell? ⟨w.heap.size, 0, none⟩ = some (.int .i64 p.k) := HX2.out.cell 0; have d1 : w2.cell? ⟨w.heap.size, 1, none⟩ = some (.slice R p.rels.length rc) := HX2.out.cell 1; have HRD := Lib.hid (reduced_any l w2 (by have := HL5.out; omega)); clear hrow2 hb2 c0 c1))
        | (go_at_call 40; ((with_reducible refine HRD.out.mono ?_); rintro e w3 ⟨rfl, hb3⟩; have hrun3 := run_string_row w3 A2 cap2 _ (HROW2.out.below hb3); have HX3 := Lib.hid (HX2.out.on hb3); have e0 : w3.cell? ⟨w.heap.size, 0, none⟩ = some (.int .i64 p.k) := HX3.out.cell 0; have e1 : w3.cell? ⟨w.heap.size, 1, none⟩ = some (.slice R p.rels.length rc) := HX3.out.cell 1; clear hb3 d0 d1)))

    all_goals (
      clear hrun hrun3 e0 e1
      cases hq : (b == red l) with
      | true =>
        have HR2 : Hid (prI p d l = 0) := Lib.hid (by rw [HR.out, bne, hq]; rfl)
        clear hq
        go_wp2
        go_ret
        exact ⟨ret_int HR2.out.symm, HX3.out.old⟩
      | false =>
        have HR2 : Hid (prI p d l = 5) := Lib.hid (by rw [HR.out, bne, hq]; rfl)
        clear hq
        go_wp2
        go_ret
        exact ⟨ret_int HR2.out.symm, HX3.out.old⟩)
  · have HK := Lib.hid (prI_no hk)
    have hne : (chk p [l] [d] != 0) = true := by simpa using hk
    clear hk
    generalize chk p [l] [d] = q at *
    go_enter Try.func14, Try.ntmps14
    go_wp2_with fail
    refine hE.mono ?_
    rintro e w1 ⟨rfl, hb1⟩
    go_wp2
    go_ret
    exact ⟨ret_int HK.out.symm, (HB2.out.on' (hb1.mono (by omega))).old⟩
end Go.Proofs.Ytbcckfggnlmhoaa
