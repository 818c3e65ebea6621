/-
  Our own text, in the proofs of the laws of package disk (cayleylaw04). Proved here: boundary of the program, of a valid disk. Conditions: the relators and cells lie in memory as the slices say; presentation and disk are valid.
-/
import Derived.Test.YtbcckfggnlmhoaaAm
namespace Go.Proofs.Ytbcckfggnlmhoaa
open Go Go.RowKit

/-- A block whose cells are known. -/
structure HasCells (w : World) (b : Nat) (cs : Array Value) : Prop where
  lt : b < w.heap.size
  cell : ∀ i, w.cell? ⟨b, i, none⟩ = cs[i]?
theorem HasCells.new (w : World) (cs : Array Value) (t : TypeId) : HasCells (w.alloc (.cells cs t)) w.heap.size cs :=
  ⟨by simp, fun i => cell_of_row _ w.heap.size i cs t (0, 0) (heap_alloc_new w _)⟩
theorem HasCells.below {w w' : World} {b : Nat} {cs : Array Value} (h : HasCells w b cs) (hb : Below w.heap.size w w') : HasCells w' b cs :=
  ⟨Nat.lt_of_lt_of_le h.lt hb.size, fun i => (hb.cell (p := ⟨b, i, none⟩) h.lt).trans (h.cell i)⟩
theorem HasCells.grown {w w' : World} {b : Nat} {cs : Array Value} {row : Option Nat} (h : HasCells w b cs) (hg : w.grownBy w' row) (hne : row ≠ some b) : HasCells w' b cs :=
  ⟨Nat.lt_of_lt_of_le h.lt hg.size, fun i => (World.cell?_of_block (w := w) (a := ⟨b, i, none⟩) (hg.block b h.lt (fun e => hne e.symm))).trans (h.cell i)⟩
theorem HasCells.drewN {w : World} {b : Nat} {cs : Array Value} (h : HasCells w b cs) (n : Nat) : HasCells (w.drewN n) b cs := ⟨h.lt, h.cell⟩
theorem Boxd.grown {w : World} {cs : Array Value} {t : TypeId} {wr w' : World} {row : Option Nat} (h : Boxd w cs t wr) (hg : wr.grownBy w' row) (hr : ∀ k, row = some k → w.heap.size + 1 ≤ k) : Boxd w cs t w' :=
  ⟨h.below.grown hg h.size hr⟩

theorem own_below {w w' : World} {B e sz n : Nat} {v : Value} {xs : List Value} (h : w.ownsRow B e sz v n xs) (hb : Below w.heap.size w w') : w'.ownsRow B e sz v n xs :=
  h.kept (row := none) ⟨hb.os, hb.tape, hb.output, hb.size, fun k hk _ => hb.block k hk⟩ (by cases v.ownBlock <;> simp)
theorem blk_lt {w : World} {B e sz n cap : Nat} {A : Option Addr} {xs : List Value} (h : w.ownsRow B e sz (.slice A n cap) n xs) : ∀ k, blk A = some k → B ≤ k ∧ k < w.heap.size := by
  intro k hk
  rcases own_shape h with ⟨h, _⟩ | ⟨g, h, h1, h2⟩
  · rw [h] at hk; cases hk
  · rw [h] at hk; cases hk; exact ⟨h1, h2⟩

/-- How boundary goes on within a round. -/
structure Bd (w wr : World) (p : Pr) (R : Option Addr) (rc : Nat) (c : List UInt8) (rel : Int) (inv : Bool) (gc : Nat) (O : Option Addr) (oc : Nat) (s : List UInt8) (w1 : World) : Prop where
  box : Boxd w (prC p.k R p.rels.length rc) 24 w1
  cel : HasCells w1 wr.heap.size (celC c rel inv)
  row : RowAt w1 (some ⟨gc, 0, none⟩) c
  lo : wr.heap.size < gc
  hi : gc < w1.heap.size
  own : w1.ownsRow (w.heap.size + 1) 5 1 (.slice O s.length oc) s.length (bs s.reverse)
  far : ∀ k, blk O = some k → k ≠ wr.heap.size ∧ k ≠ gc

theorem Bd.below {w wr : World} {p : Pr} {R : Option Addr} {rc : Nat} {c : List UInt8} {rel : Int} {inv : Bool} {gc : Nat} {O : Option Addr} {oc : Nat} {s : List UInt8} {w1 w2 : World}
    (h : Bd w wr p R rc c rel inv gc O oc s w1) (hb : Below w1.heap.size w1 w2) : Bd w wr p R rc c rel inv gc O oc s w2 :=
  ⟨h.box.on hb, h.cel.below hb, h.row.below hb, h.lo, Nat.lt_of_lt_of_le h.hi hb.size, own_below h.own hb, h.far⟩
/-- One more part: a call of appendReduced. -/
theorem Bd.app {w wr : World} {p : Pr} {R : Option Addr} {rc : Nat} {c : List UInt8} {rel : Int} {inv : Bool} {gc : Nat} {O : Option Addr} {oc : Nat} {s : List UInt8} {w1 : World}
    (h : Bd w wr p R rc c rel inv gc O oc s w1) (A : Option Addr) (cap : Nat) (l : List UInt8) (hl : RowAt w1 A l) (hap : ∀ a, A = some a → blk O ≠ some a.block) (hlt : ∀ a, A = some a → a.block < w1.heap.size) (hn : s.length + l.length ≤ 1000000000) :
    Calls Try.prog 50 #[.slice O s.length oc, .slice A l.length cap, .func (.func 52) #[] #[]] w1 fun e w2 => ∃ O' oc', e = .returned (.slice O' (run s l).length oc') ∧ Bd w wr p R rc c rel inv gc O' oc' (run s l) w2 ∧ w1.heap.size ≤ w2.heap.size := by
  refine (appRed_any (w.heap.size + 1) O oc s l A cap w1 h.own hl hap hlt hn h.box.size).mono ?_
  rintro e w2 ⟨O', oc', rfl, hown, hg, hm⟩
  have hb := blk_lt h.own
  refine ⟨O', oc', rfl, ⟨h.box.grown hg (fun k hk => (hb k hk).1), h.cel.grown hg (fun e => (h.far _ e).1 rfl), h.row.grown hg (fun a ha => by cases ha; exact fun e => (h.far _ e).2 rfl), h.lo, Nat.lt_of_lt_of_le h.hi hg.size, hown, ?_⟩, hg.size⟩
  intro k hk
  rcases hm with hm | hm
  · exact h.far k (hm ▸ hk)
  · have := hm k hk
    have h1 := h.cel.lt
    have h2 := h.hi
    exact ⟨by omega, by omega⟩

def BndP (w : World) (l : List UInt8) (e : Ending) (w' : World) : Prop :=
  ∃ A' cap', e = .returned (.slice A' l.length cap') ∧ RowAt w' A' l ∧ Below w.heap.size w w'

set_option maxHeartbeats 4000000 in
set_option maxRecDepth 100000 in
theorem boundary_any (p : Pr) (R : Option Addr) (rc : Nat) (D : Option Addr) (dc : Nat) (d : List Cel) (w : World) (hr : RelsAt w R p.rels) (hd : CellsAt w D d) (hp : presB p = true) (hdb : diskB p d = true) :
    Calls Try.prog 39 #[prV p.k R p.rels.length rc, .slice D d.length dc] w (BndP w (bnd p d)) := by
  have HBX := Lib.hid (Boxd.start w (prC p.k R p.rels.length rc) 24)
  have HREL := Lib.hid hr
  have HD := Lib.hid hd
  have HP := Lib.hid hp
  have HDB := Lib.hid hdb
  have h100 := (diskB_facts hdb).1
  clear hr hd hp hdb
  go_enter Try.func39, Try.ntmps39
  go_wp2
  go_loopw [5, 7, 8, 11] (fun out _ _ i wr => ∃ (n : Nat) (s : List UInt8) (O : Option Addr) (oc : Nat), n ≤ d.length ∧ i = .int .i64 (n : Int) ∧ s = bndR p (d.take n) ∧ out = .slice O s.length oc ∧ wr.ownsRow (w.heap.size + 1) 5 1 (.slice O s.length oc) s.length (bs s.reverse) ∧ Boxd w (prC p.k R p.rels.length rc) 24 wr)
    (fun _ _ _ i _ => d.length - (intOf i).toNat)
  case atStart => exact ⟨0, [], none, 0, Nat.zero_le _, rfl, rfl, rfl, World.ownsRow_nil _ _ _ _, HBX.out⟩
  case round =>
    obtain ⟨n, s, O, oc, hn, rfl, hs, rfl, hown, hbx⟩ := hrel
    have HS := Lib.hid hs
    have HX := Lib.hid hbx
    have HOW := Lib.hid hown
    clear hs hbx hown
    by_cases hlt : n < d.length
    · have HSN : Hid (bndR p (d.take (n + 1)) = cellR p s d[n]) := Lib.hid (by rw [bndR_snoc hlt, HS.out])
      have hls : s.length ≤ 100000000 := by rw [HS.out]; exact bndR_take_len HP.out HDB.out n
      have hcf := (diskB_facts HDB.out).2.2 d[n] (List.getElem_mem _)
      obtain ⟨b, o, hD, hcel⟩ := (HD.out.below HX.out.old) n hlt
      obtain ⟨q1, q2, q3, q4⟩ := hcel
      subst hD
      generalize d[n] = x at *
      obtain ⟨c, rel, inv⟩ := x
      simp only at q1 q2 q3 q4 hcf
      have HIR := Lib.hid hcf.1
      have hc5 := isWd_len hcf.2
      have hr2 := relOf_len HP.out hcf.1 inv
      clear hcf q4
      obtain ⟨w2, cap, hconv, hrow, hb2, _⟩ := run_bytes (wr.alloc (.cells (celC c rel inv) 61)) c
      have hlt2 := run_bytes_lt hconv
      simp only [World.size_alloc] at hrow hb2 hlt2
      have hBd0 : Bd w wr p R rc c rel inv (wr.heap.size + 1) O oc s w2 := by
        have hz := HX.out.size
        refine ⟨(HX.out.on (Boxd.start wr (celC c rel inv) 61).old).on (by simpa using hb2), (HasCells.new wr (celC c rel inv) 61).below (by simpa using hb2), hrow, by omega, by omega, own_below (HOW.out.alloc _) (by simpa using hb2), ?_⟩
        intro k hk
        have := blk_lt HOW.out k hk
        exact ⟨by omega, by omega⟩
      have HB0 := Lib.hid hBd0
      have HN := Lib.hid hn
      clear hrow hb2 hBd0 hn
      have hA0 := HB0.out.app (some ⟨wr.heap.size + 1, 0, none⟩) cap c HB0.out.row (fun a ha => by cases ha; exact fun e => (HB0.out.far _ e).2 rfl) (fun a ha => by cases ha; exact HB0.out.hi) (by omega)
      go_wp2_with fail
      refine hA0.mono ?_
      rintro e w3 ⟨O3, oc3, rfl, hB3, hs3⟩
      have HB3 := Lib.hid hB3
      have hl3 := grun_len invc c s
      clear hA0 hB3 hs3 q1 q2 q3 hconv hlt2
      have c0 := HB3.out.box.cell 0
      have c1 := HB3.out.box.cell 1
      have k1 := HB3.out.cel.cell 1
      have k2 := HB3.out.cel.cell 2
      simp only [List.getElem?_toArray, List.getElem?_cons_zero, List.getElem?_cons_succ] at c0 c1 k1 k2
      have hR := relator_any p R rc rel inv w3 HP.out HIR.out (HREL.out.below HB3.out.box.old)
      go_wp2_with fail
      refine hR.mono ?_
      rintro e w4 ⟨A4, cap4, rfl, hrow4, hb4, ha4, hn4⟩
      have HB4 := Lib.hid (HB3.out.below hb4)
      have hA4 := HB4.out.app A4 cap4 (relOf p rel inv) hrow4 (fun a ha e => by
        have h1 := (ha4 a ha).1
        have h2 := (blk_lt HB3.out.own _ e).2
        omega) (fun a ha => (ha4 a ha).2) (by simp only [run] at *; omega)
      have HL4 := Lib.hid hr2
      clear hR hrow4 hb4 ha4 hn4 c0 c1 k1 k2
      go_wp2_with fail
      refine hA4.mono ?_
      rintro e w5 ⟨O5, oc5, rfl, hB5, hs5⟩
      have HB5 := Lib.hid hB5
      have hl5 := grun_len invc (relOf p rel inv) (run s c)
      have hI := inverseOf_any (some ⟨wr.heap.size + 1, 0, none⟩) cap c w5 HB5.out.row (fun h => by cases h) (by omega)
      clear hA4 hB5 hs5
      go_wp2_with fail
      refine hI.mono ?_
      intro e w6 hcl
      obtain ⟨A6, cap6, rfl, hrow6, hb6, ha6, hn6⟩ := hcl.row
      have HB6 := Lib.hid (HB5.out.below hb6)
      have hlw : (invW c).length = c.length := ginv_len _ _
      have hA6 := HB6.out.app A6 cap6 (invW c) hrow6 (fun a ha e => by
        have h1 := (ha6 a ha).1
        have h2 := (blk_lt HB5.out.own _ e).2
        omega) (fun a ha => (ha6 a ha).2) (by simp only [run] at *; omega)
      have HLW := Lib.hid hlw
      clear hI hrow6 hb6 ha6 hn6 hlw hcl
      go_wp2_with fail
      refine hA6.mono ?_
      rintro e w7 ⟨O7, oc7, rfl, hB7, hs7⟩
      have HB7 := Lib.hid hB7
      have HS7 : Hid (run (run (run s c) (relOf p rel inv)) (invW c) = bndR p (d.take (n + 1))) := Lib.hid (by rw [HSN.out]; rfl)
      clear hA6 hB7 hs7 hl3 hl5
      go_wp2
      go_roundw
      case rel => exact ⟨n + 1, _, O7, oc7, by omega, by go_num, HS7.out, rfl, HB7.out.own, HB7.out.box⟩
      case measure => simp [intOf]; omega
    · obtain rfl : n = d.length := by omega
      have HE : Hid (s.reverse = bnd p d) := Lib.hid (by rw [HS.out, List.take_length]; rfl)
      go_wp2
      go_ret
      have := rowAt_own HOW.out
      rw [HE.out] at this
      have hl : s.length = (bnd p d).length := by rw [← HE.out, List.length_reverse]
      refine ⟨O, oc, ?_, this, HX.out.old⟩
      rw [← hl]; rfl
end Go.Proofs.Ytbcckfggnlmhoaa
