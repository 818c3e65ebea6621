/-
  Our own text, in the proofs of the laws of package disk (cayleylaw04). Proved here: reduced, relator, isRel, isRelator, isPresentation of the program. Conditions: the relators lie in memory as the slice says.
-/
import Derived.Test.YtbcckfggnlmhoaaAi
namespace Go.Proofs.Ytbcckfggnlmhoaa
open Go Go.RowKit

theorem run_bytes_lt {w w1 : World} {l : List UInt8} {v : Value} (h : (convert 9 58 (.string ⟨l.toArray⟩)).run Try.prog w = .ok v w1) : w.heap.size < w1.heap.size := by
  have hs := Lib.run_convert_string_bytes w 9 58 5 ⟨l.toArray⟩ Try.underlying9 Try.underlying58 Try.underlying5
  rw [h] at hs
  cases hs
  rw [Lib.bytesWorld_size]; omega

set_option maxHeartbeats 1000000 in
theorem reduced_any (l : List UInt8) (w : World) (hn : l.length ≤ 1000000000) :
    Calls Try.prog 40 #[.string ⟨l.toArray⟩] w fun e w' => e = .returned (.string ⟨(red l).toArray⟩) ∧ Below w.heap.size w w' := by
  obtain ⟨w1, cap, hconv, hrow, hb, _⟩ := run_bytes w l
  have hA := appRed_any w1.heap.size none 0 [] l (some ⟨w.heap.size, 0, none⟩) cap w1 (World.ownsRow_nil _ _ _ _) hrow (fun a h => by simp [blk]) (fun a h => by cases h; exact run_bytes_lt hconv) (by simpa using hn) (Nat.le_refl _)
  simp only [List.length_nil] at hA
  have HB := Lib.hid hb
  clear hrow hb
  go_enter Try.func40, Try.ntmps40
  go_wp2_with fail
  refine hA.mono ?_
  rintro e w2 ⟨A', cap', rfl, hown, hg, hm⟩
  have hrun := run_string_row w2 A' cap' (run [] l).reverse (rowAt_own hown)
  rw [List.length_reverse] at hrun
  have HB1 := Lib.hid (HB.out.trans (below_of_grown (Below.refl w.heap.size w1) hg HB.out.size (fun a ha => by cases ha)))
  clear hown hg hm hA
  go_wp2
  go_ret
  exact ⟨rfl, HB1.out⟩

/-! PRESENTATIONS IN MEMORY. -/
abbrev prV (k : Int) (R : Option Addr) (n rc : Nat) : Value := .agg #[.int .i64 k, .slice R n rc]
abbrev prC (k : Int) (R : Option Addr) (n rc : Nat) : Array Value := #[.int .i64 k, .slice R n rc]
def RelsAt (w : World) (R : Option Addr) (rels : List (List UInt8)) : Prop :=
  ∀ i (h : i < rels.length), ∃ b o, R = some ⟨b, o, none⟩ ∧ w.cell? ⟨b, o + i, none⟩ = some (.string ⟨(rels[i]).toArray⟩) ∧ (rels[i]).length ≤ maxLen
theorem RelsAt.below {w w' : World} {R : Option Addr} {rels : List (List UInt8)} (h : RelsAt w R rels) (hb : Below w.heap.size w w') : RelsAt w' R rels := by
  intro i hi
  obtain ⟨b, o, hA, hc, hl⟩ := h i hi
  exact ⟨b, o, hA, (hb.cell (p := ⟨b, o + i, none⟩) (lt_of_cell hc)).trans hc, hl⟩

/-- A row of bytes that a call hands back: it is the call's own. -/
def RowP (w : World) (l : List UInt8) (e : Ending) (w' : World) : Prop :=
  ∃ A' cap', e = .returned (.slice A' l.length cap') ∧ RowAt w' A' l ∧ Below w.heap.size w w' ∧ (∀ a, A' = some a → w.heap.size ≤ a.block ∧ a.block < w'.heap.size) ∧ (A' = none → l = [])
theorem CloneP.row {w : World} {l : List UInt8} {e : Ending} {w' : World} (h : CloneP w l e w') : RowP w l e w' := by
  obtain ⟨A', cap', he, hown, hb⟩ := h
  refine ⟨A', cap', he, rowAt_own hown, hb, fun a ha => ?_, fun ha => ?_⟩
  · rcases own_shape hown with ⟨h, _⟩ | ⟨g, h, h1, h2⟩
    · rw [h] at ha; cases ha
    · rw [h] at ha; cases ha; exact ⟨h1, h2⟩
  · rcases own_shape hown with ⟨_, h, _⟩ | ⟨g, h, h1, h2⟩
    · exact List.length_eq_zero_iff.1 h
    · rw [h] at ha; cases ha

set_option maxHeartbeats 1000000 in
set_option maxRecDepth 100000 in
theorem relator_any (p : Pr) (R : Option Addr) (rc : Nat) (i : Int) (inv : Bool) (w : World) (hp : presB p = true) (hi : isRelB p i = true) (hr : RelsAt w R p.rels) :
    Calls Try.prog 76 #[prV p.k R p.rels.length rc, .int .i64 i, .bool inv] w (RowP w (relOf p i inv)) := by
  have h60 := (presB_k hp).2.2
  have hlen := relOf_len hp hi false
  simp only [isRelB, Bool.and_eq_true, decide_eq_true_eq] at hi
  obtain ⟨hi0, hi1⟩ := hi
  obtain ⟨n, rfl⟩ := Int.eq_ofNat_of_zero_le hi0
  have hn : n < p.rels.length := by omega
  obtain ⟨b, o, rfl, hc, _⟩ := hr n hn
  have HL : Hid (p.rels.getD n [] = p.rels[n]) := Lib.hid (by simp [List.getD, hn])
  have hl : (p.rels[n]).length ≤ 200 := by have := hlen; simp only [relOf, Int.toNat_natCast, HL.out] at this; simpa using this
  generalize hrr : p.rels[n] = l at *
  have HRR := Lib.hid hrr
  have hbw : b < w.heap.size := lt_of_cell hc
  obtain ⟨w1, cap, hconv, hrow, hb, _⟩ := run_bytes (w.alloc (.cells (prC p.k (some ⟨b, o, none⟩) p.rels.length rc) 24)) l
  have HB0 : Hid (Below w.heap.size w (w.alloc (.cells (prC p.k (some ⟨b, o, none⟩) p.rels.length rc) 24))) := Lib.hid ((Below.refl _ _).alloc (Nat.le_refl _) _)
  have HB1 := Lib.hid (HB0.out.trans (hb.mono HB0.out.size))
  simp only [World.size_alloc] at hrow
  have HROW := Lib.hid hrow
  have HLT := Lib.hid (run_bytes_lt hconv)
  clear hrr hrow hb hlen
  cases inv with
  | false =>
    have HE : Hid (relOf p (n : Int) false = l) := Lib.hid (by simp only [relOf, Int.toNat_natCast, HL.out]; rfl)
    go_enter Try.func76, Try.ntmps76
    go_wp2
    go_ret
    rw [HE.out]
    refine ⟨_, _, rfl, HROW.out, HB1.out, fun a ha => ?_, fun ha => by cases ha⟩
    cases ha
    have := HLT.out
    simp at this ⊢
    omega
  | true =>
    have HE : Hid (relOf p (n : Int) true = invW l) := Lib.hid (by simp only [relOf, Int.toNat_natCast, HL.out]; rfl)
    have hI := inverseOf_any _ cap l w1 HROW.out (fun h => by cases h) (by omega)
    go_enter Try.func76, Try.ntmps76
    go_wp2_with fail
    refine hI.mono ?_
    intro e w2 hcl
    obtain ⟨A', cap', rfl, hrow2, hb2, ha2, hn2⟩ := hcl.row
    have HR2 := Lib.hid hrow2
    have HB2 := Lib.hid hb2
    have HA2 := Lib.hid ha2
    have HN2 := Lib.hid hn2
    clear hrow2 hb2 ha2 hn2 hcl hI
    go_wp2
    go_ret
    rw [HE.out]
    exact ⟨A', cap', rfl, HR2.out, HB1.out.trans (HB2.out.mono HB1.out.size), fun a ha => ⟨Nat.le_trans HB1.out.size (HA2.out a ha).1, (HA2.out a ha).2⟩, HN2.out⟩
end Go.Proofs.Ytbcckfggnlmhoaa
