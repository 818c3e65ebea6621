/-
  Our own text, in the proofs of the laws of package disk (cayleylaw04). Proved here: sane returns true; DiskBoundary returns true at every presentation, disk and word. Conditions: the arguments lie in memory as the slices say.
-/
import Derived.Test.YtbcckfggnlmhoaaBc
namespace Go.Proofs.Ytbcckfggnlmhoaa
open Go Go.RowKit

def saneP : Pr := ⟨2, [[97, 98, 65, 66]]⟩
def saneD : List Cel := [⟨[97], 0, true⟩]
theorem sane_chk : chk saneP [] [saneD] = 0 := by decide +kernel
theorem sane_bd : bdS saneP saneD = [97, 98, 97, 66, 65, 65] := by decide +kernel

theorem cells_one (w : World) (c : Cel) (t : TypeId) (hl : c.conj.length ≤ 140737488351232) : CellsAt (w.alloc (.cells (celC c.conj c.rel c.inv) t)) (some ⟨w.heap.size, 0, none⟩) [c] := by
  intro i hi
  obtain rfl : i = 0 := by simpa using hi
  refine ⟨w.heap.size, 0, rfl, ?_, ?_, ?_, hl⟩
  · simp only [Nat.zero_mul, Nat.add_zero]; rw [alloc_cell]; rfl
  · simp only [Nat.zero_mul, Nat.zero_add]; rw [alloc_cell]; rfl
  · simp only [Nat.zero_mul, Nat.zero_add]; rw [alloc_cell]; rfl

set_option maxHeartbeats 1000000 in
set_option maxRecDepth 100000 in
theorem sane_any (w : World) : Calls Try.prog 13 #[] w fun e w' => e = .returned (.bool true) ∧ Below w.heap.size w w' := by
  have hB0 : Below w.heap.size w (w.alloc (.cells #[.string ⟨#[97, 98, 65, 66]⟩] 9)) := (Below.refl _ _).alloc (Nat.le_refl _) _
  have HB := Lib.hid (hB0.alloc (by simp) (.cells (celC [97] 0 true) 61))
  have hr : RelsAt (w.alloc (.cells #[.string ⟨#[97, 98, 65, 66]⟩] 9)) (some ⟨w.heap.size, 0, none⟩) saneP.rels := rels_one (l := [97, 98, 65, 66]) (by unfold maxLen; decide) 9
  have hB := Boundary_any saneP (some ⟨w.heap.size, 0, none⟩) 1 (some ⟨(w.alloc (.cells #[.string ⟨#[97, 98, 65, 66]⟩] 9)).heap.size, 0, none⟩) 1 saneD ((w.alloc (.cells #[.string ⟨#[97, 98, 65, 66]⟩] 9)).alloc (.cells (celC [97] 0 true) 61))
    (hr.below ((Below.refl _ _).alloc (Nat.le_refl _) _)) (by unfold maxLen; decide) (cells_one _ ⟨[97], 0, true⟩ 61 (by decide)) (by decide)
  rw [sane_chk, sane_bd] at hB
  simp only [World.size_alloc] at hB
  have hB : Calls Try.prog 12 #[.agg #[.int .i64 2, .slice (some ⟨w.heap.size, 0, none⟩) 1 1], .slice (some ⟨w.heap.size + 1, 0, none⟩) 1 1] ((w.alloc (.cells #[.string ⟨#[97, 98, 65, 66]⟩] 9)).alloc (.cells #[.string ⟨#[97]⟩, .int .i64 0, .bool true] 61))
    fun e w' => e = .returned (.tuple #[.string ⟨#[97, 98, 97, 66, 65, 65]⟩, .int .i64 0]) ∧ Below (w.heap.size + 1 + 1) ((w.alloc (.cells #[.string ⟨#[97, 98, 65, 66]⟩] 9)).alloc (.cells #[.string ⟨#[97]⟩, .int .i64 0, .bool true] 61)) w' := hB
  clear hr hB0
  go_enter Try.func13, Try.ntmps13
  go_wp2_with fail
  refine hB.mono ?_
  rintro e w1 ⟨rfl, hb1⟩
  have HB1 := Lib.hid (HB.out.trans (hb1.mono (by omega)))
  clear hb1
  go_wp2
  go_ret
  exact ⟨rfl, HB1.out⟩

/-- The law's arguments lie where they lay. -/
structure La (w : World) (p : Pr) (R : Option Addr) (rc : Nat) (D : Option Addr) (d : List Cel) (W : World) : Prop where
  box : Boxd w (prC p.k R p.rels.length rc) 24 W
  rels : RelsAt W R p.rels
  cells : CellsAt W D d
theorem La.on {w : World} {p : Pr} {R : Option Addr} {rc : Nat} {D : Option Addr} {d : List Cel} {W W' : World} (h : La w p R rc D d W) (hb : Below W.heap.size W W') : La w p R rc D d W' :=
  ⟨h.box.on hb, h.rels.below hb, h.cells.below hb⟩
theorem La.drewN {w : World} {p : Pr} {R : Option Addr} {rc : Nat} {D : Option Addr} {d : List Cel} {W : World} (h : La w p R rc D d W) (n : Nat) : La w p R rc D d (W.drewN n) := ⟨h.box.drewN n, h.rels, h.cells.below ((Below.refl _ W).drewN n)⟩
theorem La.start {w : World} {p : Pr} {R : Option Addr} {D : Option Addr} {d : List Cel} (rc : Nat) (hr : RelsAt w R p.rels) (hd : CellsAt w D d) : La w p R rc D d (w.alloc (.cells (prC p.k R p.rels.length rc) 24)) :=
  ⟨Boxd.start _ _ _, hr.below (Boxd.start _ _ _).old, hd.below (Boxd.start _ _ _).old⟩
theorem La.c0 {w : World} {p : Pr} {R : Option Addr} {rc : Nat} {D : Option Addr} {d : List Cel} {W : World} (h : La w p R rc D d W) : W.cell? ⟨w.heap.size, 0, none⟩ = some (.int .i64 p.k) := h.box.cell 0
theorem La.c1 {w : World} {p : Pr} {R : Option Addr} {rc : Nat} {D : Option Addr} {d : List Cel} {W : World} (h : La w p R rc D d W) : W.cell? ⟨w.heap.size, 1, none⟩ = some (.slice R p.rels.length rc) := h.box.cell 1

set_option maxHeartbeats 4000000 in
set_option maxRecDepth 100000 in
theorem diskBoundary_any (p : Pr) (R : Option Addr) (rc : Nat) (D : Option Addr) (dc : Nat) (d : List Cel) (l : List UInt8) (w : World) (hr : RelsAt w R p.rels) (hm : p.rels.length ≤ maxLen) (hd : CellsAt w D d) (hdm : d.length ≤ 5000000000000) (hl : l.length ≤ maxLen) :
    Calls Try.prog 3 #[prV p.k R p.rels.length rc, .slice D d.length dc, .string ⟨l.toArray⟩] w fun e w' => e = .returned (.bool true) ∧ Below w.heap.size w w' := by
  have HL0 := Lib.hid (La.start rc hr hd)
  have HM := Lib.hid hm
  have HDM := Lib.hid hdm
  have HLM := Lib.hid hl
  clear hr hd hm hdm hl
  have h1 := rBoundary_any p R rc D dc d _ HL0.out.rels HM.out HL0.out.cells HDM.out
  go_enter Try.func3, Try.ntmps3
  go_wp2_with fail
  refine h1.mono ?_
  rintro e w1 ⟨rfl, hb1⟩
  have HL1 := Lib.hid (HL0.out.on hb1)
  have h2 := Boundary_any p R rc D dc d w1 HL1.out.rels HM.out HL1.out.cells HDM.out
  have c0 := HL1.out.c0
  have c1 := HL1.out.c1
  clear h1 hb1
  go_wp2_with fail
  refine h2.mono ?_
  rintro e w2 ⟨rfl, hb2⟩
  have HL2 := Lib.hid (HL1.out.on hb2)
  have HLd := Lib.hid (HL2.out.drewN 1)
  have HS := Lib.hid (sane_any w2.drew)
  have d0 : w2.drew.cell? ⟨w.heap.size, 0, none⟩ = some (.int .i64 p.k) := HLd.out.c0
  have d1 : w2.drew.cell? ⟨w.heap.size, 1, none⟩ = some (.slice R p.rels.length rc) := HLd.out.c1
  clear h2 hb2 c0 c1
  generalize bdS p d = b at *
  generalize chk p [] [d] = q at *
  go_wp2_with fail
  go_region_held3 (fun W => W.cell? ⟨w.heap.size, 0, none⟩ = some (.int .i64 p.k) ∧ W.cell? ⟨w.heap.size, 1, none⟩ = some (.slice R p.rels.length rc))
    (first | with_reducible exact ⟨d0, d1⟩ | with_reducible exact ⟨e0, e1⟩ | with_reducible exact ⟨f0, f1⟩ | with_reducible exact ⟨g0, g1⟩)
    (first
    | (go_at_call 13; ((with_reducible refine HS.out.mono ?_); rintro e w3 ⟨rfl, hb3⟩; have HL3 := Lib.hid (HLd.out.on hb3); have e0 := HL3.out.c0; have e1 := HL3.out.c1; have HP := Lib.hid (Proves_any p R rc D dc d l w3 HL3.out.rels HM.out HL3.out.cells HDM.out HLM.out); clear hb3 d0 d1))
    | (go_at_call 14; ((with_reducible refine HP.out.mono ?_); rintro e w4 ⟨rfl, hb4⟩; have HL4 := Lib.hid (HL3.out.on hb4); have f0 := HL4.out.c0; have f1 := HL4.out.c1; have HQ := Lib.hid (rProves_any p R rc D dc d l w4 HL4.out.rels HM.out HL4.out.cells HDM.out HLM.out); clear hb4 e0 e1))
    | (go_at_call 15; ((with_reducible refine HQ.out.mono ?_); rintro e w5 ⟨rfl, hb5⟩; have HL5 := Lib.hid (HL4.out.on hb5); have g0 := HL5.out.c0; have g1 := HL5.out.c1; clear hb5 f0 f1)))
  all_goals (
    rename_i hHeld
    clear hHeld
    go_wp2
    go_ret
    exact ⟨rfl, HL5.out.box.old⟩)
end Go.Proofs.Ytbcckfggnlmhoaa
