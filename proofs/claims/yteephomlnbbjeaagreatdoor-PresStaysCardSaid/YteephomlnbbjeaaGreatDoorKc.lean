/-
  Our own text, in the proofs of the laws of package pres (cayleylaw03). Proved here: the laws' examples, each by itself; the laws' examples hold (sane); what the calls of PresStays hand back, as far as that law asks; what it keeps; PresStays returns true, and leaves what lay. Conditions: the arguments lie in memory as the slices say; bounds; the listed tables lie as the program lays them.
-/
import Derived.Test.YteephomlnbbjeaaGreatDoorKb
set_option linter.unusedVariables false
set_option linter.unusedSimpArgs false
set_option linter.unusedSectionVars false
namespace Go.Proofs.YteephomlnbbjeaaGreatDoor
open Go Go.RowKit Go.Maps Go.Sort Go.Shelf

theorem fc1 : chkP ⟨2, [[97, 97], [97, 98, 65, 66]]⟩ = 0 := by kernel_rfl
theorem ft1 : txtW ⟨2, [[97, 97], [97, 98, 65, 66]]⟩ = [60, 97, 44, 32, 98, 32, 124, 32, 97, 94, 50, 44, 32, 97, 32, 98, 32, 65, 32, 66, 62] := by kernel_rfl
theorem fc2 : chkP ⟨2, [[98, 65, 66], [98, 97, 66, 66], [65]]⟩ = 0 := by kernel_rfl
theorem ft2 : ascA (([[98, 65, 66], [98, 97, 66, 66], [65]] : List (List UInt8)).map canW) = [[97], [97, 66]] := by kernel_rfl
theorem fc3 : chkP ⟨2, [[97, 98, 97]]⟩ = 0 := by kernel_rfl
theorem ft3 : ascA (([[97, 98, 97]] : List (List UInt8)).flatMap symW) = [[97, 97, 98], [97, 98, 97], [65, 65, 66], [65, 66, 65], [98, 97, 97], [66, 65, 65]] := by kernel_rfl
theorem fm1 : chgE ⟨2, []⟩ ⟨3, 0, [97, 98], []⟩ = 0 := by kernel_rfl
theorem fm2 : chgC ⟨2, []⟩ ⟨3, 0, [97, 98], []⟩ = some (.addGen ⟨3, [[99, 66, 65]]⟩ [97, 98]) := by kernel_rfl
theorem fm3 : (Chg.addGen ⟨3, [[99, 66, 65]]⟩ [97, 98]).goal = ⟨3, [[99, 66, 65]]⟩ := by kernel_rfl
theorem fm4 : (Chg.addGen ⟨3, [[99, 66, 65]]⟩ [97, 98]).fwd = [[97], [98]] := by kernel_rfl
theorem fm5 : (Chg.addGen ⟨3, [[99, 66, 65]]⟩ [97, 98]).bwd = [[97], [98], [97, 98]] := by kernel_rfl
theorem fa1 : caE ⟨3, [[99, 66, 65], [99, 99, 99]]⟩ ⟨4, 0, [], []⟩ [⟨[99], 1, false⟩] = 0 := by kernel_rfl
theorem fa2 : caL ⟨3, [[99, 66, 65], [99, 99, 99]]⟩ ⟨4, 0, [], []⟩ [⟨[99], 1, false⟩] = some [⟨[97, 98], 0, false⟩] := by kernel_rfl
theorem fk1 : chkP ⟨0, []⟩ = 1 := by kernel_rfl

theorem text1 {X : World} {A : Option Addr} {c : Nat} (ht : Tabs X) (hA : StrsAt X A [[97, 97], [97, 98, 65, 66]]) :
    Calls Tryz.prog 16 #[.agg #[.int .i64 2, .slice A 2 c]] X fun e w' => e = .returned (.tuple #[.string ⟨#[60, 97, 44, 32, 98, 32, 124, 32, 97, 94, 50, 44, 32, 97, 32, 98, 32, 65, 32, 66, 62]⟩, .int .i64 0]) ∧ Below X.heap.size X w' := by
  refine (Text_all ⟨2, [[97, 97], [97, 98, 65, 66]]⟩ A c X ht hA (by decide)).mono ?_
  rintro e w' ⟨rfl, hb⟩
  rw [if_pos fc1, ft1, fc1]
  exact ⟨rfl, hb⟩
theorem can1 {X : World} {A : Option Addr} {c : Nat} (ht : Tabs X) (hA : StrsAt X A [[98, 65, 66], [98, 97, 66, 66], [65]]) :
    Calls Tryz.prog 25 #[.agg #[.int .i64 2, .slice A 3 c]] X fun e w' => Below X.heap.size X w' ∧ ∃ A' c', e = .returned (.tuple #[.agg #[.int .i64 2, .slice A' 2 c'], .int .i64 0]) ∧ StrsAt w' A' [[97], [97, 66]] := by
  refine (Canonical_any ⟨2, [[98, 65, 66], [98, 97, 66, 66], [65]]⟩ A c X ht hA (by decide)).mono ?_
  rintro e w' ⟨hb, h⟩
  rw [if_pos fc2] at h
  simp only [ft2] at h
  obtain ⟨A', c', rfl, hs, _⟩ := h
  exact ⟨hb, A', c', rfl, hs⟩
theorem sym1 {X : World} {A : Option Addr} {c : Nat} (ht : Tabs X) (hA : StrsAt X A [[97, 98, 97]]) :
    Calls Tryz.prog 26 #[.agg #[.int .i64 2, .slice A 1 c]] X fun e w' => Below X.heap.size X w' ∧ ∃ A' c', e = .returned (.tuple #[.slice A' 6 c', .int .i64 0]) ∧ StrsAt w' A' [[97, 97, 98], [97, 98, 97], [65, 65, 66], [65, 66, 65], [98, 97, 97], [66, 65, 65]] := by
  refine (callsIn_wide.1 (Symmetrized_in ⟨2, [[97, 98, 97]]⟩ A c X ht hA (by decide) fc3)).mono ?_
  rintro e w' ⟨A', c', rfl, hs, hb⟩
  simp only [ft3] at hs ⊢
  exact ⟨hb, A', c', rfl, hs⟩
theorem mov1 {X : World} (ht : Tabs X) :
    Calls Tryz.prog 31 #[.agg #[.int .i64 2, .slice none 0 0], .agg #[.int .i64 3, .int .i64 0, .string ⟨#[97, 98]⟩, .slice none 0 0]] X fun e w' => Below X.heap.size X w' ∧ ∃ A a F f G g, e = .returned (.tuple #[.agg #[.int .i64 3, .slice A 1 a], .slice F 2 f, .slice G 3 g, .int .i64 0]) ∧ StrsAt w' A [[99, 66, 65]] ∧ StrsAt w' F [[97], [98]] ∧ StrsAt w' G [[97], [98], [97, 98]] := by
  refine (Move_any ⟨2, []⟩ none 0 ⟨3, 0, [97, 98], []⟩ none 0 X ht (fun i hi => absurd hi (by simp)) (fun _ => rfl) (fun i hi => absurd hi (by simp)) (fun _ => rfl) (by decide) (by decide) (by decide)).mono ?_
  rintro e w' ⟨hb, h⟩
  rw [fm2] at h
  obtain ⟨A, a, F, f, G, g, rfl, h1, h2, _, h3, _⟩ := h
  exact ⟨hb, A, a, F, f, G, g, rfl, h1.1, h2, h3⟩
theorem car1 {X : World} {A C : Option Addr} {a c : Nat} (ht : Tabs X) (hA : StrsAt X A [[99, 66, 65], [99, 99, 99]]) (hN : A ≠ none) (hC : CellsAt X C [⟨[99], 1, false⟩]) (hCN : C ≠ none) :
    Calls Tryz.prog 33 #[.agg #[.int .i64 3, .slice A 2 a], .agg #[.int .i64 4, .int .i64 0, .string ⟨#[]⟩, .slice none 0 0], .slice C 1 c] X fun e w' => Below X.heap.size X w' ∧ ∃ D d, e = .returned (.tuple #[.slice D 1 d, .int .i64 0]) ∧ CellsAt w' D [⟨[97, 98], 0, false⟩] := by
  refine (Carry_any ⟨3, [[99, 66, 65], [99, 99, 99]]⟩ A a ⟨4, 0, [], []⟩ none 0 C c [⟨[99], 1, false⟩] X ht hA (fun e => absurd e hN) (fun i hi => absurd hi (by simp)) (fun _ => rfl) (by decide) (by decide) (by decide) hC (fun e => absurd e hCN) (by decide)).mono ?_
  rintro e w' ⟨hb, h⟩
  rw [fa2, fa1] at h
  obtain ⟨D, d, rfl, h1, _⟩ := h
  exact ⟨hb, D, d, rfl, h1⟩
theorem chk1 {X : World} (ht : Tabs X) : Calls Tryz.prog 18 #[.agg #[.int .i64 0, .slice none 0 0]] X fun e w' => e = .returned (.int .i64 1) ∧ Below X.heap.size X w' := by
  refine (Check_any ⟨0, []⟩ none 0 X ht (fun i hi => absurd hi (by simp)) (by decide)).mono ?_
  rw [fk1]
  exact fun e w' h => h
theorem strs_new (w : World) (l : List (List UInt8)) (hs : ∀ x ∈ l, x.length ≤ 140737488351232) : StrsAt (w.alloc (.cells (ss l).toArray 9)) (some ⟨w.heap.size, 0, none⟩) l := by
  intro i hi
  refine ⟨w.heap.size, 0, rfl, ?_, hs _ (List.getElem_mem hi)⟩
  rw [cell_of_row _ _ _ _ 9 (0, 0) (heap_alloc_new w _)]
  simpa using ss_get l i hi
/-- A presentation in a box. -/
def PBox (w : World) (b : Nat) (k : Int) (A : Option Addr) (n c : Nat) (l : List (List UInt8)) : Prop :=
  n = l.length ∧ w.heap[b]? = some (.cells #[.int .i64 k, .slice A n c] 24 (0, 0)) ∧ StrsAt w A l
theorem PBox.on {w w' : World} {b : Nat} {k : Int} {A : Option Addr} {n c : Nat} {l : List (List UInt8)} (h : PBox w b k A n c l) (hb : Below w.heap.size w w') : PBox w' b k A n c l :=
  ⟨h.1, (hb.block b (Array.getElem?_eq_some_iff.1 h.2.1).1).trans h.2.1, h.2.2.below hb⟩
theorem PBox.new {w : World} {k : Int} {A : Option Addr} {n c : Nat} {l : List (List UInt8)} (hn : n = l.length) (h : StrsAt w A l) : PBox (w.alloc (.cells #[.int .i64 k, .slice A n c] 24)) w.heap.size k A n c l :=
  ⟨hn, heap_alloc_new w _, h.below ((Below.refl _ _).alloc (Nat.le_refl _) _)⟩
theorem on1 (w : World) (o : Obj) : Below w.heap.size w (w.alloc o) := (Below.refl _ w).alloc (Nat.le_refl _) o
end Go.Proofs.YteephomlnbbjeaaGreatDoor

namespace Go.Proofs.YteephomlnbbjeaaGreatDoor
open Go Go.RowKit Go.Maps Go.Sort Go.Shelf

theorem strs_at {w : World} {b : Nat} (hb : w.heap.size = b) (l : List (List UInt8)) (cs : Array Value) (hc : cs = (ss l).toArray) (hs : ∀ x ∈ l, x.length ≤ 140737488351232) : StrsAt (w.alloc (.cells cs 9)) (some ⟨b, 0, none⟩) l := by
  subst hb
  subst hc
  exact strs_new w l hs
theorem adv {N : Nat} {w wi : World} (h : Below N w wi) (hN : N ≤ wi.heap.size) (o : Obj) : Below N w (wi.alloc o) := h.trans ((on1 wi _).mono hN)
theorem on1c {X w' : World} {o : Obj} (hb : Below (X.alloc o).heap.size (X.alloc o) w') : Below X.heap.size X w' := (on1 X o).trans (hb.mono (by simp))
theorem celAt1 {w : World} {b : Nat} (hb : w.heap.size = b) (c : List UInt8) (r : Int) (i : Bool) (hc : c.length ≤ 140737488351232) : CellsAt (w.alloc (.cells #[.string ⟨c.toArray⟩, .int .i64 r, .bool i] 89)) (some ⟨b, 0, none⟩) [⟨c, r, i⟩] := by
  subst hb
  intro k hk
  obtain rfl : k = 0 := by simpa using hk
  have h := heap_alloc_new w (.cells #[.string ⟨c.toArray⟩, .int .i64 r, .bool i] 89)
  refine ⟨w.heap.size, 0, rfl, ⟨?_, ?_, ?_, hc⟩⟩
  · rw [cell_of_row _ _ _ _ 89 (0, 0) h]; rfl
  · rw [cell_of_row _ _ _ _ 89 (0, 0) h]; rfl
  · rw [cell_of_row _ _ _ _ 89 (0, 0) h]; rfl
theorem same_lit {X : World} {A B : Option Addr} {n ca cb : Nat} (k : Int) (l : List (List UInt8)) (hn : n = l.length) (hm : l.length ≤ 1000000) (hA : StrsAt X A l) (hB : StrsAt X B l) :
    Calls Tryz.prog 17 #[.agg #[.int .i64 k, .slice A n ca], .agg #[.int .i64 k, .slice B n cb]] X fun e w' => e = .returned (.bool true) ∧ Below X.heap.size X w' := by
  subst hn
  refine (SameP_any ⟨k, l⟩ ⟨k, l⟩ A B ca cb X hA hB hm hm).mono ?_
  rintro e w' ⟨rfl, hb⟩
  exact ⟨by simp, hb⟩
theorem eqs_lit {X : World} {A B : Option Addr} {n ca cb : Nat} (l : List (List UInt8)) (hn : n = l.length) (hm : l.length ≤ 1000000) (hA : StrsAt X A l) (hB : StrsAt X B l) :
    Calls Tryz.prog 28 #[.slice A n ca, .slice B n cb] X fun e w' => e = .returned (.bool true) ∧ Below X.heap.size X w' := by
  subst hn
  refine (EqS_any A B ca cb l l X hA hB hm hm).mono ?_
  rintro e w' ⟨rfl, hb⟩
  exact ⟨by simp, hb⟩
theorem eqc_lit {X : World} {A B : Option Addr} {n ca cb : Nat} (l : List Cel) (hn : n = l.length) (hm : l.length ≤ 1000000) (hA : CellsAt X A l) (hB : CellsAt X B l) :
    Calls Tryz.prog 48 #[.slice A n ca, .slice B n cb] X fun e w' => e = .returned (.bool true) ∧ Below X.heap.size X w' := by
  subst hn
  refine (EqC_any A B ca cb l l X hA hB hm hm).mono ?_
  rintro e w' ⟨rfl, hb⟩
  exact ⟨by simp, hb⟩

set_option maxHeartbeats 4000000 in
set_option maxRecDepth 100000 in
theorem sane_any (w : World) (ht : Tabs w) : Calls Tryz.prog 12 #[] w fun e w' => e = .returned (.bool true) ∧ Below w.heap.size w w' := by
  have HT := Lib.hid ht
  clear ht
  go_enter Tryz.func12, Tryz.ntmps12
  go_wp2_with fail
  refine (parse1 w HT.out).mono ?_
  rintro e w1 ⟨A1, c1, rfl, hst1, _, hb1⟩
  have q1 : Below w.heap.size w (w1.alloc (.cells #[.int .i64 2, .slice A1 1 c1] 24)) ∧ PBox (w1.alloc (.cells #[.int .i64 2, .slice A1 1 c1] 24)) w1.heap.size 2 A1 1 c1 [[97, 98, 65, 66]] := ⟨hb1.trans ((on1 _ _).mono hb1.size), .new rfl hst1⟩
  have Q1 := Lib.hid q1
  clear q1 hst1 hb1
  go_wp2_with fail
  generalize (w1.alloc (.cells #[.int .i64 2, .slice A1 1 c1] 24)) = x1 at *
  generalize w1.heap.size = b1 at *
  refine (parse2 x1 (HT.out.on Q1.out.1)).mono ?_
  rintro e w2 ⟨A2, c2, rfl, hst2, _, hb2⟩
  have q2 : Below w.heap.size w (w2.alloc (.cells #[.int .i64 1, .slice A2 1 c2] 24)) ∧ PBox (w2.alloc (.cells #[.int .i64 1, .slice A2 1 c2] 24)) b1 2 A1 1 c1 [[97, 98, 65, 66]] ∧ PBox (w2.alloc (.cells #[.int .i64 1, .slice A2 1 c2] 24)) w2.heap.size 1 A2 1 c2 [[97, 97, 97, 97, 97]] :=
    ⟨(Q1.out.1.trans (hb2.mono Q1.out.1.size)).trans ((on1 _ _).mono (by have := Q1.out.1.size; have := hb2.size; omega)), (Q1.out.2.on hb2).on (on1 _ _), .new rfl hst2⟩
  have Q2 := Lib.hid q2
  have S2 : Hid ((w2.alloc (.cells #[.int .i64 1, .slice A2 1 c2] 24)).heap.size = w2.heap.size + 1) := Lib.hid (by simp)
  clear q2 hst2 hb2 Q1
  go_wp2_with fail
  generalize (w2.alloc (.cells #[.int .i64 1, .slice A2 1 c2] 24)) = x2 at *
  generalize w2.heap.size = b2 at *
  have T2 : Hid (Below w.heap.size w (x2.alloc (.cells #[.string ⟨#[97, 97]⟩, .string ⟨#[97, 98, 65, 66]⟩] 9)) ∧ StrsAt (x2.alloc (.cells #[.string ⟨#[97, 97]⟩, .string ⟨#[97, 98, 65, 66]⟩] 9)) (some ⟨b2 + 1, 0, none⟩) [[97, 97], [97, 98, 65, 66]]) := Lib.hid ⟨Q2.out.1.trans ((on1 x2 _).mono Q2.out.1.size), strs_at S2.out _ _ rfl (by decide)⟩
  refine (text1 (HT.out.on T2.out.1) T2.out.2).mono ?_
  rintro e w3 ⟨rfl, hb3⟩
  have hbx := (on1 x2 (.cells #[.string ⟨#[97, 97]⟩, .string ⟨#[97, 98, 65, 66]⟩] 9)).trans (hb3.mono (by simp))
  have Q3 : Hid (Below w.heap.size w w3 ∧ PBox w3 b1 2 A1 1 c1 [[97, 98, 65, 66]] ∧ PBox w3 b2 1 A2 1 c2 [[97, 97, 97, 97, 97]]) := Lib.hid ⟨Q2.out.1.trans (hbx.mono Q2.out.1.size), Q2.out.2.1.on hbx, Q2.out.2.2.on hbx⟩
  clear hbx hb3 Q2
  obtain ⟨y0, y1, _, _⟩ := blk2 Q3.out.2.1.2.1
  obtain ⟨z0, z1, _, _⟩ := blk2 Q3.out.2.2.2.1
  go_wp2_with fail
  refine (same_lit 2 [[97, 98, 65, 66]] rfl (by decide) (Q3.out.2.1.2.2.below (on1 _ _)) (strs_at rfl _ _ rfl (by decide))).mono ?_
  rintro e w4 ⟨rfl, hb4⟩
  have hbx := on1c hb4
  have Q4 : Hid (Below w.heap.size w w4 ∧ w.heap.size ≤ w4.heap.size ∧ PBox w4 b2 1 A2 1 c2 [[97, 97, 97, 97, 97]]) := Lib.hid ⟨Q3.out.1.trans (hbx.mono Q3.out.1.size), by have := Q3.out.1.size; have := hbx.size; omega, Q3.out.2.2.on hbx⟩
  clear hbx hb4 Q3 y0 y1 z0 z1
  obtain ⟨z0, z1, _, _⟩ := blk2 Q4.out.2.2.2.1
  go_wp2_with fail
  refine (same_lit 1 [[97, 97, 97, 97, 97]] rfl (by decide) (Q4.out.2.2.2.2.below (on1 _ _)) (strs_at rfl _ _ rfl (by decide))).mono ?_
  rintro e w5 ⟨rfl, hb5⟩
  have hbx := on1c hb5
  have Q5 : Hid (Below w.heap.size w w5 ∧ w.heap.size ≤ w5.heap.size) := Lib.hid ⟨Q4.out.1.trans (hbx.mono Q4.out.2.1), by have := Q4.out.2.1; have := hbx.size; omega⟩
  clear hbx hb5 Q4 z0 z1
  go_wp2_with fail
  refine (can1 (HT.out.on (adv Q5.out.1 Q5.out.2 _)) (strs_at rfl _ _ rfl (by decide))).mono ?_
  rintro e w6 ⟨hb6, A6, c6, rfl, hst6⟩
  have hbx := on1c hb6
  have Q6 : Hid (Below w.heap.size w (w6.alloc (.cells #[.int .i64 2, .slice A6 2 c6] 24)) ∧ w.heap.size ≤ (w6.alloc (.cells #[.int .i64 2, .slice A6 2 c6] 24)).heap.size ∧ PBox (w6.alloc (.cells #[.int .i64 2, .slice A6 2 c6] 24)) w6.heap.size 2 A6 2 c6 [[97], [97, 66]] ∧ (w6.alloc (.cells #[.int .i64 2, .slice A6 2 c6] 24)).heap.size = w6.heap.size + 1) := Lib.hid ⟨adv (Q5.out.1.trans (hbx.mono Q5.out.2)) (by have := Q5.out.2; have := hbx.size; omega) _, by have := Q5.out.2; have := hbx.size; simp; omega, .new rfl hst6, by simp⟩
  clear hbx hb6 hst6 Q5
  go_wp2_with fail
  generalize (w6.alloc (.cells #[.int .i64 2, .slice A6 2 c6] 24)) = x6 at *
  generalize w6.heap.size = b6 at *
  refine (sym1 (HT.out.on (adv Q6.out.1 Q6.out.2.1 _)) (strs_at Q6.out.2.2.2 _ _ rfl (by decide))).mono ?_
  rintro e w7 ⟨hb7, A7, c7, rfl, hst7⟩
  have hbx := on1c hb7
  have Q7 : Hid (Below w.heap.size w w7 ∧ w.heap.size ≤ w7.heap.size ∧ PBox w7 b6 2 A6 2 c6 [[97], [97, 66]] ∧ StrsAt w7 A7 [[97, 97, 98], [97, 98, 97], [65, 65, 66], [65, 66, 65], [98, 97, 97], [66, 65, 65]]) := Lib.hid ⟨Q6.out.1.trans (hbx.mono Q6.out.2.1), by have := Q6.out.2.1; have := hbx.size; omega, Q6.out.2.2.1.on hbx, hst7⟩
  clear hbx hb7 hst7 Q6
  obtain ⟨y0, y1, _, _⟩ := blk2 Q7.out.2.2.1.2.1
  go_wp2_with fail
  refine (eqs_lit [[97], [97, 66]] rfl (by decide) (Q7.out.2.2.1.2.2.below (on1 _ _)) (strs_at rfl _ _ rfl (by decide))).mono ?_
  rintro e w8 ⟨rfl, hb8⟩
  have hbx := on1c hb8
  have Q8 : Hid (Below w.heap.size w w8 ∧ w.heap.size ≤ w8.heap.size ∧ StrsAt w8 A7 [[97, 97, 98], [97, 98, 97], [65, 65, 66], [65, 66, 65], [98, 97, 97], [66, 65, 65]]) := Lib.hid ⟨Q7.out.1.trans (hbx.mono Q7.out.2.1), by have := Q7.out.2.1; have := hbx.size; omega, Q7.out.2.2.2.below hbx⟩
  clear hbx hb8 Q7 y0 y1
  go_wp2_with fail
  refine (eqs_lit [[97, 97, 98], [97, 98, 97], [65, 65, 66], [65, 66, 65], [98, 97, 97], [66, 65, 65]] rfl (by decide) (Q8.out.2.2.below (on1 _ _)) (strs_at rfl _ _ rfl (by decide))).mono ?_
  rintro e w9 ⟨rfl, hb9⟩
  have hbx := on1c hb9
  have Q9 : Hid (Below w.heap.size w w9 ∧ w.heap.size ≤ w9.heap.size) := Lib.hid ⟨Q8.out.1.trans (hbx.mono Q8.out.2.1), by have := Q8.out.2.1; have := hbx.size; omega⟩
  clear hbx hb9 Q8
  go_wp2_with fail
  refine (mov1 (HT.out.on Q9.out.1)).mono ?_
  rintro e w10 ⟨hb10, A, a, F, f, G, g, rfl, hst, hF, hG⟩
  have Q10 : Hid (Below w.heap.size w (w10.alloc (.cells #[.int .i64 3, .slice A 1 a] 24)) ∧ w.heap.size ≤ (w10.alloc (.cells #[.int .i64 3, .slice A 1 a] 24)).heap.size ∧ PBox (w10.alloc (.cells #[.int .i64 3, .slice A 1 a] 24)) w10.heap.size 3 A 1 a [[99, 66, 65]] ∧ (w10.alloc (.cells #[.int .i64 3, .slice A 1 a] 24)).heap.size = w10.heap.size + 1 ∧ StrsAt (w10.alloc (.cells #[.int .i64 3, .slice A 1 a] 24)) F [[97], [98]] ∧ StrsAt (w10.alloc (.cells #[.int .i64 3, .slice A 1 a] 24)) G [[97], [98], [97, 98]]) := Lib.hid ⟨adv (Q9.out.1.trans (hb10.mono Q9.out.2)) (by have := Q9.out.2; have := hb10.size; omega) _, by have := Q9.out.2; have := hb10.size; simp; omega, .new rfl hst, by simp, hF.below (on1 _ _), hG.below (on1 _ _)⟩
  clear hb10 hst hF hG Q9
  obtain ⟨y0, y1, _, _⟩ := blk2 Q10.out.2.2.1.2.1
  go_wp2_with fail
  generalize (w10.alloc (.cells #[.int .i64 3, .slice A 1 a] 24)) = x10 at *
  generalize w10.heap.size = b10 at *
  refine (same_lit 3 [[99, 66, 65]] rfl (by decide) (Q10.out.2.2.1.2.2.below (on1 _ _)) (strs_at Q10.out.2.2.2.1 _ _ rfl (by decide))).mono ?_
  rintro e w11 ⟨rfl, hb11⟩
  have hbx := on1c hb11
  have Q11 : Hid (Below w.heap.size w w11 ∧ w.heap.size ≤ w11.heap.size ∧ StrsAt w11 F [[97], [98]] ∧ StrsAt w11 G [[97], [98], [97, 98]]) := Lib.hid ⟨Q10.out.1.trans (hbx.mono Q10.out.2.1), by have := Q10.out.2.1; have := hbx.size; omega, Q10.out.2.2.2.2.1.below hbx, Q10.out.2.2.2.2.2.below hbx⟩
  clear hbx hb11 Q10 y0 y1
  go_wp2_with fail
  refine (eqs_lit [[97], [98]] rfl (by decide) (Q11.out.2.2.1.below (on1 _ _)) (strs_at rfl _ _ rfl (by decide))).mono ?_
  rintro e w12 ⟨rfl, hb12⟩
  have hbx := on1c hb12
  have Q12 : Hid (Below w.heap.size w w12 ∧ w.heap.size ≤ w12.heap.size ∧ StrsAt w12 G [[97], [98], [97, 98]]) := Lib.hid ⟨Q11.out.1.trans (hbx.mono Q11.out.2.1), by have := Q11.out.2.1; have := hbx.size; omega, Q11.out.2.2.2.below hbx⟩
  clear hbx hb12 Q11
  go_wp2_with fail
  refine (eqs_lit [[97], [98], [97, 98]] rfl (by decide) (Q12.out.2.2.below (on1 _ _)) (strs_at rfl _ _ rfl (by decide))).mono ?_
  rintro e w13 ⟨rfl, hb13⟩
  have hbx := on1c hb13
  have Q13 : Hid (Below w.heap.size w w13 ∧ w.heap.size ≤ w13.heap.size) := Lib.hid ⟨Q12.out.1.trans (hbx.mono Q12.out.2.1), by have := Q12.out.2.1; have := hbx.size; omega⟩
  clear hbx hb13 Q12
  go_wp2_with fail
  refine (car1 (HT.out.on (adv (adv Q13.out.1 Q13.out.2 _) (by have := Q13.out.2; simp; omega) _)) ((strs_at rfl _ _ rfl (by decide)).below (on1 _ _)) (by simp) (celAt1 (by simp) [99] 1 false (by decide)) (by simp)).mono ?_
  rintro e w14 ⟨hb14, D, d, rfl, hD⟩
  have hbx := on1c (on1c hb14)
  have Q14 : Hid (Below w.heap.size w w14 ∧ w.heap.size ≤ w14.heap.size ∧ CellsAt w14 D [⟨[97, 98], 0, false⟩]) := Lib.hid ⟨Q13.out.1.trans (hbx.mono Q13.out.2), by have := Q13.out.2; have := hbx.size; omega, hD⟩
  clear hbx hb14 hD Q13
  go_wp2_with fail
  refine (parse3 w14 (HT.out.on Q14.out.1)).mono ?_
  rintro e w15 ⟨A3, c3, rfl, _, _, hbx⟩
  have Q15 : Hid (Below w.heap.size w w15 ∧ w.heap.size ≤ w15.heap.size ∧ CellsAt w15 D [⟨[97, 98], 0, false⟩]) := Lib.hid ⟨Q14.out.1.trans (hbx.mono Q14.out.2.1), by have := Q14.out.2.1; have := hbx.size; omega, Q14.out.2.2.below hbx⟩
  clear hbx Q14
  go_wp2_with fail
  refine (eqc_lit [⟨[97, 98], 0, false⟩] rfl (by decide) (Q15.out.2.2.below (on1 _ _)) (celAt1 rfl [97, 98] 0 false (by decide))).mono ?_
  rintro e w16 ⟨rfl, hb16⟩
  have hbx := on1c hb16
  have Q16 : Hid (Below w.heap.size w w16 ∧ w.heap.size ≤ w16.heap.size) := Lib.hid ⟨Q15.out.1.trans (hbx.mono Q15.out.2.1), by have := Q15.out.2.1; have := hbx.size; omega⟩
  clear hbx hb16 Q15
  go_wp2_with fail
  refine (chk1 (HT.out.on Q16.out.1)).mono ?_
  rintro e w17 ⟨rfl, hb17⟩
  have Q17 := Lib.hid (Q16.out.1.trans (hb17.mono Q16.out.2))
  clear hb17
  go_wp2
  go_ret
  exact ⟨rfl, Q17.out⟩
end Go.Proofs.YteephomlnbbjeaaGreatDoor

namespace Go.Proofs.YteephomlnbbjeaaGreatDoor
open Go Go.RowKit Go.Maps Go.Sort Go.Shelf

def RetB (w : World) (e : Ending) (w' : World) : Prop := ∃ v, e = .returned v ∧ Below w.heap.size w w'
theorem chkR {p : Pr} {R : Option Addr} {rc : Nat} {w : World} (ht : Tabs w) (hr : StrsAt w R p.rels) (hm : p.rels.length ≤ maxLen) : Calls Tryz.prog 18 #[prV p.k R p.rels.length rc] w (RetB w) :=
  (Check_any p R rc w ht hr hm).mono fun _ _ h => ⟨_, h.1, h.2⟩
theorem txtR {p : Pr} {R : Option Addr} {rc : Nat} {w : World} (ht : Tabs w) (hr : StrsAt w R p.rels) (hm : p.rels.length ≤ maxLen) : Calls Tryz.prog 16 #[prV p.k R p.rels.length rc] w (RetB w) :=
  (Text_all p R rc w ht hr hm).mono fun _ _ h => ⟨_, h.1, h.2⟩
theorem canR {p : Pr} {R : Option Addr} {rc : Nat} {w : World} (ht : Tabs w) (hr : StrsAt w R p.rels) (hm : p.rels.length ≤ maxLen) : Calls Tryz.prog 25 #[prV p.k R p.rels.length rc] w (RetB w) :=
  (Canonical_any p R rc w ht hr hm).mono fun _ _ h => by
    obtain ⟨hb, h⟩ := h
    split at h
    · obtain ⟨_, _, rfl, _⟩ := h
      exact ⟨_, rfl, hb⟩
    · exact ⟨_, h, hb⟩
theorem symR {p : Pr} {R : Option Addr} {rc : Nat} {w : World} (ht : Tabs w) (hr : StrsAt w R p.rels) (hm : p.rels.length ≤ maxLen) : Calls Tryz.prog 26 #[prV p.k R p.rels.length rc] w (RetB w) := by
  by_cases h : chkP p = 0
  · exact (callsIn_wide.1 (Symmetrized_in p R rc w ht hr hm h)).mono fun _ _ h => by
      obtain ⟨_, _, rfl, _, hb⟩ := h
      exact ⟨_, rfl, hb⟩
  · exact (callsIn_wide.1 (Symmetrized_bad p R rc w ht hr hm h)).mono fun _ _ h => ⟨_, h.1, h.2⟩
theorem subR {k : Int} {A : Option Addr} {cap : Nat} {l : List (List UInt8)} {u : List UInt8} {w : World} (ht : Tabs w) (hs : StrsAt w A l) (hm : l.length ≤ maxLen) (hu : u.length ≤ 140737488351232) :
    Calls Tryz.prog 27 #[.int .i64 k, .slice A l.length cap, .string ⟨u.toArray⟩] w (RetB w) :=
  (Substitute_any k A cap l u w ht hs hm hu).mono fun _ _ h => ⟨_, h.1, h.2⟩
theorem movR {p : Pr} {R : Option Addr} {rc : Nat} {t : Tz} {D : Option Addr} {dc : Nat} {w : World} (ht : Tabs w) (hr : StrsAt w R p.rels) (hR : R = none → p.rels = []) (hd : CellsAt w D t.proof) (hD : D = none → t.proof = []) (hm : p.rels.length ≤ maxLen) (hdm : t.proof.length ≤ maxLen) (hu : t.word.length ≤ 140737488351232) :
    Calls Tryz.prog 31 #[prV p.k R p.rels.length rc, tzV t D dc] w (RetB w) :=
  (Move_any p R rc t D dc w ht hr hR hd hD hm hdm hu).mono fun _ _ h => by
    obtain ⟨hb, h⟩ := h
    split at h
    · exact ⟨_, h, hb⟩
    · obtain ⟨_, _, _, _, _, _, rfl, _⟩ := h
      exact ⟨_, rfl, hb⟩
theorem carR {p : Pr} {R : Option Addr} {rc : Nat} {t : Tz} {D : Option Addr} {dc : Nat} {C : Option Addr} {cc : Nat} {d : List Cel} {w : World} (ht : Tabs w) (hr : StrsAt w R p.rels) (hR : R = none → p.rels = []) (hd : CellsAt w D t.proof) (hD : D = none → t.proof = []) (hm : p.rels.length ≤ maxLen) (hdm : t.proof.length ≤ maxLen) (hu : t.word.length ≤ 140737488351232) (hc : CellsAt w C d) (hC : C = none → d = []) (hcm : d.length ≤ maxLen) :
    Calls Tryz.prog 33 #[prV p.k R p.rels.length rc, tzV t D dc, .slice C d.length cc] w (RetB w) :=
  (Carry_any p R rc t D dc C cc d w ht hr hR hd hD hm hdm hu hc hC hcm).mono fun _ _ h => by
    obtain ⟨hb, h⟩ := h
    split at h
    · exact ⟨_, h, hb⟩
    · obtain ⟨_, _, rfl, _⟩ := h
      exact ⟨_, rfl, hb⟩

/-- What lies still from the copies on. -/
structure LW (W : World) (p : Pr) (t : Tz) (il : List (List UInt8)) (d : List Cel) (R D : Option Addr) (rc dc : Nat) (b0 b1 b2 b3 : Nat) (A D' L E : Option Addr) (ca dd : Nat) (X : World) : Prop where
  base : Below W.heap.size W X
  size : W.heap.size ≤ X.heap.size
  p0 : X.heap[b0]? = some (.cells (prC p.k R p.rels.length rc) 24 (0, 0))
  t0 : X.heap[b1]? = some (.cells (tzC t D dc) 58 (0, 0))
  q0 : X.heap[b2]? = some (.cells (prC p.k A p.rels.length ca) 24 (0, 0))
  n0 : X.heap[b3]? = some (.cells (tzC t D' dd) 58 (0, 0))
  qs : StrsAt X A p.rels
  ns : CellsAt X D' t.proof
  ls : StrsAt X L il
  es : CellsAt X E d
theorem blk_on {X X' : World} {b : Nat} {o : Obj} (h : X.heap[b]? = some o) (hb : Below X.heap.size X X') : X'.heap[b]? = some o := (hb.block b (Array.getElem?_eq_some_iff.1 h).1).trans h
theorem LW.on {W : World} {p : Pr} {t : Tz} {il : List (List UInt8)} {d : List Cel} {R D : Option Addr} {rc dc : Nat} {b0 b1 b2 b3 : Nat} {A D' L E : Option Addr} {ca dd : Nat} {X X' : World}
    (h : LW W p t il d R D rc dc b0 b1 b2 b3 A D' L E ca dd X) (hb : Below X.heap.size X X') : LW W p t il d R D rc dc b0 b1 b2 b3 A D' L E ca dd X' :=
  ⟨h.base.trans (hb.mono h.size), Nat.le_trans h.size hb.size, blk_on h.p0 hb, blk_on h.t0 hb, blk_on h.q0 hb, blk_on h.n0 hb, h.qs.below hb, h.ns.below hb, h.ls.below hb, h.es.below hb⟩
theorem blk4f {w : World} {g : Nat} {v0 v1 v2 v3 : Value} {t : TypeId} (h : w.heap[g]? = some (.cells #[v0, v1, v2, v3] t (0, 0))) :
    w.cell? ⟨g, 0, none⟩ = some v0 ∧ w.cell? ⟨g, 1, none⟩ = some v1 ∧ w.cell? ⟨g, 2, none⟩ = some v2 ∧ w.cell? ⟨g, 3, none⟩ = some v3 ∧ w.frozen? ⟨g, 3, none⟩ = false := by
  refine ⟨?_, ?_, ?_, ?_, ?_⟩
  · rw [cell_of_row w g 0 _ t (0, 0) h]; rfl
  · rw [cell_of_row w g 1 _ t (0, 0) h]; rfl
  · rw [cell_of_row w g 2 _ t (0, 0) h]; rfl
  · rw [cell_of_row w g 3 _ t (0, 0) h]; rfl
  · simp [World.frozen?, h]
theorem smallB_len {p : Pr} (h : smallB p = true) : p.rels.length ≤ 70 := by
  unfold smallB at h
  simp only [Bool.and_eq_true, decide_eq_true_eq] at h
  exact h.1
theorem lightB_len {d : List Cel} (h : lightB d = true) : d.length ≤ 100 := by
  unfold lightB at h
  simp only [Bool.and_eq_true, decide_eq_true_eq] at h
  exact h.1
end Go.Proofs.YteephomlnbbjeaaGreatDoor

namespace Go.Proofs.YteephomlnbbjeaaGreatDoor
open Go Go.RowKit Go.Maps Go.Sort Go.Shelf

theorem eqd_lit {X : World} {A B : Option Addr} {n ca cb : Nat} (l : List Cel) (hn : n = l.length) (hm : l.length ≤ 1000000) (hA : CellsAt X A l) (hB : CellsAt X B l) :
    Calls Tryz.prog 46 #[.slice A n ca, .slice B n cb] X fun e w' => e = .returned (.bool true) ∧ Below X.heap.size X w' := by
  subst hn
  refine (EqD_any A B ca cb l l X hA hB hm hm).mono ?_
  rintro e w' ⟨rfl, hb⟩
  exact ⟨by simp, hb⟩
theorem set_blk4 {w : World} {b : Nat} {v0 v1 v2 v3 v : Value} {t : TypeId} (h : w.heap[b]? = some (.cells #[v0, v1, v2, v3] t (0, 0))) : (w.setCell ⟨b, 3, none⟩ v).heap[b]? = some (.cells #[v0, v1, v2, v] t (0, 0)) := by
  simp [World.setCell, Array.getElem?_modify, h]
theorem set_other {w : World} {b k : Nat} {v : Value} (h : k ≠ b) : (w.setCell ⟨b, 3, none⟩ v).heap[k]? = w.heap[k]? := by
  simp only [World.setCell, Array.getElem?_modify]
  rw [if_neg (fun e => h e.symm)]

set_option maxHeartbeats 4000000 in
set_option maxRecDepth 100000 in
theorem presStays_any (p : Pr) (R : Option Addr) (rc : Nat) (k : Int) (I : Option Addr) (ic : Nat) (il : List (List UInt8)) (u : List UInt8) (t : Tz) (D : Option Addr) (dc : Nat) (C : Option Addr) (cc : Nat) (d : List Cel) (w : World) (ht : Tabs w)
    (hr : StrsAt w R p.rels) (hR : R = none → p.rels = []) (hm : p.rels.length ≤ maxLen) (hi : StrsAt w I il) (hI : I = none → il = []) (him : il.length ≤ maxLen) (hu : u.length ≤ 140737488351232)
    (hd : CellsAt w D t.proof) (hD : D = none → t.proof = []) (hdm : t.proof.length ≤ maxLen) (htu : t.word.length ≤ 140737488351232) (hc : CellsAt w C d) (hC : C = none → d = []) (hcm : d.length ≤ maxLen) :
    Calls Tryz.prog 10 #[prV p.k R p.rels.length rc, .int .i64 k, .slice I il.length ic, .string ⟨u.toArray⟩, tzV t D dc, .slice C d.length cc] w fun e w' => e = .returned (.bool true) ∧ Below w.heap.size w w' := by
  generalize hW : ((w.alloc (.cells (prC p.k R p.rels.length rc) 24)).alloc (.cells (tzC t D dc) 58)) = W0
  have hb0 : Below w.heap.size w W0 := by rw [← hW]; exact (((Below.refl _ w).alloc (Nat.le_refl _) _).alloc (by simp) _)
  have hs0 : w.heap.size ≤ W0.heap.size := by rw [← hW]; simp; omega
  have h1 : W0.heap[w.heap.size]? = some (.cells (prC p.k R p.rels.length rc) 24 (0, 0)) := by rw [← hW]; exact (Below.heap_alloc _ _ _ (by simp)).trans (heap_alloc_new w _)
  have h2 : W0.heap[w.heap.size + 1]? = some (.cells (tzC t D dc) 58 (0, 0)) := by
    rw [← hW]
    have h := heap_alloc_new (w.alloc (.cells (prC p.k R p.rels.length rc) 24)) (.cells (tzC t D dc) 58)
    rwa [World.size_alloc] at h
  have HT := Lib.hid ht
  have HR := Lib.hid hr
  have HI := Lib.hid hi
  have HD := Lib.hid hd
  have HC := Lib.hid hc
  have HU : Hid ((ByteArray.mk u.toArray).size = u.length) := Lib.hid (size_mk u)
  have Q0 : Hid (Below w.heap.size w W0 ∧ w.heap.size ≤ W0.heap.size ∧ W0.heap[w.heap.size]? = some (.cells (prC p.k R p.rels.length rc) 24 (0, 0)) ∧ W0.heap[w.heap.size + 1]? = some (.cells (tzC t D dc) 58 (0, 0))) := Lib.hid ⟨hb0, hs0, h1, h2⟩
  clear ht hr hi hd hc hb0 hs0 h1 h2
  have HH := Lib.hid (And.intro hR (And.intro hm (And.intro hI (And.intro him (And.intro hu (And.intro hD (And.intro hdm (And.intro htu (And.intro hC hcm)))))))))
  unfold maxLen at him hm hdm hcm
  clear hR hI hD htu hC
  go_enter Tryz.func10, Tryz.ntmps10
  go_wp2_with fail
  refine (sane_any W0 (HT.out.on Q0.out.1)).mono ?_
  rintro e w1 ⟨rfl, hbx⟩
  have Q1 : Hid (Below w.heap.size w w1 ∧ w.heap.size ≤ w1.heap.size ∧ w1.heap[w.heap.size]? = some (.cells (prC p.k R p.rels.length rc) 24 (0, 0)) ∧ w1.heap[w.heap.size + 1]? = some (.cells (tzC t D dc) 58 (0, 0))) := Lib.hid ⟨Q0.out.1.trans (hbx.mono Q0.out.2.1), Nat.le_trans Q0.out.2.1 hbx.size, blk_on Q0.out.2.2.1 hbx, blk_on Q0.out.2.2.2 hbx⟩
  clear Q0 hbx hW
  obtain ⟨a0, a1, _, _⟩ := blk2 Q1.out.2.2.1
  go_wp2_with fail
  refine (small_any p R rc w1 (HR.out.below Q1.out.1) HH.out.2.1).mono ?_
  rintro e w2 ⟨rfl, hbx⟩
  have Q2 : Hid (Below w.heap.size w w2 ∧ w.heap.size ≤ w2.heap.size ∧ w2.heap[w.heap.size]? = some (.cells (prC p.k R p.rels.length rc) 24 (0, 0)) ∧ w2.heap[w.heap.size + 1]? = some (.cells (tzC t D dc) 58 (0, 0))) := Lib.hid ⟨Q1.out.1.trans (hbx.mono Q1.out.2.1), Nat.le_trans Q1.out.2.1 hbx.size, blk_on Q1.out.2.2.1 hbx, blk_on Q1.out.2.2.2 hbx⟩
  clear Q1 hbx a0 a1
  cases hsm : smallB p with
  | false =>
    go_wp2
    go_ret
    exact ⟨rfl, Q2.out.1⟩
  | true =>
  have h70 := smallB_len hsm
  clear hsm
  go_wp2_with fail
  refine (light_any C cc d w2 (HC.out.below Q2.out.1) HH.out.2.2.2.2.2.2.2.2.2).mono ?_
  rintro e w3 ⟨rfl, hbx⟩
  have Q3 : Hid (Below w.heap.size w w3 ∧ w.heap.size ≤ w3.heap.size ∧ w3.heap[w.heap.size]? = some (.cells (prC p.k R p.rels.length rc) 24 (0, 0)) ∧ w3.heap[w.heap.size + 1]? = some (.cells (tzC t D dc) 58 (0, 0))) := Lib.hid ⟨Q2.out.1.trans (hbx.mono Q2.out.2.1), Nat.le_trans Q2.out.2.1 hbx.size, blk_on Q2.out.2.2.1 hbx, blk_on Q2.out.2.2.2 hbx⟩
  clear Q2 hbx
  cases hsm : lightB d with
  | false =>
    go_wp2
    go_ret
    exact ⟨rfl, Q3.out.1⟩
  | true =>
  have h100 := lightB_len hsm
  clear hsm
  obtain ⟨_, _, _, e3, _⟩ := blk4f Q3.out.2.2.2
  go_wp2_with fail
  refine (light_any D dc t.proof w3 (HD.out.below Q3.out.1) HH.out.2.2.2.2.2.2.1).mono ?_
  rintro e w4 ⟨rfl, hbx⟩
  have Q4 : Hid (Below w.heap.size w w4 ∧ w.heap.size ≤ w4.heap.size ∧ w4.heap[w.heap.size]? = some (.cells (prC p.k R p.rels.length rc) 24 (0, 0)) ∧ w4.heap[w.heap.size + 1]? = some (.cells (tzC t D dc) 58 (0, 0))) := Lib.hid ⟨Q3.out.1.trans (hbx.mono Q3.out.2.1), Nat.le_trans Q3.out.2.1 hbx.size, blk_on Q3.out.2.2.1 hbx, blk_on Q3.out.2.2.2 hbx⟩
  clear Q3 hbx e3
  cases hsm : lightB t.proof with
  | false =>
    go_wp2
    go_ret
    exact ⟨rfl, Q4.out.1⟩
  | true =>
  have h100b := lightB_len hsm
  clear hsm
  by_cases h20 : il.length ≤ 20
  case neg =>
    have hgt : (il.length : Int) > 20 := by omega
    go_wp2
    all_goals (
      go_ret
      exact ⟨rfl, Q4.out.1⟩)
  have hgt : ¬ (il.length : Int) > 20 := by omega
  have HSZ := HU.out
  by_cases hu100 : u.length ≤ 100
  case neg =>
    have hgt2 : (u.length : Int) > 100 := by omega
    go_wp2
    all_goals (
      go_ret
      exact ⟨rfl, Q4.out.1⟩)
  have hgt2 : ¬ (u.length : Int) > 100 := by omega
  obtain ⟨a0, a1, _, _⟩ := blk2 Q4.out.2.2.1
  go_wp2_with fail
  refine (CopyP_any p R rc w4 (HR.out.below Q4.out.1) HH.out.1 (by omega)).mono ?_
  rintro e w5 ⟨A, ca, rfl, hqs, hqn, hbx⟩
  have Q5 : Hid (Below w.heap.size w w5 ∧ w.heap.size ≤ w5.heap.size ∧ w5.heap[w.heap.size]? = some (.cells (prC p.k R p.rels.length rc) 24 (0, 0)) ∧ w5.heap[w.heap.size + 1]? = some (.cells (tzC t D dc) 58 (0, 0)) ∧ StrsAt w5 A p.rels ∧ (A = none → p.rels = [])) := Lib.hid ⟨Q4.out.1.trans (hbx.mono Q4.out.2.1), Nat.le_trans Q4.out.2.1 hbx.size, blk_on Q4.out.2.2.1 hbx, blk_on Q4.out.2.2.2 hbx, hqs, hqn⟩
  clear Q4 hbx a0 a1 hqs hqn
  go_wp2_with fail
  refine (CloneS_any I ic il w5 (HI.out.below Q5.out.1) HH.out.2.2.1 (by omega)).mono ?_
  rintro e w6 ⟨L, lc, rfl, hown, hbx⟩
  have Q6 : Hid (Below w5.heap.size w5 w6 ∧ w5.heap.size ≤ w6.heap.size ∧ w6.heap[w.heap.size]? = some (.cells (prC p.k R p.rels.length rc) 24 (0, 0)) ∧ w6.heap[w.heap.size + 1]? = some (.cells (tzC t D dc) 58 (0, 0)) ∧ StrsAt w6 L il ∧ w.heap.size + 1 < w6.heap.size) := Lib.hid ⟨hbx, hbx.size, blk_on Q5.out.2.2.1 hbx, blk_on Q5.out.2.2.2.1 hbx, strsAt_own hown HI.out.short, (Array.getElem?_eq_some_iff.1 (blk_on Q5.out.2.2.2.1 hbx)).1⟩
  clear hbx hown
  generalize hX1 : w6.alloc (.cells #[.int .i64 p.k, .slice A p.rels.length ca] 24) = X1
  have hx1 : Below w6.heap.size w6 X1 := by rw [← hX1]; exact on1 _ _
  have hxs1 : X1.heap.size = w6.heap.size + 1 := by rw [← hX1]; simp
  generalize hX2 : X1.alloc (.cells (tzC t D dc) 58) = X2
  have hx2 : Below X1.heap.size X1 X2 := by rw [← hX2]; exact on1 _ _
  have hxs2 : X2.heap.size = w6.heap.size + 2 := by rw [← hX2]; simp [hxs1]
  have hq2 : X2.heap[w6.heap.size]? = some (.cells (prC p.k A p.rels.length ca) 24 (0, 0)) := blk_on (by rw [← hX1]; exact heap_alloc_new _ _) hx2
  have hn2 : X2.heap[w6.heap.size + 1]? = some (.cells (tzC t D dc) 58 (0, 0)) := by
    rw [← hX2]
    have h := heap_alloc_new X1 (.cells (tzC t D dc) 58)
    rwa [hxs1] at h
  have ht1 := blk_on Q6.out.2.2.2.1 hx1
  have ht2 := blk_on ht1 hx2
  obtain ⟨e0, e1, e2, e3, _⟩ := blk4f ht1
  obtain ⟨_, _, _, f3, _⟩ := blk4f ht2
  have Q7 : Hid (Below w6.heap.size w6 X2 ∧ X2.heap.size = w6.heap.size + 2 ∧ X2.heap[w6.heap.size]? = some (.cells (prC p.k A p.rels.length ca) 24 (0, 0)) ∧ X2.heap[w6.heap.size + 1]? = some (.cells (tzC t D dc) 58 (0, 0))) := Lib.hid ⟨hx1.trans (hx2.mono hx1.size), hxs2, hq2, hn2⟩
  clear hx1 hx2 hxs2 hq2 hn2 ht1 ht2
  go_wp2_with fail
  have HBW2 : Hid (Below w.heap.size w X2 ∧ w.heap.size ≤ X2.heap.size) := Lib.hid ⟨(Q5.out.1.trans (Q6.out.1.mono Q5.out.2.1)).trans (Q7.out.1.mono (by have := Q5.out.2.1; have := Q6.out.2.1; omega)), by have := Q6.out.2.2.2.2.2; have := Q7.out.2.1; omega⟩
  clear e0 e1 e2 e3 f3 hX1 hX2
  refine (CopyC_any D dc t.proof X2 (HD.out.below HBW2.out.1) HH.out.2.2.2.2.2.1 (by omega)).mono ?_
  rintro e w7 ⟨D', dd, rfl, hown, hbx⟩
  have hsz7 : w6.heap.size + 2 ≤ w7.heap.size := by have := hbx.size; have := Q7.out.2.1; omega
  have hn7 := blk_on Q7.out.2.2.2 hbx
  have hset : Below (w6.heap.size + 1) w7 (w7.setCell ⟨w6.heap.size + 1, 3, none⟩ (.slice D' t.proof.length dd)) := (Below.refl _ _).setCell (p := ⟨w6.heap.size + 1, 3, none⟩) (by simp) _
  have Q8 : Hid (Below w.heap.size w (w7.setCell ⟨w6.heap.size + 1, 3, none⟩ (.slice D' t.proof.length dd)) ∧ w.heap.size ≤ (w7.setCell ⟨w6.heap.size + 1, 3, none⟩ (.slice D' t.proof.length dd)).heap.size ∧
      (w7.setCell ⟨w6.heap.size + 1, 3, none⟩ (.slice D' t.proof.length dd)).heap[w.heap.size]? = some (.cells (prC p.k R p.rels.length rc) 24 (0, 0)) ∧
      (w7.setCell ⟨w6.heap.size + 1, 3, none⟩ (.slice D' t.proof.length dd)).heap[w.heap.size + 1]? = some (.cells (tzC t D dc) 58 (0, 0)) ∧
      (w7.setCell ⟨w6.heap.size + 1, 3, none⟩ (.slice D' t.proof.length dd)).heap[w6.heap.size]? = some (.cells (prC p.k A p.rels.length ca) 24 (0, 0)) ∧
      (w7.setCell ⟨w6.heap.size + 1, 3, none⟩ (.slice D' t.proof.length dd)).heap[w6.heap.size + 1]? = some (.cells (tzC t D' dd) 58 (0, 0)) ∧
      StrsAt (w7.setCell ⟨w6.heap.size + 1, 3, none⟩ (.slice D' t.proof.length dd)) A p.rels ∧ CellsAt (w7.setCell ⟨w6.heap.size + 1, 3, none⟩ (.slice D' t.proof.length dd)) D' t.proof ∧
      StrsAt (w7.setCell ⟨w6.heap.size + 1, 3, none⟩ (.slice D' t.proof.length dd)) L il) := Lib.hid (by
    have z27 : Below w6.heap.size w6 w7 := Q7.out.1.trans (hbx.mono (by have := Q7.out.2.1; omega))
    have z28 : Below w6.heap.size w6 (w7.setCell ⟨w6.heap.size + 1, 3, none⟩ (.slice D' t.proof.length dd)) := z27.trans (hset.mono (by omega))
    have z58 := Q6.out.1.trans (z28.mono Q6.out.2.1)
    have zw8 := Q5.out.1.trans (z58.mono Q5.out.2.1)
    refine ⟨zw8, zw8.size, ?_, ?_, ?_, set_blk4 hn7, Q5.out.2.2.2.2.1.below z58, ?_, Q6.out.2.2.2.2.1.below z28⟩
    · exact blk_on Q6.out.2.2.1 z28
    · exact blk_on Q6.out.2.2.2.1 z28
    · rw [set_other (by omega)]; exact blk_on Q7.out.2.2.1 hbx
    · exact cells_own (own_set hown ⟨w6.heap.size + 1, 3, none⟩ _ (by have := Q7.out.2.1; simp; omega)) (fun c hc => by
        obtain ⟨n, hn, rfl⟩ := List.getElem_of_mem hc
        obtain ⟨_, _, _, h⟩ := HD.out n hn
        exact h.len))
  obtain ⟨_, _, _, g3, gf⟩ := blk4f hn7
  have hDn : D' = none → t.proof = [] := fun e => by subst e; exact List.eq_nil_of_length_eq_zero (own_none hown)
  have HDN := Lib.hid hDn
  clear hn7 hset hbx hown hDn
  generalize hw8 : (w7.setCell ⟨w6.heap.size + 1, 3, none⟩ (.slice D' t.proof.length dd)) = w8 at *
  go_wp2_with fail
  refine (CopyC_any C cc d w8 (HC.out.below Q8.out.1) HH.out.2.2.2.2.2.2.2.2.1 (by omega)).mono ?_
  rintro e w9 ⟨E, ec, rfl, hown, hbx⟩
  have hEn : E = none → d = [] := fun e => by subst e; exact List.eq_nil_of_length_eq_zero (own_none hown)
  have HEN := Lib.hid hEn
  have HAN := Lib.hid Q5.out.2.2.2.2.2
  have X9 : Hid (LW w p t il d R D rc dc w.heap.size (w.heap.size + 1) w6.heap.size (w6.heap.size + 1) A D' L E ca dd w9) := Lib.hid
    ⟨Q8.out.1.trans (hbx.mono Q8.out.2.1), Nat.le_trans Q8.out.2.1 hbx.size, blk_on Q8.out.2.2.1 hbx, blk_on Q8.out.2.2.2.1 hbx, blk_on Q8.out.2.2.2.2.1 hbx, blk_on Q8.out.2.2.2.2.2.1 hbx, Q8.out.2.2.2.2.2.2.1.below hbx, Q8.out.2.2.2.2.2.2.2.1.below hbx, Q8.out.2.2.2.2.2.2.2.2.below hbx,
     cells_own hown (fun c hc => by
        obtain ⟨n, hn, rfl⟩ := List.getElem_of_mem hc
        obtain ⟨_, _, _, h⟩ := HC.out n hn
        exact h.len)⟩
  clear hown hbx hEn Q8 Q7 Q6 Q5 hw8 g3 gf HBW2 hsz7
  generalize w6.heap.size = b2 at *
  obtain ⟨q0, q1, _, _⟩ := blk2 X9.out.q0
  go_wp2_with fail
  refine (chkR (HT.out.on X9.out.base) X9.out.qs HH.out.2.1).mono ?_
  rintro e w10 ⟨v10, rfl, hbx⟩
  have X10 := Lib.hid (X9.out.on hbx)
  clear hbx X9 q0 q1
  obtain ⟨q0, q1, _, _⟩ := blk2 X10.out.q0
  go_wp2_with fail
  refine (txtR (HT.out.on X10.out.base) X10.out.qs HH.out.2.1).mono ?_
  rintro e w11 ⟨v11, rfl, hbx⟩
  have X11 := Lib.hid (X10.out.on hbx)
  clear hbx X10  q0 q1
  obtain ⟨q0, q1, _, _⟩ := blk2 X11.out.q0
  go_wp2_with fail
  refine (canR (HT.out.on X11.out.base) X11.out.qs HH.out.2.1).mono ?_
  rintro e w12 ⟨v12, rfl, hbx⟩
  have X12 := Lib.hid (X11.out.on hbx)
  clear hbx X11  q0 q1
  obtain ⟨q0, q1, _, _⟩ := blk2 X12.out.q0
  go_wp2_with fail
  refine (symR (HT.out.on X12.out.base) X12.out.qs HH.out.2.1).mono ?_
  rintro e w13 ⟨v13, rfl, hbx⟩
  have X13 := Lib.hid (X12.out.on hbx)
  clear hbx X12  q0 q1
  go_wp2_with fail
  refine (subR (HT.out.on X13.out.base) X13.out.ls HH.out.2.2.2.1 HH.out.2.2.2.2.1).mono ?_
  rintro e w14 ⟨v14, rfl, hbx⟩
  have X14 := Lib.hid (X13.out.on hbx)
  clear hbx X13 
  obtain ⟨q0, q1, _, _⟩ := blk2 X14.out.q0
  obtain ⟨n0, n1, n2, n3, _⟩ := blk4f X14.out.n0
  go_wp2_with fail
  refine (movR (HT.out.on X14.out.base) X14.out.qs HAN.out X14.out.ns HDN.out HH.out.2.1 HH.out.2.2.2.2.2.2.1 HH.out.2.2.2.2.2.2.2.1).mono ?_
  rintro e w15 ⟨v15, rfl, hbx⟩
  have X15 := Lib.hid (X14.out.on hbx)
  clear hbx X14  q0 q1 n0 n1 n2 n3
  obtain ⟨q0, q1, _, _⟩ := blk2 X15.out.q0
  obtain ⟨n0, n1, n2, n3, _⟩ := blk4f X15.out.n0
  go_wp2_with fail
  refine (carR (HT.out.on X15.out.base) X15.out.qs HAN.out X15.out.ns HDN.out HH.out.2.1 HH.out.2.2.2.2.2.2.1 HH.out.2.2.2.2.2.2.2.1 X15.out.es HEN.out HH.out.2.2.2.2.2.2.2.2.2).mono ?_
  rintro e w16 ⟨v16, rfl, hbx⟩
  have X16 := Lib.hid (X15.out.on hbx)
  clear hbx X15  q0 q1 n0 n1 n2 n3
  obtain ⟨q0, q1, _, _⟩ := blk2 X16.out.q0
  obtain ⟨p0, p1, _, _⟩ := blk2 X16.out.p0
  go_wp2_with fail
  refine (eqs_lit p.rels rfl (by omega) X16.out.qs (HR.out.below X16.out.base)).mono ?_
  rintro e w17 ⟨rfl, hbx⟩
  have X17 := Lib.hid (X16.out.on hbx)
  clear hbx X16  q0 q1 p0 p1
  go_wp2_with fail
  refine (eqs_lit il rfl (by omega) X17.out.ls (HI.out.below X17.out.base)).mono ?_
  rintro e w18 ⟨rfl, hbx⟩
  have X18 := Lib.hid (X17.out.on hbx)
  clear hbx X17 
  obtain ⟨n0, n1, n2, n3, _⟩ := blk4f X18.out.n0
  obtain ⟨_, _, _, t3, _⟩ := blk4f X18.out.t0
  go_wp2_with fail
  refine (eqd_lit t.proof rfl (by omega) X18.out.ns (HD.out.below X18.out.base)).mono ?_
  rintro e w19 ⟨rfl, hbx⟩
  have X19 := Lib.hid (X18.out.on hbx)
  clear hbx X18  n0 n1 n2 n3 t3
  go_wp2_with fail
  refine (eqd_lit d rfl (by omega) X19.out.es (HC.out.below X19.out.base)).mono ?_
  rintro e w20 ⟨rfl, hbx⟩
  have X20 := Lib.hid (X19.out.on hbx)
  clear hbx X19 
  go_wp2
  go_ret
  exact ⟨rfl, X20.out.base⟩
end Go.Proofs.YteephomlnbbjeaaGreatDoor
