/-
  Our own text, in the proofs of the laws of package disk (cayleylaw04). Proved here: indexOf and isOver of the program; front.seek, forwards; front.seek, both ways, and what it leaves as it was; front.seek backwards; front.seek and retreat, with what they leave as it was. Conditions: the arguments lie in memory as the slices say; bounds; where a presentation is named valid, it is.
-/
import Derived.Test.YtbcckfggnlmhoaaIm
import Derived.Test.YtbcckfggnlmhoaaIe
import Derived.Deep.RegionWith
namespace Go.Proofs.Ytbcckfggnlmhoaa
open Go Go.RowKit

theorem idxOf_table : ∀ n : Nat, n < 256 → letB 8 (UInt8.ofNat n) = true → 97 ≤ (UInt8.ofNat n ||| 32).toNat ∧ (UInt8.ofNat n ||| 32).toNat < 105 ∧ (if UInt8.ofNat n = (UInt8.ofNat n ||| 32) then idxI 8 (UInt8.ofNat n) = 2 * (((UInt8.ofNat n ||| 32).toNat : Int) - 97) else idxI 8 (UInt8.ofNat n) = 2 * (((UInt8.ofNat n ||| 32).toNat : Int) - 97) + 1) := by decide +kernel

set_option maxHeartbeats 1000000 in
theorem indexOf_any (c : UInt8) (hc : letB 8 c = true) (w : World) : Calls Try.prog 91 #[.int .u8 c.toNat] w fun e w' => e = .returned (.int .i64 (idxI 8 c)) ∧ w = w' := by
  obtain ⟨h1, h2, h3⟩ := all_u8 (fun c => letB 8 c = true → 97 ≤ (c ||| 32).toNat ∧ (c ||| 32).toNat < 105 ∧ (if c = (c ||| 32) then idxI 8 c = 2 * (((c ||| 32).toNat : Int) - 97) else idxI 8 c = 2 * (((c ||| 32).toNat : Int) - 97) + 1)) idxOf_table c hc
  have hx := or_u8_32 c
  have hm : c.toNat < 256 := c.toNat_lt
  obtain ⟨n, hn⟩ : ∃ n, (c ||| 32).toNat = n := ⟨_, rfl⟩
  have hE := eq_nat_bool c (c ||| 32)
  have hE2 := eq_nat_bool' c (c ||| 32)
  rw [hn] at h1 h2 h3 hx hE hE2
  have hb1 : (97 : Int) ≤ (n : Int) := by omega
  have hb2 : (n : Int) < 105 := by omega
  by_cases hq : c = (c ||| 32)
  · rw [decide_eq_true hq] at hE hE2
    have H : Hid (idxI 8 c = 2 * ((n : Int) - 97)) := Lib.hid (by rw [if_pos hq] at h3; exact h3)
    clear hq h3 hc hn
    go_enter Try.func91, Try.ntmps91
    go_wp2
    go_ret
    exact ⟨ret_int H.out.symm, rfl⟩
  · rw [decide_eq_false hq] at hE hE2
    have H : Hid (idxI 8 c = 2 * ((n : Int) - 97) + 1) := Lib.hid (by rw [if_neg hq] at h3; exact h3)
    clear hq h3 hc hn
    go_enter Try.func91, Try.ntmps91
    go_wp2
    go_ret
    exact ⟨ret_int H.out.symm, rfl⟩

theorem isOver_any (b : Nat) (n : Int) (w : World) (h : w.cell? ⟨b, 3, none⟩ = some (.int .i64 n)) : Calls Try.prog 66 #[.pointer (some ⟨b, 0, none⟩)] w fun e w' => e = .returned (.bool (decide (1000000 < n))) ∧ w = w' := by
  go_enter Try.func66, Try.ntmps66
  go_wp2
  go_ret
  exact ⟨rfl, rfl⟩
end Go.Proofs.Ytbcckfggnlmhoaa

namespace Go.Proofs.Ytbcckfggnlmhoaa
open Go Go.RowKit

/-- How seek ends. -/
def SeekP (B fb : Nat) (O : Option Addr) (r' : List UInt8) (q : Int) (w : World) (e : Ending) (w' : World) : Prop :=
  e = .returned (.tuple #[]) ∧ ∃ O' oc' w1, w' = (w1.setCell ⟨fb, 1, none⟩ (.slice O' r'.length oc')).setCell ⟨fb, 0, none⟩ (.int .i64 q) ∧ w1.ownsRow B 5 1 (.slice O' r'.length oc') r'.length (bs r'.reverse) ∧ w.grownBy w1 (blk O) ∧ Moved w O O'

set_option maxHeartbeats 4000000 in
set_option maxRecDepth 100000 in
theorem seek_fwd (B fb : Nat) (O : Option Addr) (oc : Nat) (r : List UInt8) (g cap : Nat) (l : List UInt8) (a q : Nat) (w : World) (haq : a ≤ q) (hq : q ≤ l.length) (hw : WRow w g cap l)
    (hown : w.ownsRow B 5 1 (.slice O r.length oc) r.length (bs r.reverse)) (c0 : w.cell? ⟨fb, 0, none⟩ = some (.int .i64 a)) (c1 : w.cell? ⟨fb, 1, none⟩ = some (.slice O r.length oc)) (f0 : w.frozen? ⟨fb, 0, none⟩ = false) (f1 : w.frozen? ⟨fb, 1, none⟩ = false)
    (hac : ¬ (cap = a)) (hOg : blk O ≠ some g) (hOf : blk O ≠ some fb) (hn : r.length + l.length ≤ 1000000000) (hB : B ≤ w.heap.size) :
    Calls Try.prog 89 #[.pointer (some ⟨fb, 0, none⟩), .slice (some ⟨g, 0, none⟩) l.length cap, .int .i64 q] w (SeekP B fb O (run r ((l.drop a).take (q - a))) q w) := by
  have hcap := hw.1
  have hmx : cap ≤ 9223372036854775807 := by have := hw.max; unfold maxLen at this; omega
  have hgl := hw.lt
  have hfl : fb < w.heap.size := lt_of_cell c0
  have hln : ((l.drop a).take (q - a)).length = q - a := by simp; omega
  have HFZ : Hid (∀ w1, w.grownBy w1 (blk O) → w1.cell? ⟨fb, 0, none⟩ = some (.int .i64 a) ∧ w1.cell? ⟨fb, 1, none⟩ = some (.slice O r.length oc) ∧ w1.frozen? ⟨fb, 0, none⟩ = false ∧ w1.frozen? ⟨fb, 1, none⟩ = false) := Lib.hid (fun w1 hg => by
    have hb := hg.block fb hfl (fun e => hOf e.symm)
    refine ⟨(World.cell?_of_block (w := w) (a := ⟨fb, 0, none⟩) hb).trans c0, (World.cell?_of_block (w := w) (a := ⟨fb, 1, none⟩) hb).trans c1, ?_, ?_⟩
    · have := f0; unfold World.frozen? at this ⊢; simp only at this ⊢; rw [hb]; exact this
    · have := f1; unfold World.frozen? at this ⊢; simp only at this ⊢; rw [hb]; exact this)
  have hd : decide ((q : Int) < (a : Int)) = false := by simp; omega
  have hd' : decide (q < a) = false := by simp; omega
  have h1 : (a : Int) ≤ (q : Int) := by omega
  have h2 : (q : Int) ≤ (cap : Int) := by omega
  have h3 : q ≤ cap := by omega
  have hA := appRed_any B O oc r ((l.drop a).take (q - a)) (some ⟨g, a, none⟩) (cap - a) w.drew hown (part_row (hw.below ((Below.refl _ w).drewN 1)) a (q - a)) (fun x hx => by cases hx; exact hOg) (fun x hx => by cases hx; exact hgl) (by rw [hln]; omega) hB
  rw [hln] at hA
  generalize run r ((l.drop a).take (q - a)) = r' at *
  clear hw hown hln
  go_enter Try.func89, Try.ntmps89
  go_wp2_with fail
  refine wp_region_any (by kernel_rfl) ?_
  change wpAny _ _ _ _ _ _ _ w.drew
  refine wpAny_take (i := 0) (v := .pointer (some ⟨fb, 0, none⟩)) rfl (by kernel_rfl) (by kernel_rfl) (by kernel_rfl) (fun _ _ _ h => h) (Or.inl ⟨by rfl, by intro w; go_simp⟩) ?_
  refine wpAny_take (i := 1) (v := .pointer (some ⟨fb, 0, none⟩)) rfl (by kernel_rfl) (by kernel_rfl) (by kernel_rfl) (fun _ _ _ h => h) (Or.inl ⟨by rfl, by intro w; go_simp⟩) ?_
  refine wpAny_take (i := 2) (v := .pointer (some ⟨fb, 0, none⟩)) rfl (by kernel_rfl) (by kernel_rfl) (by kernel_rfl) (fun _ _ _ h => h) (Or.inl ⟨by rfl, by intro w; go_simp⟩) ?_
  refine wpAny_take (i := 3) (v := .pointer (some ⟨fb, 1, none⟩)) rfl (by kernel_rfl) (by kernel_rfl) (by kernel_rfl) (fun _ _ _ h => h) (Or.inl ⟨by rfl, by intro w; go_simp⟩) ?_
  refine wpAny_take (i := 5) (v := .slice (some ⟨g, 0, none⟩) l.length cap) rfl (by kernel_rfl) (by kernel_rfl) (by kernel_rfl) (fun _ _ _ h => h) (Or.inl ⟨by rfl, by intro w; go_simp⟩) ?_
  refine wpAny_take (i := 6) (v := .pointer (some ⟨fb, 0, none⟩)) rfl (by kernel_rfl) (by kernel_rfl) (by kernel_rfl) (fun _ _ _ h => h) (Or.inl ⟨by rfl, by intro w; go_simp⟩) ?_
  refine wpAny_take (i := 7) (v := .pointer (some ⟨fb, 0, none⟩)) rfl (by kernel_rfl) (by kernel_rfl) (by kernel_rfl) (fun _ _ _ h => h) (Or.inl ⟨by rfl, by intro w; go_simp⟩) ?_
  refine wpAny_take (i := 8) (v := .pointer (some ⟨fb, 0, none⟩)) rfl (by kernel_rfl) (by kernel_rfl) (by kernel_rfl) (fun _ _ _ h => h) (Or.inl ⟨by rfl, by intro w; go_simp⟩) ?_
  refine wpAny_take (i := 10) (v := .int .i64 q) rfl (by kernel_rfl) (by kernel_rfl) (by kernel_rfl) (fun _ _ _ h => h) (Or.inl ⟨by rfl, by intro w; go_simp⟩) ?_
  refine wpAny_ready (rs := [4, 9]) (by kernel_rfl) (by simp) ?_
  refine AllReady.cons rfl (fun K hK => ?_) (AllReady.cons rfl (fun K hK => ?_) (AllReady.nil))
  · go_simp
    refine hK _ _ ?_
    clear hK K
    refine wpAny_ready (rs := [9]) (by kernel_rfl) (by simp) ?_
    refine AllReady.cons rfl (fun K hK => ?_) (AllReady.nil)
    go_simp
    refine hK _ _ ?_
    clear hK K
    refine wpAny_take (i := 11) (v := .slice (some ⟨g, a, none⟩) (q - a) (cap - a)) rfl (by kernel_rfl) (by kernel_rfl) (by kernel_rfl) (fun _ _ _ h => h) (Or.inl ⟨by rfl, by intro w; go_simp⟩) ?_
    refine wpAny_ready (rs := [12]) (by kernel_rfl) (by simp) ?_
    refine AllReady.cons rfl (fun K hK => ?_) (AllReady.nil)
    go_simp
    go_wp2_with fail
    refine hA.mono ?_
    rintro e1 w1 ⟨O', oc', rfl, hown1, hg1, hm1⟩
    obtain ⟨z0, z1, y0, y1⟩ := HFZ.out w1 (grown_drew hg1)
    have H1 := Lib.hid hown1
    have H2 := Lib.hid (grown_drew hg1)
    have H3 := Lib.hid hm1
    clear hown1 hg1 hm1 hA
    refine hK _ _ ?_
    clear hK K
    refine wpAny_take (i := 13) (v := .pointer (some ⟨fb, 0, none⟩)) rfl (by kernel_rfl) (by kernel_rfl) (by kernel_rfl) (fun _ _ _ h => h) (Or.inl ⟨by rfl, by intro w; go_simp⟩) ?_
    refine wpAny_take (i := 14) (v := .pointer (some ⟨fb, 1, none⟩)) rfl (by kernel_rfl) (by kernel_rfl) (by kernel_rfl) (fun _ _ _ h => h) (Or.inl ⟨by rfl, by intro w; go_simp⟩) ?_
    refine wpAny_ready (rs := [15]) (by kernel_rfl) (by simp) ?_
    refine AllReady.cons rfl (fun K hK => ?_) (AllReady.nil)
    go_simp
    refine hK _ _ ?_
    clear hK K
    refine wpAny_done (by kernel_rfl) ?_ _
    go_wp2
    go_end0
    exact ⟨rfl, O', oc', w1, rfl, H1.out, H2.out, H3.out⟩
  · go_simp
    refine hK _ _ ?_
    clear hK K
    refine wpAny_take (i := 11) (v := .slice (some ⟨g, a, none⟩) (q - a) (cap - a)) rfl (by kernel_rfl) (by kernel_rfl) (by kernel_rfl) (fun _ _ _ h => h) (Or.inl ⟨by rfl, by intro w; go_simp⟩) ?_
    refine wpAny_ready (rs := [4]) (by kernel_rfl) (by simp) ?_
    refine AllReady.cons rfl (fun K hK => ?_) (AllReady.nil)
    go_simp
    refine hK _ _ ?_
    clear hK K
    refine wpAny_ready (rs := [12]) (by kernel_rfl) (by simp) ?_
    refine AllReady.cons rfl (fun K hK => ?_) (AllReady.nil)
    go_simp
    go_wp2_with fail
    refine hA.mono ?_
    rintro e1 w1 ⟨O', oc', rfl, hown1, hg1, hm1⟩
    obtain ⟨z0, z1, y0, y1⟩ := HFZ.out w1 (grown_drew hg1)
    have H1 := Lib.hid hown1
    have H2 := Lib.hid (grown_drew hg1)
    have H3 := Lib.hid hm1
    clear hown1 hg1 hm1 hA
    refine hK _ _ ?_
    clear hK K
    refine wpAny_take (i := 13) (v := .pointer (some ⟨fb, 0, none⟩)) rfl (by kernel_rfl) (by kernel_rfl) (by kernel_rfl) (fun _ _ _ h => h) (Or.inl ⟨by rfl, by intro w; go_simp⟩) ?_
    refine wpAny_take (i := 14) (v := .pointer (some ⟨fb, 1, none⟩)) rfl (by kernel_rfl) (by kernel_rfl) (by kernel_rfl) (fun _ _ _ h => h) (Or.inl ⟨by rfl, by intro w; go_simp⟩) ?_
    refine wpAny_ready (rs := [15]) (by kernel_rfl) (by simp) ?_
    refine AllReady.cons rfl (fun K hK => ?_) (AllReady.nil)
    go_simp
    refine hK _ _ ?_
    clear hK K
    refine wpAny_done (by kernel_rfl) ?_ _
    go_wp2
    go_end0
    exact ⟨rfl, O', oc', w1, rfl, H1.out, H2.out, H3.out⟩
end Go.Proofs.Ytbcckfggnlmhoaa

namespace Go.Proofs.Ytbcckfggnlmhoaa
open Go Go.RowKit

set_option maxHeartbeats 4000000 in
set_option maxRecDepth 100000 in
theorem seek_end (B fb : Nat) (O : Option Addr) (oc : Nat) (r : List UInt8) (g : Nat) (q : Nat) (w : World) (hgl : g < w.heap.size) (hqm : q ≤ 9223372036854775807)
    (hown : w.ownsRow B 5 1 (.slice O r.length oc) r.length (bs r.reverse)) (c0 : w.cell? ⟨fb, 0, none⟩ = some (.int .i64 q)) (c1 : w.cell? ⟨fb, 1, none⟩ = some (.slice O r.length oc)) (f0 : w.frozen? ⟨fb, 0, none⟩ = false) (f1 : w.frozen? ⟨fb, 1, none⟩ = false)
    (hOg : blk O ≠ some g) (hOf : blk O ≠ some fb) (hn : r.length ≤ 1000000000) (hB : B ≤ w.heap.size) :
    Calls Try.prog 89 #[.pointer (some ⟨fb, 0, none⟩), .slice (some ⟨g, 0, none⟩) q q, .int .i64 q] w (SeekP B fb O r q w) := by
  have hfl : fb < w.heap.size := lt_of_cell c0
  have HFZ : Hid (∀ w1, w.grownBy w1 (blk O) → w1.cell? ⟨fb, 0, none⟩ = some (.int .i64 q) ∧ w1.cell? ⟨fb, 1, none⟩ = some (.slice O r.length oc) ∧ w1.frozen? ⟨fb, 0, none⟩ = false ∧ w1.frozen? ⟨fb, 1, none⟩ = false) := Lib.hid (fun w1 hg => by
    have hb := hg.block fb hfl (fun e => hOf e.symm)
    refine ⟨(World.cell?_of_block (w := w) (a := ⟨fb, 0, none⟩) hb).trans c0, (World.cell?_of_block (w := w) (a := ⟨fb, 1, none⟩) hb).trans c1, ?_, ?_⟩
    · have := f0; unfold World.frozen? at this ⊢; simp only at this ⊢; rw [hb]; exact this
    · have := f1; unfold World.frozen? at this ⊢; simp only at this ⊢; rw [hb]; exact this)
  have hd : decide ((q : Int) < (q : Int)) = false := by simp
  have h2 : (q : Int) ≤ (q : Int) := by omega
  have h0 : (0 : Int) ≤ (q : Int) := by omega
  have hA := appRed_any B O oc r [] (some ⟨g, 0, none⟩) 0 w.drew hown (fun i hi => absurd hi (Nat.not_lt_zero i)) (fun x hx => by cases hx; exact hOg) (fun x hx => by cases hx; exact hgl) (by simpa using hn) hB
  simp only [List.length_nil] at hA
  have hrr : run r [] = r := rfl
  rw [hrr] at hA
  clear hown hrr
  go_enter Try.func89, Try.ntmps89
  go_wp2_with fail
  refine wp_region_any (by kernel_rfl) ?_
  change wpAny _ _ _ _ _ _ _ w.drew
  refine wpAny_take (i := 0) (v := .pointer (some ⟨fb, 0, none⟩)) rfl (by kernel_rfl) (by kernel_rfl) (by kernel_rfl) (fun _ _ _ h => h) (Or.inl ⟨by rfl, by intro w; go_simp⟩) ?_
  refine wpAny_take (i := 1) (v := .pointer (some ⟨fb, 0, none⟩)) rfl (by kernel_rfl) (by kernel_rfl) (by kernel_rfl) (fun _ _ _ h => h) (Or.inl ⟨by rfl, by intro w; go_simp⟩) ?_
  refine wpAny_take (i := 2) (v := .pointer (some ⟨fb, 0, none⟩)) rfl (by kernel_rfl) (by kernel_rfl) (by kernel_rfl) (fun _ _ _ h => h) (Or.inl ⟨by rfl, by intro w; go_simp⟩) ?_
  refine wpAny_take (i := 3) (v := .pointer (some ⟨fb, 1, none⟩)) rfl (by kernel_rfl) (by kernel_rfl) (by kernel_rfl) (fun _ _ _ h => h) (Or.inl ⟨by rfl, by intro w; go_simp⟩) ?_
  refine wpAny_take (i := 5) (v := .slice (some ⟨g, 0, none⟩) q q) rfl (by kernel_rfl) (by kernel_rfl) (by kernel_rfl) (fun _ _ _ h => h) (Or.inl ⟨by rfl, by intro w; go_simp⟩) ?_
  refine wpAny_take (i := 6) (v := .pointer (some ⟨fb, 0, none⟩)) rfl (by kernel_rfl) (by kernel_rfl) (by kernel_rfl) (fun _ _ _ h => h) (Or.inl ⟨by rfl, by intro w; go_simp⟩) ?_
  refine wpAny_take (i := 7) (v := .pointer (some ⟨fb, 0, none⟩)) rfl (by kernel_rfl) (by kernel_rfl) (by kernel_rfl) (fun _ _ _ h => h) (Or.inl ⟨by rfl, by intro w; go_simp⟩) ?_
  refine wpAny_take (i := 8) (v := .pointer (some ⟨fb, 0, none⟩)) rfl (by kernel_rfl) (by kernel_rfl) (by kernel_rfl) (fun _ _ _ h => h) (Or.inl ⟨by rfl, by intro w; go_simp⟩) ?_
  refine wpAny_take (i := 10) (v := .int .i64 q) rfl (by kernel_rfl) (by kernel_rfl) (by kernel_rfl) (fun _ _ _ h => h) (Or.inl ⟨by rfl, by intro w; go_simp⟩) ?_
  refine wpAny_ready (rs := [4, 9]) (by kernel_rfl) (by simp) ?_
  refine AllReady.cons rfl (fun K hK => ?_) (AllReady.cons rfl (fun K hK => ?_) (AllReady.nil))
  · go_simp
    refine hK _ _ ?_
    clear hK K
    refine wpAny_ready (rs := [9]) (by kernel_rfl) (by simp) ?_
    refine AllReady.cons rfl (fun K hK => ?_) (AllReady.nil)
    go_simp
    refine hK _ _ ?_
    clear hK K
    refine wpAny_take (i := 11) (v := .slice (some ⟨g, 0, none⟩) 0 0) rfl (by kernel_rfl) (by kernel_rfl) (by kernel_rfl) (fun _ _ _ h => h) (Or.inl ⟨by rfl, by intro w; go_simp⟩) ?_
    refine wpAny_ready (rs := [12]) (by kernel_rfl) (by simp) ?_
    refine AllReady.cons rfl (fun K hK => ?_) (AllReady.nil)
    go_simp
    go_wp2_with fail
    refine hA.mono ?_
    rintro e1 w1 ⟨O', oc', rfl, hown1, hg1, hm1⟩
    obtain ⟨z0, z1, y0, y1⟩ := HFZ.out w1 (grown_drew hg1)
    have H1 := Lib.hid hown1
    have H2 := Lib.hid (grown_drew hg1)
    have H3 := Lib.hid hm1
    clear hown1 hg1 hm1 hA
    refine hK _ _ ?_
    clear hK K
    refine wpAny_take (i := 13) (v := .pointer (some ⟨fb, 0, none⟩)) rfl (by kernel_rfl) (by kernel_rfl) (by kernel_rfl) (fun _ _ _ h => h) (Or.inl ⟨by rfl, by intro w; go_simp⟩) ?_
    refine wpAny_take (i := 14) (v := .pointer (some ⟨fb, 1, none⟩)) rfl (by kernel_rfl) (by kernel_rfl) (by kernel_rfl) (fun _ _ _ h => h) (Or.inl ⟨by rfl, by intro w; go_simp⟩) ?_
    refine wpAny_ready (rs := [15]) (by kernel_rfl) (by simp) ?_
    refine AllReady.cons rfl (fun K hK => ?_) (AllReady.nil)
    go_simp
    refine hK _ _ ?_
    clear hK K
    refine wpAny_done (by kernel_rfl) ?_ _
    go_wp2
    go_end0
    exact ⟨rfl, O', oc', w1, rfl, H1.out, H2.out, H3.out⟩
  · go_simp
    refine hK _ _ ?_
    clear hK K
    refine wpAny_take (i := 11) (v := .slice (some ⟨g, 0, none⟩) 0 0) rfl (by kernel_rfl) (by kernel_rfl) (by kernel_rfl) (fun _ _ _ h => h) (Or.inl ⟨by rfl, by intro w; go_simp⟩) ?_
    refine wpAny_ready (rs := [4]) (by kernel_rfl) (by simp) ?_
    refine AllReady.cons rfl (fun K hK => ?_) (AllReady.nil)
    go_simp
    refine hK _ _ ?_
    clear hK K
    refine wpAny_ready (rs := [12]) (by kernel_rfl) (by simp) ?_
    refine AllReady.cons rfl (fun K hK => ?_) (AllReady.nil)
    go_simp
    go_wp2_with fail
    refine hA.mono ?_
    rintro e1 w1 ⟨O', oc', rfl, hown1, hg1, hm1⟩
    obtain ⟨z0, z1, y0, y1⟩ := HFZ.out w1 (grown_drew hg1)
    have H1 := Lib.hid hown1
    have H2 := Lib.hid (grown_drew hg1)
    have H3 := Lib.hid hm1
    clear hown1 hg1 hm1 hA
    refine hK _ _ ?_
    clear hK K
    refine wpAny_take (i := 13) (v := .pointer (some ⟨fb, 0, none⟩)) rfl (by kernel_rfl) (by kernel_rfl) (by kernel_rfl) (fun _ _ _ h => h) (Or.inl ⟨by rfl, by intro w; go_simp⟩) ?_
    refine wpAny_take (i := 14) (v := .pointer (some ⟨fb, 1, none⟩)) rfl (by kernel_rfl) (by kernel_rfl) (by kernel_rfl) (fun _ _ _ h => h) (Or.inl ⟨by rfl, by intro w; go_simp⟩) ?_
    refine wpAny_ready (rs := [15]) (by kernel_rfl) (by simp) ?_
    refine AllReady.cons rfl (fun K hK => ?_) (AllReady.nil)
    go_simp
    refine hK _ _ ?_
    clear hK K
    refine wpAny_done (by kernel_rfl) ?_ _
    go_wp2
    go_end0
    exact ⟨rfl, O', oc', w1, rfl, H1.out, H2.out, H3.out⟩
end Go.Proofs.Ytbcckfggnlmhoaa

namespace Go.Proofs.Ytbcckfggnlmhoaa
open Go Go.RowKit

theorem front_cells {w w1 : World} {fb : Nat} {row : Option Nat} {x y : Value} (c0 : w.cell? ⟨fb, 0, none⟩ = some x) (c1 : w.cell? ⟨fb, 1, none⟩ = some y) (f0 : w.frozen? ⟨fb, 0, none⟩ = false) (f1 : w.frozen? ⟨fb, 1, none⟩ = false) (hg : w.grownBy w1 row) (hr : row ≠ some fb) :
    w1.cell? ⟨fb, 0, none⟩ = some x ∧ w1.cell? ⟨fb, 1, none⟩ = some y ∧ w1.frozen? ⟨fb, 0, none⟩ = false ∧ w1.frozen? ⟨fb, 1, none⟩ = false := by
  have hfl : fb < w.heap.size := lt_of_cell c0
  have hb := hg.block fb hfl (fun e => hr e.symm)
  refine ⟨(World.cell?_of_block (w := w) (a := ⟨fb, 0, none⟩) hb).trans c0, (World.cell?_of_block (w := w) (a := ⟨fb, 1, none⟩) hb).trans c1, ?_, ?_⟩
  · have := f0; unfold World.frozen? at this ⊢; simp only at this ⊢; rw [hb]; exact this
  · have := f1; unfold World.frozen? at this ⊢; simp only at this ⊢; rw [hb]; exact this

/-- What follows once the inverse of the part lies in memory. -/
theorem seek_then (B fb : Nat) (O : Option Addr) (oc : Nat) (r v : List UInt8) (x : Value) (w : World)
    (hown : w.ownsRow B 5 1 (.slice O r.length oc) r.length (bs r.reverse)) (c0 : w.cell? ⟨fb, 0, none⟩ = some x) (c1 : w.cell? ⟨fb, 1, none⟩ = some (.slice O r.length oc)) (f0 : w.frozen? ⟨fb, 0, none⟩ = false) (f1 : w.frozen? ⟨fb, 1, none⟩ = false)
    (hOf : blk O ≠ some fb) (hn : r.length + v.length ≤ 1000000000) (hB : B ≤ w.heap.size) (e : Ending) (w1 : World) (h : CloneP w v e w1) :
    ∃ A1 c1, e = .returned (.slice A1 v.length c1) ∧ w1.cell? ⟨fb, 1, none⟩ = some (.slice O r.length oc) ∧
      Calls Try.prog 50 #[.slice O r.length oc, .slice A1 v.length c1, .func (.func 52) #[] #[]] w1 (fun e w2 => ∃ O' oc', e = .returned (.slice O' (run r v).length oc') ∧ w2.ownsRow B 5 1 (.slice O' (run r v).length oc') (run r v).length (bs (run r v).reverse) ∧ w.grownBy w2 (blk O) ∧ Moved w O O' ∧
        w2.cell? ⟨fb, 0, none⟩ = some x ∧ w2.cell? ⟨fb, 1, none⟩ = some (.slice O r.length oc) ∧ w2.frozen? ⟨fb, 0, none⟩ = false ∧ w2.frozen? ⟨fb, 1, none⟩ = false) := by
  obtain ⟨A1, k1, rfl, hown1, hb1⟩ := h
  have hg1 := grown_of_below hb1 (blk O)
  have hz := front_cells c0 c1 f0 f1 hg1 hOf
  have hbl := blk_lt hown
  refine ⟨A1, k1, rfl, hz.2.1, ?_⟩
  have hA := appRed_any B O oc r v A1 k1 w1 (own_below hown hb1) (rowAt_own hown1) (fun a ha e => by have h1 := (blk_lt hown1 a.block (by rw [ha]; rfl)).1; have h2 := (hbl _ e).2; omega) (fun a ha => (blk_lt hown1 a.block (by rw [ha]; rfl)).2) hn (Nat.le_trans hB hb1.size)
  refine hA.mono ?_
  rintro e w2 ⟨O', oc', rfl, hown2, hg2, hm2⟩
  have hg := grown_trans hg1 hg2 (Moved.refl w O)
  exact ⟨O', oc', rfl, hown2, hg, Moved.trans (Moved.refl w O) hm2 hb1.size, front_cells c0 c1 f0 f1 hg hOf⟩

set_option maxHeartbeats 4000000 in
set_option maxRecDepth 100000 in
theorem seek_back (B fb : Nat) (O : Option Addr) (oc : Nat) (r : List UInt8) (g cap : Nat) (l : List UInt8) (a q : Nat) (w : World) (hqa : q < a) (ha : a ≤ l.length) (hw : WRow w g cap l)
    (hown : w.ownsRow B 5 1 (.slice O r.length oc) r.length (bs r.reverse)) (c0 : w.cell? ⟨fb, 0, none⟩ = some (.int .i64 a)) (c1 : w.cell? ⟨fb, 1, none⟩ = some (.slice O r.length oc)) (f0 : w.frozen? ⟨fb, 0, none⟩ = false) (f1 : w.frozen? ⟨fb, 1, none⟩ = false)
    (hOf : blk O ≠ some fb) (hn : r.length + l.length ≤ 1000000000) (hB : B ≤ w.heap.size) :
    Calls Try.prog 89 #[.pointer (some ⟨fb, 0, none⟩), .slice (some ⟨g, 0, none⟩) l.length cap, .int .i64 q] w (SeekP B fb O (run r (invW ((l.drop q).take (a - q)))) q w) := by
  have hcap := hw.1
  have hmx : cap ≤ 9223372036854775807 := by have := hw.max; unfold maxLen at this; omega
  have hln : ((l.drop q).take (a - q)).length = a - q := by simp; omega
  have hli : (invW ((l.drop q).take (a - q))).length = a - q := (ginv_len _ _).trans hln
  have hd : decide ((q : Int) < (a : Int)) = true := by simp; omega
  have hd' : decide (q < a) = true := by simpa using hqa
  have h1 : (q : Int) ≤ (a : Int) := by omega
  have h2 : (a : Int) ≤ (cap : Int) := by omega
  have h3 : q ≤ cap := by omega
  have h4 : ¬ (cap = q) := by omega
  have hI := inverseOf_any (some ⟨g, q, none⟩) (cap - q) ((l.drop q).take (a - q)) w.drew (part_row (hw.below ((Below.refl _ w).drewN 1)) q (a - q)) (fun h => by cases h) (by rw [hln]; omega)
  rw [hln] at hI
  have HT := Lib.hid (seek_then B fb O oc r (invW ((l.drop q).take (a - q))) (.int .i64 a) w.drew hown c0 c1 f0 f1 hOf (by rw [hli]; omega) hB)
  generalize invW ((l.drop q).take (a - q)) = v at *
  have HLI := Lib.hid hli
  clear hw hown hln hli
  go_enter Try.func89, Try.ntmps89
  go_wp2_with fail
  refine wp_region_any (by kernel_rfl) ?_
  change wpAny _ _ _ _ _ _ _ w.drew
  refine wpAny_take (i := 0) (v := .pointer (some ⟨fb, 0, none⟩)) rfl (by kernel_rfl) (by kernel_rfl) (by kernel_rfl) (fun _ _ _ h => h) (Or.inl ⟨by rfl, by intro w; go_simp⟩) ?_
  refine wpAny_take (i := 1) (v := .pointer (some ⟨fb, 0, none⟩)) rfl (by kernel_rfl) (by kernel_rfl) (by kernel_rfl) (fun _ _ _ h => h) (Or.inl ⟨by rfl, by intro w; go_simp⟩) ?_
  refine wpAny_take (i := 2) (v := .pointer (some ⟨fb, 0, none⟩)) rfl (by kernel_rfl) (by kernel_rfl) (by kernel_rfl) (fun _ _ _ h => h) (Or.inl ⟨by rfl, by intro w; go_simp⟩) ?_
  refine wpAny_take (i := 3) (v := .pointer (some ⟨fb, 1, none⟩)) rfl (by kernel_rfl) (by kernel_rfl) (by kernel_rfl) (fun _ _ _ h => h) (Or.inl ⟨by rfl, by intro w; go_simp⟩) ?_
  refine wpAny_take (i := 5) (v := .slice (some ⟨g, 0, none⟩) l.length cap) rfl (by kernel_rfl) (by kernel_rfl) (by kernel_rfl) (fun _ _ _ h => h) (Or.inl ⟨by rfl, by intro w; go_simp⟩) ?_
  refine wpAny_take (i := 6) (v := .int .i64 q) rfl (by kernel_rfl) (by kernel_rfl) (by kernel_rfl) (fun _ _ _ h => h) (Or.inl ⟨by rfl, by intro w; go_simp⟩) ?_
  refine wpAny_take (i := 7) (v := .pointer (some ⟨fb, 0, none⟩)) rfl (by kernel_rfl) (by kernel_rfl) (by kernel_rfl) (fun _ _ _ h => h) (Or.inl ⟨by rfl, by intro w; go_simp⟩) ?_
  refine wpAny_take (i := 8) (v := .pointer (some ⟨fb, 0, none⟩)) rfl (by kernel_rfl) (by kernel_rfl) (by kernel_rfl) (fun _ _ _ h => h) (Or.inl ⟨by rfl, by intro w; go_simp⟩) ?_
  refine wpAny_take (i := 9) (v := .pointer (some ⟨fb, 0, none⟩)) rfl (by kernel_rfl) (by kernel_rfl) (by kernel_rfl) (fun _ _ _ h => h) (Or.inl ⟨by rfl, by intro w; go_simp⟩) ?_
  refine wpAny_ready (rs := [4, 10]) (by kernel_rfl) (by simp) ?_
  refine AllReady.cons rfl (fun K hK => ?_) (AllReady.cons rfl (fun K hK => ?_) (AllReady.nil))
  · go_simp
    refine hK _ _ ?_
    clear hK K
    refine wpAny_ready (rs := [10]) (by kernel_rfl) (by simp) ?_
    refine AllReady.cons rfl (fun K hK => ?_) (AllReady.nil)
    go_simp
    refine hK _ _ ?_
    clear hK K
    refine wpAny_take (i := 11) (v := .slice (some ⟨g, q, none⟩) (a - q) (cap - q)) rfl (by kernel_rfl) (by kernel_rfl) (by kernel_rfl) (fun _ _ _ h => h) (Or.inl ⟨by rfl, by intro w; go_simp⟩) ?_
    refine wpAny_ready (rs := [12]) (by kernel_rfl) (by simp) ?_
    refine AllReady.cons rfl (fun K hK => ?_) (AllReady.nil)
    go_simp
    go_wp2_with fail
    refine hI.mono ?_
    intro e1 w1 hcl
    obtain ⟨A1, k1, rfl, y1, hC⟩ := HT.out _ _ hcl
    have HC := Lib.hid hC
    clear hcl hC hI
    refine hK _ _ ?_
    clear hK K
    refine wpAny_ready (rs := [13]) (by kernel_rfl) (by simp) ?_
    refine AllReady.cons rfl (fun K hK => ?_) (AllReady.nil)
    go_simp
    go_wp2_with fail
    refine HC.out.mono ?_
    rintro e2 w2 ⟨O', oc', rfl, hown2, hg2, hm2, z0, z1, x0, x1⟩
    have H1 := Lib.hid hown2
    have H2 := Lib.hid hg2
    have H3 := Lib.hid hm2
    clear hown2 hg2 hm2
    refine hK _ _ ?_
    clear hK K
    refine wpAny_take (i := 14) (v := .pointer (some ⟨fb, 0, none⟩)) rfl (by kernel_rfl) (by kernel_rfl) (by kernel_rfl) (fun _ _ _ h => h) (Or.inl ⟨by rfl, by intro w; go_simp⟩) ?_
    refine wpAny_take (i := 15) (v := .pointer (some ⟨fb, 1, none⟩)) rfl (by kernel_rfl) (by kernel_rfl) (by kernel_rfl) (fun _ _ _ h => h) (Or.inl ⟨by rfl, by intro w; go_simp⟩) ?_
    refine wpAny_ready (rs := [16]) (by kernel_rfl) (by simp) ?_
    refine AllReady.cons rfl (fun K hK => ?_) (AllReady.nil)
    go_simp
    refine hK _ _ ?_
    clear hK K
    refine wpAny_done (by kernel_rfl) ?_ _
    go_wp2
    go_end0
    exact ⟨rfl, O', oc', w2, rfl, H1.out, grown_drew H2.out, H3.out⟩
  · go_simp
    refine hK _ _ ?_
    clear hK K
    refine wpAny_take (i := 11) (v := .slice (some ⟨g, q, none⟩) (a - q) (cap - q)) rfl (by kernel_rfl) (by kernel_rfl) (by kernel_rfl) (fun _ _ _ h => h) (Or.inl ⟨by rfl, by intro w; go_simp⟩) ?_
    refine wpAny_ready (rs := [4, 12]) (by kernel_rfl) (by simp) ?_
    refine AllReady.cons rfl (fun K hK => ?_) (AllReady.cons rfl (fun K hK => ?_) (AllReady.nil))
    · go_simp
      refine hK _ _ ?_
      clear hK K
      refine wpAny_ready (rs := [12]) (by kernel_rfl) (by simp) ?_
      refine AllReady.cons rfl (fun K hK => ?_) (AllReady.nil)
      go_simp
      go_wp2_with fail
      refine hI.mono ?_
      intro e1 w1 hcl
      obtain ⟨A1, k1, rfl, y1, hC⟩ := HT.out _ _ hcl
      have HC := Lib.hid hC
      clear hcl hC hI
      refine hK _ _ ?_
      clear hK K
      refine wpAny_ready (rs := [13]) (by kernel_rfl) (by simp) ?_
      refine AllReady.cons rfl (fun K hK => ?_) (AllReady.nil)
      go_simp
      go_wp2_with fail
      refine HC.out.mono ?_
      rintro e2 w2 ⟨O', oc', rfl, hown2, hg2, hm2, z0, z1, x0, x1⟩
      have H1 := Lib.hid hown2
      have H2 := Lib.hid hg2
      have H3 := Lib.hid hm2
      clear hown2 hg2 hm2
      refine hK _ _ ?_
      clear hK K
      refine wpAny_take (i := 14) (v := .pointer (some ⟨fb, 0, none⟩)) rfl (by kernel_rfl) (by kernel_rfl) (by kernel_rfl) (fun _ _ _ h => h) (Or.inl ⟨by rfl, by intro w; go_simp⟩) ?_
      refine wpAny_take (i := 15) (v := .pointer (some ⟨fb, 1, none⟩)) rfl (by kernel_rfl) (by kernel_rfl) (by kernel_rfl) (fun _ _ _ h => h) (Or.inl ⟨by rfl, by intro w; go_simp⟩) ?_
      refine wpAny_ready (rs := [16]) (by kernel_rfl) (by simp) ?_
      refine AllReady.cons rfl (fun K hK => ?_) (AllReady.nil)
      go_simp
      refine hK _ _ ?_
      clear hK K
      refine wpAny_done (by kernel_rfl) ?_ _
      go_wp2
      go_end0
      exact ⟨rfl, O', oc', w2, rfl, H1.out, grown_drew H2.out, H3.out⟩
    · go_simp
      go_wp2_with fail
      refine hI.mono ?_
      intro e1 w1 hcl
      obtain ⟨A1, k1, rfl, y1, hC⟩ := HT.out _ _ hcl
      have HC := Lib.hid hC
      clear hcl hC hI
      refine hK _ _ ?_
      clear hK K
      refine wpAny_ready (rs := [4]) (by kernel_rfl) (by simp) ?_
      refine AllReady.cons rfl (fun K hK => ?_) (AllReady.nil)
      go_simp
      refine hK _ _ ?_
      clear hK K
      refine wpAny_ready (rs := [13]) (by kernel_rfl) (by simp) ?_
      refine AllReady.cons rfl (fun K hK => ?_) (AllReady.nil)
      go_simp
      go_wp2_with fail
      refine HC.out.mono ?_
      rintro e2 w2 ⟨O', oc', rfl, hown2, hg2, hm2, z0, z1, x0, x1⟩
      have H1 := Lib.hid hown2
      have H2 := Lib.hid hg2
      have H3 := Lib.hid hm2
      clear hown2 hg2 hm2
      refine hK _ _ ?_
      clear hK K
      refine wpAny_take (i := 14) (v := .pointer (some ⟨fb, 0, none⟩)) rfl (by kernel_rfl) (by kernel_rfl) (by kernel_rfl) (fun _ _ _ h => h) (Or.inl ⟨by rfl, by intro w; go_simp⟩) ?_
      refine wpAny_take (i := 15) (v := .pointer (some ⟨fb, 1, none⟩)) rfl (by kernel_rfl) (by kernel_rfl) (by kernel_rfl) (fun _ _ _ h => h) (Or.inl ⟨by rfl, by intro w; go_simp⟩) ?_
      refine wpAny_ready (rs := [16]) (by kernel_rfl) (by simp) ?_
      refine AllReady.cons rfl (fun K hK => ?_) (AllReady.nil)
      go_simp
      refine hK _ _ ?_
      clear hK K
      refine wpAny_done (by kernel_rfl) ?_ _
      go_wp2
      go_end0
      exact ⟨rfl, O', oc', w2, rfl, H1.out, grown_drew H2.out, H3.out⟩
end Go.Proofs.Ytbcckfggnlmhoaa

namespace Go.Proofs.Ytbcckfggnlmhoaa
open Go Go.RowKit

/-- A world that is as another one was but for some blocks. -/
structure Touch (S : Nat → Prop) (w w' : World) : Prop where
  os : w'.os = w.os
  tape : w'.tape = w.tape
  output : w'.output = w.output
  size : w.heap.size ≤ w'.heap.size
  block : ∀ k, k < w.heap.size → ¬ S k → w'.heap[k]? = w.heap[k]?
theorem Touch.refl (S : Nat → Prop) (w : World) : Touch S w w := ⟨rfl, rfl, rfl, Nat.le_refl _, fun _ _ _ => rfl⟩
theorem Touch.of_grown {w w' : World} {row : Option Nat} (h : w.grownBy w' row) : Touch (fun k => row = some k) w w' := ⟨h.os, h.tape, h.output, h.size, fun k hk hs => h.block k hk (fun e => hs e.symm)⟩
theorem Touch.of_below {w w' : World} (S : Nat → Prop) (h : Below w.heap.size w w') : Touch S w w' := ⟨h.os, h.tape, h.output, h.size, fun k hk _ => h.block k hk⟩
theorem Touch.trans {S S' : Nat → Prop} {w w1 w2 : World} (h1 : Touch S w w1) (h2 : Touch S' w1 w2) (hS : ∀ k, k < w.heap.size → S' k → S k) : Touch S w w2 :=
  ⟨h2.os.trans h1.os, h2.tape.trans h1.tape, h2.output.trans h1.output, Nat.le_trans h1.size h2.size, fun k hk hs => (h2.block k (Nat.lt_of_lt_of_le hk h1.size) (fun h => hs (hS k hk h))).trans (h1.block k hk hs)⟩
theorem Touch.mono {S S' : Nat → Prop} {w w1 : World} (h1 : Touch S w w1) (hS : ∀ k, k < w.heap.size → S k → S' k) : Touch S' w w1 :=
  ⟨h1.os, h1.tape, h1.output, h1.size, fun k hk hs => h1.block k hk (fun h => hs (hS k hk h))⟩
theorem Touch.set {S : Nat → Prop} {w w1 : World} (h : Touch S w w1) (b i : Nat) (v : Value) (hb : S b) : Touch S w (w1.setCell ⟨b, i, none⟩ v) :=
  ⟨h.os, h.tape, h.output, by rw [World.size_setCell]; exact h.size, fun k hk hs => by rw [heap_setCell_other w1 ⟨b, i, none⟩ k _ (fun e => hs (by rw [show k = b from e]; exact hb))]; exact h.block k hk hs⟩
theorem Touch.below {S : Nat → Prop} {w w1 : World} (h : Touch S w w1) (B : Nat) (hB : B ≤ w.heap.size) (hS : ∀ k, S k → B ≤ k) : Below B w w1 :=
  ⟨h.os, h.tape, h.output, h.size, fun k hk => h.block k (by omega) (fun hs => by have := hS k hs; omega)⟩
theorem own_same {w w' : World} {B e sz n : Nat} {v : Value} {xs : List Value} (h : w.ownsRow B e sz v n xs) (hb : ∀ k, v.ownBlock = some k → w'.heap[k]? = w.heap[k]?) : w'.ownsRow B e sz v n xs := by
  obtain ⟨h1, h2⟩ := h
  refine ⟨h1, ?_⟩
  rcases h2 with h2 | ⟨g, cap, cur, hv, hg, hh, r⟩
  · exact .inl h2
  · exact .inr ⟨g, cap, cur, hv, hg, (hb g (by rw [hv]; rfl)).trans hh, r⟩
theorem cell_same {w w' : World} {b : Nat} (hb : w'.heap[b]? = w.heap[b]?) (i : Nat) : w'.cell? ⟨b, i, none⟩ = w.cell? ⟨b, i, none⟩ := World.cell?_of_block (w := w) (a := ⟨b, i, none⟩) hb
theorem frozen_same {w w' : World} {b : Nat} (hb : w'.heap[b]? = w.heap[b]?) (i : Nat) : w'.frozen? ⟨b, i, none⟩ = w.frozen? ⟨b, i, none⟩ := by unfold World.frozen?; simp only; rw [hb]

/-- The front of a record, in block fb: the free reduction of the first a letters. -/
structure Front (B fb : Nat) (O : Option Addr) (oc : Nat) (r : List UInt8) (a : Nat) (W : World) : Prop where
  c0 : W.cell? ⟨fb, 0, none⟩ = some (.int .i64 a)
  c1 : W.cell? ⟨fb, 1, none⟩ = some (.slice O r.length oc)
  f0 : W.frozen? ⟨fb, 0, none⟩ = false
  f1 : W.frozen? ⟨fb, 1, none⟩ = false
  own : W.ownsRow B 5 1 (.slice O r.length oc) r.length (bs r.reverse)
  lo : fb < B
  hi : B ≤ W.heap.size
theorem Front.lt {B fb : Nat} {O : Option Addr} {oc : Nat} {r : List UInt8} {a : Nat} {W : World} (h : Front B fb O oc r a W) : fb < W.heap.size := lt_of_cell h.c0
theorem Front.far {B fb : Nat} {O : Option Addr} {oc : Nat} {r : List UInt8} {a : Nat} {W : World} (h : Front B fb O oc r a W) : blk O ≠ some fb := fun e => by have := (blk_lt h.own _ e).1; have := h.lo; omega
theorem Front.keep {B fb : Nat} {O : Option Addr} {oc : Nat} {r : List UInt8} {a : Nat} {W W' : World} (h : Front B fb O oc r a W) (hb : W'.heap[fb]? = W.heap[fb]?) (hO : ∀ k, blk O = some k → W'.heap[k]? = W.heap[k]?) (hs : W.heap.size ≤ W'.heap.size) : Front B fb O oc r a W' :=
  ⟨(cell_same hb 0).trans h.c0, (cell_same hb 1).trans h.c1, (frozen_same hb 0).trans h.f0, (frozen_same hb 1).trans h.f1, own_same h.own (fun k hk => hO k (by rw [← hk, ownBlock_slice])), h.lo, Nat.le_trans h.hi hs⟩

/-- The other cells of the front's block. -/
def Rest (fb : Nat) (w w' : World) : Prop := ∀ i, 2 ≤ i → w'.cell? ⟨fb, i, none⟩ = w.cell? ⟨fb, i, none⟩ ∧ w'.frozen? ⟨fb, i, none⟩ = w.frozen? ⟨fb, i, none⟩
/-- How a front's method ends. -/
def FrontP (B fb : Nat) (O : Option Addr) (r : List UInt8) (q : Nat) (w : World) (e : Ending) (w' : World) : Prop :=
  e = .returned (.tuple #[]) ∧ ∃ O' oc', Front B fb O' oc' r q w' ∧ Touch (fun k => k = fb ∨ blk O = some k) w w' ∧ Moved w O O' ∧ Rest fb w w'

theorem SeekP.front {B fb : Nat} {O : Option Addr} {oc : Nat} {r0 r : List UInt8} {a q : Nat} {w : World} {e : Ending} {w' : World} (hf : Front B fb O oc r0 a w) (h : SeekP B fb O r q w e w') : FrontP B fb O r q w e w' := by
  obtain ⟨rfl, O', oc', w1, rfl, hown, hg, hm⟩ := h
  have hz := front_cells hf.c0 hf.c1 hf.f0 hf.f1 hg hf.far
  have hlo := hf.lo
  have hbk := hg.block fb hf.lt (fun e => hf.far e.symm)
  have hbl := blk_lt hown
  have hne : ∀ k, (Value.slice O' r.length oc').ownBlock = some k → fb ≠ k := fun k hk e => by
    rw [ownBlock_slice] at hk
    have := (hbl k hk).1
    omega
  refine ⟨rfl, O', oc', ⟨?_, ?_, ?_, ?_, ?_, hlo, ?_⟩, ?_, hm, fun i hi => ⟨?_, ?_⟩⟩
  · exact World.cell?_setCell_same _ _ _ (by rw [World.cell?_setCell_other (h := by simp)]; exact hz.1)
  · rw [World.cell?_setCell_other (h := by simp)]
    exact World.cell?_setCell_same _ _ _ hz.2.1
  · rw [World.frozen?_setCell, World.frozen?_setCell]; exact hz.2.2.1
  · rw [World.frozen?_setCell, World.frozen?_setCell]; exact hz.2.2.2
  · refine own_same hown (fun k hk => ?_)
    rw [heap_setCell_other _ ⟨fb, 0, none⟩ k _ (fun e => hne k hk (Eq.symm e)), heap_setCell_other _ ⟨fb, 1, none⟩ k _ (fun e => hne k hk (Eq.symm e))]
  · rw [World.size_setCell, World.size_setCell]; exact Nat.le_trans hf.hi hg.size
  · have t : Touch (fun k => k = fb ∨ blk O = some k) w w1 := (Touch.of_grown hg).mono (fun k _ hk => Or.inr hk)
    exact Touch.set (Touch.set t fb 1 _ (Or.inl rfl)) fb 0 _ (Or.inl rfl)
  · rw [World.cell?_setCell_other (h := by intro e; cases e; omega), World.cell?_setCell_other (h := by intro e; cases e; omega)]
    exact cell_same hbk i
  · rw [World.frozen?_setCell, World.frozen?_setCell]; exact frozen_same hbk i

theorem run_back (l : List UInt8) (q a : Nat) (h : q ≤ a) : run (run [] (l.take a)) (invW ((l.drop q).take (a - q))) = run [] (l.take q) := by
  have e : l.take a = l.take q ++ (l.drop q).take (a - q) := by
    conv => lhs; rw [show a = q + (a - q) by omega]
    exact List.take_add
  rw [e]
  unfold run
  rw [grun_app, ← grun_app]
  exact grun_inv invc_invc (GRed.run invc_invc _ (r := []) trivial) _
theorem run_fwd (l : List UInt8) (q a : Nat) (h : a ≤ q) : run (run [] (l.take a)) ((l.drop a).take (q - a)) = run [] (l.take q) := by
  have e : l.take q = l.take a ++ (l.drop a).take (q - a) := by
    conv => lhs; rw [show q = a + (q - a) by omega]
    exact List.take_add
  rw [e]
  unfold run
  rw [grun_app]
theorem run_len (r l : List UInt8) : (run r l).length ≤ r.length + l.length := grun_len _ _ _

theorem seek_any (B fb : Nat) (O : Option Addr) (oc : Nat) (g cap : Nat) (l : List UInt8) (a q : Nat) (w : World) (hf : Front B fb O oc (run [] (l.take a)) a w) (hw : WRow w g cap l) (ha : a ≤ l.length) (hq : q ≤ l.length) (hOg : blk O ≠ some g) (hn : l.length ≤ 100000) :
    Calls Try.prog 89 #[.pointer (some ⟨fb, 0, none⟩), .slice (some ⟨g, 0, none⟩) l.length cap, .int .i64 q] w (FrontP B fb O (run [] (l.take q)) q w) := by
  have hr : (run [] (l.take a)).length ≤ 100000 := by
    have := run_len [] (l.take a); rw [List.length_take] at this; simp only [List.length_nil] at this; omega
  have hcap := hw.1
  by_cases hqa : q < a
  · have := seek_back B fb O oc (run [] (l.take a)) g cap l a q w hqa ha hw hf.own hf.c0 hf.c1 hf.f0 hf.f1 hf.far (by omega) hf.hi
    rw [run_back l q a (by omega)] at this
    exact this.mono fun _ _ h => h.front hf
  by_cases hac : cap = a
  · have hm : a ≤ 9223372036854775807 := by omega
    have hl : l.length = a := by omega
    obtain rfl : q = a := by omega
    rw [hl, hac]
    have := seek_end B fb O oc (run [] (l.take q)) g q w hw.lt hm hf.own hf.c0 hf.c1 hf.f0 hf.f1 hOg hf.far (by omega) hf.hi
    exact this.mono fun _ _ h => h.front hf
  · have := seek_fwd B fb O oc (run [] (l.take a)) g cap l a q w (by omega) hq hw hf.own hf.c0 hf.c1 hf.f0 hf.f1 hac hOg hf.far (by omega) hf.hi
    rw [run_fwd l q a (by omega)] at this
    exact this.mono fun _ _ h => h.front hf

/-- Where retreat goes. -/
def retTo (a : Nat) (i : Int) : Nat := min a i.toNat

set_option maxHeartbeats 2000000 in
set_option maxRecDepth 100000 in
theorem retreat_any (B fb : Nat) (O : Option Addr) (oc : Nat) (g cap : Nat) (l : List UInt8) (a : Nat) (i : Int) (w : World) (hf : Front B fb O oc (run [] (l.take a)) a w) (hw : WRow w g cap l) (ha : a ≤ l.length) (hOg : blk O ≠ some g) (hn : l.length ≤ 100000) :
    Calls Try.prog 63 #[.pointer (some ⟨fb, 0, none⟩), .slice (some ⟨g, 0, none⟩) l.length cap, .int .i64 i] w (FrontP B fb O (run [] (l.take (retTo a i))) (retTo a i) w) := by
  have c0 := hf.c0
  by_cases hlt : i.toNat < a
  · obtain ⟨q, hq⟩ : ∃ q, i.toNat = q := ⟨_, rfl⟩
    have HR : Hid (retTo a i = q) := Lib.hid (by unfold retTo; omega)
    have hS := seek_any B fb O oc g cap l a q w hf hw ha (by omega) hOg hn
    have hd1 : decide ((q : Int) < (a : Int)) = true := by simp; omega
    have hd2 : decide (q < a) = true := by simp; omega
    rw [HR.out]
    generalize run [] (l.take q) = r' at *
    clear hf hw
    by_cases h0 : 0 ≤ i
    · obtain rfl : i = (q : Int) := by omega
      clear hq hlt
      have hmx : max (q : Int) 0 = (q : Int) := by omega
      go_enter Try.func63, Try.ntmps63
      go_wp2_with fail
      refine hS.mono ?_
      rintro e w1 ⟨rfl, hh⟩
      have HH := Lib.hid hh
      clear hh hS
      go_wp2
      go_end0
      exact ⟨rfl, HH.out⟩
    · obtain rfl : q = 0 := by omega
      have hmx : max i 0 = (0 : Int) := by omega
      clear hq hlt
      go_enter Try.func63, Try.ntmps63
      go_wp2_with fail
      refine hS.mono ?_
      rintro e w1 ⟨rfl, hh⟩
      have HH := Lib.hid hh
      clear hh hS
      go_wp2
      go_end0
      exact ⟨rfl, HH.out⟩
  · have HR : Hid (retTo a i = a) := Lib.hid (by unfold retTo; omega)
    rw [HR.out]
    have HF := Lib.hid hf
    clear hf hw
    by_cases h0 : 0 ≤ i
    · have hmx : max i 0 = i := by omega
      have hd1 : decide (i < (a : Int)) = false := by simp; omega
      go_enter Try.func63, Try.ntmps63
      go_wp2
      all_goals (
        go_end0
        exact ⟨rfl, O, oc, HF.out, Touch.refl _ _, Moved.refl _ _, fun _ _ => ⟨rfl, rfl⟩⟩)
    · have hmx : max i 0 = (0 : Int) := by omega
      obtain rfl : a = 0 := by omega
      have hd1 : decide ((0 : Int) < ((0 : Nat) : Int)) = false := by simp
      go_enter Try.func63, Try.ntmps63
      go_wp2
      all_goals (
        go_end0
        exact ⟨rfl, O, oc, HF.out, Touch.refl _ _, Moved.refl _ _, fun _ _ => ⟨rfl, rfl⟩⟩)
end Go.Proofs.Ytbcckfggnlmhoaa
