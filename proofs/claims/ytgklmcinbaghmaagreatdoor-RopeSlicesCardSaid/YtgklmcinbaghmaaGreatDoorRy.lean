/-
  Our own text, in the proofs of the laws of package rope. Proved here: sane returns true. Conditions: the listed table lies as the program lays it; none other.
-/
import Derived.Test.YtgklmcinbaghmaaGreatDoorRx
namespace Go.Proofs.YtgklmcinbaghmaaGreatDoor
open Go Go.RowKit

/-- The rope of the chapter's examples, and what sane makes of it. -/
def exN : List Nd := [⟨⟨#[97, 98]⟩, 0, 0, 0⟩, ⟨⟨#[]⟩, 0, 0, 3⟩, ⟨⟨#[]⟩, 1, 0, 0⟩]
def exI : List Nd := [⟨⟨#[66, 65]⟩, 0, 0, 0⟩, ⟨⟨#[]⟩, 0, 0, 3⟩, ⟨⟨#[]⟩, 0, 1, 0⟩]
def exP : List Nd := [⟨⟨#[97, 98]⟩, 0, 0, 0⟩, ⟨⟨#[]⟩, 0, 0, 3⟩, ⟨⟨#[]⟩, 1, 0, 0⟩, ⟨⟨#[]⟩, 2, 0, 144115188075855872⟩]
def exW : List Nd := [⟨⟨#[97, 98, 97, 98, 97]⟩, 0, 0, 0⟩]
def exZ : List Nd := [⟨⟨#[]⟩, 0, 0, 3⟩]

theorem ex_lens : lens exN = some [2, 6, 8] := by decide +kernel
theorem ex_lensW : lens exW = some [5] := by decide +kernel
theorem ex_len : lenI exN = 8 ∧ errI exN = 0 := by decide +kernel
theorem ex_word : wordR exN = [97, 98, 97, 98, 97, 98, 97, 98] ∧ wordE exN = 0 := by decide +kernel
theorem ex_wordI : wordR exI = [66, 65, 66, 65, 66, 65, 66, 65] := by decide +kernel
theorem ex_at5 : atB exN 5 = 98 ∧ atE exN 5 = 0 := by decide +kernel
theorem ex_at8 : atE exN 8 = 1 := by decide +kernel
theorem ex_inv : (invRope exN).map (fun x => (x.word.data.toList, x.l, x.r, x.t)) = exI.map (fun x => (x.word.data.toList, x.l, x.r, x.t)) := by decide +kernel
theorem ex_pow : (powRope exN 144115188075855872).map (fun x => (x.word.data.toList, x.l, x.r, x.t)) = exP.map (fun x => (x.word.data.toList, x.l, x.r, x.t)) := by decide +kernel
theorem ex_powE : powErr exN 144115188075855872 = 0 := by decide +kernel
theorem ex_lenP : lenI exP = 1152921504606846976 := by decide +kernel
theorem ex_over : powErr exN 144115188075855873 = 2 := by decide +kernel
theorem ex_dif : difI (wordOf exN) (wordOf exW) = 5 := by decide +kernel
theorem ex_same : difI (wordOf exN) (wordOf exN) = -1 := by decide +kernel
theorem ex_bad : errI exZ = 20 := by decide +kernel
theorem nd_inj : ∀ (r s : List Nd), r.map (fun x => (x.word.data.toList, x.l, x.r, x.t)) = s.map (fun x => (x.word.data.toList, x.l, x.r, x.t)) → r = s := by
  intro r
  induction r with
  | nil => intro s h; cases s with | nil => rfl | cons y t => simp at h
  | cons x r ih =>
    intro s h
    cases s with
    | nil => simp at h
    | cons y t =>
      simp only [List.map_cons, List.cons.injEq, Prod.mk.injEq] at h
      rw [ih t h.2]
      obtain ⟨⟨⟨a⟩⟩, b, c, d⟩ := x
      obtain ⟨⟨⟨a'⟩⟩, b', c', d'⟩ := y
      obtain ⟨⟨h1, h2, h3, h4⟩, _⟩ := h
      simp only at h1 h2 h3 h4
      subst h1 h2 h3 h4
      rfl

/-- A rope that was just built. -/
theorem own_new (w : World) (r : List Nd) (n : Nat) (hn : r.length = n) (hmx : n ≤ maxLen) (cs : Array Value) (hcs : cs = (nodesC r).toArray) : (w.alloc (.cells cs 68)).ownsRow w.heap.size 68 4 (.slice (some ⟨w.heap.size, 0, none⟩) n n) n (nodesC r) := by
  subst hn hcs
  exact ⟨nodesC_len r, .inr ⟨w.heap.size, r.length, (nodesC r).toArray, rfl, Nat.le_refl _, heap_alloc_new w _, Nat.le_refl _, hmx, nodesC_len r, by rw [← nodesC_len]; simp⟩⟩

theorem small_rope {r : List Nd} (h : r.all (fun x => decide (x.word.size ≤ 100)) = true) : ∀ x ∈ r, x.word.size ≤ maxLen := by
  intro x hx
  have := List.all_eq_true.1 h x hx
  simp only [decide_eq_true_eq] at this
  unfold maxLen; omega

def ExP (w : World) (e : Ending) (w' : World) : Prop := e = .returned (.slice (some ⟨w.heap.size, 0, none⟩) 3 3) ∧ RopeAt w' (some ⟨w.heap.size, 0, none⟩) exN ∧ Below w.heap.size w w'
theorem example_any (w : World) : Calls Tryz.prog 36 #[] w (ExP w) := by
  go_enter Tryz.func36, Tryz.ntmps36
  go_wp2
  go_ret
  exact ⟨rfl, ropeAt_own (B := w.heap.size) (cap := 3) (own_new w exN 3 rfl (by decide) _ rfl) (small_rope (by decide +kernel)), (Below.refl _ _).alloc (Nat.le_refl _) _⟩

/-- How sane goes on. -/
structure Sn (w0 : World) (A : Option Addr) (w : World) : Prop where
  tabs : Tabs w
  rope : RopeAt w A exN
  below : Below w0.heap.size w0 w
theorem Sn.on {w0 : World} {A : Option Addr} {w w' : World} (h : Sn w0 A w) (hb : Below w.heap.size w w') : Sn w0 A w' :=
  ⟨h.tabs.on hb, h.rope.on hb, h.below.trans (hb.mono h.below.size)⟩

theorem n_len (w0 w : World) (A : Addr) (h : Sn w0 (some A) w) : Calls Tryz.prog 8 #[.slice (some A) 3 3] w fun e w' => e = .returned (.tuple #[.int .i64 8, .int .i64 0]) ∧ Sn w0 (some A) w' := by
  refine (Len_any (some A) exN 3 w h.tabs h.rope (by decide)).mono ?_
  rintro e w' ⟨rfl, hb⟩
  exact ⟨by rw [ex_len.1, ex_len.2], h.on hb⟩
theorem n_word (w0 w : World) (A : Addr) (h : Sn w0 (some A) w) : Calls Tryz.prog 18 #[.slice (some A) 3 3] w fun e w' => e = .returned (.tuple #[.string ⟨#[97, 98, 97, 98, 97, 98, 97, 98]⟩, .int .i64 0]) ∧ Sn w0 (some A) w' := by
  refine (Word_any (some A) exN 3 w h.tabs h.rope (by decide)).mono ?_
  rintro e w' ⟨rfl, hb⟩
  exact ⟨by rw [ex_word.1, ex_word.2], h.on hb⟩
theorem n_at5 (w0 w : World) (A : Addr) (h : Sn w0 (some A) w) : Calls Tryz.prog 16 #[.slice (some A) 3 3, .int .i64 5] w fun e w' => e = .returned (.tuple #[.int .u8 98, .int .i64 0]) ∧ Sn w0 (some A) w' := by
  refine (At_any (some A) exN 3 5 w h.tabs h.rope (by decide)).mono ?_
  rintro e w' ⟨rfl, hb⟩
  exact ⟨by rw [ex_at5.1, ex_at5.2]; rfl, h.on hb⟩
theorem n_at8 (w0 w : World) (A : Addr) (h : Sn w0 (some A) w) : Calls Tryz.prog 16 #[.slice (some A) 3 3, .int .i64 8] w fun e w' => e = .returned (.tuple #[.int .u8 (atB exN 8).toNat, .int .i64 1]) ∧ Sn w0 (some A) w' := by
  refine (At_any (some A) exN 3 8 w h.tabs h.rope (by decide)).mono ?_
  rintro e w' ⟨rfl, hb⟩
  exact ⟨by rw [ex_at8], h.on hb⟩
theorem n_inv (w0 w : World) (A : Addr) (h : Sn w0 (some A) w) : Calls Tryz.prog 25 #[.slice (some A) 3 3] w fun e w' => ∃ A' cap', e = .returned (.tuple #[.slice A' 3 cap', .int .i64 0]) ∧ RopeAt w' A' exI ∧ Sn w0 (some A) w' := by
  refine (Inverse_any (some A) exN 3 w h.tabs h.rope (by simp) (by decide)).mono ?_
  rintro e w' ⟨A', cap', rfl, hown, hb⟩
  rw [nd_inj _ _ ex_inv] at *
  exact ⟨A', cap', by rw [ex_len.2]; rfl, ropeAt_own hown (small_rope (by decide +kernel)), h.on hb⟩
theorem n_wordI (w0 w : World) (A : Addr) (A' : Option Addr) (cap' : Nat) (h : Sn w0 (some A) w) (hr : RopeAt w A' exI) : Calls Tryz.prog 18 #[.slice A' 3 cap'] w fun e w' => e = .returned (.tuple #[.string ⟨#[66, 65, 66, 65, 66, 65, 66, 65]⟩, .int .i64 (wordE exI)]) ∧ Sn w0 (some A) w' := by
  refine (Word_any A' exI cap' w h.tabs hr (by decide)).mono ?_
  rintro e w' ⟨rfl, hb⟩
  exact ⟨by rw [ex_wordI], h.on hb⟩
theorem n_pow (w0 w : World) (A : Addr) (h : Sn w0 (some A) w) : Calls Tryz.prog 24 #[.slice (some A) 3 3, .int .i64 144115188075855872] w fun e w' => ∃ A' cap', e = .returned (.tuple #[.slice A' 4 cap', .int .i64 0]) ∧ RopeAt w' A' exP ∧ Sn w0 (some A) w' := by
  refine (Power_any (some A) exN 3 144115188075855872 w h.tabs h.rope (by simp) (by decide)).mono ?_
  rintro e w' ⟨A', cap', rfl, hown, hb⟩
  rw [nd_inj _ _ ex_pow] at *
  exact ⟨A', cap', by rw [ex_powE]; rfl, ropeAt_own hown (small_rope (by decide +kernel)), h.on hb⟩
theorem n_lenP (w0 w : World) (A : Addr) (A' : Option Addr) (cap' : Nat) (h : Sn w0 (some A) w) (hr : RopeAt w A' exP) : Calls Tryz.prog 8 #[.slice A' 4 cap'] w fun e w' => e = .returned (.tuple #[.int .i64 1152921504606846976, .int .i64 (errI exP)]) ∧ Sn w0 (some A) w' := by
  refine (Len_any A' exP cap' w h.tabs hr (by decide)).mono ?_
  rintro e w' ⟨rfl, hb⟩
  exact ⟨by rw [ex_lenP], h.on hb⟩
theorem n_over (w0 w : World) (A : Addr) (h : Sn w0 (some A) w) : Calls Tryz.prog 24 #[.slice (some A) 3 3, .int .i64 144115188075855873] w fun e w' => ∃ v, e = .returned (.tuple #[v, .int .i64 2]) ∧ Sn w0 (some A) w' := by
  refine (Power_any (some A) exN 3 144115188075855873 w h.tabs h.rope (by simp) (by decide)).mono ?_
  rintro e w' ⟨A', cap', rfl, hown, hb⟩
  exact ⟨_, by rw [ex_over], h.on hb⟩
theorem n_dif (w0 w : World) (A : Addr) (h : Sn w0 (some A) w) : Calls Tryz.prog 26 #[.slice (some A) 3 3, .slice (some ⟨w.heap.size, 0, none⟩) 1 1] (w.alloc (.cells #[.string ⟨#[97, 98, 97, 98, 97]⟩, .int .i64 0, .int .i64 0, .int .i64 0] 68)) fun e w' => e = .returned (.tuple #[.int .i64 5, .int .i64 0]) ∧ Sn w0 (some A) w' := by
  have hb : Below w.heap.size w (w.alloc (.cells #[.string ⟨#[97, 98, 97, 98, 97]⟩, .int .i64 0, .int .i64 0, .int .i64 0] 68)) := (Below.refl _ _).alloc (Nat.le_refl _) _
  have h1 := h.on hb
  refine (Differ_short (some A) (some ⟨w.heap.size, 0, none⟩) exN exW 3 1 _ _ ex_lens ex_lensW (by decide) (by decide) _ h1.tabs h1.rope (ropeAt_own (own_new w exW 1 rfl (by decide) _ rfl) (small_rope (by decide +kernel)))).mono ?_
  rintro e w' ⟨rfl, hb⟩
  exact ⟨by rw [ex_dif], h1.on hb⟩
theorem n_same (w0 w : World) (A : Addr) (h : Sn w0 (some A) w) : Calls Tryz.prog 26 #[.slice (some A) 3 3, .slice (some A) 3 3] w fun e w' => e = .returned (.tuple #[.int .i64 (-1), .int .i64 0]) ∧ Sn w0 (some A) w' := by
  refine (Differ_short (some A) (some A) exN exN 3 3 _ _ ex_lens ex_lens (by decide) (by decide) _ h.tabs h.rope h.rope).mono ?_
  rintro e w' ⟨rfl, hb⟩
  exact ⟨by rw [ex_same], h.on hb⟩
theorem n_bad (w0 w : World) (A : Addr) (h : Sn w0 (some A) w) : Calls Tryz.prog 13 #[.slice (some ⟨w.heap.size, 0, none⟩) 1 1] (w.alloc (.cells #[.string ⟨#[]⟩, .int .i64 0, .int .i64 0, .int .i64 3] 68)) fun e w' => e = .returned (.int .i64 20) ∧ Sn w0 (some A) w' := by
  have hb : Below w.heap.size w (w.alloc (.cells #[.string ⟨#[]⟩, .int .i64 0, .int .i64 0, .int .i64 3] 68)) := (Below.refl _ _).alloc (Nat.le_refl _) _
  have h1 := h.on hb
  refine (Check_any (some ⟨w.heap.size, 0, none⟩) exZ 1 _ h1.tabs (ropeAt_own (own_new w exZ 1 rfl (by decide) _ rfl) (small_rope (by decide +kernel))) (by decide)).mono ?_
  rintro e w' ⟨rfl, hb⟩
  exact ⟨by rw [ex_bad], h1.on hb⟩
end Go.Proofs.YtgklmcinbaghmaaGreatDoor
