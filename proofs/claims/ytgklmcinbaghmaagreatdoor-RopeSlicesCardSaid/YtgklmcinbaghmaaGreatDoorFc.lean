/-
  Our own text, in the proof of the law RopeSlices of package rope (cayleylaw02). Proved here: the slicer's add, join and power put a node behind the others. No condition but bounds.
-/
import Derived.Test.YtgklmcinbaghmaaGreatDoorFb
import Derived.Deep.AppendLies
namespace Go.Proofs.YtgklmcinbaghmaaGreatDoor
open Go Go.RowKit

theorem Slc.on {w w' : World} {base Q P Bm B : Nat} {A : Option Addr} {cap : Nat} {a : List Nd} {L : List Nat} {o : List Nd} {Ao : Option Addr} {co n : Nat} {f : Int → Option Value}
    (h : Slc w base Q P Bm B A cap a L o Ao co n f) (hb : Below w.heap.size w w') : Slc w' base Q P Bm B A cap a L o Ao co n f :=
  ⟨h.q.below hb h.q.lt, h.p.below hb h.p.lt, own_below h.own hb.block, h.len.on hb, h.keep.on hb, h.rope.on hb, h.ropeB, h.baseQ, Nat.le_refl _⟩

theorem gbq_set (w : World) (g i : Nat) (v : Value) : w.grownBy (w.setCell ⟨g, i, none⟩ v) (some g) :=
  ⟨rfl, rfl, rfl, by simp, fun k _ hk => heap_setCell_ne w _ v k (fun e => hk (by rw [e]))⟩

/-- The row put out has grown, and the struct names the new one. -/
theorem Slc.step {w w1 : World} {base Q P Bm B : Nat} {A : Option Addr} {cap : Nat} {a : List Nd} {L : List Nat} {o o' : List Nd} {Ao Ao' : Option Addr} {co co' n : Nat} {f : Int → Option Value}
    (h : Slc w base Q P Bm B A cap a L o Ao co n f) (hg : w.grownBy w1 (rowOf Ao)) (ho : w1.ownsRow base 68 4 (.slice Ao' o'.length co') o'.length (nodesC o')) (hr : rowOf Ao' = rowOf Ao ∨ ∃ g, rowOf Ao' = some g ∧ w.heap.size ≤ g)
    (hdis : ¬ (Bm ≤ Q ∧ Q ≤ Bm + 4) ∧ ¬ (B ≤ Q ∧ Q ≤ B + 4) ∧ P ≠ Q) :
    Slc (w1.setCell ⟨Q, 3, none⟩ (.slice Ao' o'.length co')) base Q P Bm B A cap a L o' Ao' co' n f ∧ SGrow Q B (rowOf Ao) (rowOf Ao') w (w1.setCell ⟨Q, 3, none⟩ (.slice Ao' o'.length co')) := by
  obtain ⟨d1, d2, d3⟩ := hdis
  have hrow : ∀ g, rowOf Ao = some g → base ≤ g ∧ ∃ cur fz, w.heap[g]? = some (.cells cur 68 fz) := own_row h.own
  have hq1 : Blk w1 Q 85 #[.slice A a.length cap, envV 76 Bm, envV 76 B, .slice Ao o.length co] := by
    refine h.q.gb hg ?_
    intro e
    obtain ⟨_, cur, fz, e2⟩ := hrow Q e.symm
    have := (show w.heap[Q]? = _ from h.q).symm.trans e2
    simp at this
  have hsame : ∀ b, b < w.heap.size → b ≠ Q → some b ≠ rowOf Ao → (w1.setCell ⟨Q, 3, none⟩ (.slice Ao' o'.length co')).heap[b]? = w.heap[b]? := fun b hb hne hnr => by
    rw [heap_setCell_ne _ _ _ _ hne]
    exact hg.block b hb hnr
  have henv : ∀ {Bx : Nat} {ms : Array Value} {m : Nat} {ff : Int → Option Value}, EnvI w Bx (.slice A a.length cap) ms m ff → ¬ (Bx ≤ Q ∧ Q ≤ Bx + 4) → EnvI (w1.setCell ⟨Q, 3, none⟩ (.slice Ao' o'.length co')) Bx (.slice A a.length cap) ms m ff := fun hE hd => by
    refine hE.same' fun i hi hi2 => hsame i (by have := hE.lt; omega) (fun e => hd (by omega)) fun e => ?_
    obtain ⟨_, cur, fz, e2⟩ := hrow i e.symm
    exact env_row hE e2 ⟨hi, hi2⟩
  have hQrow : some Q ≠ rowOf Ao' := by
    intro e
    obtain ⟨_, cur, fz, e2⟩ := own_row ho Q e.symm
    have := (show w1.heap[Q]? = _ from hq1).symm.trans e2
    simp at this
  refine ⟨⟨?_, ?_, ?_, henv h.len d1, henv h.keep d2, ?_, h.ropeB, h.baseQ, Nat.le_refl _⟩, ?_⟩
  · have := hq1.set_ 3 (.slice Ao' o'.length co')
    exact this
  · refine (hsame P h.p.lt d3 ?_).trans h.p
    intro e
    obtain ⟨_, cur, fz, e2⟩ := hrow P e.symm
    have := (show w.heap[P]? = _ from h.p).symm.trans e2
    simp at this
  · refine ho.kept (gbq_set w1 Q 3 _) (.inr ?_)
    rw [own_block ho]
    exact fun e => hQrow e.symm
  · intro i hi
    obtain ⟨ad, e, hx, hs⟩ := h.rope i hi
    subst e
    refine ⟨ad, rfl, hx.on (B := base) ?_ ?_, hs⟩
    · have hb1 : Below base w w1 := (Below.refl base w).grown hg (by have := h.q.lt; have := h.baseQ; omega) (fun k e => (hrow k e).1)
      exact hb1.setCell (p := ⟨Q, 3, none⟩) h.baseQ _
    · have := h.ropeB ad rfl
      unfold Addr.add
      split <;> exact this
  · refine ⟨hg.os, hg.tape, hg.output, by simp; exact hg.size, fun b hb h1 _ h3 => hsame b hb h1 h3, hr⟩

theorem Slc.qrow {w : World} {base Q P Bm B : Nat} {A : Option Addr} {cap : Nat} {a : List Nd} {L : List Nat} {o : List Nd} {Ao : Option Addr} {co n : Nat} {f : Int → Option Value}
    (h : Slc w base Q P Bm B A cap a L o Ao co n f) : some Q ≠ (Value.slice Ao o.length co).ownBlock := by
  rw [own_block h.own]
  intro e
  obtain ⟨_, cur, fz, e2⟩ := own_row h.own Q e.symm
  have := (show w.heap[Q]? = _ from h.q).symm.trans e2
  simp at this

theorem ret_i {k : IntKind} {a b : Int} (h : a = b) : Ending.returned (.int k a) = .returned (.int k b) := by rw [h]

/-- How add ends. -/
def AddP (base Q P Bm B : Nat) (A : Option Addr) (cap : Nat) (a : List Nd) (L : List Nat) (o : List Nd) (Ao : Option Addr) (n : Nat) (f : Int → Option Value) (x : Nd) (w : World) (e : Ending) (w' : World) : Prop :=
  e = .returned (.int .i64 (o.length : Int)) ∧ ∃ Ao' co', Slc w' base Q P Bm B A cap a L (o ++ [x]) Ao' co' n f ∧ SGrow Q B (rowOf Ao) (rowOf Ao') w w'

set_option maxHeartbeats 2000000 in
set_option maxRecDepth 100000 in
theorem add_any {w : World} {base Q P Bm B : Nat} {A : Option Addr} {cap : Nat} {a : List Nd} {L : List Nat} {o : List Nd} {Ao : Option Addr} {co n : Nat} {f : Int → Option Value} (x : Nd)
    (h : Slc w base Q P Bm B A cap a L o Ao co n f) (hdis : ¬ (Bm ≤ Q ∧ Q ≤ Bm + 4) ∧ ¬ (B ≤ Q ∧ Q ≤ B + 4) ∧ P ≠ Q) (hlen : o.length ≤ 4000) :
    Calls Tryz.prog 66 #[.pointer (some ⟨Q, 0, none⟩), x.val] w (AddP base Q P Bm B A cap a L o Ao n f x w) := by
  obtain ⟨s, l, q, t⟩ := x
  obtain ⟨i0, hi, hz0, hz1, hz2⟩ := info_parts Tryz.info68
  have hb1 : Below w.heap.size w (w.alloc (.cells #[.string s, .int .i64 l, .int .i64 q, .int .i64 t] 68)) := (Below.refl _ w).alloc (Nat.le_refl _) _
  have h1 := h.on hb1
  have h2 := h1.on ((Below.refl _ (w.alloc (.cells #[.string s, .int .i64 l, .int .i64 q, .int .i64 t] 68))).drewN 1)
  have n1 := Blk.new w 68 #[.string s, .int .i64 l, .int .i64 q, .int .i64 t]
  have HB1 := Lib.hid (hb1.drewN 1)
  have hd1 : (w.alloc (.cells #[.string s, .int .i64 l, .int .i64 q, .int .i64 t] 68)).drewN 1 = (w.alloc (.cells #[.string s, .int .i64 l, .int .i64 q, .int .i64 t] 68)).drew := rfl
  rw [hd1] at h2 HB1
  clear hd1
  have c3 : (w.alloc (.cells #[.string s, .int .i64 l, .int .i64 q, .int .i64 t] 68)).drew.cell? ⟨Q, 3, none⟩ = some (.slice Ao o.length co) := h2.q.cell 3
  have e0 : (w.alloc (.cells #[.string s, .int .i64 l, .int .i64 q, .int .i64 t] 68)).drew.cell? ⟨w.heap.size, 0, none⟩ = some (.string s) := n1.cell 0
  have e1 : (w.alloc (.cells #[.string s, .int .i64 l, .int .i64 q, .int .i64 t] 68)).drew.cell? ⟨w.heap.size, 1, none⟩ = some (.int .i64 l) := n1.cell 1
  have e2 : (w.alloc (.cells #[.string s, .int .i64 l, .int .i64 q, .int .i64 t] 68)).drew.cell? ⟨w.heap.size, 2, none⟩ = some (.int .i64 q) := n1.cell 2
  have e3 : (w.alloc (.cells #[.string s, .int .i64 l, .int .i64 q, .int .i64 t] 68)).drew.cell? ⟨w.heap.size, 3, none⟩ = some (.int .i64 t) := n1.cell 3
  have H2 := Lib.hid h2
  have hz : (w.alloc (.cells #[.string s, .int .i64 l, .int .i64 q, .int .i64 t] 68)).drew.heap.size = w.heap.size + 1 := by simp
  have HZ := Lib.hid hz
  have hbq := h.baseQ
  have hql := h.q.lt
  have c0 : w.cell? ⟨Q, 3, none⟩ = some (.slice Ao o.length co) := h.q.cell 3
  clear h h1 h2 n1 hb1 hz
  go_enter Tryz.func66, Tryz.ntmps66
  go_wp2
  have hw3 : Below (w.heap.size + 1) (w.alloc (.cells #[.string s, .int .i64 l, .int .i64 q, .int .i64 t] 68)).drew ((w.alloc (.cells #[.string s, .int .i64 l, .int .i64 q, .int .i64 t] 68)).alloc (.cells #[.string s, .int .i64 l, .int .i64 q, .int .i64 t] 68)).drew := by
    have := (((Below.refl _ (w.alloc (.cells #[.string s, .int .i64 l, .int .i64 q, .int .i64 t] 68))).alloc (Nat.le_refl _) (.cells #[.string s, .int .i64 l, .int .i64 q, .int .i64 t] 68)).drewN 1).mono (show w.heap.size + 1 ≤ _ by simp)
    exact ⟨this.os, this.tape, this.output, this.size, this.block⟩
  have h3 := H2.out.on (by rw [HZ.out]; exact hw3)
  have hnw : ∀ (j : Nat) u, (nodesC [⟨s, l, q, t⟩])[j]? = some u → ((w.alloc (.cells #[.string s, .int .i64 l, .int .i64 q, .int .i64 t] 68)).alloc (.cells #[.string s, .int .i64 l, .int .i64 q, .int .i64 t] 68)).drew.cell? ((⟨w.heap.size + 1, 0, none⟩ : Addr).add j) = some u := by
    intro j u hu
    have := news_node (w.alloc (.cells #[.string s, .int .i64 l, .int .i64 q, .int .i64 t] 68)) ⟨s, l, q, t⟩ j u hu
    rw [World.size_alloc] at this
    exact this
  have HNW := Lib.hid hnw
  clear hnw
  have HO3 := Lib.hid h3.own
  have H3 := Lib.hid h3
  have hsz3 : ((w.alloc (.cells #[.string s, .int .i64 l, .int .i64 q, .int .i64 t] 68)).alloc (.cells #[.string s, .int .i64 l, .int .i64 q, .int .i64 t] 68)).drew.heap.size = w.heap.size + 2 := by simp
  have HS3 := Lib.hid hsz3
  clear h3 hw3 hsz3
  go_region_law (first
    | (refine step_append_lies (w := ((w.alloc (.cells #[.string s, .int .i64 l, .int .i64 q, .int .i64 t] 68)).alloc (.cells #[.string s, .int .i64 l, .int .i64 q, .int .i64 t] 68)).drew) rfl (.tmp 9) (.tmp 11) 22 rfl base 68 i0 (.agg #[.string ⟨#[]⟩, .int .i64 0, .int .i64 0, .int .i64 0]) 4 40 Tryz.underlying22 hi hz0 hz1 hz2 rfl (by decide) (.slice Ao o.length co) o.length (nodesC o) rfl HO3.out ⟨w.heap.size + 1, 0, none⟩ 1 1 (nodesC [⟨s, l, q, t⟩]) rfl (by rw [nodesC_len]; rfl) HNW.out (nodesC_one _) (by omega) (by unfold maxLen; omega) (by omega) (by rw [HS3.out]; omega) (w.heap.size + 2) HS3.out ?_
       intro g c w3 hown3 hgrow3 hor hlt3; have hq3 := H3.out.q.gb hgrow3 H3.out.qrow; have r3 := hq3.cell 3; have s3 := hq3.frozen 3))
  all_goals
    have e9 : (o ++ [(⟨s, l, q, t⟩ : Nd)]).length = o.length + 1 := by simp
    have hst := H3.out.step (w1 := w3) (o' := o ++ [⟨s, l, q, t⟩]) (Ao' := some ⟨g, 0, none⟩) (co' := c) (by rw [← own_block H3.out.own]; exact hgrow3) (by rw [e9, nodesC_append]; exact hown3)
      (by
        rcases hor with e | e
        · left; rw [← own_block H3.out.own, e]; rfl
        · right; exact ⟨g, rfl, by rw [HS3.out, e]; omega⟩) hdis
    rw [e9] at hst
    have c4 : (w3.setCell ⟨Q, 3, none⟩ (.slice (some ⟨g, 0, none⟩) (o.length + 1) c)).cell? ⟨Q, 3, none⟩ = some (.slice (some ⟨g, 0, none⟩) (o.length + 1) c) := by
      have := hst.1.q.cell 3
      rw [e9] at this
      exact this
    have HST := Lib.hid hst
    clear hst hown3 hgrow3 hor hq3 r3 s3 c0 c3 e0 e1 e2 e3 e9
    generalize w3.setCell ⟨Q, 3, none⟩ (.slice (some ⟨g, 0, none⟩) (o.length + 1) c) = w4 at *
    go_wp2
    go_ret
    refine ⟨ret_i (by omega), some ⟨g, 0, none⟩, c, HST.out.1, ?_⟩
    refine SGrow.trans (SGrow.of_below ?_) HST.out.2
    have := HB1.out.alloc (by simp) (.cells #[.string s, .int .i64 l, .int .i64 q, .int .i64 t] 68)
    exact ⟨this.os, this.tape, this.output, this.size, this.block⟩
end Go.Proofs.YtgklmcinbaghmaaGreatDoor
