/-
  Our own text, in the proof of the law RopeSlices of package rope (cayleylaw02). Proved here: the slicer keeps a leaf. Conditions: the nodes lie in memory as the slice says.
-/
import Derived.Test.YtgklmcinbaghmaaGreatDoorFd
namespace Go.Proofs.YtgklmcinbaghmaaGreatDoor
open Go Go.RowKit

abbrev argsK (k : Int) (B : Nat) : Array Value := #[.int .i64 k, .pointer (some ⟨B + 3, 0, none⟩), .pointer (some ⟨B, 0, none⟩), .pointer (some ⟨B + 1, 0, none⟩), .pointer (some ⟨B + 4, 0, none⟩)]
/-- Where the slicer's blocks lie. -/
structure Lie (base Q P Bm B : Nat) : Prop where
  dis : Dis Q P Bm B
  two : Bm + 4 < B
  low : base ≤ B

/-- The slicer's memory is written. -/
theorem Slc.put {w w' : World} {base Q P Bm B : Nat} {A : Option Addr} {cap : Nat} {a : List Nd} {L : List Nat} {o : List Nd} {Ao : Option Addr} {co n m : Nat} {f g : Int → Option Value}
    (h : Slc w base Q P Bm B A cap a L o Ao co n f) (hl : Lie base Q P Bm B) (hg : w.grownBy w' (some (B + 2))) (hm : MemoAt w' (B + 2) m g) :
    Slc w' base Q P Bm B A cap a L o Ao co m g ∧ SGrow Q B (rowOf Ao) (rowOf Ao) w w' := by
  obtain ⟨⟨d1, d2, d3⟩, d4, d5⟩ := hl
  have hmap : ∀ g cs t fz, w.heap[g]? = some (.cells cs t fz) → g ≠ B + 2 := by
    intro g cs t fz e1 e2
    subst e2
    obtain ⟨D, _, ⟨es, clock, e3, _⟩, _⟩ := h.keep.memo
    rw [e1] at e3; cases e3
  have hbl : Below base w w' := (Below.refl base w).grown hg (by have := h.q.lt; have := h.baseQ; omega) (fun k e => by cases e; omega)
  refine ⟨⟨h.q.gb hg (by simp; omega), h.p.gb hg (by simp; exact hmap _ _ _ _ h.p), ?_, ?_, h.keep.put hg hm, ?_, h.ropeB, h.baseQ, Nat.le_refl _⟩, ?_⟩
  · refine h.own.kept hg (.inr ?_)
    rw [own_block h.own]
    intro e
    obtain ⟨_, cur, fz, e2⟩ := own_row h.own _ e
    exact hmap _ _ _ _ e2 rfl
  · exact h.len.same' fun i h1 h2 => hg.block i (by have := h.len.lt; omega) (by simp; omega)
  · intro i hi
    obtain ⟨ad, e, hx, hs⟩ := h.rope i hi
    refine ⟨ad, e, hx.on hbl ?_, hs⟩
    have := h.ropeB ad e
    unfold Addr.add
    split <;> exact this
  · exact ⟨hg.os, hg.tape, hg.output, hg.size, fun b hb _ h2 _ => hg.block b hb (by simpa using h2), .inl rfl⟩

theorem room {a o : List Nd} {f : Int → Option Value} {k : Nat} (hf : f k = none) (hk : k < a.length) (hP : Phi a o f ≤ 4000) : o.length + 1 ≤ 4000 ∧ cntF a.length f < a.length := by
  have h1 := cntF_put (.int .i64 0) hf hk
  have h2 := cntF_le a.length (putF f k (.int .i64 0))
  unfold Phi at hP
  omega

/-- What is known behind the last node of a kept one. -/
theorem keep_end {w w3 w4 : World} {base Q P Bm B : Nat} {A : Option Addr} {cap : Nat} {a : List Nd} {L : List Nat} {o o3 : List Nd} {Ao A3 : Option Addr} {c3 n3 : Nat} {f f3 : Int → Option Value} {k idx : Nat}
    (hl : Lie base Q P Bm B) (h3 : KS w3 base Q P Bm B A cap a L o3 A3 c3 n3 f3) (hk : k < a.length) (hf3 : f3 k = none) (hext : ∃ t, o3 = o ++ t) (hP : Phi a o3 f3 ≤ Phi a o f + 1) (hhas : Has o3 idx (wordK a k)) (hlast : idx + 1 = o3.length)
    (hju : ∀ j : Int, (k : Int) < j → f3 j = f j) (hG : SGrow Q B (rowOf Ao) (rowOf A3) w w3)
    (hg : w3.grownBy w4 (some (B + 2))) (hm : MemoAt w4 (B + 2) (n3 + 1) (putF f3 k (.int .i64 (idx : Int)))) (e : Ending) (he : e = .returned (.int .i64 (idx : Int))) :
    CutP base Q P Bm B A cap a L k 0 (wordK a k) w o Ao f e w4 := by
  obtain ⟨s4, g4⟩ := h3.st.put hl hg hm
  have hc := cntF_put (.int .i64 (idx : Int)) hf3 hk
  have hcl := cntF_le a.length (putF f3 k (.int .i64 (idx : Int)))
  refine ⟨idx, o3, A3, c3, n3 + 1, putF f3 k (.int .i64 (idx : Int)), he, ⟨s4, h3.val, h3.know.put hk hhas, by rw [hc]; have := h3.cnt; omega⟩, hext, ?_, hhas, ?_, fun _ => hlast, hG.trans g4⟩
  · unfold Phi at hP ⊢
    rw [hc] at hcl ⊢
    omega
  · intro j hj
    unfold putF
    rw [if_neg (by omega)]
    exact hju j hj

set_option maxHeartbeats 2000000 in
set_option maxRecDepth 100000 in
theorem keep_leaf {w : World} {base Q P Bm B : Nat} {ad : Addr} {cap : Nat} {a : List Nd} {L : List Nat} {o : List Nd} {Ao : Option Addr} {co n : Nat} {f : Int → Option Value}
    (hl : Lie base Q P Bm B) (h : KS w base Q P Bm B (some ad) cap a L o Ao co n f) (hlen : a.length ≤ 4000) (k : Nat) (hk : k < a.length) (hf : f k = none) (hP : Phi a o f ≤ 4000)
    (hw : a[k].word.data.toList ≠ []) (hlf : leafB a[k].word.data.toList = true) (hd : wordK a k = a[k].word.data.toList) :
    Calls Tryz.prog 76 (argsK k B) w (CutP base Q P Bm B (some ad) cap a L k 0 (wordK a k) w o Ao f) := by
  obtain ⟨M, hM⟩ := h.val
  obtain ⟨r1, r2⟩ := room hf hk hP
  have hlt := h.st.keep.lt
  have hcn := h.cnt
  have hlk := h.st.keep.memo.look_none Tryz.underlying102 (zero3 w) k (wf_nat (by omega)) hf
  have hc : w.cell? ⟨B + 3, 0, none⟩ = some (.map (some (B + 2))) := h.st.keep.known.cell 0
  have hc2 : w.cell? ⟨B, 0, none⟩ = some (.slice (some ad) a.length cap) := h.st.keep.rope.cell 0
  obtain ⟨ad', e, hx, hxs⟩ := h.st.rope k hk
  cases e
  have HGR := Lib.hid (grown_leaf hM r1 a[k].word hlf hw)
  have HEQ : Hid (a[k].word.data.toList = wordK a k) := Lib.hid hd.symm
  generalize a[k] = x at *
  obtain ⟨s, l, q, t⟩ := x
  obtain ⟨f0, f1, f2, f3⟩ := hx
  simp only at f0 f1 f2 f3 hw hxs
  have hB0 : Below w.heap.size w (w.alloc (.cells #[.string s, .int .i64 l, .int .i64 q, .int .i64 t] 68)) := (Below.refl _ _).alloc (Nat.le_refl _) _
  have hK := kindOf_any ⟨s, l, q, t⟩ (w.alloc (.cells #[.string s, .int .i64 l, .int .i64 q, .int .i64 t] 68))
  rw [kindI_leaf hw] at hK
  have hblk := Blk.new w 68 #[.string s, .int .i64 l, .int .i64 q, .int .i64 t]
  have H := Lib.hid h
  have HB0 := Lib.hid hB0
  have HBLK := Lib.hid hblk
  have HL := Lib.hid hl
  have HF := Lib.hid hf
  clear h hB0 hf hw hblk hd hl hlf hM
  go_enter Tryz.func76, Tryz.ntmps76
  go_wp2_with fail
  refine hK.mono ?_; rintro e w1 ⟨rfl, hb⟩
  have hb1 := HB0.out.trans (hb.mono HB0.out.size)
  have s1 := H.out.st.on hb1
  have c4 : w1.cell? ⟨B + 1, 0, none⟩ = some (.func (.func 65) #[] #[.pointer (some ⟨P, 0, none⟩)]) := s1.keep.mean.cell 0
  have c5 : w1.cell? ⟨w.heap.size, 0, none⟩ = some (.string s) := (HBLK.out.below hb (by simp)).cell 0
  have HM := Lib.hid (leaf65_any s s1 HL.out.dis (by omega))
  have HG1 := Lib.hid (SGrow.of_below (Q := Q) (B := B) (R := rowOf Ao) hb1)
  clear hb1 hb hlk hc hc2 f0 f1 f2 f3 hK s1
  go_wp2_with (first
    | (go_at_call 65; refine HM.out.mono ?_; rintro e w2 ⟨rfl, Ao2, co2, s2, g2⟩; have c6 := s2.keep.known.cell 0; have HS2 := Lib.hid s2; have HG2 := Lib.hid g2; clear s2 g2)
    | (at_mapUpdate; refine wpList_mapUpdate_memo w2 rfl _ _ _ 102 rfl 3 Tryz.underlying102 (B + 2) n f rfl HS2.out.keep.memo (by unfold maxLen; omega) k rfl (wf_nat (by omega)) (.int .i64 (o.length : Int)) rfl ?_; intro w3 hm3 hg3))
  go_ret
  have hgr := HGR.out
  have hks := add_step (w' := w2) H.out hgr HS2.out
  have hhas : Has (o ++ [⟨s, l, q, t⟩]) o.length (wordK a k) → True := fun _ => trivial
  refine keep_end HL.out hks.1 hk HF.out ⟨_, rfl⟩ (by rw [hks.2.2]; exact Nat.le_refl _) (by rw [← HEQ.out]; exact hks.2.1) (by simp) (fun _ _ => rfl) (HG1.out.trans HG2.out) hg3 hm3 _ rfl
end Go.Proofs.YtgklmcinbaghmaaGreatDoor
