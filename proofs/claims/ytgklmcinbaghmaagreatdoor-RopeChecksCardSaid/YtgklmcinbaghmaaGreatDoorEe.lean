/-
  Our own text, in the proof of the law RopeChecks of package rope (cayleylaw02). Proved here: the evaluator's closure at arrays of sums, at a leaf that is not known yet. Conditions: the rope lies in memory below the closure's own blocks; the listed table lies as the program lays it.
-/
import Derived.Test.YtgklmcinbaghmaaGreatDoorEd
namespace Go.Proofs.YtgklmcinbaghmaaGreatDoor
open Go Go.RowKit

set_option maxHeartbeats 4000000 in
set_option maxRecDepth 100000 in
theorem val_leaf (S : List Int) (hS : S.length = 8) (B : Nat) (a : Addr) (len cap : Nat) (n : Nat) (f : Int → Option Value) (w : World) (ht : Tabs w) (h : EnvS w B (.slice (some a) len cap) sumM n f) (k : Nat) (hk : k < len) (hlen : len ≤ 4000) (hn : n ≤ 4000) (hf : f k = none)
    (x : Nd) (hx : NodeAt w (a.add (k * 4)) x) (ha : (a.add (k * 4)).block < B) (hword : x.word.data.toList ≠ []) (hlf : leafB x.word.data.toList = true) (hSx : S = sumW x.word.data.toList) :
    Calls Tryz.prog 59 (argsS k B) w fun e w' => e = .returned (aggS S) ∧ EnvS w' B (.slice (some a) len cap) sumM (n + 1) (putF f k (aggS S)) ∧ w.grownBy w' (some (B + 2)) := by
  have hlt := h.lt
  have h1 := h.on ((Below.refl w.heap.size w).alloc (Nat.le_refl _) (.cells zCells 55))
  have hl := h1.memo.look_none Tryz.underlying96 (zero55 _) k (wf_nat (by omega)) hf
  have hc : (w.alloc (.cells zCells 55)).cell? ⟨B + 3, 0, none⟩ = some (.map (some (B + 2))) := h1.known.cell 0
  obtain ⟨b0, b1, hB0, hsz2⟩ := two_new w
  have h2 := h.on hB0
  have G2 := gb_below hB0 (some (B + 2))
  obtain ⟨s, l, q, t⟩ := x
  simp only at hword hlf hSx
  have hs100 := leafB_size hlf
  have hall : s.data.toList.all (letterB 8) = true := by
    unfold leafB at hlf; rw [Bool.and_eq_true] at hlf; exact hlf.2
  have HK := Lib.hid (fun w0 => by have := kindOf_any ⟨s, l, q, t⟩ w0; rw [kindI_leaf hword] at this; exact this)
  have HH := Lib.hid h2
  have HX := Lib.hid hx
  have HT := Lib.hid ht
  have HALL := Lib.hid hall
  have HG2 := Lib.hid G2
  have HSX := Lib.hid hSx
  have hkz : decide ((k : Int) < 0) = false := by simp
  clear h h1 h2 hB0 hf hword hlf hx ht hall G2 hSx
  go_enter Tryz.func59, Tryz.ntmps59
  go_wp2_with (first
    | ((with_reducible refine store_blk rfl (.tmp 7) (.tmp 14) rfl (w.heap.size + 1) zs rfl rfl zs b1 rfl rfl ?_); intro w3 b3 g3; have b0' := b0.gb g3 (by simp); have G3 := gb_trans HG2.out g3 (fun g e => by cases e; left; omega); have E3 := HH.out.gb g3 (fun g e => by cases e; omega); have N3 := HX.out.on (below_gb G3 (by omega)) ha; have cr := E3.rope.cell 0; obtain ⟨f0, f1, f2, f3⟩ := N3; simp only at f0 f1 f2 f3; have HG3 := Lib.hid G3; have HE3 := Lib.hid E3; clear G3 E3 hl hc))
  refine (HK.out _).mono ?_; rintro e w5 ⟨rfl, hb5⟩
  have hB4 : Below w3.heap.size w3 (w3.alloc (.cells #[.string s, .int .i64 l, .int .i64 q, .int .i64 t] 68)) := (Below.refl _ w3).alloc (Nat.le_refl _) _
  have hn4 := Blk.new w3 68 #[.string s, .int .i64 l, .int .i64 q, .int .i64 t]
  have hb35 : Below w3.heap.size w3 w5 := hB4.trans (hb5.mono hB4.size)
  have E5 := HE3.out.on hb35
  have c31 : w5.cell? ⟨B + 1, 0, none⟩ = some (.func (.func 31) #[] #[]) := E5.mean.cell 0
  have cN : w5.cell? ⟨w3.heap.size, 0, none⟩ = some (.string s) := (hn4.below hb5 (by simp)).cell 0
  have z0 := b0'.lt
  have z1 := b3.lt
  have v0 := b0'.below hb35 z0
  have v1 := b3.below hb35 z1
  have G5 := gb_trans HG3.out (gb_below hb35 none) (fun g e => by cases e)
  have hL := s_leaf s w5 (HT.out.below (show 0 < B by have := lt_of_cell f0; have hz := HT.out.one; omega) (below_gb G5 (by omega))) hs100 HALL.out
  rw [← HSX.out] at hL
  have HE5 := Lib.hid E5
  have HG5 := Lib.hid G5
  have z3 := hb35.size
  clear hb5 hB4 hn4 hb35 E5 G5 f0 f1 f2 f3 cr b0' b3
  go_wp2_with (first
    | (go_at_call 31; refine hL.mono ?_; rintro e w6 ⟨rfl, hb6⟩; have E6 := HE5.out.on hb6; have v0' := v0.below hb6 v0.lt; have v1' := v1.below hb6 v1.lt; have HG6 := Lib.hid (gb_trans HG5.out (gb_below hb6 none) (fun g e => by cases e)); have HE6 := Lib.hid E6; have z6 := hb6.size; clear E6 hb6)
    | ((with_reducible refine store_blk rfl (.tmp 7) (.tmp 45) rfl (w.heap.size + 1) S rfl rfl zs v1' rfl hS ?_); intro w7 b7 g7; have v0'' := v0'.gb g7 (by simp); have E7 := HE6.out.gb g7 (fun g e => by cases e; omega); have ck := E7.known.cell 0; have HG7 := Lib.hid (gb_trans HG6.out g7 (fun g e => by cases e; left; omega)); have HE7 := Lib.hid E7; clear E7 g7)
    | (with_reducible refine load_blk rfl (.tmp 7) rfl (w.heap.size + 1) S rfl b7 hS ?_)
    | (at_mapUpdate; refine wpList_mapUpdate_memo w7 rfl _ _ _ 96 rfl 55 Tryz.underlying96 (B + 2) n f rfl HE7.out.memo (by unfold maxLen; omega) k rfl (wf_nat (by omega)) (aggS S) rfl ?_; intro w8 hm8 hg8; have b8 := b7.gb hg8 (by simp; omega); have v8 := v0''.gb hg8 (by simp; omega))
    | (with_reducible refine load_blk rfl (.tmp 7) rfl (w.heap.size + 1) S rfl b8 hS ?_)
    | ((with_reducible refine store_blk rfl (.tmp 6) (.tmp 60) rfl w.heap.size S rfl rfl zs v8 rfl hS ?_); intro w9 b9 g9))
  refine bodyPost_ret (v := aggS S) (results_cell_row Tryz.results59 _ _ w.heap.size 55 _ (0, 0) (.array 8 3) rfl b9 und55 rfl (size_of hS)) rfl ⟨rfl, ?_, ?_⟩
  · exact (HE7.out.put hg8 hm8).gb g9 (fun g e => by cases e; omega)
  · exact gb_trans (gb_trans HG7.out hg8 (fun g e => .inr e.symm)) g9 (fun g e => by cases e; left; omega)
end Go.Proofs.YtgklmcinbaghmaaGreatDoor
