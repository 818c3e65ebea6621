/-
  Our own text, in the proof of the law RopeChecks of package rope (cayleylaw02). Proved here: the evaluator's closure at arrays of sums, at a join. Conditions: the rope lies in memory below the closure's own blocks; the listed table lies as the program lays it.
-/
import Derived.Test.YtgklmcinbaghmaaGreatDoorEf
namespace Go.Proofs.YtgklmcinbaghmaaGreatDoor
open Go Go.RowKit

set_option maxHeartbeats 4000000 in
set_option maxRecDepth 100000 in
theorem val_join (r : List Nd) (B : Nat) (a : Addr) (cap : Nat) (n : Nat) (f : Int → Option Value) (w : World) (ht : Tabs w) (h : EnvS w B (.slice (some a) r.length cap) sumM n f) (hkn : KnowS r f) (hn : n ≤ cntF r.length f) (hr : RopeAt w (some a) r) (hab : a.block < B) (hB0 : 0 < B) (hlen : r.length ≤ 4000)
    (k : Nat) (hk : k < r.length) (hf : f k = none) (j m : Nat) (hj : j < k) (hm : m < k) (hword : r[k].word.data.toList = []) (hxl : r[k].l = j) (hxr : r[k].r = m) (hxt : r[k].t = 0)
    (hS : nodeS r k = addS (nodeS r j) (nodeS r m)) (okj : okS (nodeS r j)) (okm : okS (nodeS r m)) (okk : okS (nodeS r k))
    (IH : ∀ W n f, EnvS W B (.slice (some a) r.length cap) sumM n f → KnowS r f → n ≤ cntF r.length f → Tabs W → RopeAt W (some a) r → Calls Tryz.prog 59 (argsS j B) W (ValP r B (.slice (some a) r.length cap) W j f))
    (IH2 : ∀ W n f, EnvS W B (.slice (some a) r.length cap) sumM n f → KnowS r f → n ≤ cntF r.length f → Tabs W → RopeAt W (some a) r → Calls Tryz.prog 59 (argsS m B) W (ValP r B (.slice (some a) r.length cap) W m f)) :
    Calls Tryz.prog 59 (argsS k B) w (ValP r B (.slice (some a) r.length cap) w k f) := by
  have hlt := h.lt
  have h1 := h.on ((Below.refl w.heap.size w).alloc (Nat.le_refl _) (.cells zCells 55))
  have hl := h1.memo.look_none Tryz.underlying96 (zero55 _) k (wf_nat (by omega)) hf
  have hc : (w.alloc (.cells zCells 55)).cell? ⟨B + 3, 0, none⟩ = some (.map (some (B + 2))) := h1.known.cell 0
  obtain ⟨b0, b1, hT0, hsz2⟩ := two_new w
  have h2 := h.on hT0
  have G2 := gb_below hT0 (some (B + 2))
  obtain ⟨a', ea, hx, _⟩ := hr k hk
  cases ea
  have ha : (a.add (k * 4)).block < B := by unfold Addr.add; split <;> exact hab
  obtain ⟨v0, v1, v2, v3, v4, v5, v6, v7, hv⟩ := eight (nodeS_len r k)
  have hpw := fun W => s_join (nodeS r j) (nodeS r m) W (nodeS_len r j) (nodeS_len r m) okj okm (by rw [← hS]; exact okk)
  rw [← hS, hv] at hpw
  have HPW := Lib.hid (show ∀ W, Calls Tryz.prog 33 #[aggS (nodeS r j), aggS (nodeS r m)] W fun e w' => e = .returned (.agg #[.int .i64 v0, .int .i64 v1, .int .i64 v2, .int .i64 v3, .int .i64 v4, .int .i64 v5, .int .i64 v6, .int .i64 v7]) ∧ Below W.heap.size W w' from hpw)
  generalize r[k] = x at *
  obtain ⟨s, l, q, t⟩ := x
  simp only at hword hxl hxr hxt
  subst hxl hxr hxt
  have HK := Lib.hid (fun w0 => by have := kindOf_any ⟨s, (j : Int), (m : Int), 0⟩ w0; rw [kindI_join hword rfl] at this; exact this)
  have HH := Lib.hid h2
  have HX := Lib.hid hx
  have HT := Lib.hid ht
  have HR := Lib.hid hr
  have HG2 := Lib.hid G2
  have HV := Lib.hid hv
  have HF := Lib.hid hf
  have HKN := Lib.hid hkn
  have HIH := Lib.hid IH
  have HIH2 := Lib.hid IH2
  have hkz : decide ((k : Int) < 0) = false := by simp
  clear h h1 h2 hT0 hf hword hx ht hr G2 hv hkn IH IH2 hS okj okm okk hpw
  go_enter Tryz.func59, Tryz.ntmps59
  go_wp2_with (first
    | ((with_reducible refine store_blk rfl (.tmp 7) (.tmp 14) rfl (w.heap.size + 1) zs rfl rfl zs b1 rfl rfl ?_); intro w3 b3 g3; have b0' := b0.gb g3 (by simp); have G3 := gb_trans HG2.out g3 (fun g e => by cases e; left; omega); have E3 := HH.out.gb g3 (fun g e => by cases e; omega); have N3 := HX.out.on (below_gb G3 (by omega)) ha; have cr := E3.rope.cell 0; obtain ⟨f0, f1, f2, f3⟩ := N3; simp only at f0 f1 f2 f3; have HG3 := Lib.hid G3; have HE3 := Lib.hid E3; clear G3 E3 hl hc))
  refine (HK.out _).mono ?_; rintro e w5 ⟨rfl, hb5⟩
  have hB4 : Below w3.heap.size w3 (w3.alloc (.cells #[.string s, .int .i64 (j : Int), .int .i64 (m : Int), .int .i64 0] 68)) := (Below.refl _ w3).alloc (Nat.le_refl _) _
  have hn4 := Blk.new w3 68 #[.string s, .int .i64 (j : Int), .int .i64 (m : Int), .int .i64 0]
  have hb35 : Below w3.heap.size w3 w5 := hB4.trans (hb5.mono hB4.size)
  have n5 := hn4.below hb5 (by simp)
  have E5 := HE3.out.on hb35
  have z0 := b0'.lt
  have z1 := b3.lt
  have zz := E5.lt
  have zn := n5.lt
  have o0 := b0'.below hb35 z0
  have o1 := b3.below hb35 z1
  have G5 := gb_trans HG3.out (gb_below hb35 none) (fun g e => by cases e)
  have hBw := below_gb G5 (by omega)
  -- the region's start
  have D5 := E5.gb (gb_drew w5 none) (fun g e => by cases e)
  have T5 := HT.out.below hB0 (hBw.drewN 1)
  have R5 := rope_below HR.out (hBw.drewN 1) hab
  have C1 := HIH.out w5.drew n f D5 HKN.out hn T5 R5
  have z5 := zeroAt (o1.gb (gb_drew w5 none) (by simp))
  have p1 : w5.drew.cell? ⟨B + 1, 1, none⟩ = some (.func (.func 33) #[] #[]) := D5.mean.cell 1
  have p2 : w5.drew.cell? ⟨B + 4, 0, none⟩ = some (envV 59 B) := D5.self.cell 0
  have p3 : w5.drew.cell? ⟨w3.heap.size, 1, none⟩ = some (.int .i64 (j : Int)) := n5.cell 1
  have p4 : w5.drew.cell? ⟨w3.heap.size, 2, none⟩ = some (.int .i64 (m : Int)) := n5.cell 2
  have HD5 := Lib.hid D5
  have HC1 := Lib.hid C1
  have HG5 := Lib.hid (gb_trans G5 (gb_drew w5 none) (fun g e => by cases e))
  have HN5 := Lib.hid (n5.gb (gb_drew w5 none) (by simp))
  have HO0 := Lib.hid (o0.gb (gb_drew w5 none) (by simp))
  have HO1 := Lib.hid (o1.gb (gb_drew w5 none) (by simp))
  clear hb5 hB4 hn4 hb35 E5 G5 f0 f1 f2 f3 cr b0' b3 o0 o1 n5 D5 C1 T5 R5 hBw
  go_wp2
  go_region_held3 (fun W => W.cell? ⟨B + 1, 1, none⟩ = some (.func (.func 33) #[] #[]) ∧ W.cell? ⟨B + 4, 0, none⟩ = some (envV 59 B) ∧ W.cell? ⟨w3.heap.size, 1, none⟩ = some (.int .i64 (j : Int)) ∧ W.cell? ⟨w3.heap.size, 2, none⟩ = some (.int .i64 (m : Int)))
    (first | with_reducible exact ⟨p1, p2, p3, p4⟩ | with_reducible exact ⟨s1, s2, s3, s4⟩ | with_reducible exact ⟨q1, q2, q3, q4⟩ | with_reducible exact ⟨r1, r2, r3, r4⟩ | exact ⟨far8 r1 (by simp; omega), far8 r2 (by simp; omega), far8 r3 (by simp; omega), far8 r4 (by simp; omega)⟩)
    (first
      | (go_at_call 59; ((with_reducible refine HC1.out.mono ?_); rintro e wa ⟨rfl, na, fa, Ea, Ka, ca, ua, Ga⟩; have nab := HN5.out.gb Ga (by simp; omega); have s1 : wa.cell? ⟨B + 1, 1, none⟩ = some (.func (.func 33) #[] #[]) := Ea.mean.cell 1; have s2 : wa.cell? ⟨B + 4, 0, none⟩ = some (envV 59 B) := Ea.self.cell 0; have s3 : wa.cell? ⟨w3.heap.size, 1, none⟩ = some (.int .i64 (j : Int)) := nab.cell 1; have s4 : wa.cell? ⟨w3.heap.size, 2, none⟩ = some (.int .i64 (m : Int)) := nab.cell 2; have HNa := Lib.hid nab; have HEa := Lib.hid Ea; have HUa := Lib.hid ua; have HOa1 := Lib.hid (HO1.out.gb Ga (by simp; omega)); have HOa0 := Lib.hid (HO0.out.gb Ga (by simp; omega)); have GGa := gb_trans HG5.out Ga (fun _ e => .inr e.symm); have hBa := below_gb GGa (by omega); have HC2 := Lib.hid (HIH2.out wa na fa Ea Ka ca (HT.out.below hB0 hBa) (rope_below HR.out hBa hab)); have HGa := Lib.hid GGa; clear nab Ea ua Ka Ga GGa hBa z5 p1 p2 p3 p4))
      | (go_at_call 59; ((with_reducible refine HC2.out.mono ?_); rintro e w6 ⟨rfl, n6, f6, E6, K6, c6, u6, G6⟩; have n6b := HNa.out.gb G6 (by simp; omega); have q1 : w6.cell? ⟨B + 1, 1, none⟩ = some (.func (.func 33) #[] #[]) := E6.mean.cell 1; have q2 : w6.cell? ⟨B + 4, 0, none⟩ = some (envV 59 B) := E6.self.cell 0; have q3 : w6.cell? ⟨w3.heap.size, 1, none⟩ = some (.int .i64 (j : Int)) := n6b.cell 1; have q4 : w6.cell? ⟨w3.heap.size, 2, none⟩ = some (.int .i64 (m : Int)) := n6b.cell 2; have HN6 := Lib.hid n6b; have HE6 := Lib.hid E6; have HU6 := Lib.hid u6; have HK6 := Lib.hid K6; have HO61 := Lib.hid (HOa1.out.gb G6 (by simp; omega)); have HO60 := Lib.hid (HOa0.out.gb G6 (by simp; omega)); have HG6 := Lib.hid (gb_trans HGa.out G6 (fun _ e => .inr e.symm)); clear n6b E6 u6 K6 G6 s1 s2 s3 s4))
      | (go_at_call 33; refine (HPW.out w6).mono ?_; rintro e w7 ⟨rfl, hb7⟩; have E7 := HE6.out.on hb7; have n7b := HN6.out.below hb7 HN6.out.lt; have r1 : w7.cell? ⟨B + 1, 1, none⟩ = some (.func (.func 33) #[] #[]) := E7.mean.cell 1; have r2 : w7.cell? ⟨B + 4, 0, none⟩ = some (envV 59 B) := E7.self.cell 0; have r3 : w7.cell? ⟨w3.heap.size, 1, none⟩ = some (.int .i64 (j : Int)) := n7b.cell 1; have r4 : w7.cell? ⟨w3.heap.size, 2, none⟩ = some (.int .i64 (m : Int)) := n7b.cell 2; have HO71 := Lib.hid (HO61.out.below hb7 HO61.out.lt); have HO70 := Lib.hid (HO60.out.below hb7 HO60.out.lt); have HG7 := Lib.hid (gb_trans HG6.out (gb_below hb7 none) (fun _ e => by cases e)); have x7 := zeroAt HO71.out; obtain ⟨⟨y0, y1, y2, y3, y4, y5, y6, y7⟩, x0, x1, x2, x3, x4, x5, x6, x7⟩ := x7; have HE7 := Lib.hid E7; clear n7b E7 hb7 q1 q2 q3 q4))
  have hs8 := set8_is w7 (w.heap.size + 1) v0 v1 v2 v3 v4 v5 v6 v7 HO71.out
  rw [← HV.out] at hs8
  unfold set8 at hs8
  clear y0 y1 y2 y3 y4 y5 y6 y7 x0 x1 x2 x3 x4 x5 x6 x7 r1 r2 r3 r4
  rename_i hHeld
  clear hHeld
  generalize (((((((w7.setCell ⟨w.heap.size + 1, 0, none⟩ (.int .i64 v0)).setCell ⟨w.heap.size + 1, 1, none⟩ (.int .i64 v1)).setCell ⟨w.heap.size + 1, 2, none⟩ (.int .i64 v2)).setCell ⟨w.heap.size + 1, 3, none⟩ (.int .i64 v3)).setCell ⟨w.heap.size + 1, 4, none⟩ (.int .i64 v4)).setCell ⟨w.heap.size + 1, 5, none⟩ (.int .i64 v5)).setCell ⟨w.heap.size + 1, 6, none⟩ (.int .i64 v6)).setCell ⟨w.heap.size + 1, 7, none⟩ (.int .i64 v7) = w8 at *
  obtain ⟨b8, g8⟩ := hs8
  have E8 := HE7.out.gb g8 (fun g e => by cases e; omega)
  have ck := E8.known.cell 0
  have HE8 := Lib.hid E8
  have HG8 := Lib.hid (gb_trans HG7.out g8 (fun g e => by cases e; left; omega))
  have o8 := HO70.out.gb g8 (by simp)
  have hkf : f6 k = none := by rw [HU6.out k (by omega), HUa.out k (by omega)]; exact HF.out
  have hc6 := cntF_put (aggS (nodeS r k)) hkf hk
  have hcl := cntF_le r.length (putF f6 k (aggS (nodeS r k)))
  have HKF := Lib.hid hkf
  have HC6 := Lib.hid hc6
  have hn6 : n6 < 4000 := by omega
  clear E8 g8 hkf hc6 hcl
  go_wp2_with (first
    | (with_reducible refine load_blk rfl (.tmp 7) rfl (w.heap.size + 1) (nodeS r k) rfl b8 (nodeS_len r k) ?_)
    | (at_mapUpdate; refine wpList_mapUpdate_memo w8 rfl _ _ _ 96 rfl 55 Tryz.underlying96 (B + 2) n6 f6 rfl HE8.out.memo (by unfold maxLen; omega) k rfl (wf_nat (by omega)) (aggS (nodeS r k)) rfl ?_; intro w9 hm9 hg9; have b9 := b8.gb hg9 (by simp; omega); have o9 := o8.gb hg9 (by simp; omega))
    | (with_reducible refine load_blk rfl (.tmp 7) rfl (w.heap.size + 1) (nodeS r k) rfl b9 (nodeS_len r k) ?_)
    | ((with_reducible refine store_blk rfl (.tmp 6) (.tmp 60) rfl w.heap.size (nodeS r k) rfl rfl zs o9 rfl (nodeS_len r k) ?_); intro wz bz gz))
  refine bodyPost_ret (v := aggS (nodeS r k)) (results_cell_row Tryz.results59 _ _ w.heap.size 55 _ (0, 0) (.array 8 3) rfl bz und55 rfl (size_of (nodeS_len r k))) rfl ⟨rfl, n6 + 1, putF f6 k (aggS (nodeS r k)), ?_, ?_, ?_, ?_, ?_⟩
  · exact (HE8.out.put hg9 hm9).gb gz (fun g e => by cases e; omega)
  · exact HK6.out.put k hk
  · rw [HC6.out]; omega
  · intro i hi
    unfold putF
    rw [if_neg (by omega), HU6.out i (by omega), HUa.out i (by omega)]
  · exact gb_trans (gb_trans HG8.out hg9 (fun g e => .inr e.symm)) gz (fun g e => by cases e; left; omega)
end Go.Proofs.YtgklmcinbaghmaaGreatDoor
