/-
  Our own text, in the proof of the law RopeChecks of package rope (cayleylaw02). Proved here: the three closures by which Sums reckons exponent sums. No condition but bounds on numbers.
-/
import Derived.Test.YtgklmcinbaghmaaGreatDoorEa
import Derived.StillTailTactics
namespace Go.Proofs.YtgklmcinbaghmaaGreatDoor
open Go Go.RowKit

theorem zero55 (w : World) : (zeroValue 55).run Tryz.prog w = .ok (.agg #[.int .i64 0, .int .i64 0, .int .i64 0, .int .i64 0, .int .i64 0, .int .i64 0, .int .i64 0, .int .i64 0]) w := by kernel_rfl
theorem und55 : Tryz.prog.underlying 55 = some (.array 8 3) := by kernel_rfl
theorem size55 : (Tryz.prog.info? 55).map (·.size) = some 8 := by kernel_rfl
/-- An array of eight sums. -/
abbrev cellsS (S : List Int) : Array Value := (ir S).toArray
abbrev aggS (S : List Int) : Value := .agg (cellsS S)
theorem cellsS_size (S : List Int) : (cellsS S).size = S.length := by simp [cellsS, ir_len]
theorem cellsS_set (S : List Int) (k : Nat) (v : Int) : (cellsS S).setIfInBounds k (.int .i64 v) = cellsS (S.set k v) := by
  unfold cellsS ir
  apply Array.ext'
  simp [List.map_set]
theorem cellsS_get (S : List Int) (k : Nat) (h : k < S.length) : (cellsS S)[k]? = some (.int .i64 (S.getD k 0)) := by
  rw [List.getElem?_toArray]; exact ir_get S k h
theorem size_of {S : List Int} (h : S.length = 8) : (Tryz.prog.info? 55).map (·.size) = some (cellsS S).size := by rw [cellsS_size, h]; exact size55
theorem cells_one (S : List Int) : (cellsS S).all (·.oneCell') = true := by
  rw [Array.all_eq_true_iff_forall_mem]
  intro v hv
  simp only [cellsS, ir, List.mem_toArray, List.mem_map] at hv
  obtain ⟨n, _, rfl⟩ := hv
  rfl

/-- What a loop has made of S when k rounds are over; it ends with F. -/
def mixL (k : Nat) (F S : List Int) : List Int := F.take k ++ S.drop k
theorem mixL_zero (F S : List Int) : mixL 0 F S = S := by simp [mixL]
theorem mixL_end {F S : List Int} (hF : F.length = 8) (hS : S.length = 8) : mixL 8 F S = F := by
  unfold mixL; rw [List.take_of_length_le (by omega), List.drop_of_length_le (by omega), List.append_nil]
theorem mixL_len {F S : List Int} (hF : F.length = 8) (hS : S.length = 8) {k : Nat} (hk : k ≤ 8) : (mixL k F S).length = 8 := by simp [mixL]; omega
theorem mixL_get {F S : List Int} (hF : F.length = 8) (hS : S.length = 8) {k : Nat} (hk : k < 8) : (mixL k F S).getD k 0 = S.getD k 0 := by
  unfold mixL
  simp only [List.getD]
  rw [List.getElem?_append_right (by simp; omega)]
  simp [show min k F.length = k by omega]
theorem mixL_set {F S : List Int} (hF : F.length = 8) (hS : S.length = 8) {k : Nat} (hk : k < 8) : (mixL k F S).set k (F.getD k 0) = mixL (k + 1) F S := by
  unfold mixL
  have e : F.getD k 0 = F[k] := by simp [List.getD, List.getElem?_eq_getElem (show k < F.length by omega)]
  have h1 : k - (F.take k).length = 0 := by simp; omega
  have h2 : S.drop k = S[k] :: S.drop (k + 1) := List.drop_eq_getElem_cons (by omega)
  rw [e, List.set_append_right _ _ (by simp; omega), h1, h2, List.set_cons_zero, List.take_succ_eq_append_getElem (show k < F.length by omega), List.append_assoc]
  rfl

theorem getD_mem {S : List Int} {k : Nat} (h : k < S.length) : S.getD k 0 ∈ S := by
  simp only [List.getD, List.getElem?_eq_getElem h, Option.getD_some]
  exact List.getElem_mem h
theorem addS_get (S T : List Int) (k : Nat) (hS : k < S.length) (hT : k < T.length) : (addS S T).getD k 0 = S.getD k 0 + T.getD k 0 := by
  simp [addS, List.getD, List.getElem?_zipWith, List.getElem?_eq_getElem hS, List.getElem?_eq_getElem hT]
theorem addS_len {S T : List Int} (hS : S.length = 8) (hT : T.length = 8) : (addS S T).length = 8 := by simp [addS]; omega
theorem mulS_get (S : List Int) (n : Int) (k : Nat) (hS : k < S.length) : (mulS S n).getD k 0 = S.getD k 0 * n := by
  simp [mulS, List.getD, List.getElem?_eq_getElem hS]
theorem mulS_len {S : List Int} {n : Int} (hS : S.length = 8) : (mulS S n).length = 8 := by simp [mulS, hS]

/-- One step behind another: what lay at the start is kept but for one row. -/
theorem gb_trans {w w1 w2 : World} {row row2 : Option Nat} (h : w.grownBy w1 row) (h2 : w1.grownBy w2 row2) (hr : ∀ g, row2 = some g → w.heap.size ≤ g ∨ some g = row) : w.grownBy w2 row := by
  obtain ⟨a1, a2, a3, a4, a5⟩ := h
  obtain ⟨b1, b2, b3, b4, b5⟩ := h2
  refine ⟨b1.trans a1, b2.trans a2, b3.trans a3, Nat.le_trans a4 b4, fun k hk hne => ?_⟩
  rw [b5 k (by omega) ?_, a5 k hk hne]
  intro e
  rcases hr k e.symm with h | h
  · omega
  · exact hne h
theorem gb_below {w w' : World} (h : Below w.heap.size w w') (row : Option Nat) : w.grownBy w' row := ⟨h.os, h.tape, h.output, h.size, fun k hk _ => h.block k hk⟩
theorem gb_refl (w : World) (row : Option Nat) : w.grownBy w row := ⟨rfl, rfl, rfl, Nat.le_refl _, fun _ _ _ => rfl⟩
theorem gb_drew (w : World) (row : Option Nat) : w.grownBy w.drew row := ⟨rfl, rfl, rfl, Nat.le_refl _, fun _ _ _ => rfl⟩
theorem Blk.gb {w w' : World} {g : Nat} {t : TypeId} {cs : Array Value} (h : Blk w g t cs) {row : Option Nat} (hg : w.grownBy w' row) (hne : some g ≠ row) : Blk w' g t cs := (hg.block g h.lt hne).trans h

/-- A whole array is stored in a block of the call's own. -/
theorem store_blk {ops : Array Oper} {rest : List Oper} {o : Oper} {a : Act} {w : World} {Q : Exit → Act → World → Prop} (hgd : o.guard = none) (x y : Operand) (ho : o.op = .store 55 x y)
    (g : Nat) (S : List Int) (hx : a.eval x = .pointer (some ⟨g, 0, none⟩)) (hy : a.eval y = aggS S) (old : List Int) (hblk : Blk w g 55 (cellsS old)) (hold : old.length = 8) (hS : S.length = 8)
    (h : ∀ w', Blk w' g 55 (cellsS S) → w.grownBy w' (some g) → wpList Tryz.prog ops Q rest (a.put o.dst undef) w') : wpList Tryz.prog ops Q (o :: rest) a w := by
  refine wpList_plain hgd fun _ hK => wp_store_row 55 x y ho g (cellsS S) hx hy 55 (cellsS old) hblk (size_of hS) (by rw [cellsS_size, cellsS_size, hold, hS]) (cells_one S) (hK _ _ (h _ (setRow_heap w g (cellsS old) (cellsS S) 55 (0, 0) hblk) ?_))
  refine ⟨rfl, rfl, rfl, by simp [World.setRow], fun k hk hne => ?_⟩
  simp only [World.setRow]
  rw [Array.getElem?_modify, if_neg (fun e => hne (by rw [e]))]

/-- A whole array is read. -/
theorem load_blk {ops : Array Oper} {rest : List Oper} {o : Oper} {a : Act} {w : World} {Q : Exit → Act → World → Prop} (hgd : o.guard = none) (x : Operand) (ho : o.op = .load 55 x)
    (g : Nat) (S : List Int) (hx : a.eval x = .pointer (some ⟨g, 0, none⟩)) (hblk : Blk w g 55 (cellsS S)) (hS : S.length = 8)
    (h : wpList Tryz.prog ops Q rest (a.put o.dst (aggS S)) w) : wpList Tryz.prog ops Q (o :: rest) a w :=
  wpList_load_row hgd 55 x ho g hx 55 (cellsS S) (0, 0) (.array 8 3) hblk und55 rfl (size_of hS) h
theorem Blk.far {w : World} {g : Nat} {t : TypeId} {cs : Array Value} (h : Blk w g t cs) {p : Addr} (hp : g ≠ p.block) (u : Value) : Blk (w.setCell p u) g t cs := (heap_setCell_ne w p u g hp).trans h
theorem Blk.alloc {w : World} {g : Nat} {t : TypeId} {cs : Array Value} (h : Blk w g t cs) (o : Obj) : Blk (w.alloc o) g t cs := h.below ((Below.refl w.heap.size w).alloc (Nat.le_refl _) o) h.lt
theorem Blk.new (w : World) (t : TypeId) (cs : Array Value) : Blk (w.alloc (.cells cs t)) w.heap.size t cs := heap_alloc_new w _
/-- Eight zeros. -/
abbrev zs : List Int := [0, 0, 0, 0, 0, 0, 0, 0]
/-- The numbers of a list are small. -/
def okS (S : List Int) : Prop := ∀ x ∈ S, -1152921504606846976 ≤ x ∧ x ≤ 1152921504606846976

set_option maxHeartbeats 2000000 in
set_option maxRecDepth 100000 in
theorem s_pow (S : List Int) (n : Int) (w : World) (hS : S.length = 8) (bS : okS S) (bF : okS (mulS S n)) (hn : -1152921504606846976 ≤ n ∧ n ≤ 1152921504606846976) :
    Calls Tryz.prog 34 #[aggS S, .int .i64 n] w fun e w' => e = .returned (aggS (mulS S n)) ∧ Below w.heap.size w w' := by
  have HS := Lib.hid hS
  have HF := Lib.hid (mulS_len (n := n) hS)
  have HBS := Lib.hid bS
  have HBF := Lib.hid bF
  clear hS bS bF
  go_enter Tryz.func34, Tryz.ntmps34
  go_wp2
  have b0 := (Blk.new w 55 (cellsS S)).alloc (.cells (cellsS zs) 55)
  have b1 := Blk.new (w.alloc (.cells (cellsS S) 55)) 55 (cellsS zs)
  simp only [World.size_alloc] at b1
  have hB0 : Below w.heap.size w ((w.alloc (.cells (cellsS S) 55)).alloc (.cells (cellsS zs) 55)) := ((Below.refl _ w).alloc (Nat.le_refl _) _).alloc (by simp) _
  go_loopw [6] (fun i wr => ∃ k : Nat, k ≤ 8 ∧ i = .int .i64 (k : Int) ∧ Blk wr w.heap.size 55 (cellsS (mixL k (mulS S n) S)) ∧ Blk wr (w.heap.size + 1) 55 (cellsS zs) ∧ Below w.heap.size w wr) (fun i _ => 8 - (intOf i).toNat)
  case atStart => exact ⟨0, by omega, rfl, by rw [mixL_zero]; exact b0, b1, hB0⟩
  case round =>
    obtain ⟨k, hk, rfl, h0, h1, hb⟩ := hrel
    by_cases hlt : k < 8
    · have hc := h0.cell k
      rw [cellsS_get _ _ (by rw [mixL_len HF.out HS.out hk]; exact hlt), mixL_get HF.out HS.out hlt] at hc
      have hf := h0.frozen k
      have hx := HBS.out _ (getD_mem (k := k) (by rw [HS.out]; exact hlt))
      have hy := HBF.out _ (getD_mem (k := k) (by rw [HF.out]; exact hlt))
      rw [mulS_get S n k (by rw [HS.out]; exact hlt)] at hy
      have HM := Lib.hid (h0.set_ k (.int .i64 (S.getD k 0 * n)))
      have HX : Hid (S.getD k 0 * n = (mulS S n).getD k 0) := Lib.hid (mulS_get S n k (by rw [HS.out]; exact hlt)).symm
      have H1 := Lib.hid h1
      have HB := Lib.hid hb
      clear h0 h1 hb b0 b1 hB0
      generalize S.getD k 0 = x at *
      go_wp2
      go_roundw
      case rel => exact ⟨k + 1, by omega, by go_num, by have := HM.out; rw [cellsS_set] at this; rw [← mixL_set HF.out HS.out hlt, ← HX.out]; exact this, H1.out.far (by simp) _, HB.out.setCell (by simp) _⟩
      case measure => simp [intOf]; omega
    · obtain rfl : k = 8 := by omega
      rw [mixL_end HF.out HS.out] at h0
      go_wp2_with (first
        | (with_reducible refine load_blk rfl (.tmp 2) rfl w.heap.size (mulS S n) rfl h0 HF.out ?_)
        | (with_reducible refine store_blk rfl (.tmp 4) (.tmp 16) rfl (w.heap.size + 1) (mulS S n) rfl rfl zs h1 rfl HF.out ?_; intro w2 h2 hg2))
      refine bodyPost_ret (v := aggS (mulS S n)) (results_cell_row Tryz.results34 _ _ (w.heap.size + 1) 55 _ (0, 0) (.array 8 3) rfl h2 und55 rfl (size_of HF.out)) rfl ⟨rfl, hb.grown hg2 hb.size (fun g e => by cases e; omega)⟩

set_option maxHeartbeats 2000000 in
set_option maxRecDepth 100000 in
theorem s_join (S T : List Int) (w : World) (hS : S.length = 8) (hT : T.length = 8) (bS : okS S) (bT : okS T) (bF : okS (addS S T)) :
    Calls Tryz.prog 33 #[aggS S, aggS T] w fun e w' => e = .returned (aggS (addS S T)) ∧ Below w.heap.size w w' := by
  have HS := Lib.hid hS
  have HT := Lib.hid hT
  have HF := Lib.hid (addS_len hS hT)
  have HBS := Lib.hid bS
  have HBT := Lib.hid bT
  have HBF := Lib.hid bF
  clear hS bS bF hT bT
  go_enter Tryz.func33, Tryz.ntmps33
  go_wp2
  have b0 := ((Blk.new w 55 (cellsS S)).alloc (.cells (cellsS T) 55)).alloc (.cells (cellsS zs) 55)
  have b1 := (Blk.new (w.alloc (.cells (cellsS S) 55)) 55 (cellsS T)).alloc (.cells (cellsS zs) 55)
  have b2 := Blk.new ((w.alloc (.cells (cellsS S) 55)).alloc (.cells (cellsS T) 55)) 55 (cellsS zs)
  simp only [World.size_alloc] at b1 b2
  have hB0 : Below w.heap.size w (((w.alloc (.cells (cellsS S) 55)).alloc (.cells (cellsS T) 55)).alloc (.cells (cellsS zs) 55)) := (((Below.refl _ w).alloc (Nat.le_refl _) _).alloc (by simp) _).alloc (by simp; omega) _
  go_loopw [6] (fun i wr => ∃ k : Nat, k ≤ 8 ∧ i = .int .i64 (k : Int) ∧ Blk wr w.heap.size 55 (cellsS (mixL k (addS S T) S)) ∧ Blk wr (w.heap.size + 1) 55 (cellsS T) ∧ Blk wr (w.heap.size + 1 + 1) 55 (cellsS zs) ∧ Below w.heap.size w wr) (fun i _ => 8 - (intOf i).toNat)
  case atStart => exact ⟨0, by omega, rfl, by rw [mixL_zero]; exact b0, b1, b2, hB0⟩
  case round =>
    obtain ⟨k, hk, rfl, h0, h1, h2, hb⟩ := hrel
    by_cases hlt : k < 8
    · have hc := h0.cell k
      rw [cellsS_get _ _ (by rw [mixL_len HF.out HS.out hk]; exact hlt), mixL_get HF.out HS.out hlt] at hc
      have hd := h1.cell k
      rw [cellsS_get _ _ (by rw [HT.out]; exact hlt)] at hd
      have hf := h0.frozen k
      have hx := HBS.out _ (getD_mem (k := k) (by rw [HS.out]; exact hlt))
      have hz := HBT.out _ (getD_mem (k := k) (by rw [HT.out]; exact hlt))
      have hy := HBF.out _ (getD_mem (k := k) (by rw [HF.out]; exact hlt))
      have HX : Hid (S.getD k 0 + T.getD k 0 = (addS S T).getD k 0) := Lib.hid (addS_get S T k (by rw [HS.out]; exact hlt) (by rw [HT.out]; exact hlt)).symm
      have HM := Lib.hid ((h0.gb (gb_drew wr none) (by simp)).set_ k (.int .i64 (S.getD k 0 + T.getD k 0)))
      have H1 := Lib.hid (h1.gb (gb_drew wr none) (by simp))
      have H2 := Lib.hid (h2.gb (gb_drew wr none) (by simp))
      have HB := Lib.hid hb
      have hc' : wr.drew.cell? ⟨w.heap.size, k, none⟩ = some (.int .i64 (S.getD k 0)) := hc
      have hd' : wr.drew.cell? ⟨w.heap.size + 1, k, none⟩ = some (.int .i64 (T.getD k 0)) := hd
      have hf' : wr.drew.frozen? ⟨w.heap.size, k, none⟩ = false := hf
      clear h0 h1 h2 hb b0 b1 b2 hB0
      generalize S.getD k 0 = x at *
      generalize T.getD k 0 = y at *
      have hw8 : IntKind.i64.wrap (x + y) = x + y := IntWalk.i64_in _ (by omega)
      go_wp2
      go_still_tail 8, (by kernel_rfl)
      change wpList _ _ _ _ _ wr.drew
      go_wp2
      go_roundw
      case rel => exact ⟨k + 1, by omega, by go_num, by have := HM.out; rw [cellsS_set] at this; rw [← mixL_set HF.out HS.out hlt, ← HX.out]; exact this, H1.out.far (by simp) _, H2.out.far (by simp; omega) _, (HB.out.drewN 1).setCell (by simp) _⟩
      case measure => simp [intOf]; omega
    · obtain rfl : k = 8 := by omega
      rw [mixL_end HF.out HS.out] at h0
      go_wp2_with (first
        | (with_reducible refine load_blk rfl (.tmp 2) rfl w.heap.size (addS S T) rfl h0 HF.out ?_)
        | (with_reducible refine store_blk rfl (.tmp 4) (.tmp 18) rfl (w.heap.size + 1 + 1) (addS S T) rfl rfl zs h2 rfl HF.out ?_; intro w2 h3 hg2))
      refine bodyPost_ret (v := aggS (addS S T)) (results_cell_row Tryz.results33 _ _ (w.heap.size + 1 + 1) 55 _ (0, 0) (.array 8 3) rfl h3 und55 rfl (size_of HF.out)) rfl ⟨rfl, hb.grown hg2 hb.size (fun g e => by cases e; omega)⟩

set_option maxHeartbeats 2000000 in
set_option maxRecDepth 100000 in
theorem s_leaf (s : ByteArray) (w : World) (ht : Tabs w) (hs : s.size ≤ 100) (hl : s.data.toList.all (letterB 8) = true) :
    Calls Tryz.prog 31 #[.string s] w fun e w' => e = .returned (aggS (sumW s.data.toList)) ∧ Below w.heap.size w w' := by
  have HT := Lib.hid ht
  have HL := Lib.hid hl
  clear ht hl
  go_enter Tryz.func31, Tryz.ntmps31
  go_wp2
  have b0 := Blk.new w 55 (cellsS zs)
  have hB0 : Below w.heap.size w (w.alloc (.cells (cellsS zs) 55)) := (Below.refl _ w).alloc (Nat.le_refl _) _
  go_loopw [7] (fun i wr => ∃ k : Nat, k ≤ s.size ∧ i = .int .i64 (k : Int) ∧ Blk wr w.heap.size 55 (cellsS (sumW (s.data.toList.take k))) ∧ Below w.heap.size w wr) (fun i _ => s.size - (intOf i).toNat)
  case atStart => exact ⟨0, by omega, rfl, by rw [List.take_zero, sumW_nil]; exact b0, hB0⟩
  case round =>
    obtain ⟨k, hk, rfl, h0, hb⟩ := hrel
    by_cases hlt : k < s.size
    · have hlt' : k < s.data.toList.length := hlt
      have hcl : letterB 8 s[k] = true := by
        have := HL.out
        rw [List.all_eq_true] at this
        exact this _ (List.getElem_mem hlt')
      obtain ⟨j, d, hj, hd, hi, hq, hr⟩ := letter_split s[k] hcl
      have htk : s.data.toList.take (k + 1) = s.data.toList.take k ++ [s[k]] := by
        rw [List.take_succ_eq_append_getElem hlt']; rfl
      have hsn := sumW_snoc (s.data.toList.take k) s[k] j d hj hd hi
      rw [← htk] at hsn
      have hc := h0.cell j
      rw [cellsS_get _ _ (by rw [sumW_len]; exact hj), sumW_get _ _ hj] at hc
      have hf := h0.frozen j
      have hx := sumG_bound j (s.data.toList.take k)
      have hxl : (s.data.toList.take k).length ≤ k := List.length_take_le _ _
      have HM := Lib.hid (h0.set_ j (.int .i64 (sumG j (s.data.toList.take k) + (1 - 2 * d))))
      have HSN := Lib.hid hsn
      have hI := index_any s[k] wr (HT.out.on hb)
      have hp := idx_bound s[k]
      have HB := Lib.hid hb
      have hd0 : 0 ≤ d ∧ d ≤ 1 := by omega
      have hp0 : 0 ≤ idx s[k] := by omega
      clear h0 hb b0 hB0 htk hsn hcl hd hi
      generalize idx s[k] = p at *
      generalize sumG j (s.data.toList.take k) = x at *
      go_wp2_with (go_at_call 32; refine hI.mono ?_; rintro e w' ⟨rfl, rfl⟩)
      go_roundw
      case rel => exact ⟨k + 1, by omega, by go_num, by have := HM.out; rw [cellsS_set, ← HSN.out] at this; exact this, HB.out.setCell (by simp) _⟩
      case measure => simp [intOf]; omega
    · obtain rfl : k = s.size := by omega
      rw [List.take_of_length_le (show s.data.toList.length ≤ s.size from Nat.le_refl _)] at h0
      go_wp2_with (first
        | (with_reducible refine load_blk rfl (.tmp 2) rfl w.heap.size (sumW s.data.toList) rfl h0 (sumW_len _) ?_)
        | (with_reducible refine store_blk rfl (.tmp 2) (.tmp 25) rfl w.heap.size (sumW s.data.toList) rfl rfl (sumW s.data.toList) h0 (sumW_len _) (sumW_len _) ?_; intro w2 h3 hg2))
      refine bodyPost_ret (v := aggS (sumW s.data.toList)) (results_cell_row Tryz.results31 _ _ w.heap.size 55 _ (0, 0) (.array 8 3) rfl h3 und55 rfl (size_of (sumW_len _))) rfl ⟨rfl, hb.grown hg2 hb.size (fun g e => by cases e; omega)⟩
end Go.Proofs.YtgklmcinbaghmaaGreatDoor
