/-
  Our own text, in the proof of the law RopeChecks of package rope (cayleylaw02). Proved here: the reference's sums of one node. Conditions: the nodes lie in memory as the slice says, and the elder nodes' sums as theirs.
-/
import Derived.Test.YtgklmcinbaghmaaGreatDoorEh
import Derived.Deep.OwnRows
namespace Go.Proofs.YtgklmcinbaghmaaGreatDoor
open Go Go.RowKit

theorem idx_tab : ∀ n : Nat, n < 256 → ∀ g : Nat, g < 8 → (((if n < 105 then placesL.getD n 0 - 1 else -1 : Int) = 2 * (g : Int) ↔ n = 97 + g) ∧ ((if n < 105 then placesL.getD n 0 - 1 else -1 : Int) = 2 * (g : Int) + 1 ↔ n = 65 + g)) := of_decide_eq_true (by kernel_rfl)
theorem incI_at (g : Nat) (hg : g < 8) (c : UInt8) : incI g c = if c.toNat = 97 + g then 1 else if c.toNat = 65 + g then -1 else 0 := by
  obtain ⟨h1, h2⟩ := idx_tab c.toNat c.toNat_lt g hg
  unfold incI idx
  simp only [h1, h2]

theorem made8 : madeCells #[Value.int .i64 0] 8 = cellsS zs := by kernel_rfl
theorem make8 (W : World) : (Instr.makeSlice 26 (.int .i64 8) (.int .i64 8)).run Tryz.prog W = .ok (.slice (some ⟨W.heap.size, 0, none⟩) 8 8) (W.alloc (.cells (cellsS zs) 3)) := by
  have := run_make_row' (P := Tryz.prog) 26 3 (.int .i64 0) 8 Tryz.underlying26 Tryz.info3 rfl .i64 .i64 8 (by decide) (by decide) W
  rw [made8] at this
  exact this

/-- The sums of the elder nodes, a row of rows. -/
def RowsAt (w : World) (Al : Option Addr) (r : List Nd) (k : Nat) : Prop :=
  ∀ j, j < k → ∃ a g c, Al = some a ∧ w.cell? (a.add j) = some (.slice (some ⟨g, 0, none⟩) 8 c) ∧ ∀ i, i < 8 → w.cell? ⟨g, i, none⟩ = some (.int .i64 ((nodeS r j).getD i 0))
theorem RowsAt.on {w w' : World} {Al : Option Addr} {r : List Nd} {k : Nat} (h : RowsAt w Al r k) (hb : Below w.heap.size w w') : RowsAt w' Al r k := by
  intro j hj
  obtain ⟨a, g, c, h1, h2, h3⟩ := h j hj
  refine ⟨a, g, c, h1, (hb.cell (lt_of_cell h2)).trans h2, fun i hi => ?_⟩
  have := h3 i hi
  exact (hb.cell (lt_of_cell this)).trans this

/-- How sums ends: a new row. -/
def Sum1P (w : World) (S : List Int) (e : Ending) (w' : World) : Prop :=
  ∃ g, e = .returned (.slice (some ⟨g, 0, none⟩) 8 8) ∧ Blk w' g 3 (cellsS S) ∧ w.heap.size ≤ g ∧ Below w.heap.size w w'

set_option maxHeartbeats 4000000 in
set_option maxRecDepth 100000 in
theorem sum1_leaf (A : Option Addr) (r : List Nd) (cap : Nat) (Al : Option Addr) (capl : Nat) (k : Nat) (hk : k < r.length) (hlen : r.length ≤ 4000) (w : World) (hr : RopeAt w A r) (hw : r[k].word.data.toList ≠ []) (hs : r[k].word.size ≤ 100) :
    Calls Tryz.prog 35 #[.slice A r.length cap, .slice Al k capl, .int .i64 (k : Int)] w (Sum1P w (sumW r[k].word.data.toList)) := by
  obtain ⟨a, rfl, hx, _⟩ := hr k hk
  clear hr
  generalize r[k] = x at *
  obtain ⟨s, l, q, t⟩ := x
  obtain ⟨f0, f1, f2, f3⟩ := hx
  simp only at f0 f1 f2 f3 hw hs
  have he : s.toList.isEmpty = false := by rw [ByteArray.toList_eq]; simpa using hw
  have he2 : (!s.toList.isEmpty) = true := by rw [he]; rfl
  have hlt := lt_of_cell f0
  clear hw
  have hmk := make8
  have b0 := (Blk.new w 3 (cellsS zs)).alloc (.cells #[.string s, .int .i64 l, .int .i64 q, .int .i64 t] 68)
  have n0 := Blk.new (w.alloc (.cells (cellsS zs) 3)) 68 #[.string s, .int .i64 l, .int .i64 q, .int .i64 t]
  simp only [World.size_alloc] at n0
  have hB0 : Below w.heap.size w ((w.alloc (.cells (cellsS zs) 3)).alloc (.cells #[.string s, .int .i64 l, .int .i64 q, .int .i64 t] 68)) := ((Below.refl _ w).alloc (Nat.le_refl _) _).alloc (by simp) _
  have HZ := Lib.hid (sumW_len s.data.toList)
  go_enter Tryz.func35, Tryz.ntmps35
  go_wp2
  go_loopw [9] (fun g wr => ∃ m : Nat, m ≤ 8 ∧ g = .int .i64 (m : Int) ∧ Blk wr w.heap.size 3 (cellsS (mixL m (sumW s.data.toList) zs)) ∧ Blk wr (w.heap.size + 1) 68 #[.string s, .int .i64 l, .int .i64 q, .int .i64 t] ∧ Below w.heap.size w wr) (fun g _ => 8 - (intOf g).toNat)
  case atStart => exact ⟨0, by omega, rfl, by rw [mixL_zero]; exact b0, n0, hB0⟩
  case round =>
    obtain ⟨m, hm, rfl, h0, h1, hb⟩ := hrel
    clear b0 n0 hB0 f0 f1 f2 f3 hmk
    by_cases hlt : m < 8
    · have cs := h1.cell 0
      have HM := Lib.hid (h0.set_ m (.int .i64 ((sumW s.data.toList).getD m 0)))
      have hcm := h0.cell m
      rw [cellsS_get _ _ (by rw [mixL_len HZ.out rfl hm]; exact hlt)] at hcm
      have hfm := h0.frozen m
      have H1 := Lib.hid h1
      have HB := Lib.hid hb
      have HG : Hid ((sumW s.data.toList).getD m 0 = sumG m s.data.toList) := Lib.hid (sumW_get _ _ hlt)
      clear h0 h1 hb
      go_wp2
      go_loop [10, 11] (fun n i => ∃ q0 : Nat, q0 ≤ s.size ∧ i = .int .i64 (q0 : Int) ∧ n = .int .i64 (sumG m (s.data.toList.take q0))) (fun _ i => s.size - (intOf i).toNat)
      case atStart => exact ⟨0, by omega, rfl, rfl⟩
      case round =>
        obtain ⟨q0, hq, rfl, rfl⟩ := hrel
        by_cases hq1 : q0 < s.size
        · have hq' : q0 < s.data.toList.length := hq1
          have htk : s.data.toList.take (q0 + 1) = s.data.toList.take q0 ++ [s[q0]] := by
            rw [List.take_succ_eq_append_getElem hq']; rfl
          have hsn : sumG m (s.data.toList.take (q0 + 1)) = sumG m (s.data.toList.take q0) + incI m s[q0] := by
            rw [htk, sumG_append]; simp [sumG]
          rw [incI_at m hlt] at hsn
          have hx := sumG_bound m (s.data.toList.take q0)
          have hxl : (s.data.toList.take q0).length ≤ q0 := List.length_take_le _ _
          have HSN := Lib.hid hsn
          clear hsn htk
          generalize sumG m (s.data.toList.take q0) = z at *
          go_wp2
          all_goals
            go_round
            case rel =>
              refine ⟨q0 + 1, by omega, by go_num, ?_⟩
              rw [HSN.out]
              first
                | (have e1 : ((s[q0].toNat : Int) == 97 + (m : Int)) = true := by assumption
                   rw [beq_iff_eq] at e1
                   rw [if_pos (by omega)])
                | (have e1 : ((s[q0].toNat : Int) == 65 + (m : Int)) = true := by assumption
                   rw [beq_iff_eq] at e1
                   rw [if_neg (by omega), if_pos (by omega)]; go_num)
                | (have e1 : ((s[q0].toNat : Int) == 97 + (m : Int)) = false := by assumption
                   have e2 : ((s[q0].toNat : Int) == 65 + (m : Int)) = false := by assumption
                   rw [beq_eq_false_iff_ne] at e1 e2
                   rw [if_neg (by omega), if_neg (by omega)]; go_num)
            case measure => simp [intOf]; omega
        · obtain rfl : q0 = s.size := by omega
          rw [List.take_of_length_le (show s.data.toList.length ≤ s.size from Nat.le_refl _), ← HG.out]
          generalize hz : (sumW s.data.toList).getD m 0 = z at *
          have HZZ := Lib.hid hz
          clear hz
          go_wp2
          go_roundw
          case rel => exact ⟨m + 1, by omega, by go_num, by have := HM.out; rw [cellsS_set] at this; rw [← mixL_set HZ.out rfl hlt, HZZ.out]; exact this, H1.out.far (by simp) _, HB.out.setCell (by simp) _⟩
          case measure => simp [intOf]; omega
    · obtain rfl : m = 8 := by omega
      rw [mixL_end HZ.out rfl] at h0
      have H0 := Lib.hid h0
      have HB := Lib.hid hb
      clear h0 h1 hb
      go_wp2
      go_ret
      exact ⟨w.heap.size, rfl, H0.out, Nat.le_refl _, HB.out⟩
end Go.Proofs.YtgklmcinbaghmaaGreatDoor
