/-
  Our own text, in the proof of the law RopeChecks of package rope (cayleylaw02). Proved here: the reference's sums of a power and of a join. Conditions: the nodes lie in memory as the slice says, and the elder nodes' sums as theirs.
-/
import Derived.Test.YtgklmcinbaghmaaGreatDoorEi
namespace Go.Proofs.YtgklmcinbaghmaaGreatDoor
open Go Go.RowKit

theorem RowsAt.at_ {w : World} {Al : Option Addr} {r : List Nd} {k : Nat} (h : RowsAt w Al r k) {j m : Nat} (hj : j < k) (hm : m < 8) :
    ∃ a g c, Al = some a ∧ w.cell? (a.add j) = some (.slice (some ⟨g, 0, none⟩) 8 c) ∧ w.cell? ⟨g, m, none⟩ = some (.int .i64 ((nodeS r j).getD m 0)) := by
  obtain ⟨a, g, c, h1, h2, h3⟩ := h j hj
  exact ⟨a, g, c, h1, h2, h3 m hm⟩

set_option maxHeartbeats 4000000 in
set_option maxRecDepth 100000 in
theorem sum1_pow (A : Option Addr) (r : List Nd) (cap : Nat) (Al : Option Addr) (capl : Nat) (k : Nat) (hk : k < r.length) (hlen : r.length ≤ 4000) (w : World) (hr : RopeAt w A r) (hra : RowsAt w Al r k)
    (b n : Nat) (hb : b < k) (hn : 1 ≤ n) (hw : r[k].word.data.toList = []) (hxl : r[k].l = b) (hxt : r[k].t = n) (hn2 : (n : Int) ≤ 1152921504606846976) (okb : okS (nodeS r b)) (okk : okS (nodeS r k)) (hS : nodeS r k = mulS (nodeS r b) n) :
    Calls Tryz.prog 35 #[.slice A r.length cap, .slice Al k capl, .int .i64 (k : Int)] w (Sum1P w (nodeS r k)) := by
  obtain ⟨a, rfl, hx, _⟩ := hr k hk
  clear hr
  generalize r[k] = x at *
  obtain ⟨s, l, q, t⟩ := x
  obtain ⟨f0, f1, f2, f3⟩ := hx
  simp only at f0 f1 f2 f3 hw hxl hxt
  subst hxl hxt
  obtain rfl := emp_ba hw
  have hlt := lt_of_cell f0
  clear hw
  have hmk := make8
  have b0 := (Blk.new w 3 (cellsS zs)).alloc (.cells #[.string ⟨#[]⟩, .int .i64 (b : Int), .int .i64 q, .int .i64 (n : Int)] 68)
  have n0 := Blk.new (w.alloc (.cells (cellsS zs) 3)) 68 #[.string ⟨#[]⟩, .int .i64 (b : Int), .int .i64 q, .int .i64 (n : Int)]
  simp only [World.size_alloc] at n0
  have hB0 : Below w.heap.size w ((w.alloc (.cells (cellsS zs) 3)).alloc (.cells #[.string ⟨#[]⟩, .int .i64 (b : Int), .int .i64 q, .int .i64 (n : Int)] 68)) := ((Below.refl _ w).alloc (Nat.le_refl _) _).alloc (by simp) _
  have HZ := Lib.hid (nodeS_len r k)
  have HZB := Lib.hid (nodeS_len r b)
  have HRA := Lib.hid hra
  have HOB := Lib.hid okb
  have HOK := Lib.hid okk
  have HS := Lib.hid hS
  have hd : decide (0 < (n : Int)) = true := by simp; omega
  clear hra okb okk hS
  go_enter Tryz.func35, Tryz.ntmps35
  go_wp2
  go_loopw [9] (fun g wr => ∃ m : Nat, m ≤ 8 ∧ g = .int .i64 (m : Int) ∧ Blk wr w.heap.size 3 (cellsS (mixL m (nodeS r k) zs)) ∧ Blk wr (w.heap.size + 1) 68 #[.string ⟨#[]⟩, .int .i64 (b : Int), .int .i64 q, .int .i64 (n : Int)] ∧ Below w.heap.size w wr) (fun g _ => 8 - (intOf g).toNat)
  case atStart => exact ⟨0, by omega, rfl, by rw [mixL_zero]; exact b0, n0, hB0⟩
  case round =>
    obtain ⟨m, hm, rfl, h0, h1, hbw⟩ := hrel
    clear b0 n0 hB0 f0 f1 f2 f3 hmk
    by_cases hlt : m < 8
    · obtain ⟨al, g', c', rfl, q1, q2⟩ := (HRA.out.on hbw).at_ hb hlt
      have cs := h1.cell 0
      have c1 := h1.cell 1
      have c3 := h1.cell 3
      have HM := Lib.hid (h0.set_ m (.int .i64 ((nodeS r k).getD m 0)))
      have hcm := h0.cell m
      rw [cellsS_get _ _ (by rw [mixL_len HZ.out rfl hm]; exact hlt)] at hcm
      have hfm := h0.frozen m
      have HCM := Lib.hid hcm
      have HFM := Lib.hid hfm
      have H1 := Lib.hid h1
      have HBW := Lib.hid hbw
      have hx1 := HOB.out _ (getD_mem (k := m) (by rw [HZB.out]; exact hlt))
      have hx2 := HOK.out _ (getD_mem (k := m) (by rw [HZ.out]; exact hlt))
      have hprod : (nodeS r k).getD m 0 = (nodeS r b).getD m 0 * (n : Int) := by rw [HS.out, mulS_get _ _ _ (by rw [HZB.out]; exact hlt)]
      have HP := Lib.hid hprod
      clear h0 h1 hbw hcm hfm
      generalize (nodeS r b).getD m 0 = v at *
      obtain ⟨u, hu⟩ : ∃ u, (nodeS r k).getD m 0 = u := ⟨_, rfl⟩
      rw [hu] at hx2 hprod
      have hw8 : IntKind.i64.wrap ((n : Int) * v) = u := by
        rw [IntWalk.i64_in _ (by rw [Int.mul_comm, ← hprod]; omega), Int.mul_comm]; exact hprod.symm
      have HU := Lib.hid hu
      clear hu hprod
      go_wp2
      go_quiet (fail)
      clear hw8
      have q3 : (wr.drewN nq).cell? ⟨w.heap.size, m, none⟩ = some (.int .i64 ((mixL m (nodeS r k) zs).getD m 0)) := HCM.out
      have q4 : (wr.drewN nq).frozen? ⟨w.heap.size, m, none⟩ = false := HFM.out
      clear q1 q2 cs c1 c3
      go_wp2
      go_roundw
      case rel => exact ⟨m + 1, by omega, by go_num, by have := HM.out; rw [cellsS_set, HU.out] at this; rw [← mixL_set HZ.out rfl hlt, HU.out]; exact this, H1.out.far (by simp) _, (HBW.out.drewN nq).setCell (by simp) _⟩
      case measure => simp [intOf]; omega
    · obtain rfl : m = 8 := by omega
      rw [mixL_end HZ.out rfl] at h0
      have H0 := Lib.hid h0
      have HBW := Lib.hid hbw
      clear h0 h1 hbw
      go_wp2
      go_ret
      exact ⟨w.heap.size, rfl, H0.out, Nat.le_refl _, HBW.out⟩
set_option maxHeartbeats 4000000 in
set_option maxRecDepth 100000 in
theorem sum1_join (A : Option Addr) (r : List Nd) (cap : Nat) (Al : Option Addr) (capl : Nat) (k : Nat) (hk : k < r.length) (hlen : r.length ≤ 4000) (w : World) (hr : RopeAt w A r) (hra : RowsAt w Al r k)
    (b n : Nat) (hb : b < k) (hn : n < k) (hw : r[k].word.data.toList = []) (hxl : r[k].l = b) (hxr : r[k].r = n) (hxt : r[k].t = 0) (okb : okS (nodeS r b)) (okn : okS (nodeS r n)) (okk : okS (nodeS r k)) (hS : nodeS r k = addS (nodeS r b) (nodeS r n)) :
    Calls Tryz.prog 35 #[.slice A r.length cap, .slice Al k capl, .int .i64 (k : Int)] w (Sum1P w (nodeS r k)) := by
  obtain ⟨a, rfl, hx, _⟩ := hr k hk
  clear hr
  generalize r[k] = x at *
  obtain ⟨s, l, q, t⟩ := x
  obtain ⟨f0, f1, f2, f3⟩ := hx
  simp only at f0 f1 f2 f3 hw hxl hxr hxt
  subst hxl hxr hxt
  obtain rfl := emp_ba hw
  have hlt := lt_of_cell f0
  clear hw
  have hmk := make8
  have b0 := (Blk.new w 3 (cellsS zs)).alloc (.cells #[.string ⟨#[]⟩, .int .i64 (b : Int), .int .i64 (n : Int), .int .i64 0] 68)
  have n0 := Blk.new (w.alloc (.cells (cellsS zs) 3)) 68 #[.string ⟨#[]⟩, .int .i64 (b : Int), .int .i64 (n : Int), .int .i64 0]
  simp only [World.size_alloc] at n0
  have hB0 : Below w.heap.size w ((w.alloc (.cells (cellsS zs) 3)).alloc (.cells #[.string ⟨#[]⟩, .int .i64 (b : Int), .int .i64 (n : Int), .int .i64 0] 68)) := ((Below.refl _ w).alloc (Nat.le_refl _) _).alloc (by simp) _
  have HZ := Lib.hid (nodeS_len r k)
  have HZB := Lib.hid (nodeS_len r b)
  have HZN := Lib.hid (nodeS_len r n)
  have HON := Lib.hid okn
  have HRA := Lib.hid hra
  have HOB := Lib.hid okb
  have HOK := Lib.hid okk
  have HS := Lib.hid hS
  clear hra okb okn okk hS
  go_enter Tryz.func35, Tryz.ntmps35
  go_wp2
  go_loopw [9] (fun g wr => ∃ m : Nat, m ≤ 8 ∧ g = .int .i64 (m : Int) ∧ Blk wr w.heap.size 3 (cellsS (mixL m (nodeS r k) zs)) ∧ Blk wr (w.heap.size + 1) 68 #[.string ⟨#[]⟩, .int .i64 (b : Int), .int .i64 (n : Int), .int .i64 0] ∧ Below w.heap.size w wr) (fun g _ => 8 - (intOf g).toNat)
  case atStart => exact ⟨0, by omega, rfl, by rw [mixL_zero]; exact b0, n0, hB0⟩
  case round =>
    obtain ⟨m, hm, rfl, h0, h1, hbw⟩ := hrel
    clear b0 n0 hB0 f0 f1 f2 f3 hmk
    by_cases hlt : m < 8
    · obtain ⟨al, g', c', rfl, q1, q2⟩ := (HRA.out.on hbw).at_ hb hlt
      obtain ⟨al2, g2, c2', hal, q5, q6⟩ := (HRA.out.on hbw).at_ hn hlt
      cases hal
      have cs := h1.cell 0
      have c1 := h1.cell 1
      have c2 := h1.cell 2
      have c3 := h1.cell 3
      have HM := Lib.hid (h0.set_ m (.int .i64 ((nodeS r k).getD m 0)))
      have hcm := h0.cell m
      rw [cellsS_get _ _ (by rw [mixL_len HZ.out rfl hm]; exact hlt)] at hcm
      have hfm := h0.frozen m
      have HCM := Lib.hid hcm
      have HFM := Lib.hid hfm
      have H1 := Lib.hid h1
      have HBW := Lib.hid hbw
      have hx1 := HOB.out _ (getD_mem (k := m) (by rw [HZB.out]; exact hlt))
      have hx2 := HOK.out _ (getD_mem (k := m) (by rw [HZ.out]; exact hlt))
      have hx3 := HON.out _ (getD_mem (k := m) (by rw [HZN.out]; exact hlt))
      have hprod : (nodeS r k).getD m 0 = (nodeS r b).getD m 0 + (nodeS r n).getD m 0 := by rw [HS.out, addS_get _ _ _ (by rw [HZB.out]; exact hlt) (by rw [HZN.out]; exact hlt)]
      have HP := Lib.hid hprod
      clear h0 h1 hbw hcm hfm
      generalize (nodeS r b).getD m 0 = v at *
      generalize (nodeS r n).getD m 0 = y at *
      obtain ⟨u, hu⟩ : ∃ u, (nodeS r k).getD m 0 = u := ⟨_, rfl⟩
      rw [hu] at hx2 hprod
      have hw8 : IntKind.i64.wrap (v + y) = u := by
        rw [IntWalk.i64_in _ (by omega)]; exact hprod.symm
      have HU := Lib.hid hu
      clear hu hprod
      go_wp2
      go_quiet (fail)
      clear hw8
      have q3 : (wr.drewN nq).cell? ⟨w.heap.size, m, none⟩ = some (.int .i64 ((mixL m (nodeS r k) zs).getD m 0)) := HCM.out
      have q4 : (wr.drewN nq).frozen? ⟨w.heap.size, m, none⟩ = false := HFM.out
      clear q1 q2 q5 q6 cs c1 c2 c3
      go_wp2
      go_roundw
      case rel => exact ⟨m + 1, by omega, by go_num, by have := HM.out; rw [cellsS_set, HU.out] at this; rw [← mixL_set HZ.out rfl hlt, HU.out]; exact this, H1.out.far (by simp) _, (HBW.out.drewN nq).setCell (by simp) _⟩
      case measure => simp [intOf]; omega
    · obtain rfl : m = 8 := by omega
      rw [mixL_end HZ.out rfl] at h0
      have H0 := Lib.hid h0
      have HBW := Lib.hid hbw
      clear h0 h1 hbw
      go_wp2
      go_ret
      exact ⟨w.heap.size, rfl, H0.out, Nat.le_refl _, HBW.out⟩
end Go.Proofs.YtgklmcinbaghmaaGreatDoor
