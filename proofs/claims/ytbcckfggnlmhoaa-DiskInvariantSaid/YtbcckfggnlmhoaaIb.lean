/-
  Our own text, in the proofs of the laws of package disk (cayleylaw04). Proved here: slices.Insert at bytes. Conditions: both rows are owned, and stand in blocks of their own.
-/
import Derived.Test.YtbcckfggnlmhoaaIa
import Derived.Shelf.Spec.SlicesInsertGrow
namespace Go.Proofs.Ytbcckfggnlmhoaa
open Go Go.RowKit

theorem own_get {w : World} {B g cap : Nat} {l : List UInt8} (h : w.ownsRow B 5 1 (.slice (some ⟨g, 0, none⟩) l.length cap) l.length (bs l)) : ∀ j v, (bs l)[j]? = some v → w.cell? ⟨g, j, none⟩ = some v := by
  intro j v hj
  have : j < (bs l).length := (List.getElem?_eq_some_iff.1 hj).1
  rw [bs_len] at this
  rw [h.cellAt j (by omega), hj]

theorem list_shift {α : Type} (a ds rest vs : List α) (i m : Nat) (ha : i + m ≤ a.length) (hv : vs.length = m) :
    ((a.take (i + m) ++ ds ++ rest).take i ++ vs ++ (a.take (i + m) ++ ds ++ rest).drop (i + m)).take (i + m + ds.length) = a.take i ++ vs ++ ds := by
  have e1 : (a.take (i + m) ++ ds ++ rest).take i = a.take i := by
    rw [List.append_assoc, List.take_append_of_le_length (by rw [List.length_take]; omega), List.take_take, Nat.min_eq_left (by omega)]
  have e2 : (a.take (i + m) ++ ds ++ rest).drop (i + m) = ds ++ rest := by
    rw [List.append_assoc, List.drop_left' (by rw [List.length_take]; omega)]
  rw [e1, e2, ← List.append_assoc, List.take_left' (by simp; omega)]
theorem list_grow {α : Type} (R ds vs : List α) (i m : Nat) (hR : i + m + ds.length ≤ R.length) (hv : vs.length = m) :
    ((R.take i ++ vs ++ R.drop (i + m)).take (i + m) ++ ds ++ (R.take i ++ vs ++ R.drop (i + m)).drop (i + m + ds.length)).take (i + m + ds.length) = R.take i ++ vs ++ ds := by
  have e1 : (R.take i ++ vs ++ R.drop (i + m)).take (i + m) = R.take i ++ vs := by
    rw [List.take_left' (by simp; omega)]
  rw [e1, List.take_left' (by simp; omega)]

theorem WRow.shape {w : World} {g cap : Nat} {l : List UInt8} (h : WRow w g cap l) : w.shape? g = some (5, cap) := by obtain ⟨_, _, hf⟩ := h; exact hf.shape

/-- What Insert hands back. -/
def InsP (g : Nat) (x : List UInt8) (w : World) (e : Ending) (w' : World) : Prop :=
  ∃ g' cap', e = .returned (.slice (some ⟨g', 0, none⟩) x.length cap') ∧ WRow w' g' cap' x ∧ w.grownBy w' (some g) ∧ (g' = g ∨ w.heap.size ≤ g')

set_option maxHeartbeats 4000000 in
set_option maxRecDepth 100000 in
theorem Insert_shift (C g cap i vb vc : Nat) (l v : List UInt8) (w : World) (h : WRow w g cap l) (hv : w.ownsRow C 5 1 (.slice (some ⟨vb, 0, none⟩) v.length vc) v.length (bs v)) (hne : vb ≠ g)
    (hm : 0 < v.length) (hi : i < l.length) (hroom : l.length + v.length ≤ cap) :
    Calls Try.prog 101 #[.slice (some ⟨g, 0, none⟩) l.length cap, .int .i64 i, .slice (some ⟨vb, 0, none⟩) v.length vc] w (InsP g (l.take i ++ v ++ l.drop i) w) := by
  have hmx : cap ≤ 9223372036854775807 := by have := h.max; unfold maxLen at this; omega
  have hov : ∀ lb cb, (callFunc 104 #[.slice (some ⟨vb, 0, none⟩) v.length vc, .slice (some ⟨g, i + v.length, none⟩) lb cb]).run Try.prog w = .ok (.value (.bool false)) w := fun lb cb => by
    rw [run_callFunc_extern Try.func104 (by kernel_rfl) (by kernel_rfl) (by kernel_rfl) (e := Extern.SlicesOverlaps.overlaps #[58, 58] #[4]) (by kernel_rfl),
      Go.Lib.run_overlaps_apart w 58 4 5 Try.underlying58 1 (fun w => by kernel_rfl) ⟨vb, 0, none⟩ ⟨g, i + v.length, none⟩ v.length vc lb cb hne 5 5 vc cap (own_shape? hv) (WRow.shape h) (by omega) (hv.frozenAt 0) (hv.frozenAt vc)]
    rfl
  have hd0 : Below w.heap.size w w.drew := (Below.refl _ w).drewN 1
  have hgd := h.below hd0
  obtain ⟨_, ys, hfd⟩ := hgd
  have hy : ys.length = cap - l.length := by have := hfd.len; rw [List.length_append, bs_len] at this; omega
  have hdl : (bs (l.drop i)).length = l.length - i := by rw [bs_len, List.length_drop]
  have hcp1 : ∀ ty dc sc, (Builtin.copy_ #[58, 58] ty #[.slice (some ⟨g, i + v.length, none⟩) (l.length + v.length - (i + v.length)) dc, .slice (some ⟨g, i, none⟩) (l.length + v.length - i) sc]).run Try.prog w.drew = .ok (goInt (bs (l.drop i)).length) (w.drew.setCells g (i + v.length) (bs (l.drop i))) := fun ty dc sc =>
    run_copy_cells w.drew _ _ ty 5 g (i + v.length) (l.length + v.length - (i + v.length)) dc ⟨g, i, none⟩ (l.length + v.length - i) sc (bs (l.drop i)) Try.underlying58 (by kernel_rfl) (by rw [hdl]; simp only [Nat.min_def]; split <;> omega)
      (fun j u hj => by
        rw [Addr.add_lit]
        refine (h.below hd0).get _ u ?_
        rw [bs, ← List.map_drop.symm, List.getElem?_drop] at hj
        exact hj)
      (fun j hj => hfd.some _ (by omega)) (fun j hj => hfd.free _ (by omega)) (bs_one _)
  have h1 := FRow.setCells (bs (l.drop i)) (i + v.length) _ _ hfd (by rw [hdl]; omega)
  obtain ⟨W1, hW1⟩ : ∃ W1, W1 = w.drew.setCells g (i + v.length) (bs (l.drop i)) := ⟨_, rfl⟩
  rw [← hW1] at hcp1 h1
  have hv1 : W1.ownsRow C 5 1 (.slice (some ⟨vb, 0, none⟩) v.length vc) v.length (bs v) := (show w.drew.ownsRow C 5 1 (.slice (some ⟨vb, 0, none⟩) v.length vc) v.length (bs v) from hv).kept h1.2 (.inr (by simp [Value.ownBlock]; exact hne))
  have hcp2 : ∀ (W : World), (∀ x, W.cell? x = W1.cell? x) → (∀ x, W.frozen? x = W1.frozen? x) → ∀ ty dc, (Builtin.copy_ #[58, 58] ty #[.slice (some ⟨g, i, none⟩) (l.length + v.length - i) dc, .slice (some ⟨vb, 0, none⟩) v.length vc]).run Try.prog W = .ok (goInt (bs v).length) (W.setCells g i (bs v)) := fun W hWc hWf ty dc =>
    run_copy_cells W _ _ ty 5 g i (l.length + v.length - i) dc ⟨vb, 0, none⟩ v.length vc (bs v) Try.underlying58 (by kernel_rfl) (by rw [bs_len]; simp only [Nat.min_def]; split <;> omega)
      (fun j u hj => by rw [Addr.add_lit, hWc, Nat.zero_add]; exact own_get hv1 j u hj)
      (fun j hj => by rw [hWc]; rw [bs_len] at hj; exact h1.1.some _ (by omega)) (fun j hj => by rw [hWf]; rw [bs_len] at hj; exact h1.1.free _ (by omega)) (bs_one _)
  have mixed : Try.prog.follows Departure.mixedOrders = true := by kernel_rfl
  have hz1 : ¬ ((v.length : Int) = 0) := by omega
  have hz2 : ¬ ((i : Int) = (l.length : Int)) := by omega
  have hw1 : IntKind.i64.wrap ((i : Int) + (v.length : Int)) = (i : Int) + (v.length : Int) := by rw [IntKind.wrap_i64]; omega
  have hb1 : (0 : Int) ≤ (i : Int) + (v.length : Int) := by omega
  have hin : i ≤ l.length := by omega
  have htn : ((i : Int) + (v.length : Int)).toNat = i + v.length := by omega
  have hb2 : ¬ (cap = i + v.length) := by omega
  have hb3 : (i : Int) ≤ (l.length : Int) + (v.length : Int) := by omega
  have hb4 : ¬ (cap = i) := by omega
  have HF : Hid (w.drew.grownBy W1 (some g)) := Lib.hid h1.2
  have HO := Lib.hid h1.1
  have HY := Lib.hid hy
  clear h1 hfd hdl hv hv1 h hy hd0
  go_enter Try.func101, Try.ntmps101
  go_wp2_with (simp only [hov])
  go_region_law_o (refine step_copy_runI rfl _ _ 58 58 rfl _ _ (by simp [Act.eval, Act.put]) (by simp [Act.eval, Act.put]) (hcp1 _ _ _) ?_)
  go_wp2_with (at_builtin; refine wpList_copy_runI _ rfl _ _ 58 58 rfl _ _ rfl rfl (hcp2 _ (fun _ => rfl) (fun _ => rfl) _ _) ?_)
  go_ret
  subst hW1
  have h2 := FRow.setCells (bs v) i _ _ HO.out (by rw [bs_len]; omega)
  have e : ((List.take (i + v.length) (bs l ++ ys) ++ bs (List.drop i l) ++ List.drop (i + v.length + (bs (List.drop i l)).length) (bs l ++ ys)).take i ++ bs v ++ (List.take (i + v.length) (bs l ++ ys) ++ bs (List.drop i l) ++ List.drop (i + v.length + (bs (List.drop i l)).length) (bs l ++ ys)).drop (i + v.length)).take (i + v.length + (bs (List.drop i l)).length) = (bs l ++ ys).take i ++ bs v ++ bs (List.drop i l) :=
    list_shift _ _ _ _ i v.length (by have := HY.out; rw [List.length_append, bs_len]; omega) (bs_len v)
  have hx : (l.take i ++ v ++ l.drop i).length = l.length + v.length := by simp; omega
  have e2 : bs (l.take i ++ v ++ l.drop i) = (bs l ++ ys).take i ++ bs v ++ bs (List.drop i l) := by
    rw [bs_append, bs_append, List.take_append_of_le_length (by rw [bs_len]; omega), bs, bs, List.map_take]; rfl
  refine ⟨g, cap, by rw [hx]; rfl, ?_, grown_trans (A := some ⟨g, 0, none⟩) (A1 := some ⟨g, 0, none⟩) (show w.grownBy _ (some g) from ⟨HF.out.os, HF.out.tape, HF.out.output, HF.out.size, HF.out.block⟩) h2.2 (.inl rfl), .inl rfl⟩
  refine h2.1.head _ (by rw [hx]; omega) ?_
  have hz : l.length + v.length = i + v.length + (bs (List.drop i l)).length := by rw [bs_len, List.length_drop]; omega
  rw [hx, hz, e2, ← e, bs_len v]

set_option maxHeartbeats 4000000 in
set_option maxRecDepth 100000 in
theorem Insert_end (C g cap vb vc : Nat) (l v : List UInt8) (w : World) (h : WRow w g cap l) (hv : w.ownsRow C 5 1 (.slice (some ⟨vb, 0, none⟩) v.length vc) v.length (bs v))
    (hm : 0 < v.length) (hlen : l.length + v.length ≤ 1000000) :
    Calls Try.prog 101 #[.slice (some ⟨g, 0, none⟩) l.length cap, .int .i64 l.length, .slice (some ⟨vb, 0, none⟩) v.length vc] w (InsP g (l ++ v) w) := by
  obtain ⟨i0, hi0, hz0, hzs, hzb⟩ := info_parts Try.info5
  have hq1 : ¬ ((v.length : Int) = 0) := by omega
  have hsrc : Src Try.prog 1 58 (.slice (some ⟨vb, 0, none⟩) v.length vc) v.length (bs v) w := Src.ofSlice w Try.underlying58 ⟨vb, 0, none⟩ v.length vc (bs v) (by rw [bs_len, Nat.mul_one]) (fun j u hj => by rw [Addr.add_lit, Nat.zero_add]; exact own_get hv j u hj) (bs_one _)
  have hx : (l ++ v).length = l.length + v.length := List.length_append
  have hcap := h.1
  by_cases hroom : l.length + v.length ≤ cap
  · obtain ⟨_, ys, hf⟩ := h
    have hys : ys.length = cap - l.length := by have := hf.len; rw [List.length_append, bs_len] at this; omega
    have h2 := FRow.setCells (bs v) l.length _ _ hf (by rw [bs_len]; omega)
    have HW : Hid (WRow (w.setCells g l.length (bs v)) g cap (l ++ v)) := Lib.hid (h2.1.head _ (by rw [hx]; exact hroom) (by
      rw [List.take_left' (bs_len l), List.take_left' (by rw [List.length_append, bs_len, bs_len, hx]), bs_append]))
    have HG : Hid (w.grownBy (w.setCells g l.length (bs v)) (some g)) := Lib.hid h2.2
    have hc : ∀ j, j < (bs v).length → (w.cell? ⟨g, 0 + l.length + j, none⟩).isSome = true := fun j hj => by rw [bs_len] at hj; exact hf.some _ (by omega)
    have hfz : ∀ j, j < (bs v).length → w.frozen? ⟨g, 0 + l.length + j, none⟩ = false := fun j hj => by rw [bs_len] at hj; exact hf.free _ (by omega)
    rw [show l.length = 0 + l.length by omega] at HW HG
    clear hv h2 hf
    go_enter Try.func101, Try.ntmps101
    go_wp2_with (at_builtin; refine wpList_append_room1 _ rfl _ _ 58 58 rfl 5 _ _ Try.underlying58 Try.info5 g 0 l.length cap rfl _ rfl v.length (bs v) hsrc hroom hc hfz ?_)
    all_goals (
      go_ret
      exact ⟨g, cap, by rw [hx]; rfl, by simpa using HW.out, by simpa using HG.out, .inl rfl⟩)
  · have hold : (Builtin.firstCells i0.size l.length (.slice (some ⟨g, 0, none⟩) l.length cap)).run Try.prog w.drew = .ok (bs l).toArray w.drew := by
      rw [hzs]
      exact run_firstCells_some w.drew 1 l.length ⟨g, 0, none⟩ l.length cap (bs l) (by rw [bs_len, Nat.mul_one]) (fun j u hj => by rw [Addr.add_lit, Nat.zero_add]; exact (h.below ((Below.refl _ w).drewN 1)).get j u hj)
    obtain ⟨G, hG⟩ : ∃ G, G = grownCap w (l.length + v.length) cap 5 := ⟨_, rfl⟩
    obtain ⟨ROW, hROW⟩ : ∃ ROW : Array Value, ROW = (bs l ++ bs v).toArray ++ Builtin.zeroCells (Value.int .u8 0).cells (G - (l.length + v.length)) := ⟨_, rfl⟩
    have hrz : ∀ ty, (Builtin.append_ #[58, 58] ty #[.slice (some ⟨g, 0, none⟩) l.length cap, .slice (some ⟨vb, 0, none⟩) v.length vc]).run Try.prog w =
        .ok (.slice (some ⟨w.heap.size, 0, none⟩) (l.length + v.length) G) (w.drew.alloc (.cells ROW 5)) := fun ty => by
      have hh := run_append_grow_src w 58 58 ty 5 i0 _ Try.underlying58 hi0 hz0 (some ⟨g, 0, none⟩) l.length cap (bs l) hold _ v.length (bs v) (by rw [hzs]; exact hsrc) (by omega) (by omega) (by rw [hzb]; exact growslice_fits (by omega) (by omega))
      rw [← hG, ← hROW] at hh
      exact hh
    have hGn : l.length + v.length ≤ G := by rw [hG]; exact grownCap_ge w _ _ _
    have hG63 : G ≤ maxLen := by
      rw [hG]; exact grownCap_le_maxLen w (l.length + v.length) cap 5 (by unfold maxLen; omega)
    have hRs : ROW.size = G := by
      rw [hROW]
      simp [Builtin.zeroCells, Value.cells, bs_len]
      omega
    have hRt : ROW.toList.take (l ++ v).length = bs (l ++ v) := by
      rw [hROW, Array.toList_append, List.take_left' (by simp [bs_len]), bs_append]
    have HW : Hid (WRow (w.drew.alloc (.cells ROW 5)) w.heap.size G (l ++ v)) := Lib.hid ((FRow.of_own (World.ownsRow_lit (base := 0) w.drew ROW G (Nat.zero_le _) hG63 (by rw [hRs, Nat.mul_one]))).head _ (by rw [hx]; exact hGn) hRt)
    have HG : Hid (w.grownBy (w.drew.alloc (.cells ROW 5)) (some g)) := Lib.hid (grown_of_below (((Below.refl _ w).drewN 1).alloc (Nat.le_refl _) _) _)
    clear hold hROW hG hRs hRt hi0 hz0 hzs hzb h hv
    go_enter Try.func101, Try.ntmps101
    go_wp2_with (at_builtin; refine Go.Lib.wpList_append_run _ rfl _ _ _ _ rfl _ _ rfl rfl _ _ (hrz _) ?_)
    all_goals (
      go_ret
      exact ⟨w.heap.size, G, by rw [hx]; rfl, HW.out, HG.out, .inr (Nat.le_refl _)⟩)

theorem grown_drew {w w' : World} {row : Option Nat} (h : w.drew.grownBy w' row) : w.grownBy w' row := ⟨h.os, h.tape, h.output, h.size, h.block⟩

set_option maxHeartbeats 4000000 in
set_option maxRecDepth 100000 in
theorem Insert_grow (C g cap i vb vc : Nat) (l v : List UInt8) (w : World) (h : WRow w g cap l) (hv : w.ownsRow C 5 1 (.slice (some ⟨vb, 0, none⟩) v.length vc) v.length (bs v))
    (hm : 0 < v.length) (hi : i < l.length) (hroom : cap < l.length + v.length) (hlen : l.length + v.length ≤ 1000000) :
    Calls Try.prog 101 #[.slice (some ⟨g, 0, none⟩) l.length cap, .int .i64 i, .slice (some ⟨vb, 0, none⟩) v.length vc] w (InsP g (l.take i ++ v ++ l.drop i) w) := by
  have mixed : Try.prog.follows Departure.mixedOrders = true := by kernel_rfl
  obtain ⟨i0, hi0, hz0, hzs, hzb⟩ := info_parts Try.info5
  have hcap := h.1
  have hz1 : ¬ ((v.length : Int) = 0) := by omega
  have hz2 : ¬ ((i : Int) = (l.length : Int)) := by omega
  have hz3 : (cap : Int) < (l.length : Int) + (v.length : Int) := by omega
  have hbw : g < w.heap.size := h.lt
  have hvw : vb < w.heap.size := (blk_lt hv vb rfl).2
  have hkk : (l.length : Int) + (v.length : Int) - (i : Int) = ((l.length + v.length - i : Nat) : Int) := by omega
  have hik : i + (l.length + v.length - i) = l.length + v.length := by omega
  have hold : (Builtin.firstCells i0.size i (.slice (some ⟨g, 0, none⟩) i cap)).run Try.prog w.drew = .ok (bs (l.take i)).toArray w.drew := by
    rw [hzs]
    exact run_firstCells_some w.drew 1 i ⟨g, 0, none⟩ i cap (bs (l.take i)) (by rw [bs_len, List.length_take]; omega) (fun j u hj => by
      rw [Addr.add_lit, Nat.zero_add]
      refine (h.below ((Below.refl _ w).drewN 1)).get j u ?_
      rw [bs, List.map_take, List.getElem?_take] at hj
      split at hj
      · exact hj
      · cases hj)
  obtain ⟨G, hG⟩ : ∃ G, G = grownCap w (l.length + v.length) cap 5 := ⟨_, rfl⟩
  obtain ⟨ROW, hROW⟩ : ∃ ROW : Array Value, ROW = (bs (l.take i)).toArray ++ Builtin.zeroCells (Value.int .u8 0).cells (l.length + v.length - i) ++ Builtin.zeroCells (Value.int .u8 0).cells (G - (l.length + v.length)) := ⟨_, rfl⟩
  have hrz : ∀ ty, (Builtin.append_ #[58, 3] ty #[.slice (some ⟨g, 0, none⟩) i cap, .int .i64 ((l.length : Int) + (v.length : Int) - (i : Int))]).run Try.prog w =
      .ok (.slice (some ⟨w.heap.size, 0, none⟩) (l.length + v.length) G) (w.drew.alloc (.cells ROW 5)) := fun ty => by
    have hh := Go.Lib.run_append_grow_zeros w 58 3 ty 5 i0 _ .i64 .i64 Try.underlying58 Try.underlying3 hi0 hz0 (some ⟨g, 0, none⟩) i cap (bs (l.take i)) hold (l.length + v.length - i) (by omega) (by omega) (by omega) (by omega) (by rw [hzb]; omega) (by rw [hzb, hik]; exact growslice_fits hroom (by omega))
    rw [hik, ← hG, ← hROW] at hh
    rw [hkk]
    exact hh
  have hGn : l.length + v.length ≤ G := by rw [hG]; exact grownCap_ge w _ _ _
  have hG63 : G ≤ maxLen := by
    rw [hG]; exact grownCap_le_maxLen w (l.length + v.length) cap 5 (by unfold maxLen; omega)
  have hRs : ROW.size = G := by
    rw [hROW]
    simp [Builtin.zeroCells, Value.cells, bs_len]
    omega
  have hRt : ROW.toList.take i = bs (l.take i) := by
    rw [hROW, Array.toList_append, Array.toList_append, List.append_assoc, List.take_left' (by simp [bs_len]; omega)]
  obtain ⟨W1, hW1⟩ : ∃ W1, W1 = w.drew.alloc (.cells ROW 5) := ⟨_, rfl⟩
  rw [← hW1] at hrz
  have hO1 : FRow W1 w.heap.size G ROW.toList := by
    rw [hW1]
    exact FRow.of_own <| World.ownsRow_lit (base := w.heap.size) w.drew ROW G (Nat.le_refl _) hG63 (by rw [hRs, Nat.mul_one])
  have hG1 : w.grownBy W1 none := by rw [hW1]; exact grown_drew (World.grownBy_alloc w.drew _ none)
  have hv1 := hv.kept hG1 (.inr (by simp [Value.ownBlock]))
  have h1 := h.kept hG1 (by simp)
  have hdl : (bs (l.drop i)).length = l.length - i := by rw [bs_len, List.length_drop]
  have hcpA : ∀ (W : World), (∀ x, W.cell? x = W1.cell? x) → (∀ x, W.frozen? x = W1.frozen? x) → ∀ ty dc, (Builtin.copy_ #[58, 58] ty #[.slice (some ⟨w.heap.size, i, none⟩) (l.length + v.length - i) dc, .slice (some ⟨vb, 0, none⟩) v.length vc]).run Try.prog W = .ok (goInt (bs v).length) (W.setCells w.heap.size i (bs v)) := fun W hWc hWf ty dc =>
    run_copy_cells W _ _ ty 5 w.heap.size i (l.length + v.length - i) dc ⟨vb, 0, none⟩ v.length vc (bs v) Try.underlying58 (by kernel_rfl) (by rw [bs_len]; simp only [Nat.min_def]; split <;> omega)
      (fun j u hj => by rw [Addr.add_lit, hWc, Nat.zero_add]; exact own_get hv1 j u hj)
      (fun j hj => by rw [hWc]; rw [bs_len] at hj; exact hO1.some _ (by omega)) (fun j hj => by rw [hWf]; rw [bs_len] at hj; exact hO1.free _ (by omega)) (bs_one _)
  have h2 := FRow.setCells (bs v) i _ _ hO1 (by rw [bs_len]; omega)
  rw [bs_len v] at h2
  have hl2 := h1.kept h2.2 (by simp; omega)
  have hcpB : ∀ (W : World), (∀ x, W.cell? x = (W1.setCells w.heap.size i (bs v)).cell? x) → (∀ x, W.frozen? x = (W1.setCells w.heap.size i (bs v)).frozen? x) → ∀ ty dc sc, (Builtin.copy_ #[58, 58] ty #[.slice (some ⟨w.heap.size, i + v.length, none⟩) (l.length + v.length - (i + v.length)) dc, .slice (some ⟨g, i, none⟩) (l.length - i) sc]).run Try.prog W = .ok (goInt (bs (l.drop i)).length) (W.setCells w.heap.size (i + v.length) (bs (l.drop i))) := fun W hWc hWf ty dc sc =>
    run_copy_cells W _ _ ty 5 w.heap.size (i + v.length) (l.length + v.length - (i + v.length)) dc ⟨g, i, none⟩ (l.length - i) sc (bs (l.drop i)) Try.underlying58 (by kernel_rfl) (by rw [hdl]; simp only [Nat.min_def]; split <;> omega)
      (fun j u hj => by
        rw [Addr.add_lit, hWc]
        refine hl2.get _ u ?_
        rw [bs, List.map_drop, List.getElem?_drop] at hj
        exact hj)
      (fun j hj => by rw [hWc]; exact h2.1.some _ (by omega)) (fun j hj => by rw [hWf]; exact h2.1.free _ (by omega)) (bs_one _)
  have h3 := FRow.setCells (bs (l.drop i)) (i + v.length) _ _ h2.1 (by rw [hdl]; omega)
  have hx : (l.take i ++ v ++ l.drop i).length = l.length + v.length := by simp; omega
  have hlg := list_grow ROW.toList (bs (l.drop i)) (bs v) i v.length (by have hRl : ROW.toList.length = G := hRs; omega) (bs_len v)
  have hz : l.length + v.length = i + v.length + (bs (l.drop i)).length := by rw [hdl]; omega
  have h4 := h3.1.head (l.take i ++ v ++ l.drop i) (by rw [hx]; exact hGn) (by rw [hx, hz, hlg, hRt, ← bs_append, ← bs_append])
  have HO : Hid (WRow ((((w.alloc (.cells ROW 5)).drew.setCells w.heap.size i (bs v)).drew).setCells w.heap.size (i + v.length) (bs (l.drop i))) w.heap.size G (l.take i ++ v ++ l.drop i)) := Lib.hid (by
    rw [hW1] at h4; rw [← drew_setCells]; exact h4.below ((Below.refl _ _).drewN 1))
  have HG : Hid (w.grownBy ((((w.alloc (.cells ROW 5)).drew.setCells w.heap.size i (bs v)).drew).setCells w.heap.size (i + v.length) (bs (l.drop i))) (some g)) := Lib.hid (by
    rw [← drew_setCells]
    show w.grownBy (((w.drew.alloc (.cells ROW 5)).setCells w.heap.size i (bs v)).setCells w.heap.size (i + v.length) (bs (l.drop i))).drew (some g)
    rw [← hW1]
    have a1 : w.grownBy W1 (some g) := by rw [hW1]; exact grown_drew (World.grownBy_alloc w.drew _ (some g))
    have s1 : W1.heap.size ≤ (W1.setCells w.heap.size i (bs v)).heap.size := h2.2.size
    refine ⟨h3.2.os.trans (h2.2.os.trans a1.os), h3.2.tape.trans (h2.2.tape.trans a1.tape), h3.2.output.trans (h2.2.output.trans a1.output), Nat.le_trans a1.size (Nat.le_trans s1 h3.2.size), fun k hk hne => ?_⟩
    have hs1 := a1.size
    exact (h3.2.block k (by omega) (by simp; omega)).trans ((h2.2.block k (by omega) (by simp; omega)).trans (a1.block k hk hne)))
  have hGi : ¬ (G = i) := by omega
  have hGim : ¬ (G = i + v.length) := by omega
  have hci : ¬ (cap = i) := by omega
  have hw1 : IntKind.i64.wrap ((i : Int) + (v.length : Int)) = (i : Int) + (v.length : Int) := by rw [IntKind.wrap_i64]; omega
  have hb1 : (0 : Int) ≤ (i : Int) + (v.length : Int) := by omega
  have hin : i ≤ l.length := by omega
  have htn : ((i : Int) + (v.length : Int)).toNat = i + v.length := by omega
  have hb3 : (i : Int) ≤ (l.length : Int) := by omega
  subst hW1
  have hE1 : ∀ x, ((w.alloc (.cells ROW 5)).drew).cell? x = (w.drew.alloc (.cells ROW 5)).cell? x := fun x => rfl
  have hE2 : ∀ x, ((w.alloc (.cells ROW 5)).drew).frozen? x = (w.drew.alloc (.cells ROW 5)).frozen? x := fun x => rfl
  have hF1 : ∀ x, (((w.alloc (.cells ROW 5)).drew.setCells w.heap.size i (bs v)).drew).cell? x = ((w.drew.alloc (.cells ROW 5)).setCells w.heap.size i (bs v)).cell? x := fun x => rfl
  have hF2 : ∀ x, (((w.alloc (.cells ROW 5)).drew.setCells w.heap.size i (bs v)).drew).frozen? x = ((w.drew.alloc (.cells ROW 5)).setCells w.heap.size i (bs v)).frozen? x := fun x => rfl
  have hG9 : G ≤ 9223372036854775807 := by unfold maxLen at hG63; omega
  clear hkk hik hold hROW hG h h1 h2 h3 h4 hl2 hv hv1 hO1 hG1 hRt hRs hz hdl hi0 hz0 hzs hzb hG63 hlg
  go_enter Try.func101, Try.ntmps101
  go_wp2_with (first
    | (at_builtin; refine Go.Lib.wpList_append_run _ rfl _ _ _ _ rfl _ _ rfl rfl _ _ (hrz _) ?_)
    | (at_builtin; refine wpList_copy_runI _ rfl _ _ 58 58 rfl _ _ rfl rfl (hcpA _ hE1 hE2 _ _) ?_)
    | (at_builtin; refine wpList_copy_runI _ rfl _ _ 58 58 rfl _ _ rfl rfl (hcpB _ (fun _ => rfl) (fun _ => rfl) _ _ _) ?_))
  go_region_law_o (refine step_copy_runI rfl _ _ 58 58 rfl (.slice (some ⟨w.heap.size, i + v.length, none⟩) (l.length + v.length - (i + v.length)) (G - (i + v.length))) (.slice (some ⟨g, i, none⟩) (l.length - i) (cap - i)) (by simp [Act.eval, Act.put]) (by simp [Act.eval, Act.put]) (hcpB _ hF1 hF2 3 (G - (i + v.length)) (cap - i)) ?_)
  go_wp2
  go_ret
  refine ⟨w.heap.size, G, by rw [hx]; rfl, ?_, ⟨HG.out.os, HG.out.tape, HG.out.output, HG.out.size, HG.out.block⟩, .inr (Nat.le_refl _)⟩
  exact HO.out

theorem Insert_any (C g cap i vb vc : Nat) (l v : List UInt8) (w : World) (h : WRow w g cap l) (hv : w.ownsRow C 5 1 (.slice (some ⟨vb, 0, none⟩) v.length vc) v.length (bs v)) (hne : vb ≠ g)
    (hm : 0 < v.length) (hi : i ≤ l.length) (hlen : l.length + v.length ≤ 1000000) :
    Calls Try.prog 101 #[.slice (some ⟨g, 0, none⟩) l.length cap, .int .i64 i, .slice (some ⟨vb, 0, none⟩) v.length vc] w (InsP g (l.take i ++ v ++ l.drop i) w) := by
  by_cases he : i = l.length
  · subst he
    rw [List.take_length, List.drop_length, List.append_nil]
    exact Insert_end C g cap vb vc l v w h hv hm hlen
  · by_cases hr : l.length + v.length ≤ cap
    · exact Insert_shift C g cap i vb vc l v w h hv hne hm (by omega) hr
    · exact Insert_grow C g cap i vb vc l v w h hv hm (by omega) (by omega) hlen
end Go.Proofs.Ytbcckfggnlmhoaa
