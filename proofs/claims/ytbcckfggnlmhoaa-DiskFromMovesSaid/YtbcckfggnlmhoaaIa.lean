/-
  Our own text, in the proofs of the laws of package disk (cayleylaw04). Proved here: a row of the call's own written from a place on; slices.Delete at bytes; slices.Insert at bytes; slices.Grow, slices.Concat, bytes.Equal of bytes; . Conditions: the arguments lie in memory as the slices say; bounds; where a presentation is named valid, it is.
-/
import Derived.Test.YtbcckfggnlmhoaaAm
import Derived.Shelf.SlicesE.Delete
import Derived.Shelf.Spec.SlicesInsertGrow
import Derived.Lib.AppendZeros
import Derived.Laws.AppendOwnNone
import Derived.Maps.OwnOps
import Derived.Maps.Views
namespace Go.Proofs.Ytbcckfggnlmhoaa
open Go Go.RowKit

def Try.eDel_ren : Go.Shelf.Ren := ⟨fun | 45 => 102 | n => n, fun | 22 => 58 | 23 => 5 | 3 => 3 | 4 => 4 | 0 => 0 | n => n, fun | n => n⟩
theorem Try.eDel : Go.Proofs.SlLaysE.n45 Try.prog Try.eDel_ren := {
  mixed := by kernel_rfl
  f45 := ⟨Try.f102.name, by decide, Try.func102.trans (congrArg some (by kernel_rfl))⟩
  t0 := Try.underlying0
  a0 := Try.isAgg0
  z0 := Try.sizeOf0
  v0 := Try.zeroValue0
  t3 := Try.underlying3
  a3 := Try.isAgg3
  z3 := Try.sizeOf3
  v3 := Try.zeroValue3
  t4 := Try.underlying4
  a4 := Try.isAgg4
  z4 := Try.sizeOf4
  v4 := Try.zeroValue4
  t22 := Try.underlying58
  a22 := Try.isAgg58
  z22 := Try.sizeOf58
  v22 := Try.zeroValue58
  a23 := Try.isAgg5
  z23 := Try.sizeOf5 }

theorem own_full {w : World} {B e g n cap : Nat} {xs : List Value} (h : w.ownsRow B e 1 (.slice (some ⟨g, 0, none⟩) n cap) n xs) :
    ∃ ys, ys.length = cap - n ∧ w.ownsRow B e 1 (.slice (some ⟨g, 0, none⟩) cap cap) cap (xs ++ ys) := by
  rcases h.2 with ⟨h', _⟩ | ⟨g', cap', cur, h', hb, hg, hnc, hcm, hcs, htake⟩
  · simp at h'
  · simp only [Value.slice.injEq, Option.some.injEq, Addr.mk.injEq, and_true, true_and] at h'
    obtain ⟨rfl, rfl⟩ := h'
    have e1 : xs ++ cur.toList.drop n = cur.toList := by rw [← htake, Nat.mul_one, List.take_append_drop]
    refine ⟨cur.toList.drop n, by rw [List.length_drop, Array.length_toList, hcs, Nat.mul_one], ?_⟩
    rw [e1]
    exact ⟨by rw [Array.length_toList, hcs], .inr ⟨g, cap, cur, rfl, hb, hg, Nat.le_refl _, hcm, hcs, List.take_of_length_le (by rw [Array.length_toList, hcs]; exact Nat.le_refl _)⟩⟩
theorem own_shape? {w : World} {B e g n cap : Nat} {xs : List Value} (h : w.ownsRow B e 1 (.slice (some ⟨g, 0, none⟩) n cap) n xs) : w.shape? g = some (e, cap) := by
  rcases h.2 with ⟨h', _⟩ | ⟨g', cap', cur, h', hb, hg, hnc, hcm, hcs, htake⟩
  · simp at h'
  · simp only [Value.slice.injEq, Option.some.injEq, Addr.mk.injEq, and_true, true_and] at h'
    obtain ⟨rfl, rfl⟩ := h'
    unfold World.shape?
    rw [hg]
    simp only [hcs, Nat.mul_one]
theorem own_max {w : World} {B e g n cap : Nat} {xs : List Value} (h : w.ownsRow B e 1 (.slice (some ⟨g, 0, none⟩) n cap) n xs) : cap ≤ maxLen := by
  rcases h.2 with ⟨h', _⟩ | ⟨g', cap', cur, h', _, _, _, hcm, _⟩
  · cases h'
  · simp only [Value.slice.injEq, Option.some.injEq, Addr.mk.injEq, and_true, true_and] at h'
    obtain ⟨rfl, rfl⟩ := h'
    exact hcm

/-- A whole row of bytes in a block: its cells, none of them frozen. -/
structure FRow (w : World) (g cap : Nat) (xs : List Value) : Prop where
  lt : g < w.heap.size
  len : xs.length = cap
  max : cap ≤ maxLen
  shape : w.shape? g = some (5, cap)
  cell : ∀ j, j < cap → w.cell? ⟨g, j, none⟩ = xs[j]?
  free : ∀ j, j < cap → w.frozen? ⟨g, j, none⟩ = false
theorem FRow.of_own {w : World} {B g cap : Nat} {xs : List Value} (h : w.ownsRow B 5 1 (.slice (some ⟨g, 0, none⟩) cap cap) cap xs) : FRow w g cap xs :=
  ⟨(h.lt g rfl).2, by have := h.1; omega, own_max h, own_shape? h, fun j hj => h.cellAt j (by omega), fun j _ => h.frozenAt j⟩
theorem FRow.kept {w w' : World} {g cap : Nat} {xs : List Value} {row : Option Nat} (h : FRow w g cap xs) (hg : w.grownBy w' row) (hne : some g ≠ row) : FRow w' g cap xs := by
  have hb := hg.block g h.lt hne
  refine ⟨Nat.lt_of_lt_of_le h.lt hg.size, h.len, h.max, ?_, fun j hj => ?_, fun j hj => ?_⟩
  · have := h.shape; unfold World.shape? at this ⊢; rw [hb]; exact this
  · rw [← h.cell j hj]; exact World.cell?_of_block (w := w) (a := ⟨g, j, none⟩) hb
  · have := h.free j hj; unfold World.frozen? at this ⊢; simp only at this ⊢; rw [hb]; exact this
theorem FRow.below {w w' : World} {g cap : Nat} {xs : List Value} (h : FRow w g cap xs) (hb : Below w.heap.size w w') : FRow w' g cap xs :=
  h.kept (row := none) ⟨hb.os, hb.tape, hb.output, hb.size, fun k hk _ => hb.block k hk⟩ (by simp)
theorem FRow.some {w : World} {g cap : Nat} {xs : List Value} (h : FRow w g cap xs) (j : Nat) (hj : j < cap) : (w.cell? ⟨g, j, none⟩).isSome = true := by
  rw [h.cell j hj, List.getElem?_eq_getElem (by have := h.len; omega)]; rfl
theorem shape?_setCell (w : World) (a : Addr) (v : Value) (g : Nat) : (w.setCell a v).shape? g = w.shape? g := by
  unfold World.shape? World.setCell
  simp only [Array.getElem?_modify]
  by_cases e : a.block = g
  · rw [if_pos e]
    cases hq : w.heap[g]? with
    | none => rfl
    | some o => cases o <;> simp <;> split <;> simp
  · rw [if_neg e]
theorem FRow.stored {w : World} {g cap : Nat} {xs : List Value} (h : FRow w g cap xs) (j : Nat) (hj : j < cap) (u : Value) : FRow (w.setCell ⟨g, j, none⟩ u) g cap (xs.set j u) ∧ w.grownBy (w.setCell ⟨g, j, none⟩ u) (Option.some g) := by
  have hsz : (w.setCell ⟨g, j, none⟩ u).heap.size = w.heap.size := World.size_setCell _ _ _
  refine ⟨⟨by rw [hsz]; exact h.lt, by rw [List.length_set]; exact h.len, h.max, by rw [shape?_setCell]; exact h.shape, fun i hi => ?_, fun i hi => by rw [World.frozen?_setCell]; exact h.free i hi⟩,
    ⟨rfl, rfl, rfl, by rw [hsz]; exact Nat.le_refl _, fun k _ hk => heap_setCell_other w ⟨g, j, none⟩ k u (fun e => hk (by simp [e]))⟩⟩
  by_cases e : i = j
  · subst e
    obtain ⟨v0, hv0⟩ := Option.isSome_iff_exists.1 (h.some i hi)
    rw [World.cell?_setCell_same (h := hv0), List.getElem?_set_self (by have := h.len; omega)]
  · rw [World.cell?_setCell_other (h := by simp [e]), h.cell i hi, List.getElem?_set_ne (fun x => e x.symm)]

theorem FRow.setCells {g cap : Nat} : ∀ (vs : List Value) (o : Nat) (w : World) (xs : List Value), FRow w g cap xs → o + vs.length ≤ cap →
    FRow (w.setCells g o vs) g cap (xs.take o ++ vs ++ xs.drop (o + vs.length)) ∧ w.grownBy (w.setCells g o vs) (Option.some g)
  | [], o, w, xs, h, _ => by
    simp only [World.setCells, List.append_nil, List.length_nil, Nat.add_zero, List.take_append_drop]
    exact ⟨h, World.grownBy.refl _ _⟩
  | v :: r, o, w, xs, h, hl => by
    simp only [List.length_cons] at hl
    have hx : xs.length = cap := h.len
    have h1 := h.stored o (by omega) v
    have h2 := FRow.setCells r (o + 1) _ _ h1.1 (by omega)
    have e1 : (xs.set o v).take (o + 1) = xs.take o ++ [v] := by
      rw [List.take_succ_eq_append_getElem (by rw [List.length_set]; omega), List.take_set_of_le (Nat.le_refl _)]
      simp
    have e2 : (xs.set o v).drop (o + 1 + r.length) = xs.drop (o + 1 + r.length) := List.drop_set_of_lt (by omega)
    rw [e1, e2] at h2
    simp only [World.setCells, List.length_cons]
    rw [show o + (r.length + 1) = o + 1 + r.length by omega]
    refine ⟨?_, grown_trans (A := Option.some ⟨g, 0, none⟩) (A1 := Option.some ⟨g, 0, none⟩) h1.2 h2.2 (.inl rfl)⟩
    have := h2.1
    simpa using this

/-- The bytes l at the head of a row of cap bytes. -/
def WRow (w : World) (g cap : Nat) (l : List UInt8) : Prop := l.length ≤ cap ∧ ∃ ys, FRow w g cap (bs l ++ ys)
theorem WRow.of_own {w : World} {B g cap : Nat} {l : List UInt8} (h : w.ownsRow B 5 1 (.slice (some ⟨g, 0, none⟩) l.length cap) l.length (bs l)) : WRow w g cap l := by
  obtain ⟨ys, _, hf⟩ := own_full h
  exact ⟨own_cap h, ys, FRow.of_own hf⟩
theorem FRow.head {w : World} {g cap : Nat} {xs : List Value} (h : FRow w g cap xs) (l : List UInt8) (hl : l.length ≤ cap) (he : xs.take l.length = bs l) : WRow w g cap l :=
  ⟨hl, xs.drop l.length, by rw [← he, List.take_append_drop]; exact h⟩
theorem WRow.kept {w w' : World} {g cap : Nat} {l : List UInt8} {row : Option Nat} (h : WRow w g cap l) (hg : w.grownBy w' row) (hne : some g ≠ row) : WRow w' g cap l :=
  ⟨h.1, h.2.imp fun _ hf => hf.kept hg hne⟩
theorem WRow.below {w w' : World} {g cap : Nat} {l : List UInt8} (h : WRow w g cap l) (hb : Below w.heap.size w w') : WRow w' g cap l := ⟨h.1, h.2.imp fun _ hf => hf.below hb⟩
theorem WRow.lt {w : World} {g cap : Nat} {l : List UInt8} (h : WRow w g cap l) : g < w.heap.size := by obtain ⟨_, _, hf⟩ := h; exact hf.lt
theorem WRow.max {w : World} {g cap : Nat} {l : List UInt8} (h : WRow w g cap l) : cap ≤ maxLen := by obtain ⟨_, _, hf⟩ := h; exact hf.max
theorem WRow.get {w : World} {g cap : Nat} {l : List UInt8} (h : WRow w g cap l) : ∀ j v, (bs l)[j]? = some v → w.cell? ⟨g, j, none⟩ = some v := by
  intro j v hj
  have hlt : j < (bs l).length := (List.getElem?_eq_some_iff.1 hj).1
  obtain ⟨hc, ys, hf⟩ := h
  rw [hf.cell j (by rw [bs_len] at hlt; omega), List.getElem?_append_left hlt, hj]
theorem WRow.row {w : World} {g cap : Nat} {l : List UInt8} (h : WRow w g cap l) : RowAt w (some ⟨g, 0, none⟩) l := fun i hi =>
  ⟨g, 0, rfl, by rw [Nat.zero_add]; exact h.get i _ (bs_get l i hi)⟩
theorem grown_of_below {w w' : World} (hb : Below w.heap.size w w') (row : Option Nat) : w.grownBy w' row := ⟨hb.os, hb.tape, hb.output, hb.size, fun k hk _ => hb.block k hk⟩

theorem putRow_bs (w : World) (g : Nat) (l l' : List UInt8) (hH : Go.Sort.Holds (fun c : UInt8 => Value.int .u8 c.toNat) w g 0 l.toArray) (hs : l'.length = l.length) :
    Go.Sort.putRow (fun c : UInt8 => Value.int .u8 c.toNat) w g 0 l'.toArray = w.setCells g 0 (bs l') := by
  have h1 := Go.Lib.putRow_setCells (fun c : UInt8 => Value.int .u8 c.toNat) w g 0 l' l.toArray 0 (by simp [hs])
  rw [Go.Sort.putRow_self _ _ _ _ _ hH] at h1
  have e : Go.Lib.lay l.toArray 0 l' = l'.toArray := by
    apply Array.ext_getElem?
    intro j
    rw [Go.Lib.lay_get? _ _ _ _ (by simp [hs])]
    split
    · simp
    · rw [Array.getElem?_eq_none (by simp; omega), Array.getElem?_eq_none (by simp; omega)]
  rw [e] at h1
  exact h1.symm

theorem own_holds {w : World} {g cap : Nat} {l : List UInt8} (h : WRow w g cap l) : Go.Sort.Holds (fun c : UInt8 => Value.int .u8 c.toNat) w g 0 l.toArray := by
  intro j hj
  have hj' : j < l.length := by simpa using hj
  refine ⟨?_, by rw [Nat.zero_add]; obtain ⟨hc, ys, hf⟩ := h; exact hf.free j (by omega)⟩
  rw [Nat.zero_add, h.get j _ (bs_get l j hj')]
  simp [hj']

/-- slices.Delete at bytes: in place. -/
theorem Delete_any (g cap i j : Nat) (l : List UInt8) (w : World) (h : WRow w g cap l) (hij : i ≤ j) (hj : j ≤ l.length) :
    Calls Try.prog 102 #[.slice (some ⟨g, 0, none⟩) l.length cap, .int .i64 i, .int .i64 j] w fun e w' => e = .returned (.slice (some ⟨g, 0, none⟩) (l.take i ++ l.drop j).length cap) ∧
      WRow w' g cap (l.take i ++ l.drop j) ∧ w.grownBy w' (some g) := by
  obtain ⟨i0, hi0, hz0, hz1, hz2⟩ := info_parts Try.info5
  have hcap := h.1
  have hmx : cap ≤ 9223372036854775807 := by have := h.max; unfold maxLen at this; omega
  have hc := AnyE.slices_Delete Try.eDel (fun c : UInt8 => Value.int .u8 c.toNat) (fun _ => rfl) 0 (fun w => by kernel_rfl) i0 hi0 hz1 g 0 cap i j l.toArray w (own_holds h) (by simpa using hcap) hmx hij (by simpa using hj)
  have hl : (l.take i ++ l.drop j).length = l.length - (j - i) := by simp; omega
  rw [hl]
  simp only [List.size_toArray] at hc
  change Calls Try.prog 102 _ _ _ at hc
  refine hc.mono ?_
  rintro e w' ⟨rfl, q, rfl⟩
  refine ⟨rfl, ?_⟩
  have hd : Below w.heap.size w (Go.Sort.ahead w q) := (Below.refl _ w).drewN q
  have ha : WRow (Go.Sort.ahead w q) g cap l := h.below hd
  rw [putRow_bs _ g l _ (own_holds ha) (by simp; omega)]
  obtain ⟨_, ys, hf⟩ := ha
  have h2 := FRow.setCells (bs (l.take i ++ l.drop j ++ List.replicate (j - i) 0)) 0 _ _ hf (by rw [bs_len]; simp; omega)
  refine ⟨h2.1.head _ (by rw [hl]; omega) ?_, grown_trans (A := some ⟨g, 0, none⟩) (A1 := some ⟨g, 0, none⟩) (grown_of_below hd (some g)) h2.2 (.inl rfl)⟩
  rw [List.take_zero, List.nil_append, bs_append _ (List.replicate _ _), List.append_assoc, List.take_left' (bs_len _)]
end Go.Proofs.Ytbcckfggnlmhoaa

namespace Go.Proofs.Ytbcckfggnlmhoaa
open Go Go.RowKit

theorem own_get {w : World} {B g cap : Nat} {l : List UInt8} (h : w.ownsRow B 5 1 (.slice (some ⟨g, 0, none⟩) l.length cap) l.length (bs l)) : ∀ j v, (bs l)[j]? = some v → w.cell? ⟨g, j, none⟩ = some v := by
  intro j v hj
  have : j < (bs l).length := (List.getElem?_eq_some_iff.1 hj).1
  rw [bs_len] at this
  rw [h.cellAt j (by omega), hj]

theorem list_shift {α : Type} (a ds rest vs : List α) (i m : Nat) (ha : i + m ≤ a.length) (hv : vs.length = m) :
    ((a.take (i + m) ++ ds ++ rest).take i ++ vs ++ (a.take (i + m) ++ ds ++ rest).drop (i + m)).take (i + m + ds.length) = a.take i ++ vs ++ ds := by
  have e1 : (a.take (i + m) ++ ds ++ rest).take i = a.take i := by
    rw [List.append_assoc, List.take_append_of_le_length (by rw [List.length_take]; omega), List.take_take, Nat.min_eq_left (by omega)]
  have e2 : (a.take (i + m) ++ ds ++ rest).drop (i + m) = ds ++ rest := by
    rw [List.append_assoc, List.drop_left' (by rw [List.length_take]; omega)]
  rw [e1, e2, ← List.append_assoc, List.take_left' (by simp; omega)]
theorem list_grow {α : Type} (R ds vs : List α) (i m : Nat) (hR : i + m + ds.length ≤ R.length) (hv : vs.length = m) :
    ((R.take i ++ vs ++ R.drop (i + m)).take (i + m) ++ ds ++ (R.take i ++ vs ++ R.drop (i + m)).drop (i + m + ds.length)).take (i + m + ds.length) = R.take i ++ vs ++ ds := by
  have e1 : (R.take i ++ vs ++ R.drop (i + m)).take (i + m) = R.take i ++ vs := by
    rw [List.take_left' (by simp; omega)]
  rw [e1, List.take_left' (by simp; omega)]

theorem WRow.shape {w : World} {g cap : Nat} {l : List UInt8} (h : WRow w g cap l) : w.shape? g = some (5, cap) := by obtain ⟨_, _, hf⟩ := h; exact hf.shape

/-- What Insert hands back. -/
def InsP (g : Nat) (x : List UInt8) (w : World) (e : Ending) (w' : World) : Prop :=
  ∃ g' cap', e = .returned (.slice (some ⟨g', 0, none⟩) x.length cap') ∧ WRow w' g' cap' x ∧ w.grownBy w' (some g) ∧ (g' = g ∨ w.heap.size ≤ g')

set_option maxHeartbeats 4000000 in
set_option maxRecDepth 100000 in
theorem Insert_shift (C g cap i vb vc : Nat) (l v : List UInt8) (w : World) (h : WRow w g cap l) (hv : w.ownsRow C 5 1 (.slice (some ⟨vb, 0, none⟩) v.length vc) v.length (bs v)) (hne : vb ≠ g)
    (hm : 0 < v.length) (hi : i < l.length) (hroom : l.length + v.length ≤ cap) :
    Calls Try.prog 101 #[.slice (some ⟨g, 0, none⟩) l.length cap, .int .i64 i, .slice (some ⟨vb, 0, none⟩) v.length vc] w (InsP g (l.take i ++ v ++ l.drop i) w) := by
  have hmx : cap ≤ 9223372036854775807 := by have := h.max; unfold maxLen at this; omega
  have hov : ∀ lb cb, (callFunc 104 #[.slice (some ⟨vb, 0, none⟩) v.length vc, .slice (some ⟨g, i + v.length, none⟩) lb cb]).run Try.prog w = .ok (.value (.bool false)) w := fun lb cb => by
    rw [run_callFunc_extern Try.func104 (by kernel_rfl) (by kernel_rfl) (by kernel_rfl) (e := Extern.SlicesOverlaps.overlaps #[58, 58] #[4]) (by kernel_rfl),
      Go.Lib.run_overlaps_apart w 58 4 5 Try.underlying58 1 (fun w => by kernel_rfl) ⟨vb, 0, none⟩ ⟨g, i + v.length, none⟩ v.length vc lb cb hne 5 5 vc cap (own_shape? hv) (WRow.shape h) (by omega) (hv.frozenAt 0) (hv.frozenAt vc)]
    rfl
  have hd0 : Below w.heap.size w w.drew := (Below.refl _ w).drewN 1
  have hgd := h.below hd0
  obtain ⟨_, ys, hfd⟩ := hgd
  have hy : ys.length = cap - l.length := by have := hfd.len; rw [List.length_append, bs_len] at this; omega
  have hdl : (bs (l.drop i)).length = l.length - i := by rw [bs_len, List.length_drop]
  have hcp1 : ∀ ty dc sc, (Builtin.copy_ #[58, 58] ty #[.slice (some ⟨g, i + v.length, none⟩) (l.length + v.length - (i + v.length)) dc, .slice (some ⟨g, i, none⟩) (l.length + v.length - i) sc]).run Try.prog w.drew = .ok (goInt (bs (l.drop i)).length) (w.drew.setCells g (i + v.length) (bs (l.drop i))) := fun ty dc sc =>
    run_copy_cells w.drew _ _ ty 5 g (i + v.length) (l.length + v.length - (i + v.length)) dc ⟨g, i, none⟩ (l.length + v.length - i) sc (bs (l.drop i)) Try.underlying58 (by kernel_rfl) (by rw [hdl]; simp only [Nat.min_def]; split <;> omega)
      (fun j u hj => by
        rw [Addr.add_lit]
        refine (h.below hd0).get _ u ?_
        rw [bs, ← List.map_drop.symm, List.getElem?_drop] at hj
        exact hj)
      (fun j hj => hfd.some _ (by omega)) (fun j hj => hfd.free _ (by omega)) (bs_one _)
  have h1 := FRow.setCells (bs (l.drop i)) (i + v.length) _ _ hfd (by rw [hdl]; omega)
  obtain ⟨W1, hW1⟩ : ∃ W1, W1 = w.drew.setCells g (i + v.length) (bs (l.drop i)) := ⟨_, rfl⟩
  rw [← hW1] at hcp1 h1
  have hv1 : W1.ownsRow C 5 1 (.slice (some ⟨vb, 0, none⟩) v.length vc) v.length (bs v) := (show w.drew.ownsRow C 5 1 (.slice (some ⟨vb, 0, none⟩) v.length vc) v.length (bs v) from hv).kept h1.2 (.inr (by simp [Value.ownBlock]; exact hne))
  have hcp2 : ∀ (W : World), (∀ x, W.cell? x = W1.cell? x) → (∀ x, W.frozen? x = W1.frozen? x) → ∀ ty dc, (Builtin.copy_ #[58, 58] ty #[.slice (some ⟨g, i, none⟩) (l.length + v.length - i) dc, .slice (some ⟨vb, 0, none⟩) v.length vc]).run Try.prog W = .ok (goInt (bs v).length) (W.setCells g i (bs v)) := fun W hWc hWf ty dc =>
    run_copy_cells W _ _ ty 5 g i (l.length + v.length - i) dc ⟨vb, 0, none⟩ v.length vc (bs v) Try.underlying58 (by kernel_rfl) (by rw [bs_len]; simp only [Nat.min_def]; split <;> omega)
      (fun j u hj => by rw [Addr.add_lit, hWc, Nat.zero_add]; exact own_get hv1 j u hj)
      (fun j hj => by rw [hWc]; rw [bs_len] at hj; exact h1.1.some _ (by omega)) (fun j hj => by rw [hWf]; rw [bs_len] at hj; exact h1.1.free _ (by omega)) (bs_one _)
  have mixed : Try.prog.follows Departure.mixedOrders = true := by kernel_rfl
  have hz1 : ¬ ((v.length : Int) = 0) := by omega
  have hz2 : ¬ ((i : Int) = (l.length : Int)) := by omega
  have hw1 : IntKind.i64.wrap ((i : Int) + (v.length : Int)) = (i : Int) + (v.length : Int) := by rw [IntKind.wrap_i64]; omega
  have hb1 : (0 : Int) ≤ (i : Int) + (v.length : Int) := by omega
  have hin : i ≤ l.length := by omega
  have htn : ((i : Int) + (v.length : Int)).toNat = i + v.length := by omega
  have hb2 : ¬ (cap = i + v.length) := by omega
  have hb3 : (i : Int) ≤ (l.length : Int) + (v.length : Int) := by omega
  have hb4 : ¬ (cap = i) := by omega
  have HF : Hid (w.drew.grownBy W1 (some g)) := Lib.hid h1.2
  have HO := Lib.hid h1.1
  have HY := Lib.hid hy
  clear h1 hfd hdl hv hv1 h hy hd0
  go_enter Try.func101, Try.ntmps101
  go_wp2_with (simp only [hov])
  go_region_law_o (refine step_copy_runI rfl _ _ 58 58 rfl _ _ (by simp [Act.eval, Act.put]) (by simp [Act.eval, Act.put]) (hcp1 _ _ _) ?_)
  go_wp2_with (at_builtin; refine wpList_copy_runI _ rfl _ _ 58 58 rfl _ _ rfl rfl (hcp2 _ (fun _ => rfl) (fun _ => rfl) _ _) ?_)
  go_ret
  subst hW1
  have h2 := FRow.setCells (bs v) i _ _ HO.out (by rw [bs_len]; omega)
  have e : ((List.take (i + v.length) (bs l ++ ys) ++ bs (List.drop i l) ++ List.drop (i + v.length + (bs (List.drop i l)).length) (bs l ++ ys)).take i ++ bs v ++ (List.take (i + v.length) (bs l ++ ys) ++ bs (List.drop i l) ++ List.drop (i + v.length + (bs (List.drop i l)).length) (bs l ++ ys)).drop (i + v.length)).take (i + v.length + (bs (List.drop i l)).length) = (bs l ++ ys).take i ++ bs v ++ bs (List.drop i l) :=
    list_shift _ _ _ _ i v.length (by have := HY.out; rw [List.length_append, bs_len]; omega) (bs_len v)
  have hx : (l.take i ++ v ++ l.drop i).length = l.length + v.length := by simp; omega
  have e2 : bs (l.take i ++ v ++ l.drop i) = (bs l ++ ys).take i ++ bs v ++ bs (List.drop i l) := by
    rw [bs_append, bs_append, List.take_append_of_le_length (by rw [bs_len]; omega), bs, bs, List.map_take]; rfl
  refine ⟨g, cap, by rw [hx]; rfl, ?_, grown_trans (A := some ⟨g, 0, none⟩) (A1 := some ⟨g, 0, none⟩) (show w.grownBy _ (some g) from ⟨HF.out.os, HF.out.tape, HF.out.output, HF.out.size, HF.out.block⟩) h2.2 (.inl rfl), .inl rfl⟩
  refine h2.1.head _ (by rw [hx]; omega) ?_
  have hz : l.length + v.length = i + v.length + (bs (List.drop i l)).length := by rw [bs_len, List.length_drop]; omega
  rw [hx, hz, e2, ← e, bs_len v]

set_option maxHeartbeats 4000000 in
set_option maxRecDepth 100000 in
theorem Insert_end (C g cap vb vc : Nat) (l v : List UInt8) (w : World) (h : WRow w g cap l) (hv : w.ownsRow C 5 1 (.slice (some ⟨vb, 0, none⟩) v.length vc) v.length (bs v))
    (hm : 0 < v.length) (hlen : l.length + v.length ≤ 1000000) :
    Calls Try.prog 101 #[.slice (some ⟨g, 0, none⟩) l.length cap, .int .i64 l.length, .slice (some ⟨vb, 0, none⟩) v.length vc] w (InsP g (l ++ v) w) := by
  obtain ⟨i0, hi0, hz0, hzs, hzb⟩ := info_parts Try.info5
  have hq1 : ¬ ((v.length : Int) = 0) := by omega
  have hsrc : Src Try.prog 1 58 (.slice (some ⟨vb, 0, none⟩) v.length vc) v.length (bs v) w := Src.ofSlice w Try.underlying58 ⟨vb, 0, none⟩ v.length vc (bs v) (by rw [bs_len, Nat.mul_one]) (fun j u hj => by rw [Addr.add_lit, Nat.zero_add]; exact own_get hv j u hj) (bs_one _)
  have hx : (l ++ v).length = l.length + v.length := List.length_append
  have hcap := h.1
  by_cases hroom : l.length + v.length ≤ cap
  · obtain ⟨_, ys, hf⟩ := h
    have hys : ys.length = cap - l.length := by have := hf.len; rw [List.length_append, bs_len] at this; omega
    have h2 := FRow.setCells (bs v) l.length _ _ hf (by rw [bs_len]; omega)
    have HW : Hid (WRow (w.setCells g l.length (bs v)) g cap (l ++ v)) := Lib.hid (h2.1.head _ (by rw [hx]; exact hroom) (by
      rw [List.take_left' (bs_len l), List.take_left' (by rw [List.length_append, bs_len, bs_len, hx]), bs_append]))
    have HG : Hid (w.grownBy (w.setCells g l.length (bs v)) (some g)) := Lib.hid h2.2
    have hc : ∀ j, j < (bs v).length → (w.cell? ⟨g, 0 + l.length + j, none⟩).isSome = true := fun j hj => by rw [bs_len] at hj; exact hf.some _ (by omega)
    have hfz : ∀ j, j < (bs v).length → w.frozen? ⟨g, 0 + l.length + j, none⟩ = false := fun j hj => by rw [bs_len] at hj; exact hf.free _ (by omega)
    rw [show l.length = 0 + l.length by omega] at HW HG
    clear hv h2 hf
    go_enter Try.func101, Try.ntmps101
    go_wp2_with (at_builtin; refine wpList_append_room1 _ rfl _ _ 58 58 rfl 5 _ _ Try.underlying58 Try.info5 g 0 l.length cap rfl _ rfl v.length (bs v) hsrc hroom hc hfz ?_)
    all_goals (
      go_ret
      exact ⟨g, cap, by rw [hx]; rfl, by simpa using HW.out, by simpa using HG.out, .inl rfl⟩)
  · have hold : (Builtin.firstCells i0.size l.length (.slice (some ⟨g, 0, none⟩) l.length cap)).run Try.prog w.drew = .ok (bs l).toArray w.drew := by
      rw [hzs]
      exact run_firstCells_some w.drew 1 l.length ⟨g, 0, none⟩ l.length cap (bs l) (by rw [bs_len, Nat.mul_one]) (fun j u hj => by rw [Addr.add_lit, Nat.zero_add]; exact (h.below ((Below.refl _ w).drewN 1)).get j u hj)
    obtain ⟨G, hG⟩ : ∃ G, G = grownCap w (l.length + v.length) cap 5 := ⟨_, rfl⟩
    obtain ⟨ROW, hROW⟩ : ∃ ROW : Array Value, ROW = (bs l ++ bs v).toArray ++ Builtin.zeroCells (Value.int .u8 0).cells (G - (l.length + v.length)) := ⟨_, rfl⟩
    have hrz : ∀ ty, (Builtin.append_ #[58, 58] ty #[.slice (some ⟨g, 0, none⟩) l.length cap, .slice (some ⟨vb, 0, none⟩) v.length vc]).run Try.prog w =
        .ok (.slice (some ⟨w.heap.size, 0, none⟩) (l.length + v.length) G) (w.drew.alloc (.cells ROW 5)) := fun ty => by
      have hh := run_append_grow_src w 58 58 ty 5 i0 _ Try.underlying58 hi0 hz0 (some ⟨g, 0, none⟩) l.length cap (bs l) hold _ v.length (bs v) (by rw [hzs]; exact hsrc) (by omega) (by omega) (by rw [hzb]; exact growslice_fits (by omega) (by omega))
      rw [← hG, ← hROW] at hh
      exact hh
    have hGn : l.length + v.length ≤ G := by rw [hG]; exact grownCap_ge w _ _ _
    have hG63 : G ≤ maxLen := by
      rw [hG]; exact grownCap_le_maxLen w (l.length + v.length) cap 5 (by unfold maxLen; omega)
    have hRs : ROW.size = G := by
      rw [hROW]
      simp [Builtin.zeroCells, Value.cells, bs_len]
      omega
    have hRt : ROW.toList.take (l ++ v).length = bs (l ++ v) := by
      rw [hROW, Array.toList_append, List.take_left' (by simp [bs_len]), bs_append]
    have HW : Hid (WRow (w.drew.alloc (.cells ROW 5)) w.heap.size G (l ++ v)) := Lib.hid ((FRow.of_own (World.ownsRow_lit (base := 0) w.drew ROW G (Nat.zero_le _) hG63 (by rw [hRs, Nat.mul_one]))).head _ (by rw [hx]; exact hGn) hRt)
    have HG : Hid (w.grownBy (w.drew.alloc (.cells ROW 5)) (some g)) := Lib.hid (grown_of_below (((Below.refl _ w).drewN 1).alloc (Nat.le_refl _) _) _)
    clear hold hROW hG hRs hRt hi0 hz0 hzs hzb h hv
    go_enter Try.func101, Try.ntmps101
    go_wp2_with (at_builtin; refine Go.Lib.wpList_append_run _ rfl _ _ _ _ rfl _ _ rfl rfl _ _ (hrz _) ?_)
    all_goals (
      go_ret
      exact ⟨w.heap.size, G, by rw [hx]; rfl, HW.out, HG.out, .inr (Nat.le_refl _)⟩)

theorem grown_drew {w w' : World} {row : Option Nat} (h : w.drew.grownBy w' row) : w.grownBy w' row := ⟨h.os, h.tape, h.output, h.size, h.block⟩

set_option maxHeartbeats 4000000 in
set_option maxRecDepth 100000 in
theorem Insert_grow (C g cap i vb vc : Nat) (l v : List UInt8) (w : World) (h : WRow w g cap l) (hv : w.ownsRow C 5 1 (.slice (some ⟨vb, 0, none⟩) v.length vc) v.length (bs v))
    (hm : 0 < v.length) (hi : i < l.length) (hroom : cap < l.length + v.length) (hlen : l.length + v.length ≤ 1000000) :
    Calls Try.prog 101 #[.slice (some ⟨g, 0, none⟩) l.length cap, .int .i64 i, .slice (some ⟨vb, 0, none⟩) v.length vc] w (InsP g (l.take i ++ v ++ l.drop i) w) := by
  have mixed : Try.prog.follows Departure.mixedOrders = true := by kernel_rfl
  obtain ⟨i0, hi0, hz0, hzs, hzb⟩ := info_parts Try.info5
  have hcap := h.1
  have hz1 : ¬ ((v.length : Int) = 0) := by omega
  have hz2 : ¬ ((i : Int) = (l.length : Int)) := by omega
  have hz3 : (cap : Int) < (l.length : Int) + (v.length : Int) := by omega
  have hbw : g < w.heap.size := h.lt
  have hvw : vb < w.heap.size := (blk_lt hv vb rfl).2
  have hkk : (l.length : Int) + (v.length : Int) - (i : Int) = ((l.length + v.length - i : Nat) : Int) := by omega
  have hik : i + (l.length + v.length - i) = l.length + v.length := by omega
  have hold : (Builtin.firstCells i0.size i (.slice (some ⟨g, 0, none⟩) i cap)).run Try.prog w.drew = .ok (bs (l.take i)).toArray w.drew := by
    rw [hzs]
    exact run_firstCells_some w.drew 1 i ⟨g, 0, none⟩ i cap (bs (l.take i)) (by rw [bs_len, List.length_take]; omega) (fun j u hj => by
      rw [Addr.add_lit, Nat.zero_add]
      refine (h.below ((Below.refl _ w).drewN 1)).get j u ?_
      rw [bs, List.map_take, List.getElem?_take] at hj
      split at hj
      · exact hj
      · cases hj)
  obtain ⟨G, hG⟩ : ∃ G, G = grownCap w (l.length + v.length) cap 5 := ⟨_, rfl⟩
  obtain ⟨ROW, hROW⟩ : ∃ ROW : Array Value, ROW = (bs (l.take i)).toArray ++ Builtin.zeroCells (Value.int .u8 0).cells (l.length + v.length - i) ++ Builtin.zeroCells (Value.int .u8 0).cells (G - (l.length + v.length)) := ⟨_, rfl⟩
  have hrz : ∀ ty, (Builtin.append_ #[58, 3] ty #[.slice (some ⟨g, 0, none⟩) i cap, .int .i64 ((l.length : Int) + (v.length : Int) - (i : Int))]).run Try.prog w =
      .ok (.slice (some ⟨w.heap.size, 0, none⟩) (l.length + v.length) G) (w.drew.alloc (.cells ROW 5)) := fun ty => by
    have hh := Go.Lib.run_append_grow_zeros w 58 3 ty 5 i0 _ .i64 .i64 Try.underlying58 Try.underlying3 hi0 hz0 (some ⟨g, 0, none⟩) i cap (bs (l.take i)) hold (l.length + v.length - i) (by omega) (by omega) (by omega) (by omega) (by rw [hzb]; omega) (by rw [hzb, hik]; exact growslice_fits hroom (by omega))
    rw [hik, ← hG, ← hROW] at hh
    rw [hkk]
    exact hh
  have hGn : l.length + v.length ≤ G := by rw [hG]; exact grownCap_ge w _ _ _
  have hG63 : G ≤ maxLen := by
    rw [hG]; exact grownCap_le_maxLen w (l.length + v.length) cap 5 (by unfold maxLen; omega)
  have hRs : ROW.size = G := by
    rw [hROW]
    simp [Builtin.zeroCells, Value.cells, bs_len]
    omega
  have hRt : ROW.toList.take i = bs (l.take i) := by
    rw [hROW, Array.toList_append, Array.toList_append, List.append_assoc, List.take_left' (by simp [bs_len]; omega)]
  obtain ⟨W1, hW1⟩ : ∃ W1, W1 = w.drew.alloc (.cells ROW 5) := ⟨_, rfl⟩
  rw [← hW1] at hrz
  have hO1 : FRow W1 w.heap.size G ROW.toList := by
    rw [hW1]
    exact FRow.of_own <| World.ownsRow_lit (base := w.heap.size) w.drew ROW G (Nat.le_refl _) hG63 (by rw [hRs, Nat.mul_one])
  have hG1 : w.grownBy W1 none := by rw [hW1]; exact grown_drew (World.grownBy_alloc w.drew _ none)
  have hv1 := hv.kept hG1 (.inr (by simp [Value.ownBlock]))
  have h1 := h.kept hG1 (by simp)
  have hdl : (bs (l.drop i)).length = l.length - i := by rw [bs_len, List.length_drop]
  have hcpA : ∀ (W : World), (∀ x, W.cell? x = W1.cell? x) → (∀ x, W.frozen? x = W1.frozen? x) → ∀ ty dc, (Builtin.copy_ #[58, 58] ty #[.slice (some ⟨w.heap.size, i, none⟩) (l.length + v.length - i) dc, .slice (some ⟨vb, 0, none⟩) v.length vc]).run Try.prog W = .ok (goInt (bs v).length) (W.setCells w.heap.size i (bs v)) := fun W hWc hWf ty dc =>
    run_copy_cells W _ _ ty 5 w.heap.size i (l.length + v.length - i) dc ⟨vb, 0, none⟩ v.length vc (bs v) Try.underlying58 (by kernel_rfl) (by rw [bs_len]; simp only [Nat.min_def]; split <;> omega)
      (fun j u hj => by rw [Addr.add_lit, hWc, Nat.zero_add]; exact own_get hv1 j u hj)
      (fun j hj => by rw [hWc]; rw [bs_len] at hj; exact hO1.some _ (by omega)) (fun j hj => by rw [hWf]; rw [bs_len] at hj; exact hO1.free _ (by omega)) (bs_one _)
  have h2 := FRow.setCells (bs v) i _ _ hO1 (by rw [bs_len]; omega)
  rw [bs_len v] at h2
  have hl2 := h1.kept h2.2 (by simp; omega)
  have hcpB : ∀ (W : World), (∀ x, W.cell? x = (W1.setCells w.heap.size i (bs v)).cell? x) → (∀ x, W.frozen? x = (W1.setCells w.heap.size i (bs v)).frozen? x) → ∀ ty dc sc, (Builtin.copy_ #[58, 58] ty #[.slice (some ⟨w.heap.size, i + v.length, none⟩) (l.length + v.length - (i + v.length)) dc, .slice (some ⟨g, i, none⟩) (l.length - i) sc]).run Try.prog W = .ok (goInt (bs (l.drop i)).length) (W.setCells w.heap.size (i + v.length) (bs (l.drop i))) := fun W hWc hWf ty dc sc =>
    run_copy_cells W _ _ ty 5 w.heap.size (i + v.length) (l.length + v.length - (i + v.length)) dc ⟨g, i, none⟩ (l.length - i) sc (bs (l.drop i)) Try.underlying58 (by kernel_rfl) (by rw [hdl]; simp only [Nat.min_def]; split <;> omega)
      (fun j u hj => by
        rw [Addr.add_lit, hWc]
        refine hl2.get _ u ?_
        rw [bs, List.map_drop, List.getElem?_drop] at hj
        exact hj)
      (fun j hj => by rw [hWc]; exact h2.1.some _ (by omega)) (fun j hj => by rw [hWf]; exact h2.1.free _ (by omega)) (bs_one _)
  have h3 := FRow.setCells (bs (l.drop i)) (i + v.length) _ _ h2.1 (by rw [hdl]; omega)
  have hx : (l.take i ++ v ++ l.drop i).length = l.length + v.length := by simp; omega
  have hlg := list_grow ROW.toList (bs (l.drop i)) (bs v) i v.length (by have hRl : ROW.toList.length = G := hRs; omega) (bs_len v)
  have hz : l.length + v.length = i + v.length + (bs (l.drop i)).length := by rw [hdl]; omega
  have h4 := h3.1.head (l.take i ++ v ++ l.drop i) (by rw [hx]; exact hGn) (by rw [hx, hz, hlg, hRt, ← bs_append, ← bs_append])
  have HO : Hid (WRow ((((w.alloc (.cells ROW 5)).drew.setCells w.heap.size i (bs v)).drew).setCells w.heap.size (i + v.length) (bs (l.drop i))) w.heap.size G (l.take i ++ v ++ l.drop i)) := Lib.hid (by
    rw [hW1] at h4; rw [← drew_setCells]; exact h4.below ((Below.refl _ _).drewN 1))
  have HG : Hid (w.grownBy ((((w.alloc (.cells ROW 5)).drew.setCells w.heap.size i (bs v)).drew).setCells w.heap.size (i + v.length) (bs (l.drop i))) (some g)) := Lib.hid (by
    rw [← drew_setCells]
    show w.grownBy (((w.drew.alloc (.cells ROW 5)).setCells w.heap.size i (bs v)).setCells w.heap.size (i + v.length) (bs (l.drop i))).drew (some g)
    rw [← hW1]
    have a1 : w.grownBy W1 (some g) := by rw [hW1]; exact grown_drew (World.grownBy_alloc w.drew _ (some g))
    have s1 : W1.heap.size ≤ (W1.setCells w.heap.size i (bs v)).heap.size := h2.2.size
    refine ⟨h3.2.os.trans (h2.2.os.trans a1.os), h3.2.tape.trans (h2.2.tape.trans a1.tape), h3.2.output.trans (h2.2.output.trans a1.output), Nat.le_trans a1.size (Nat.le_trans s1 h3.2.size), fun k hk hne => ?_⟩
    have hs1 := a1.size
    exact (h3.2.block k (by omega) (by simp; omega)).trans ((h2.2.block k (by omega) (by simp; omega)).trans (a1.block k hk hne)))
  have hGi : ¬ (G = i) := by omega
  have hGim : ¬ (G = i + v.length) := by omega
  have hci : ¬ (cap = i) := by omega
  have hw1 : IntKind.i64.wrap ((i : Int) + (v.length : Int)) = (i : Int) + (v.length : Int) := by rw [IntKind.wrap_i64]; omega
  have hb1 : (0 : Int) ≤ (i : Int) + (v.length : Int) := by omega
  have hin : i ≤ l.length := by omega
  have htn : ((i : Int) + (v.length : Int)).toNat = i + v.length := by omega
  have hb3 : (i : Int) ≤ (l.length : Int) := by omega
  subst hW1
  have hE1 : ∀ x, ((w.alloc (.cells ROW 5)).drew).cell? x = (w.drew.alloc (.cells ROW 5)).cell? x := fun x => rfl
  have hE2 : ∀ x, ((w.alloc (.cells ROW 5)).drew).frozen? x = (w.drew.alloc (.cells ROW 5)).frozen? x := fun x => rfl
  have hF1 : ∀ x, (((w.alloc (.cells ROW 5)).drew.setCells w.heap.size i (bs v)).drew).cell? x = ((w.drew.alloc (.cells ROW 5)).setCells w.heap.size i (bs v)).cell? x := fun x => rfl
  have hF2 : ∀ x, (((w.alloc (.cells ROW 5)).drew.setCells w.heap.size i (bs v)).drew).frozen? x = ((w.drew.alloc (.cells ROW 5)).setCells w.heap.size i (bs v)).frozen? x := fun x => rfl
  have hG9 : G ≤ 9223372036854775807 := by unfold maxLen at hG63; omega
  clear hkk hik hold hROW hG h h1 h2 h3 h4 hl2 hv hv1 hO1 hG1 hRt hRs hz hdl hi0 hz0 hzs hzb hG63 hlg
  go_enter Try.func101, Try.ntmps101
  go_wp2_with (first
    | (at_builtin; refine Go.Lib.wpList_append_run _ rfl _ _ _ _ rfl _ _ rfl rfl _ _ (hrz _) ?_)
    | (at_builtin; refine wpList_copy_runI _ rfl _ _ 58 58 rfl _ _ rfl rfl (hcpA _ hE1 hE2 _ _) ?_)
    | (at_builtin; refine wpList_copy_runI _ rfl _ _ 58 58 rfl _ _ rfl rfl (hcpB _ (fun _ => rfl) (fun _ => rfl) _ _ _) ?_))
  go_region_law_o (refine step_copy_runI rfl _ _ 58 58 rfl (.slice (some ⟨w.heap.size, i + v.length, none⟩) (l.length + v.length - (i + v.length)) (G - (i + v.length))) (.slice (some ⟨g, i, none⟩) (l.length - i) (cap - i)) (by simp [Act.eval, Act.put]) (by simp [Act.eval, Act.put]) (hcpB _ hF1 hF2 3 (G - (i + v.length)) (cap - i)) ?_)
  go_wp2
  go_ret
  refine ⟨w.heap.size, G, by rw [hx]; rfl, ?_, ⟨HG.out.os, HG.out.tape, HG.out.output, HG.out.size, HG.out.block⟩, .inr (Nat.le_refl _)⟩
  exact HO.out

theorem Insert_any (C g cap i vb vc : Nat) (l v : List UInt8) (w : World) (h : WRow w g cap l) (hv : w.ownsRow C 5 1 (.slice (some ⟨vb, 0, none⟩) v.length vc) v.length (bs v)) (hne : vb ≠ g)
    (hm : 0 < v.length) (hi : i ≤ l.length) (hlen : l.length + v.length ≤ 1000000) :
    Calls Try.prog 101 #[.slice (some ⟨g, 0, none⟩) l.length cap, .int .i64 i, .slice (some ⟨vb, 0, none⟩) v.length vc] w (InsP g (l.take i ++ v ++ l.drop i) w) := by
  by_cases he : i = l.length
  · subst he
    rw [List.take_length, List.drop_length, List.append_nil]
    exact Insert_end C g cap vb vc l v w h hv hm hlen
  · by_cases hr : l.length + v.length ≤ cap
    · exact Insert_shift C g cap i vb vc l v w h hv hne hm (by omega) hr
    · exact Insert_grow C g cap i vb vc l v w h hv hm (by omega) (by omega) hlen
end Go.Proofs.Ytbcckfggnlmhoaa

namespace Go.Proofs.Ytbcckfggnlmhoaa
open Go Go.RowKit

def GrowB (w : World) (e : Ending) (w' : World) : Prop :=
  ∃ A cap, e = .returned (.slice A 0 cap) ∧ w'.ownsRow w.heap.size 5 1 (.slice A 0 cap) 0 (bs []) ∧ Below w.heap.size w w'

set_option maxHeartbeats 1000000 in
set_option maxRecDepth 100000 in
theorem GrowB_any (n : Nat) (hn : n ≤ 1000000000) (w : World) : Calls Try.prog 106 #[.slice none 0 0, .int .i64 (n : Int)] w (GrowB w) := by
  by_cases h0 : n = 0
  · subst h0
    go_enter Try.func106, Try.ntmps106
    go_wp2
    go_ret
    exact ⟨none, 0, rfl, World.ownsRow_nil _ _ _ _, Below.refl _ _⟩
  · obtain ⟨i0, hi, hz0, hz1, hz2⟩ := info_parts Try.info5
    have hr := Lib.run_append_nil_zeros (P := Try.prog) w 58 3 58 5 i0 (.int .u8 0) .i64 .i64 Try.underlying58 Try.underlying3 hi hz0 n (by omega) (by rw [hz1]; decide) (by omega) (by rw [hz2]; omega)
    have hcm : grownCap w n 0 5 ≤ maxLen := grownCap_le_maxLen w n 0 5 (by unfold maxLen; omega)
    have hge : n ≤ grownCap w n 0 5 := grownCap_ge w n 0 5
    generalize grownCap w n 0 5 = c at *
    generalize hZ : (Builtin.zeroCells (Value.cells (.int .u8 0)) n ++ Builtin.zeroCells (Value.cells (.int .u8 0)) (c - n)) = Z at hr
    have hZs : Z.size = c * 1 := by rw [← hZ]; simp [size_zeroCells, Value.cells]; omega
    have hown : (w.drew.alloc (.cells Z 5)).ownsRow w.heap.size 5 1 (.slice (some ⟨w.heap.size, 0, none⟩) 0 c) 0 (bs []) :=
      ⟨rfl, .inr ⟨w.heap.size, c, Z, rfl, Nat.le_refl _, heap_alloc_new w.drew _, Nat.zero_le _, hcm, hZs, by simp [bs]⟩⟩
    have hb : Below w.heap.size w (w.drew.alloc (.cells Z 5)) := ((Below.refl w.heap.size w).drewN 1).alloc (Nat.le_refl _) _
    have HO := Lib.hid hown
    have HB := Lib.hid hb
    have HRR := Lib.hid hr
    have hn1 : 1 ≤ n := by omega
    clear hown hb hZ hZs hcm hi hz0 hz1 hz2 hr h0
    go_enter Try.func106, Try.ntmps106
    go_wp2_with (at_builtin; refine Lib.wpList_append_run _ rfl _ _ _ _ rfl _ _ rfl rfl _ _ HRR.out ?_)
    go_ret
    exact ⟨_, c, rfl, HO.out, HB.out⟩

/-- append of bytes, or of nothing, to an own row. -/
theorem append_optB {ops : Array Oper} {rest : List Oper} {o : Oper} {a : Act} {Q : Exit → Act → World → Prop} (w : World) (hgd : o.guard = none) (s x : Operand)
    (ho : o.op = .call { callee := .builtin .append, args := #[s, x], argTypes := #[58, 58] })
    (B : Nat) (A : Option Addr) (n cap : Nat) (r t : List UInt8) (hs : a.eval s = .slice A n cap) (hown : w.ownsRow B 5 1 (.slice A n cap) n (bs r))
    (X : Option Addr) (m c : Nat) (hx : a.eval x = .slice X m c) (hm : m = t.length) (hr : RowAt w X t) (hX : X = none → t = [] ∧ c = 0) (hn : n + m ≤ 1000000000) (hB : B ≤ w.heap.size)
    (h : ∀ A' cap' w', w'.ownsRow B 5 1 (.slice A' (n + m) cap') (n + m) (bs (r ++ t)) → Below B w w' → wpList Try.prog ops Q rest (a.put o.dst (.slice A' (n + m) cap')) w') :
    wpList Try.prog ops Q (o :: rest) a w := by
  obtain ⟨i0, hi, hz0, hz1, hz2⟩ := info_parts Try.info5
  cases X with
  | none =>
    obtain ⟨rfl, rfl⟩ := hX rfl
    obtain rfl : m = 0 := hm
    refine wpList_append_own_none hgd s x 58 ho B 5 i0 1 Try.underlying58 hi _ n (bs r) hs hown hx ?_
    have := h A cap w (by simpa using hown) (Below.refl _ _)
    simpa using this
  | some ad =>
    subst hm
    refine append_gen w hgd s x 58 ho 5 i0 (.int .u8 0) 1 1 Try.underlying58 hi hz0 hz1 hz2 rfl (by decide) B A n cap (bs r) hs hown ad t.length c (bs t) hx (by rw [bs_len, Nat.mul_one]) (fun j u hj => ?_) (bs_one _) (by unfold maxLen; omega) (by omega) hB ?_
    · have hj' : j < t.length := by
        have := (List.getElem?_eq_some_iff.1 hj).1
        rwa [bs_len] at this
      obtain ⟨b, o2, hA, hc⟩ := hr j hj'
      cases hA
      rw [Addr.add_lit, hc, ← bs_get t j hj', hj]
    · intro A' cap' w' h1 h2 _
      exact h A' cap' w' (by rw [bs_append]; exact h1) (below_of_grown (Below.refl B w) h2 hB (own_ge hown))

set_option maxHeartbeats 4000000 in
set_option maxRecDepth 100000 in
theorem SConcatB_any (g : Nat) (A B : Option Addr) (a b : List UInt8) (cap capb : Nat) (w : World) (hx0 : w.cell? ⟨g, 0, none⟩ = some (.slice A a.length cap)) (hx1 : w.cell? ⟨g, 1, none⟩ = some (.slice B b.length capb)) (hr : RowAt w A a) (hr' : RowAt w B b)
    (hA : A = none → a = [] ∧ cap = 0) (hB : B = none → b = [] ∧ capb = 0) (hn : a.length + b.length ≤ 1000000000) :
    Calls Try.prog 103 #[.slice (some ⟨g, 0, none⟩) 2 2] w (CloneP w (a ++ b)) := by
  have hg := lt_of_cell hx0
  simp only at hg
  have HX0 := Lib.hid hx0
  have HX1 := Lib.hid hx1
  have HR := Lib.hid hr
  have HR' := Lib.hid hr'
  have HA := Lib.hid hA
  have HB := Lib.hid hB
  clear hr hr' hA hB
  go_enter Try.func103, Try.ntmps103
  go_wp2
  go_loop [3, 5, 11] (fun s3 _ i => ∃ k : Nat, k ≤ 2 ∧ i = .int .i64 (k : Int) ∧ s3 = .int .i64 (if k = 0 then 0 else if k = 1 then (a.length : Int) else (a.length : Int) + (b.length : Int))) (fun _ _ i => 2 - (intOf i).toNat)
  case atStart => exact ⟨0, by omega, rfl, rfl⟩
  case round =>
    obtain ⟨k, hk, rfl, rfl⟩ := hrel
    by_cases hk0 : k = 0
    · subst hk0
      rw [if_pos rfl]
      go_wp2
      go_round
      case rel => exact ⟨1, by omega, by go_num, by simp⟩
      case measure => simp [intOf]
    · by_cases hk1 : k = 1
      · subst hk1
        rw [if_neg (by omega), if_pos rfl]
        go_wp2
        go_round
        case rel => exact ⟨2, by omega, by go_num, by simp⟩
        case measure => simp [intOf]
      · obtain rfl : k = 2 := by omega
        rw [if_neg (by omega), if_neg (by omega)]
        clear hx0 hx1
        go_wp2_with fail
        have hG := GrowB_any (a.length + b.length) hn w
        rw [Int.natCast_add] at hG
        refine hG.mono ?_
        rintro e w1 ⟨A1, c1, rfl, hown1, hb1⟩
        have HO1 := Lib.hid hown1
        have HB1 := Lib.hid hb1
        clear hown1 hb1 hG hk0 hk1 hk
        go_wp2
        go_loopw [6, 8, 27] (fun o _ i wr => ∃ (k : Nat) (A' : Option Addr) (n cap' : Nat), k ≤ 2 ∧ i = .int .i64 (k : Int) ∧ o = .slice A' n cap' ∧ n = (if k = 0 then 0 else if k = 1 then a.length else a.length + b.length) ∧ wr.ownsRow w.heap.size 5 1 (.slice A' n cap') n (bs (if k = 0 then [] else if k = 1 then a else a ++ b)) ∧ Below w.heap.size w wr) (fun _ _ i _ => 2 - (intOf i).toNat)
        case atStart => exact ⟨0, A1, 0, c1, by omega, rfl, rfl, rfl, HO1.out, HB1.out⟩
        case round =>
          obtain ⟨k, A', n, cap', hk, rfl, rfl, hnn, hown, hbw⟩ := hrel
          have HBW := Lib.hid hbw
          by_cases hk0 : k = 0
          · subst hk0
            rw [if_pos rfl] at hnn hown
            subst hnn
            have HO := Lib.hid hown
            have hx0 : wr.cell? ⟨g, 0, none⟩ = some (.slice A a.length cap) := (HBW.out.cell (p := ⟨g, 0, none⟩) hg).trans HX0.out
            clear hown hbw
            go_wp2_with (at_builtin; refine append_optB wr rfl (.tmp 31) (.tmp 32) rfl w.heap.size A' 0 cap' [] a rfl HO.out A a.length cap rfl rfl (HR.out.below HBW.out) HA.out (by omega) HBW.out.size ?_; intro A9 cap9 w9 hown9 hb9; have HO9 := Lib.hid hown9; have HB9 := Lib.hid hb9; clear hown9 hb9)
            go_roundw
            case rel => exact ⟨1, A9, _, cap9, by omega, by go_num, rfl, by simp, by simpa using HO9.out, HBW.out.trans HB9.out⟩
            case measure => simp [intOf]
          · by_cases hk1 : k = 1
            · subst hk1
              rw [if_neg (by omega), if_pos rfl] at hnn hown
              subst hnn
              have HO := Lib.hid hown
              have hx1 : wr.cell? ⟨g, 1, none⟩ = some (.slice B b.length capb) := (HBW.out.cell (p := ⟨g, 1, none⟩) hg).trans HX1.out
              clear hown hbw
              go_wp2_with (at_builtin; refine append_optB wr rfl (.tmp 31) (.tmp 32) rfl w.heap.size A' a.length cap' a b rfl HO.out B b.length capb rfl rfl (HR'.out.below HBW.out) HB.out (by omega) HBW.out.size ?_; intro A9 cap9 w9 hown9 hb9; have HO9 := Lib.hid hown9; have HB9 := Lib.hid hb9; clear hown9 hb9)
              go_roundw
              case rel => exact ⟨2, A9, _, cap9, by omega, by go_num, rfl, by simp, by simpa using HO9.out, HBW.out.trans HB9.out⟩
              case measure => simp [intOf]
            · obtain rfl : k = 2 := by omega
              rw [if_neg (by omega), if_neg (by omega)] at hnn hown
              subst hnn
              have HO := Lib.hid hown
              clear hown hbw
              go_wp2
              go_ret
              exact ⟨A', cap', by rw [List.length_append]; rfl, by rw [List.length_append]; exact HO.out, HBW.out⟩

set_option maxHeartbeats 1000000 in
set_option maxRecDepth 100000 in
theorem Equal_any (A B : Option Addr) (l v : List UInt8) (ca cb : Nat) (w : World) (hA : RowAt w A l) (hB : RowAt w B v) (hl : l.length ≤ 1000000000) (hv : v.length ≤ 1000000000) :
    Calls Try.prog 100 #[.slice A l.length ca, .slice B v.length cb] w fun e w' => e = .returned (.bool (l == v)) ∧ w' = w := by
  have h1 := run_string_row w A ca l hA
  have h2 := run_string_row w B cb v hB
  go_enter Try.func100, Try.ntmps100
  go_wp2
  go_ret
  exact ⟨rfl, rfl⟩
end Go.Proofs.Ytbcckfggnlmhoaa

namespace Go.Proofs.Ytbcckfggnlmhoaa
open Go Go.RowKit

/-- Whatever the elements are: each reads as itself. -/
def heldR (v : Value) : Option (DataW Value × List MemPlace) := some (.held v, [])
/-- What a map's datum says of a key. -/
def memoD (f : Int → Option Value) (k : Int) (z : DataW Value) : DataW Value := match f k with | some v => .held v | none => z
/-- Block mb is a map of at most n entries, which reads as f. -/
def MemoAt (w : World) (mb n : Nat) (f : Int → Option Value) : Prop :=
  ∃ D : DataW Value, Maps.IsMap D ∧ w.ownsMap Try.prog 3 heldR mb n D ∧ ∀ (k : Int) (z : DataW Value), (Lit.int .i64 k).wf = true → D.atKey (.int .i64 k) z = memoD f k z

theorem keyed3 : Maps.Keyed Try.prog 3 := Maps.int_keyed Try.underlying3

theorem memo_made (w : World) : MemoAt (w.alloc (.map #[] 0)) w.heap.size 0 (fun _ => none) :=
  ⟨.map [], ⟨[], rfl⟩, World.ownsMap_made _ _ _ _, fun _ _ _ => rfl⟩
theorem MemoAt.kept {w w' : World} {mb n : Nat} {f : Int → Option Value} (h : MemoAt w mb n f) {row : Option Nat} (hg : w.grownBy w' row) (hne : some mb ≠ row) : MemoAt w' mb n f := by
  obtain ⟨D, h1, h2, h3⟩ := h
  exact ⟨D, h1, h2.kept hg hne, h3⟩
theorem MemoAt.lt {w : World} {mb n : Nat} {f : Int → Option Value} (h : MemoAt w mb n f) : mb < w.heap.size := by
  obtain ⟨D, h1, h2, h3⟩ := h
  exact h2.lt
theorem MemoAt.block {w w' : World} {mb n : Nat} {f : Int → Option Value} (h : MemoAt w mb n f) (hb : w'.heap[mb]? = w.heap[mb]?) : MemoAt w' mb n f := by
  obtain ⟨D, h1, ⟨es, clock, h2, h4⟩, h3⟩ := h
  exact ⟨D, h1, ⟨es, clock, hb.trans h2, h4⟩, h3⟩
theorem MemoAt.mono {w : World} {mb n m : Nat} {f : Int → Option Value} (h : MemoAt w mb n f) (hn : n ≤ m) : MemoAt w mb m f := by
  obtain ⟨D, h1, h2, h3⟩ := h
  exact ⟨D, h1, h2.mono hn, h3⟩

theorem MemoAt.look {w : World} {mb n : Nat} {f : Int → Option Value} (h : MemoAt w mb n f) {T e : TypeId} (ht : Try.prog.underlying T = some (.map 3 e)) {z : Value} (hz : (zeroValue e).run Try.prog w = .ok z w)
    (k : Int) (hk : (Lit.int .i64 k).wf = true) :
    (f k = none ∧ (Instr.lookup T (.map (some mb)) (.int .i64 k) true).run Try.prog w = .ok (.tuple #[z, .bool false]) w) ∨
    (∃ v, f k = some v ∧ (Instr.lookup T (.map (some mb)) (.int .i64 k) true).run Try.prog w = .ok (.tuple #[v, .bool true]) w) := by
  obtain ⟨D, h1, ⟨es, clock, hb, F, _, rfl⟩, h3⟩ := h
  have hkey := Maps.keyOf_int_mk (P := Try.prog) Try.underlying3 hk
  rcases Maps.fit_look true keyed3 ht hz hb F hkey with ⟨hrun, _, hat⟩ | ⟨e0, y, _, _, hrun, hRv, hat, _⟩
  · left
    refine ⟨?_, hrun⟩
    have h4 := h3 k .nil hk
    have h5 := h3 k (.held .nilFunc) hk
    rw [hat] at h4 h5
    unfold memoD at h4 h5
    cases hf : f k with
    | none => rfl
    | some v => rw [hf] at h4; cases h4
  · right
    refine ⟨e0.val, ?_, hrun⟩
    have h4 := h3 k .nil hk
    rw [hat] at h4
    simp only [heldR, Option.some.injEq] at hRv
    subst hRv
    unfold memoD at h4
    cases hf : f k with
    | none => rw [hf] at h4; cases h4
    | some v => rw [hf] at h4; simp only [DataW.held.injEq] at h4; rw [h4]

theorem MemoAt.look_none {w : World} {mb n : Nat} {f : Int → Option Value} (h : MemoAt w mb n f) {T e : TypeId} (ht : Try.prog.underlying T = some (.map 3 e)) {z : Value} (hz : (zeroValue e).run Try.prog w = .ok z w)
    (k : Int) (hk : (Lit.int .i64 k).wf = true) (hf : f k = none) : (Instr.lookup T (.map (some mb)) (.int .i64 k) true).run Try.prog w = .ok (.tuple #[z, .bool false]) w := by
  rcases h.look ht hz k hk with ⟨_, h2⟩ | ⟨v, h1, _⟩
  · exact h2
  · rw [hf] at h1; cases h1
theorem MemoAt.look_some {w : World} {mb n : Nat} {f : Int → Option Value} (h : MemoAt w mb n f) {T e : TypeId} (ht : Try.prog.underlying T = some (.map 3 e)) {z : Value} (hz : (zeroValue e).run Try.prog w = .ok z w)
    (k : Int) (hk : (Lit.int .i64 k).wf = true) {v : Value} (hf : f k = some v) : (Instr.lookup T (.map (some mb)) (.int .i64 k) true).run Try.prog w = .ok (.tuple #[v, .bool true]) w := by
  rcases h.look ht hz k hk with ⟨h1, _⟩ | ⟨u, h1, h2⟩
  · rw [hf] at h1; cases h1
  · rw [hf] at h1; cases h1; exact h2

/-- f, and v at k. -/
def putF (f : Int → Option Value) (k : Int) (v : Value) : Int → Option Value := fun j => if j = k then some v else f j

theorem MemoAt.put {w : World} {mb n : Nat} {f : Int → Option Value} (h : MemoAt w mb n f) {T e : TypeId} (ht : Try.prog.underlying T = some (.map 3 e)) (hn : n < maxLen)
    (k : Int) (hk : (Lit.int .i64 k).wf = true) (v : Value) :
    ∃ w', (Instr.mapUpdate T (.map (some mb)) (.int .i64 k) v).run Try.prog w = .ok () w' ∧ MemoAt w' mb (n + 1) (putF f k v) ∧ w.grownBy w' (some mb) := by
  obtain ⟨D, h1, h2, h3⟩ := h
  have hkey := Maps.keyOf_int_mk (P := Try.prog) Try.underlying3 hk
  obtain ⟨w', hr, ho, hg⟩ := h2.update keyed3 ht hn hkey (val := v) (d := .held v) (ps := []) rfl
  refine ⟨w', hr, ⟨_, ?_, ho, ?_⟩, hg⟩
  · obtain ⟨es, rfl⟩ := h1
    exact ⟨_, rfl⟩
  · intro j z hj
    by_cases hjk : j = k
    · subst hjk
      rw [Maps.atKey_put_same h1 (keyed3.key hkey)]
      simp [memoD, putF]
    · rw [Maps.atKey_put_other (by simpa using hjk), h3 j z hj]
      simp [memoD, putF, hjk]

theorem run_makeMap_hint (w : World) (T k e : TypeId) (ht : Try.prog.underlying T = some (.map k e)) (n : Int) : (Instr.makeMap T (some (.int .i64 n))).run Try.prog w = .ok (.map (some w.heap.size)) (w.alloc (.map #[] 0)) := by
  simp [Instr.makeMap, run_underlying ht, asInt, asIntOf, Result.andThen]

theorem wpList_mapUpdate_memo (w : World) {ops : Array Oper} {rest : List Oper} {o : Oper} {a : Act} {Q : Exit → Act → World → Prop}
    (hg : o.guard = none) (m x v : Operand) (T : TypeId) (hop : o.op = Op.mapUpdate T m x v) (e : TypeId) (ht : Try.prog.underlying T = some (.map 3 e)) (mb n : Nat) (f : Int → Option Value)
    (hm : a.eval m = .map (some mb)) (h : MemoAt w mb n f) (hn : n < maxLen) (k : Int) (hx : a.eval x = .int .i64 k) (hk : (Lit.int .i64 k).wf = true) (val : Value) (hv : a.eval v = val)
    (hK : ∀ w', MemoAt w' mb (n + 1) (putF f k val) → w.grownBy w' (some mb) → wpList Try.prog ops Q rest (a.put o.dst undef) w') :
    wpList Try.prog ops Q (o :: rest) a w := by
  refine wpList_plain hg fun K' hK' => ?_
  obtain ⟨w', hrun, r1, r2⟩ := h.put ht hn k hk val
  unfold Oper.wp
  simp [execOp, hop, hm, hx, hv, hrun, Result.andThen]
  exact hK' _ _ (hK w' r1 r2)
end Go.Proofs.Ytbcckfggnlmhoaa
