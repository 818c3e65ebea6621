/-
  Our own text, in the proofs of the laws of package disk (cayleylaw04). Proved here: a row of the call's own written from a place on; slices.Delete at bytes. Conditions: the row is owned.
-/
import Derived.Test.YtbcckfggnlmhoaaAo
import Derived.Shelf.SlicesE.Delete
import Derived.Shelf.SlGeneric
import Derived.Ground.SlgnProg
namespace Go.Proofs.Ytbcckfggnlmhoaa
open Go Go.RowKit

shelf_lay_g SlLaysE.n45 Slgn 45 at Try 102 as Try.eDel

theorem own_full {w : World} {B e g n cap : Nat} {xs : List Value} (h : w.ownsRow B e 1 (.slice (some ⟨g, 0, none⟩) n cap) n xs) :
    ∃ ys, ys.length = cap - n ∧ w.ownsRow B e 1 (.slice (some ⟨g, 0, none⟩) cap cap) cap (xs ++ ys) := by
  rcases h.2 with ⟨h', _⟩ | ⟨g', cap', cur, h', hb, hg, hnc, hcm, hcs, htake⟩
  · simp at h'
  · simp only [Value.slice.injEq, Option.some.injEq, Addr.mk.injEq, and_true, true_and] at h'
    obtain ⟨rfl, rfl⟩ := h'
    have e1 : xs ++ cur.toList.drop n = cur.toList := by rw [← htake, Nat.mul_one, List.take_append_drop]
    refine ⟨cur.toList.drop n, by rw [List.length_drop, Array.length_toList, hcs, Nat.mul_one], ?_⟩
    rw [e1]
    exact ⟨by rw [Array.length_toList, hcs], .inr ⟨g, cap, cur, rfl, hb, hg, Nat.le_refl _, hcm, hcs, List.take_of_length_le (by rw [Array.length_toList, hcs]; exact Nat.le_refl _)⟩⟩
theorem own_shape? {w : World} {B e g n cap : Nat} {xs : List Value} (h : w.ownsRow B e 1 (.slice (some ⟨g, 0, none⟩) n cap) n xs) : w.shape? g = some (e, cap) := by
  rcases h.2 with ⟨h', _⟩ | ⟨g', cap', cur, h', hb, hg, hnc, hcm, hcs, htake⟩
  · simp at h'
  · simp only [Value.slice.injEq, Option.some.injEq, Addr.mk.injEq, and_true, true_and] at h'
    obtain ⟨rfl, rfl⟩ := h'
    unfold World.shape?
    rw [hg]
    simp only [hcs, Nat.mul_one]
theorem own_max {w : World} {B e g n cap : Nat} {xs : List Value} (h : w.ownsRow B e 1 (.slice (some ⟨g, 0, none⟩) n cap) n xs) : cap ≤ maxLen := by
  rcases h.2 with ⟨h', _⟩ | ⟨g', cap', cur, h', _, _, _, hcm, _⟩
  · cases h'
  · simp only [Value.slice.injEq, Option.some.injEq, Addr.mk.injEq, and_true, true_and] at h'
    obtain ⟨rfl, rfl⟩ := h'
    exact hcm

/-- A whole row of bytes in a block: its cells, none of them frozen. -/
structure FRow (w : World) (g cap : Nat) (xs : List Value) : Prop where
  lt : g < w.heap.size
  len : xs.length = cap
  max : cap ≤ maxLen
  shape : w.shape? g = some (5, cap)
  cell : ∀ j, j < cap → w.cell? ⟨g, j, none⟩ = xs[j]?
  free : ∀ j, j < cap → w.frozen? ⟨g, j, none⟩ = false
theorem FRow.of_own {w : World} {B g cap : Nat} {xs : List Value} (h : w.ownsRow B 5 1 (.slice (some ⟨g, 0, none⟩) cap cap) cap xs) : FRow w g cap xs :=
  ⟨(h.lt g rfl).2, by have := h.1; omega, own_max h, own_shape? h, fun j hj => h.cellAt j (by omega), fun j _ => h.frozenAt j⟩
theorem FRow.kept {w w' : World} {g cap : Nat} {xs : List Value} {row : Option Nat} (h : FRow w g cap xs) (hg : w.grownBy w' row) (hne : some g ≠ row) : FRow w' g cap xs := by
  have hb := hg.block g h.lt hne
  refine ⟨Nat.lt_of_lt_of_le h.lt hg.size, h.len, h.max, ?_, fun j hj => ?_, fun j hj => ?_⟩
  · have := h.shape; unfold World.shape? at this ⊢; rw [hb]; exact this
  · rw [← h.cell j hj]; exact World.cell?_of_block (w := w) (a := ⟨g, j, none⟩) hb
  · have := h.free j hj; unfold World.frozen? at this ⊢; simp only at this ⊢; rw [hb]; exact this
theorem FRow.below {w w' : World} {g cap : Nat} {xs : List Value} (h : FRow w g cap xs) (hb : Below w.heap.size w w') : FRow w' g cap xs :=
  h.kept (row := none) ⟨hb.os, hb.tape, hb.output, hb.size, fun k hk _ => hb.block k hk⟩ (by simp)
theorem FRow.some {w : World} {g cap : Nat} {xs : List Value} (h : FRow w g cap xs) (j : Nat) (hj : j < cap) : (w.cell? ⟨g, j, none⟩).isSome = true := by
  rw [h.cell j hj, List.getElem?_eq_getElem (by have := h.len; omega)]; rfl
theorem shape?_setCell (w : World) (a : Addr) (v : Value) (g : Nat) : (w.setCell a v).shape? g = w.shape? g := by
  unfold World.shape? World.setCell
  simp only [Array.getElem?_modify]
  by_cases e : a.block = g
  · rw [if_pos e]
    cases hq : w.heap[g]? with
    | none => rfl
    | some o => cases o <;> simp <;> split <;> simp
  · rw [if_neg e]
theorem FRow.stored {w : World} {g cap : Nat} {xs : List Value} (h : FRow w g cap xs) (j : Nat) (hj : j < cap) (u : Value) : FRow (w.setCell ⟨g, j, none⟩ u) g cap (xs.set j u) ∧ w.grownBy (w.setCell ⟨g, j, none⟩ u) (Option.some g) := by
  have hsz : (w.setCell ⟨g, j, none⟩ u).heap.size = w.heap.size := World.size_setCell _ _ _
  refine ⟨⟨by rw [hsz]; exact h.lt, by rw [List.length_set]; exact h.len, h.max, by rw [shape?_setCell]; exact h.shape, fun i hi => ?_, fun i hi => by rw [World.frozen?_setCell]; exact h.free i hi⟩,
    ⟨rfl, rfl, rfl, by rw [hsz]; exact Nat.le_refl _, fun k _ hk => heap_setCell_other w ⟨g, j, none⟩ k u (fun e => hk (by simp [e]))⟩⟩
  by_cases e : i = j
  · subst e
    obtain ⟨v0, hv0⟩ := Option.isSome_iff_exists.1 (h.some i hi)
    rw [World.cell?_setCell_same (h := hv0), List.getElem?_set_self (by have := h.len; omega)]
  · rw [World.cell?_setCell_other (h := by simp [e]), h.cell i hi, List.getElem?_set_ne (fun x => e x.symm)]

theorem FRow.setCells {g cap : Nat} : ∀ (vs : List Value) (o : Nat) (w : World) (xs : List Value), FRow w g cap xs → o + vs.length ≤ cap →
    FRow (w.setCells g o vs) g cap (xs.take o ++ vs ++ xs.drop (o + vs.length)) ∧ w.grownBy (w.setCells g o vs) (Option.some g)
  | [], o, w, xs, h, _ => by
    simp only [World.setCells, List.append_nil, List.length_nil, Nat.add_zero, List.take_append_drop]
    exact ⟨h, World.grownBy.refl _ _⟩
  | v :: r, o, w, xs, h, hl => by
    simp only [List.length_cons] at hl
    have hx : xs.length = cap := h.len
    have h1 := h.stored o (by omega) v
    have h2 := FRow.setCells r (o + 1) _ _ h1.1 (by omega)
    have e1 : (xs.set o v).take (o + 1) = xs.take o ++ [v] := by
      rw [List.take_succ_eq_append_getElem (by rw [List.length_set]; omega), List.take_set_of_le (Nat.le_refl _)]
      simp
    have e2 : (xs.set o v).drop (o + 1 + r.length) = xs.drop (o + 1 + r.length) := List.drop_set_of_lt (by omega)
    rw [e1, e2] at h2
    simp only [World.setCells, List.length_cons]
    rw [show o + (r.length + 1) = o + 1 + r.length by omega]
    refine ⟨?_, grown_trans (A := Option.some ⟨g, 0, none⟩) (A1 := Option.some ⟨g, 0, none⟩) h1.2 h2.2 (.inl rfl)⟩
    have := h2.1
    simpa using this

/-- The bytes l at the head of a row of cap bytes. -/
def WRow (w : World) (g cap : Nat) (l : List UInt8) : Prop := l.length ≤ cap ∧ ∃ ys, FRow w g cap (bs l ++ ys)
theorem WRow.of_own {w : World} {B g cap : Nat} {l : List UInt8} (h : w.ownsRow B 5 1 (.slice (some ⟨g, 0, none⟩) l.length cap) l.length (bs l)) : WRow w g cap l := by
  obtain ⟨ys, _, hf⟩ := own_full h
  exact ⟨own_cap h, ys, FRow.of_own hf⟩
theorem FRow.head {w : World} {g cap : Nat} {xs : List Value} (h : FRow w g cap xs) (l : List UInt8) (hl : l.length ≤ cap) (he : xs.take l.length = bs l) : WRow w g cap l :=
  ⟨hl, xs.drop l.length, by rw [← he, List.take_append_drop]; exact h⟩
theorem WRow.kept {w w' : World} {g cap : Nat} {l : List UInt8} {row : Option Nat} (h : WRow w g cap l) (hg : w.grownBy w' row) (hne : some g ≠ row) : WRow w' g cap l :=
  ⟨h.1, h.2.imp fun _ hf => hf.kept hg hne⟩
theorem WRow.below {w w' : World} {g cap : Nat} {l : List UInt8} (h : WRow w g cap l) (hb : Below w.heap.size w w') : WRow w' g cap l := ⟨h.1, h.2.imp fun _ hf => hf.below hb⟩
theorem WRow.lt {w : World} {g cap : Nat} {l : List UInt8} (h : WRow w g cap l) : g < w.heap.size := by obtain ⟨_, _, hf⟩ := h; exact hf.lt
theorem WRow.max {w : World} {g cap : Nat} {l : List UInt8} (h : WRow w g cap l) : cap ≤ maxLen := by obtain ⟨_, _, hf⟩ := h; exact hf.max
theorem WRow.get {w : World} {g cap : Nat} {l : List UInt8} (h : WRow w g cap l) : ∀ j v, (bs l)[j]? = some v → w.cell? ⟨g, j, none⟩ = some v := by
  intro j v hj
  have hlt : j < (bs l).length := (List.getElem?_eq_some_iff.1 hj).1
  obtain ⟨hc, ys, hf⟩ := h
  rw [hf.cell j (by rw [bs_len] at hlt; omega), List.getElem?_append_left hlt, hj]
theorem WRow.row {w : World} {g cap : Nat} {l : List UInt8} (h : WRow w g cap l) : RowAt w (some ⟨g, 0, none⟩) l := fun i hi =>
  ⟨g, 0, rfl, by rw [Nat.zero_add]; exact h.get i _ (bs_get l i hi)⟩
theorem grown_of_below {w w' : World} (hb : Below w.heap.size w w') (row : Option Nat) : w.grownBy w' row := ⟨hb.os, hb.tape, hb.output, hb.size, fun k hk _ => hb.block k hk⟩

theorem putRow_bs (w : World) (g : Nat) (l l' : List UInt8) (hH : Go.Sort.Holds (fun c : UInt8 => Value.int .u8 c.toNat) w g 0 l.toArray) (hs : l'.length = l.length) :
    Go.Sort.putRow (fun c : UInt8 => Value.int .u8 c.toNat) w g 0 l'.toArray = w.setCells g 0 (bs l') := by
  have h1 := Go.Lib.putRow_setCells (fun c : UInt8 => Value.int .u8 c.toNat) w g 0 l' l.toArray 0 (by simp [hs])
  rw [Go.Sort.putRow_self _ _ _ _ _ hH] at h1
  have e : Go.Lib.lay l.toArray 0 l' = l'.toArray := by
    apply Array.ext_getElem?
    intro j
    rw [Go.Lib.lay_get? _ _ _ _ (by simp [hs])]
    split
    · simp
    · rw [Array.getElem?_eq_none (by simp; omega), Array.getElem?_eq_none (by simp; omega)]
  rw [e] at h1
  exact h1.symm

theorem own_holds {w : World} {g cap : Nat} {l : List UInt8} (h : WRow w g cap l) : Go.Sort.Holds (fun c : UInt8 => Value.int .u8 c.toNat) w g 0 l.toArray := by
  intro j hj
  have hj' : j < l.length := by simpa using hj
  refine ⟨?_, by rw [Nat.zero_add]; obtain ⟨hc, ys, hf⟩ := h; exact hf.free j (by omega)⟩
  rw [Nat.zero_add, h.get j _ (bs_get l j hj')]
  simp [hj']

/-- slices.Delete at bytes: in place. -/
theorem Delete_any (g cap i j : Nat) (l : List UInt8) (w : World) (h : WRow w g cap l) (hij : i ≤ j) (hj : j ≤ l.length) :
    Calls Try.prog 102 #[.slice (some ⟨g, 0, none⟩) l.length cap, .int .i64 i, .int .i64 j] w fun e w' => e = .returned (.slice (some ⟨g, 0, none⟩) (l.take i ++ l.drop j).length cap) ∧
      WRow w' g cap (l.take i ++ l.drop j) ∧ w.grownBy w' (some g) := by
  obtain ⟨i0, hi0, hz0, hz1, hz2⟩ := info_parts Try.info5
  have hcap := h.1
  have hmx : cap ≤ 9223372036854775807 := by have := h.max; unfold maxLen at this; omega
  have hc := AnyE.slices_Delete Try.eDel (fun c : UInt8 => Value.int .u8 c.toNat) (fun _ => rfl) 0 (fun w => by kernel_rfl) i0 hi0 hz1 g 0 cap i j l.toArray w (own_holds h) (by simpa using hcap) hmx hij (by simpa using hj)
  have hl : (l.take i ++ l.drop j).length = l.length - (j - i) := by simp; omega
  rw [hl]
  simp only [List.size_toArray] at hc
  change Calls Try.prog 102 _ _ _ at hc
  refine hc.mono ?_
  rintro e w' ⟨rfl, q, rfl⟩
  refine ⟨rfl, ?_⟩
  have hd : Below w.heap.size w (Go.Sort.ahead w q) := (Below.refl _ w).drewN q
  have ha : WRow (Go.Sort.ahead w q) g cap l := h.below hd
  rw [putRow_bs _ g l _ (own_holds ha) (by simp; omega)]
  obtain ⟨_, ys, hf⟩ := ha
  have h2 := FRow.setCells (bs (l.take i ++ l.drop j ++ List.replicate (j - i) 0)) 0 _ _ hf (by rw [bs_len]; simp; omega)
  refine ⟨h2.1.head _ (by rw [hl]; omega) ?_, grown_trans (A := some ⟨g, 0, none⟩) (A1 := some ⟨g, 0, none⟩) (grown_of_below hd (some g)) h2.2 (.inl rfl)⟩
  rw [List.take_zero, List.nil_append, bs_append _ (List.replicate _ _), List.append_assoc, List.take_left' (bs_len _)]
end Go.Proofs.Ytbcckfggnlmhoaa
