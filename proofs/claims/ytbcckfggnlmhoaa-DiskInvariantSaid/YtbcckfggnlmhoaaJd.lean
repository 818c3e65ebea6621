/-
  Our own text, in the proofs of the laws of package disk (cayleylaw04). Proved here: what a list of moves, and an array of eight images, are that come in as arguments. Conditions: the arguments read as the row says.
-/
import Derived.Test.YtbcckfggnlmhoaaDa
import Derived.Test.YtbcckfggnlmhoaaIm
namespace Go.Proofs.Ytbcckfggnlmhoaa
open Go Go.RowKit
open Go.ChangeShapes Go.WideShapes Go.ChangeAt Go.Deep

theorem ce52 : Try.prog.cellsOf 52 = 6 := by kernel_rfl
theorem by52 : Try.prog.bytesOf 52 = 48 := by kernel_rfl
theorem ce46 : Try.prog.cellsOf 46 = 8 := by kernel_rfl
instance : Inhabited Mv := ⟨⟨0, 0, 0, 0, 0, false⟩⟩

set_option maxRecDepth 100000 in
/-- A list of moves, opened. -/
theorem moves_of {H : Type} {enc : TypeId × Value → H} {W : World} {b0 : Nat} {sp : Nat → Bool} {v : Value} {d : DataW H} {ps : List MemPlace} (hval : Value.okWide Try.prog W .any b0 39 v)
    (h : DataW.Trod enc Try.prog W 0 sp true 39 v d ps) (hw : ∀ n ∈ d.weights Try.prog 39, n ≤ reachBytes) : ∃ (D : Option Addr) (dc : Nat) (l : List Mv), v = .slice D l.length dc ∧ MovesAt W D l ∧ l.length ≤ 5000000000000 := by
  obtain ⟨a0, len, cap, rfl⟩ := okWide_slice Try.underlying39 hval
  obtain ⟨fuel, hf⟩ := h
  rcases Go.Deep.open_slice Try.underlying39 hf with ⟨hcs, _⟩ | ⟨a, len', cap', m, n, D, Pl, hcs, hb, hl, hm, hmm, hx, hall⟩
  · have hs : Value.slice a0 len cap = .slice none 0 0 := by simpa [Value.cells] using hcs
    exact ⟨none, 0, [], hs, (fun i hi => absurd hi (Nat.not_lt_zero i)), Nat.zero_le _⟩
  · have hs : Value.slice a0 len cap = .slice (some a) len' cap' := by simpa [Value.cells] using hcs
    have hlm : len' ≤ m := by rw [hmm]; split <;> omega
    have hd : d = .slice ((List.range len').map D) ((List.range (m - len')).map fun j => D (len' + j)) := by have := congrArg Prod.fst hx; simpa using this
    have hlen : len' ≤ 5000000000000 := by
      have := hw ((len' + (m - len')) * 48) (by rw [hd]; simp [DataW.weights, Try.underlying39, by52])
      rw [reach_eq] at this
      omega
    have each : ∀ i, i < len' → ∃ x : Mv, (∀ j v, (mvC x)[j]? = some v → W.cell? ((a.add (i * 6)).add j) = some v) ∧ (Lit.int .i64 x.kind).wf = true := by
      intro i hi
      obtain ⟨cs', h1, h2⟩ := hall i (by omega)
      rw [ce52] at h1
      obtain ⟨_, hlen, hcell⟩ := World.cells?_some h1
      obtain ⟨xs, k, _, hD, _, hxl, hf⟩ := DataW.trod_struct Try.underlying52 h2
      match xs, hxl, cs', hlen with
      | [y0, y1, y2, y3, y4, y5], _, [v0, v1, v2, v3, v4, v5], _ =>
        have g0 := hf 0 _ rfl
        have g1 := hf 1 _ rfl
        have g2 := hf 2 _ rfl
        have g3 := hf 3 _ rfl
        have g4 := hf 4 _ rfl
        have g5 := hf 5 _ rfl
        simp [ce3] at g0 g1 g2 g3 g4
        simp [ce4] at g5
        obtain ⟨n0, e0, _, wk⟩ := DataW.trod_int un3 g0
        obtain ⟨n1, e1, _⟩ := DataW.trod_int un3 g1
        obtain ⟨n2, e2, _⟩ := DataW.trod_int un3 g2
        obtain ⟨n3, e3, _⟩ := DataW.trod_int un3 g3
        obtain ⟨n4, e4, _⟩ := DataW.trod_int un3 g4
        obtain ⟨n5, e5, _⟩ := DataW.trod_bool un4 g5
        have c0 := hcell 0 (by omega)
        have c1 := hcell 1 (by omega)
        have c2 := hcell 2 (by omega)
        have c3 := hcell 3 (by omega)
        have c4 := hcell 4 (by omega)
        have c5 := hcell 5 (by omega)
        simp at e0 e1 e2 e3 e4 e5
        subst e0 e1 e2 e3 e4 e5
        refine ⟨⟨n0, n1, n2, n3, n4, n5⟩, fun j v hj => ?_, wk⟩
        have hj6 : j < 6 := by
          have := (Array.getElem?_eq_some_iff.1 hj).1
          simpa [mvC] using this
        rcases (by omega : j = 0 ∨ j = 1 ∨ j = 2 ∨ j = 3 ∨ j = 4 ∨ j = 5) with rfl | rfl | rfl | rfl | rfl | rfl
        · cases hj; exact (by simpa using c0 : W.cell? ((a.add (i * 6)).add 0) = some (.int .i64 n0))
        · cases hj; exact (by simpa using c1 : W.cell? ((a.add (i * 6)).add 1) = some (.int .i64 n1))
        · cases hj; exact (by simpa using c2 : W.cell? ((a.add (i * 6)).add 2) = some (.int .i64 n2))
        · cases hj; exact (by simpa using c3 : W.cell? ((a.add (i * 6)).add 3) = some (.int .i64 n3))
        · cases hj; exact (by simpa using c4 : W.cell? ((a.add (i * 6)).add 4) = some (.int .i64 n4))
        · cases hj; exact (by simpa using c5 : W.cell? ((a.add (i * 6)).add 5) = some (.bool n5))
    obtain ⟨f, hf⟩ := Go.Deep.choose_lt each
    refine ⟨some a, cap', (List.range len').map f, by rw [hs]; simp, fun i hi => ?_, by simp; omega⟩
    have hi' : i < len' := by simpa using hi
    have h0 := (hf 0 (by omega)).1 0 _ rfl
    obtain ⟨b, o, rfl⟩ : ∃ b o, a = ⟨b, o, none⟩ := spot_none (a := a) (by simpa [Addr.add] using h0)
    obtain ⟨k0, k1⟩ := hf i hi'
    simp only [add_lit] at k0
    exact ⟨b, o, rfl, by simpa using k0, by simpa using k1⟩

set_option maxRecDepth 100000 in
/-- The eight images, opened. -/
theorem images_of {H : Type} {enc : TypeId × Value → H} {W : World} {b0 : Nat} {sp : Nat → Bool} {v : Value} {d : DataW H} {ps : List MemPlace} (hval : Value.okWide Try.prog W .any b0 46 v)
    (h : DataW.Trod enc Try.prog W 0 sp true 46 v d ps) : ∃ i0 i1 i2 i3 i4 i5 i6 i7 : Int, v = .agg #[.int .i64 i0, .int .i64 i1, .int .i64 i2, .int .i64 i3, .int .i64 i4, .int .i64 i5, .int .i64 i6, .int .i64 i7] := by
  simp only [Value.okWide, Try.underlying46] at hval
  obtain ⟨cs, rfl, hsz, _⟩ := hval
  rw [ce46] at hsz
  obtain ⟨fuel, hf⟩ := h
  obtain ⟨xs, k, _, _, _, hxl, hg⟩ := DataW.trod_array Try.underlying46 hf
  have each : ∀ i, i < 8 → ∃ n : Int, cs[i]? = some (.int .i64 n) := by
    intro i hi
    have g := hg i hi
    rw [ce3] at g
    have hx : xs[i]? = some xs[i] := List.getElem?_eq_getElem (by omega)
    rw [hx] at g
    obtain ⟨n, e, _⟩ := DataW.trod_int un3 g
    refine ⟨n, ?_⟩
    have e2 : (List.take 1 (List.drop (i * 1) (Value.agg cs).cells.toList))[0]? = some (.int .i64 n) := by rw [e]; rfl
    rw [List.getElem?_take, if_pos (by omega), List.getElem?_drop, Nat.mul_one, Nat.add_zero] at e2
    simpa [Value.cells] using e2
  obtain ⟨f, hf2⟩ := Go.Deep.choose_lt each
  refine ⟨f 0, f 1, f 2, f 3, f 4, f 5, f 6, f 7, ?_⟩
  congr 1
  apply Array.ext_getElem?
  intro i
  by_cases hi : i < 8
  · rw [hf2 i hi]
    rcases (by omega : i = 0 ∨ i = 1 ∨ i = 2 ∨ i = 3 ∨ i = 4 ∨ i = 5 ∨ i = 6 ∨ i = 7) with rfl | rfl | rfl | rfl | rfl | rfl | rfl | rfl <;> rfl
  · rw [Array.getElem?_eq_none (by omega), Array.getElem?_eq_none (by simp; omega)]
end Go.Proofs.Ytbcckfggnlmhoaa
