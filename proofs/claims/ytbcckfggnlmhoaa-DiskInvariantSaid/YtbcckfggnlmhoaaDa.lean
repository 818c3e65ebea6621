/-
  Our own text, in the proofs of the laws of package disk (cayleylaw04). Proved here: what a presentation and a list of cells are that come in as arguments. Conditions: the arguments read as the row says.
-/
import Derived.Test.YtbcckfggnlmhoaaAb
import Derived.ProofKit
import Derived.OpenShut
import Derived.ChangeMaps5
import Derived.Deep.DeepHandedRow
import Derived.Deep.Slices
import Derived.ChangeArms
import Derived.Carry
import Derived.SizedLaws
import Derived.Lib.SmallJoins
namespace Go.Proofs.Ytbcckfggnlmhoaa
open Go Go.RowKit
open Go.ChangeShapes Go.WideShapes Go.ChangeAt Go.Deep

theorem own : ownKnob Try.prog.godebug = none := by kernel_rfl
theorem laidOut : laidOutB Try.prog = true := by kernel_rfl
def fG : Field := ⟨ "Gens", 3, 0, false, "", "", 0⟩
def fR : Field := ⟨ "Rels", 22, 1, false, "", "", 8⟩
def fC : Field := ⟨ "Conj", 9, 0, false, "", "", 0⟩
def fI : Field := ⟨ "Rel", 3, 1, false, "", "", 16⟩
def fV : Field := ⟨ "Inv", 4, 2, false, "", "", 24⟩
theorem un24 : Try.prog.underlying 24 = some (.struct #[fG, fR]) := by kernel_rfl
theorem un61 : Try.prog.underlying 61 = some (.struct #[fC, fI, fV]) := by kernel_rfl
theorem un25 : Try.prog.underlying 25 = some (.slice 61) := by kernel_rfl
theorem un22 : Try.prog.underlying 22 = some (.slice 9) := by kernel_rfl
theorem un3 : Try.prog.underlying 3 = some (.int .i64) := by kernel_rfl
theorem un4 : Try.prog.underlying 4 = some .bool := by kernel_rfl
theorem un9 : Try.prog.underlying 9 = some .string := by kernel_rfl
theorem ce24 : Try.prog.cellsOf 24 = 2 := by kernel_rfl
theorem ce61 : Try.prog.cellsOf 61 = 3 := by kernel_rfl
theorem ce9 : Try.prog.cellsOf 9 = 1 := by kernel_rfl
theorem ce3 : Try.prog.cellsOf 3 = 1 := by kernel_rfl
theorem ce4 : Try.prog.cellsOf 4 = 1 := by kernel_rfl
theorem by61 : Try.prog.bytesOf 61 = 32 := by kernel_rfl
theorem one24 : oneCellFields Try.prog #[fG, fR] = true := by kernel_rfl
theorem reach_eq : reachBytes = 140737488351232 := rfl

instance : Inhabited Cel := ⟨⟨[], 0, false⟩⟩

theorem spot_none {w : World} {a : Addr} {v : Value} (h : w.cell? a = some v) : ∃ b o, a = ⟨b, o, none⟩ := by
  obtain ⟨b, o, s⟩ := a
  cases s with
  | none => exact ⟨b, o, rfl⟩
  | some p => unfold World.cell? at h; split at h <;> simp at h

set_option maxRecDepth 100000 in
/-- A presentation, opened. -/
theorem pres_of {H : Type} {enc : TypeId × Value → H} {W : World} {b0 : Nat} {sp : Nat → Bool} {v : Value} {d : DataW H} {ps : List MemPlace} (hval : Value.okWide Try.prog W .any b0 24 v)
    (h : DataW.Trod enc Try.prog W 0 sp true 24 v d ps) : ∃ (p : Pr) (R : Option Addr) (rc : Nat), v = prV p.k R p.rels.length rc ∧ RelsAt W R p.rels ∧ p.rels.length ≤ maxLen ∧ (R = none → p.rels = [] ∧ rc = 0) ∧ (Lit.int .i64 p.k).wf = true := by
  obtain ⟨v0, v1, y0, y1, n, rfl, _, _, t0, t1⟩ := Go.Joins.open_agg2 un24 one24 ce24 hval h
  obtain ⟨k, hk, _, wk⟩ := DataW.trod_int un3 t0
  obtain rfl : v0 = .int .i64 k := by simpa using hk
  rcases Go.Deep.open_slice1 un22 ce9 t1 with ⟨hcs, _⟩ | ⟨a, len, cap, m, n, V, D, Pl, hcs, hb, hl, hm, hmm, hx, hall⟩
  · obtain rfl : v1 = .slice none 0 0 := by simpa using hcs
    exact ⟨⟨k, []⟩, none, 0, rfl, (fun i hi => absurd hi (Nat.not_lt_zero i)), Nat.zero_le _, fun _ => ⟨rfl, rfl⟩, wk⟩
  · obtain rfl : v1 = .slice (some a) len cap := by simpa using hcs
    have hlm : len ≤ m := by rw [hmm]; split <;> omega
    have each : ∀ i, i < len → ∃ r : List UInt8, W.cell? (a.add i) = some (.string ⟨r.toArray⟩) ∧ r.length ≤ maxLen := by
      intro i hi
      obtain ⟨h1, h2⟩ := hall i (by omega)
      obtain ⟨s, e, _, z⟩ := DataW.trod_string un9 h2
      have e2 : V i = .string s := by simpa using e
      rw [e2] at h1
      exact ⟨s.data.toList, h1, by simpa using z⟩
    obtain ⟨f, hf⟩ := Go.Deep.choose_lt each
    refine ⟨⟨k, (List.range len).map f⟩, some a, cap, by simp, fun i hi => ?_, by simp; omega, fun h => (by cases h), wk⟩
    have hi' : i < len := by simpa using hi
    have h0 := hf 0 (by omega)
    obtain ⟨b, o, rfl⟩ : ∃ b o, a = ⟨b, o, none⟩ := spot_none (a := a) (by simpa [Addr.add] using h0.1)
    have := hf i hi'
    rw [add_lit] at this
    exact ⟨b, o, rfl, by simpa using this.1, by simpa using this.2⟩

theorem weightsAll_mem {H : Type} {P : Program} {e : TypeId} : ∀ {l : List (DataW H)} {d : DataW H}, d ∈ l → ∀ n ∈ d.weights P e, n ∈ DataW.weightsAll P e l
  | d' :: r, d, hd, n, hn => by
    simp only [DataW.weightsAll, List.mem_append]
    rcases List.mem_cons.1 hd with rfl | h
    · exact Or.inl hn
    · exact Or.inr (weightsAll_mem h n hn)

set_option maxRecDepth 100000 in
/-- A list of cells, opened. -/
theorem cells_of {H : Type} {enc : TypeId × Value → H} {W : World} {b0 : Nat} {sp : Nat → Bool} {v : Value} {d : DataW H} {ps : List MemPlace} (hval : Value.okWide Try.prog W .any b0 25 v)
    (h : DataW.Trod enc Try.prog W 0 sp true 25 v d ps) (hw : ∀ n ∈ d.weights Try.prog 25, n ≤ reachBytes) : ∃ (D : Option Addr) (dc : Nat) (l : List Cel), v = .slice D l.length dc ∧ CellsAt W D l ∧ l.length ≤ 5000000000000 ∧ (D = none → l = [] ∧ dc = 0) := by
  obtain ⟨a0, len, cap, rfl⟩ := okWide_slice un25 hval
  obtain ⟨fuel, hf⟩ := h
  rcases Go.Deep.open_slice un25 hf with ⟨hcs, _⟩ | ⟨a, len', cap', m, n, D, Pl, hcs, hb, hl, hm, hmm, hx, hall⟩
  · have hs : Value.slice a0 len cap = .slice none 0 0 := by simpa [Value.cells] using hcs
    exact ⟨none, 0, [], hs, (fun i hi => absurd hi (Nat.not_lt_zero i)), Nat.zero_le _, fun _ => ⟨rfl, rfl⟩⟩
  · have hs : Value.slice a0 len cap = .slice (some a) len' cap' := by simpa [Value.cells] using hcs
    have hlm : len' ≤ m := by rw [hmm]; split <;> omega
    have hd : d = .slice ((List.range len').map D) ((List.range (m - len')).map fun j => D (len' + j)) := by have := congrArg Prod.fst hx; simpa using this
    have hlen : len' ≤ 5000000000000 := by
      have := hw ((len' + (m - len')) * 32) (by rw [hd]; simp [DataW.weights, un25, by61])
      rw [reach_eq] at this
      omega
    have each : ∀ i, i < len' → ∃ x : Cel, (W.cell? (a.add (i * 3)) = some (.string ⟨x.conj.toArray⟩) ∧ W.cell? ((a.add (i * 3)).add 1) = some (.int .i64 x.rel) ∧ W.cell? ((a.add (i * 3)).add 2) = some (.bool x.inv)) ∧ x.conj.length ≤ 140737488351232 := by
      intro i hi
      obtain ⟨cs', h1, h2⟩ := hall i (by omega)
      rw [ce61] at h1
      obtain ⟨_, hlen, hcell⟩ := World.cells?_some h1
      obtain ⟨xs, k, _, hD, _, hxl, hf⟩ := DataW.trod_struct un61 h2
      match xs, hxl, cs', hlen with
      | [y0, y1, y2], _, [v0, v1, v2], _ =>
        have g0 := hf 0 fC rfl
        have g1 := hf 1 fI rfl
        have g2 := hf 2 fV rfl
        simp [fC, ce9] at g0
        simp [fI, ce3] at g1
        simp [fV, ce4] at g2
        obtain ⟨n0, e0, q0, z0⟩ := DataW.trod_string un9 g0
        obtain ⟨n1, e1, _⟩ := DataW.trod_int un3 g1
        obtain ⟨n2, e2, _⟩ := DataW.trod_bool un4 g2
        have c0 := hcell 0 (by omega)
        have c1 := hcell 1 (by omega)
        have c2 := hcell 2 (by omega)
        simp at e0 e1 e2
        subst e0 e1 e2
        refine ⟨⟨n0.data.toList, n1, n2⟩, ⟨by simpa [Addr.add] using c0, by simpa using c1, by simpa using c2⟩, ?_⟩
        have hDi : D i = .agg [y0.1, y1.1, y2.1] := by have := congrArg Prod.fst hD; simpa using this
        have := hw n0.size (by
          rw [hd]
          simp only [DataW.weights, un25, List.mem_cons, List.mem_append]
          refine .inr (.inl (weightsAll_mem (d := D i) (by simp; exact ⟨i, hi, rfl⟩) _ ?_))
          rw [hDi, q0]
          simp only [DataW.weights, un61, DataW.weightsEach, List.map_cons, List.mem_append]
          simp [fC, DataW.weightsEach, DataW.weights])
        rw [reach_eq] at this
        simpa using this
    obtain ⟨f, hf⟩ := Go.Deep.choose_lt each
    refine ⟨some a, cap', (List.range len').map f, by rw [hs]; simp, fun i hi => ?_, by simp; omega, fun h => (by cases h)⟩
    have hi' : i < len' := by simpa using hi
    have h0 := hf 0 (by omega)
    obtain ⟨b, o, rfl⟩ : ∃ b o, a = ⟨b, o, none⟩ := spot_none (a := a) (by simpa [Addr.add] using h0.1.1)
    obtain ⟨⟨k0, k1, k2⟩, k3⟩ := hf i hi'
    simp only [add_lit] at k0 k1 k2
    exact ⟨b, o, rfl, by simpa using k0, by simpa using k1, by simpa using k2, by simpa using k3⟩
end Go.Proofs.Ytbcckfggnlmhoaa
