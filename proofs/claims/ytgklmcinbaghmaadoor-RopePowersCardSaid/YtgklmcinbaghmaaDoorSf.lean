/-
  Our own text, in the proof of the law RopePowers of package rope (cayleylaw02). Proved here: the table that the row lists, a world that holds it, and the list of nodes that an argument is. Conditions: the arguments read as the row says and the listed table lies as the program lays it; none other.
-/
import Derived.Test.YtgklmcinbaghmaaDoorSe
import Derived.Test.YtgklmcinbaghmaaDoorCards
import Derived.Test.YtgklmcinbaghmaaDoorTie
import Derived.ProofKit
import Derived.Lib.LaidTab
import Derived.OpenShut
import Derived.ChangeMaps5
import Derived.Deep.DeepHandedRow
import Derived.Deep.Slices
import Derived.ChangeArms
import Derived.Carry
namespace Go.Proofs.YtgklmcinbaghmaaDoor
open Go.ChangeShapes Go.WideShapes Go.ChangeAt Go.RowKit

theorem own : ownKnob Tryd.prog.godebug = none := by kernel_rfl
theorem gPlaces : Tryd.prog.globalNamed "cayley/word.places" = some 0 := by kernel_rfl
theorem gPlacesT : (Tryd.prog.globals[0]?).map (·.type) = some 107 := by kernel_rfl
theorem un107 : Tryd.prog.underlying 107 = some (.array 105 106) := by kernel_rfl
theorem un106 : Tryd.prog.underlying 106 = some (.int .i8) := by kernel_rfl
theorem ce107 : Tryd.prog.cellsOf 107 = 105 := by kernel_rfl
theorem ce106 : Tryd.prog.cellsOf 106 = 1 := by kernel_rfl

/-- What the row lists. -/
abbrev laid1 : List (String × DataW Unit) := [("cayley/word.places", Rows.laid_cayley_word_places)]

set_option maxRecDepth 100000 in
theorem tabs_of {W : World} (h : laidMet Tryd.prog laid1 W) : Tabs W := by
  have p5 : Lib.TabIs Tryd.prog W "cayley/word.places" .i8 placesL := Lib.tabIs_of_head gPlaces gPlacesT un107 un106 ce106 ce107 h
  refine ⟨fun i hi => ?_⟩
  have hl : placesL.length = 105 := by decide
  have := p5.cell gPlaces i (by omega)
  rw [this]
theorem tabs_ofH {W : World} (h : laidMetH Tryd.prog laid1 W) : Tabs W := by
  rw [MakeChecks.laidMetH_plain _ _ _ (by kernel_rfl)] at h
  exact tabs_of h

/-- A list's plain data, one by one. -/
def flat2 : DataW Unit → List Value
  | .lit (.int k n) => [.int k n]
  | _ => []
def flat : DataW Unit → List Value
  | .agg l => l.flatMap flat2
  | d => flat2 d
def putB (d : DataW Unit) : Obj → Obj
  | .cells _ t frozen => .cells (flat d).toArray t frozen
  | o => o
/-- A WORLD FOR THE WITNESS: the settled one, the table lying as its initialiser lays it. -/
noncomputable def laidWorld (os : Os) : World :=
  { World.holding Tryd.prog os ⟨#[], #[], []⟩ with heap := (World.holding Tryd.prog os ⟨#[], #[], []⟩).heap.modify 0 (putB Rows.laid_cayley_word_places) }
set_option maxRecDepth 100000 in
theorem laid_met (os : Os) (args : Array Value) : laidMet Tryd.prog laid1 ((laidWorld os).forCall (fun _ _ => 0) ⟨#[], args, []⟩).memory :=
  laidMet_of_run' 8 (by kernel_rfl) (by kernel_rfl)

def fW : Field := ⟨ "Word", 9, 0, false, "", "", 0⟩
def fL : Field := ⟨ "Left", 3, 1, false, "", "", 16⟩
def fR : Field := ⟨ "Right", 3, 2, false, "", "", 24⟩
def fT : Field := ⟨ "Times", 3, 3, false, "", "", 32⟩
theorem un41 : Tryd.prog.underlying 41 = some (.struct #[fW, fL, fR, fT]) := by kernel_rfl
theorem un22 : Tryd.prog.underlying 22 = some (.slice 41) := by kernel_rfl
theorem un3 : Tryd.prog.underlying 3 = some (.int .i64) := by kernel_rfl
theorem un9 : Tryd.prog.underlying 9 = some .string := by kernel_rfl
theorem ce41 : Tryd.prog.cellsOf 41 = 4 := by kernel_rfl
theorem ce3 : Tryd.prog.cellsOf 3 = 1 := by kernel_rfl
theorem ce9 : Tryd.prog.cellsOf 9 = 1 := by kernel_rfl
theorem laidOut : laidOutB Tryd.prog = true := by kernel_rfl

instance : Inhabited Nd := ⟨⟨⟨#[]⟩, 0, 0, 0⟩⟩

set_option maxRecDepth 100000 in
/-- The list of nodes, opened. -/
theorem rope_of {H : Type} {enc : TypeId × Value → H} {W : World} {b0 : Nat} {sp : Nat → Bool} {v : Value} {d : DataW H} {ps : List MemPlace} (hval : Value.okWide Tryd.prog W .any b0 22 v)
    (h : DataW.Trod enc Tryd.prog W 0 sp true 22 v d ps) : ∃ (A : Option Addr) (r : List Nd) (cap : Nat), v = .slice A r.length cap ∧ RopeAt W A r ∧ (A = none → r = []) ∧ r.length ≤ maxLen := by
  obtain ⟨a0, len, cap, rfl⟩ := okWide_slice un22 hval
  obtain ⟨fuel, hf⟩ := h
  rcases Go.Deep.open_slice un22 hf with ⟨hcs, _⟩ | ⟨a, len', cap', m, n, D, Pl, hcs, hb, hl, hm, hmm, hx, hall⟩
  · have hs : Value.slice a0 len cap = .slice none 0 0 := by simpa [Value.cells] using hcs
    exact ⟨none, [], 0, hs, nil_rope _ _, fun _ => rfl, Nat.zero_le _⟩
  · have hs : Value.slice a0 len cap = .slice (some a) len' cap' := by simpa [Value.cells] using hcs
    have hlm : len' ≤ m := by rw [hmm]; split <;> omega
    have each : ∀ i, i < len' → ∃ x : Nd, NodeAt W (a.add (i * 4)) x ∧ x.word.size ≤ maxLen := by
      intro i hi
      obtain ⟨cs', h1, h2⟩ := hall i (by omega)
      rw [ce41] at h1
      obtain ⟨_, hlen, hcell⟩ := World.cells?_some h1
      obtain ⟨xs, k, _, _, _, hxl, hf⟩ := DataW.trod_struct un41 h2
      match xs, hxl, cs', hlen with
      | [y0, y1, y2, y3], _, [v0, v1, v2, v3], _ =>
        have g0 := hf 0 fW rfl
        have g1 := hf 1 fL rfl
        have g2 := hf 2 fR rfl
        have g3 := hf 3 fT rfl
        simp [fW, ce9] at g0
        simp [fL, ce3] at g1
        simp [fR, ce3] at g2
        simp [fT, ce3] at g3
        obtain ⟨n0, e0, _, z0⟩ := DataW.trod_string un9 g0
        obtain ⟨n1, e1, _⟩ := DataW.trod_int un3 g1
        obtain ⟨n2, e2, _⟩ := DataW.trod_int un3 g2
        obtain ⟨n3, e3, _⟩ := DataW.trod_int un3 g3
        have c0 := hcell 0 (by omega)
        have c1 := hcell 1 (by omega)
        have c2 := hcell 2 (by omega)
        have c3 := hcell 3 (by omega)
        simp at e0 e1 e2 e3
        subst e0 e1 e2 e3
        exact ⟨⟨n0, n1, n2, n3⟩, ⟨by simpa [Addr.add] using c0, by simpa [Addr.add] using c1, by simpa [Addr.add] using c2, by simpa [Addr.add] using c3⟩, z0⟩
    obtain ⟨f, hf⟩ := Go.Deep.choose_lt each
    refine ⟨some a, (List.range len').map f, cap', by rw [hs]; simp, fun i hi => ?_, (fun h => by cases h), by simp; omega⟩
    have hi' : i < len' := by simpa using hi
    have := hf i hi'
    refine ⟨a, rfl, ?_, ?_⟩
    · simpa using this.1
    · simpa using this.2

theorem i64_of_wf {n : Int} (h : (Lit.int .i64 n).wf = true) : -9223372036854775808 ≤ n ∧ n ≤ 9223372036854775807 := by
  simp only [Lit.wf, Bool.and_eq_true, decide_eq_true_eq] at h
  have e1 : IntKind.i64.min = -9223372036854775808 := by decide
  have e2 : IntKind.i64.max = 9223372036854775807 := by decide
  omega
end Go.Proofs.YtgklmcinbaghmaaDoor
