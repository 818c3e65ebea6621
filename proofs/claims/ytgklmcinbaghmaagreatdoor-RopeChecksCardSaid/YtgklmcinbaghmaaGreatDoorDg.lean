/-
  Our own text, in the proofs of the laws of package rope (cayleylaw02). Proved here: the table that the row lists, a world that holds it, and the list of nodes that an argument is. Conditions: the arguments read as the row says and the listed table lies as the program lays it; none other.
-/
import Derived.Test.YtgklmcinbaghmaaGreatDoorRz
import Derived.Test.YtgklmcinbaghmaaGreatDoorCards
import Derived.Test.YtgklmcinbaghmaaGreatDoorTie
import Derived.ProofKit
import Derived.Lib.LaidTab
import Derived.OpenShut
import Derived.ChangeMaps5
import Derived.Deep.DeepHandedRow
import Derived.Deep.Slices
import Derived.ChangeArms
import Derived.Carry
namespace Go.Proofs.YtgklmcinbaghmaaGreatDoor
open Go.ChangeShapes Go.WideShapes Go.ChangeAt Go.RowKit

theorem own : ownKnob Tryz.prog.godebug = none := by kernel_rfl
theorem gPlaces : Tryz.prog.globalNamed "cayley/word.places" = some 0 := by kernel_rfl
theorem gPlacesT : (Tryz.prog.globals[0]?).map (·.type) = some 101 := by kernel_rfl
theorem un101 : Tryz.prog.underlying 101 = some (.array 105 100) := by kernel_rfl
theorem un100 : Tryz.prog.underlying 100 = some (.int .i8) := by kernel_rfl
theorem ce101 : Tryz.prog.cellsOf 101 = 105 := by kernel_rfl
theorem ce100 : Tryz.prog.cellsOf 100 = 1 := by kernel_rfl

/-- What the row lists. -/
abbrev laid1 : List (String × DataW Unit) := [("cayley/word.places", Rows.laid_cayley_word_places)]

set_option maxRecDepth 100000 in
theorem tabs_of {W : World} (h : laidMet Tryz.prog laid1 W) : Tabs W := by
  have p5 : Lib.TabIs Tryz.prog W "cayley/word.places" .i8 placesL := Lib.tabIs_of_head gPlaces gPlacesT un101 un100 ce100 ce101 h
  refine ⟨fun i hi => ?_⟩
  have hl : placesL.length = 105 := by decide
  have := p5.cell gPlaces i (by omega)
  rw [this]
theorem tabs_ofH {W : World} (h : laidMetH Tryz.prog laid1 W) : Tabs W := by
  rw [MakeChecks.laidMetH_plain _ _ _ (by kernel_rfl)] at h
  exact tabs_of h

/-- A list's plain data, one by one. -/
def flat2 : DataW Unit → List Value
  | .lit (.int k n) => [.int k n]
  | _ => []
def flat : DataW Unit → List Value
  | .agg l => l.flatMap flat2
  | d => flat2 d
def putB (d : DataW Unit) : Obj → Obj
  | .cells _ t frozen => .cells (flat d).toArray t frozen
  | o => o
/-- A WORLD FOR THE WITNESS: the settled one, the table lying as its initialiser lays it. -/
noncomputable def laidWorld (os : Os) : World :=
  { World.holding Tryz.prog os ⟨#[], #[], []⟩ with heap := (World.holding Tryz.prog os ⟨#[], #[], []⟩).heap.modify 0 (putB Rows.laid_cayley_word_places) }
set_option maxRecDepth 100000 in
theorem laid_met (os : Os) (args : Array Value) : laidMet Tryz.prog laid1 ((laidWorld os).forCall (fun _ _ => 0) ⟨#[], args, []⟩).memory :=
  laidMet_of_run' 8 (by kernel_rfl) (by kernel_rfl)

def fW : Field := ⟨ "Word", 9, 0, false, "", "", 0⟩
def fL : Field := ⟨ "Left", 3, 1, false, "", "", 16⟩
def fR : Field := ⟨ "Right", 3, 2, false, "", "", 24⟩
def fT : Field := ⟨ "Times", 3, 3, false, "", "", 32⟩
theorem un68 : Tryz.prog.underlying 68 = some (.struct #[fW, fL, fR, fT]) := by kernel_rfl
theorem un22 : Tryz.prog.underlying 22 = some (.slice 68) := by kernel_rfl
theorem un3 : Tryz.prog.underlying 3 = some (.int .i64) := by kernel_rfl
theorem un9 : Tryz.prog.underlying 9 = some .string := by kernel_rfl
theorem ce68 : Tryz.prog.cellsOf 68 = 4 := by kernel_rfl
theorem ce3 : Tryz.prog.cellsOf 3 = 1 := by kernel_rfl
theorem ce9 : Tryz.prog.cellsOf 9 = 1 := by kernel_rfl
theorem laidOut : laidOutB Tryz.prog = true := by kernel_rfl

instance : Inhabited Nd := ⟨⟨⟨#[]⟩, 0, 0, 0⟩⟩

set_option maxRecDepth 100000 in
/-- The list of nodes, opened. -/
theorem rope_of {H : Type} {enc : TypeId × Value → H} {W : World} {b0 : Nat} {sp : Nat → Bool} {v : Value} {d : DataW H} {ps : List MemPlace} (hval : Value.okWide Tryz.prog W .any b0 22 v)
    (h : DataW.Trod enc Tryz.prog W 0 sp true 22 v d ps) : ∃ (A : Option Addr) (r : List Nd) (cap : Nat), v = .slice A r.length cap ∧ RopeAt W A r ∧ (A = none → r = [] ∧ cap = 0) ∧ r.length ≤ maxLen := by
  obtain ⟨a0, len, cap, rfl⟩ := okWide_slice un22 hval
  obtain ⟨fuel, hf⟩ := h
  rcases Go.Deep.open_slice un22 hf with ⟨hcs, _⟩ | ⟨a, len', cap', m, n, D, Pl, hcs, hb, hl, hm, hmm, hx, hall⟩
  · have hs : Value.slice a0 len cap = .slice none 0 0 := by simpa [Value.cells] using hcs
    exact ⟨none, [], 0, hs, (fun i hi => absurd hi (Nat.not_lt_zero i)), fun _ => ⟨rfl, rfl⟩, Nat.zero_le _⟩
  · have hs : Value.slice a0 len cap = .slice (some a) len' cap' := by simpa [Value.cells] using hcs
    have hlm : len' ≤ m := by rw [hmm]; split <;> omega
    have each : ∀ i, i < len' → ∃ x : Nd, NodeAt W (a.add (i * 4)) x ∧ x.word.size ≤ maxLen := by
      intro i hi
      obtain ⟨cs', h1, h2⟩ := hall i (by omega)
      rw [ce68] at h1
      obtain ⟨_, hlen, hcell⟩ := World.cells?_some h1
      obtain ⟨xs, k, _, _, _, hxl, hf⟩ := DataW.trod_struct un68 h2
      match xs, hxl, cs', hlen with
      | [y0, y1, y2, y3], _, [v0, v1, v2, v3], _ =>
        have g0 := hf 0 fW rfl
        have g1 := hf 1 fL rfl
        have g2 := hf 2 fR rfl
        have g3 := hf 3 fT rfl
        simp [fW, ce9] at g0
        simp [fL, ce3] at g1
        simp [fR, ce3] at g2
        simp [fT, ce3] at g3
        obtain ⟨n0, e0, _, z0⟩ := DataW.trod_string un9 g0
        obtain ⟨n1, e1, _⟩ := DataW.trod_int un3 g1
        obtain ⟨n2, e2, _⟩ := DataW.trod_int un3 g2
        obtain ⟨n3, e3, _⟩ := DataW.trod_int un3 g3
        have c0 := hcell 0 (by omega)
        have c1 := hcell 1 (by omega)
        have c2 := hcell 2 (by omega)
        have c3 := hcell 3 (by omega)
        simp at e0 e1 e2 e3
        subst e0 e1 e2 e3
        exact ⟨⟨n0, n1, n2, n3⟩, ⟨by simpa [Addr.add] using c0, by simpa [Addr.add] using c1, by simpa [Addr.add] using c2, by simpa [Addr.add] using c3⟩, z0⟩
    obtain ⟨f, hf⟩ := Go.Deep.choose_lt each
    refine ⟨some a, (List.range len').map f, cap', by rw [hs]; simp, fun i hi => ?_, (fun h => by cases h), by simp; omega⟩
    have hi' : i < len' := by simpa using hi
    have := hf i hi'
    refine ⟨a, rfl, ?_, ?_⟩
    · simpa using this.1
    · simpa using this.2

theorem i64_of_wf {n : Int} (h : (Lit.int .i64 n).wf = true) : -9223372036854775808 ≤ n ∧ n ≤ 9223372036854775807 := by
  simp only [Lit.wf, Bool.and_eq_true, decide_eq_true_eq] at h
  have e1 : IntKind.i64.min = -9223372036854775808 := by decide
  have e2 : IntKind.i64.max = 9223372036854775807 := by decide
  omega
end Go.Proofs.YtgklmcinbaghmaaGreatDoor
