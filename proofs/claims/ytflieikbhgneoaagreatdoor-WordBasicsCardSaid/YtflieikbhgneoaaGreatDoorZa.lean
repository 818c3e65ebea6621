/-
  Our own text, in the proofs of the laws of package word (cayleylaw01). Proved here: the tables that the rows list, and a world that holds them. Conditions: the arguments read as the row says and the listed tables lie as the program lays them; none other.
-/
import Derived.Test.YtflieikbhgneoaaGreatDoorBase
import Derived.Test.YtflieikbhgneoaaGreatDoorCards
import Derived.Test.YtflieikbhgneoaaGreatDoorTie
import Derived.ProofKit
import Derived.OpenShut
import Derived.ChangeMaps5
import Derived.Deep.DeepHandedRow
namespace Go.Proofs.YtflieikbhgneoaaGreatDoor
open Go.ChangeShapes Go.WideShapes Go.ChangeAt Go.RowKit

theorem own : ownKnob Tryz.prog.godebug = none := by kernel_rfl
theorem gPlaces : Tryz.prog.globalNamed "cayley/word.places" = some 0 := by kernel_rfl
theorem gLetters : Tryz.prog.globalNamed "cayley/word.letters" = some 1 := by kernel_rfl
theorem gPlacesT : (Tryz.prog.globals[0]?).map (·.type) = some 46 := by kernel_rfl
theorem gLettersT : (Tryz.prog.globals[1]?).map (·.type) = some 47 := by kernel_rfl
theorem gPowT : (Tryz.prog.globals[2]?).map (·.type) = some 120 := by kernel_rfl
theorem un64 : Tryz.prog.underlying 46 = some (.array 105 45) := by kernel_rfl
theorem un63 : Tryz.prog.underlying 45 = some (.int .i8) := by kernel_rfl
theorem un65 : Tryz.prog.underlying 47 = some (.array 16 5) := by kernel_rfl
theorem un5 : Tryz.prog.underlying 5 = some (.int .u8) := by kernel_rfl
theorem ce64 : Tryz.prog.cellsOf 46 = 105 := by kernel_rfl
theorem ce63 : Tryz.prog.cellsOf 45 = 1 := by kernel_rfl
theorem ce65 : Tryz.prog.cellsOf 47 = 16 := by kernel_rfl
theorem ce5 : Tryz.prog.cellsOf 5 = 1 := by kernel_rfl
theorem un126 : Tryz.prog.underlying 120 = some (.array 20 79) := by kernel_rfl
theorem un6 : Tryz.prog.underlying 79 = some (.int .u64) := by kernel_rfl
theorem ce126 : Tryz.prog.cellsOf 120 = 20 := by kernel_rfl
theorem ce6 : Tryz.prog.cellsOf 79 = 1 := by kernel_rfl

/-- What the rows list. -/
abbrev laid7 : List (String × DataW Unit) := [("math/bits.deBruijn32tab", Rows.laid_math_bits_deBruijn32tab), ("math/bits.deBruijn64tab", Rows.laid_math_bits_deBruijn64tab), ("internal/strconv.uint64pow10", Rows.laid_internal_strconv_uint64pow10), ("unicode/utf8.acceptRanges", Rows.laid_unicode_utf8_acceptRanges), ("cayley/word.letters", Rows.laid_cayley_word_letters), ("cayley/word.places", Rows.laid_cayley_word_places), ("unicode/utf8.first", Rows.laid_unicode_utf8_first)]

theorem laidMet_tail {P : Program} {x : String × DataW Unit} {rest : List (String × DataW Unit)} {W : World} (h : laidMet P (x :: rest) W) : laidMet P rest W := by
  obtain ⟨ps, ⟨g, t, cs, fuel, p, q, _, _, _, _, hr, rfl⟩, hn, hall⟩ := h
  exact ⟨q, hr, (List.nodup_append.1 hn).2.1, fun b off hm => hall b off (List.mem_append_right _ hm)⟩

set_option maxRecDepth 100000 in
theorem tabs_of {W : World} (h : laidMet Tryz.prog laid7 W) : Tabs W := by
  have h2 := laidMet_tail (laidMet_tail h)
  have h4 := laidMet_tail (laidMet_tail h2)
  have h5 := laidMet_tail h4
  have p2 : Lib.TabIs Tryz.prog W "internal/strconv.uint64pow10" .u64 Lib.pow10Tab := Lib.tabIs_of_head gPow gPowT un126 un6 ce6 ce126 h2
  have p4 : Lib.TabIs Tryz.prog W "cayley/word.letters" .u8 lettersL := Lib.tabIs_of_head gLetters gLettersT un65 un5 ce5 ce65 h4
  have p5 : Lib.TabIs Tryz.prog W "cayley/word.places" .i8 placesL := Lib.tabIs_of_head gPlaces gPlacesT un64 un63 ce63 ce64 h5
  refine ⟨fun i hi => ?_, fun i hi => ?_, p2⟩
  · have hl : placesL.length = 105 := by decide
    have := p5.cell gPlaces i (by omega)
    rw [this]
  · have hl : lettersL.length = 16 := by decide
    have := p4.cell gLetters i (by omega)
    rw [this]

theorem tabs_ofH {W : World} (h : laidMetH Tryz.prog laid7 W) : Tabs W := by
  rw [MakeChecks.laidMetH_plain _ _ _ (by kernel_rfl)] at h
  exact tabs_of h

/-- A list's plain data, one by one. -/
def flat2 : DataW Unit → List Value
  | .lit (.int k n) => [.int k n]
  | _ => []
def flat1 : DataW Unit → List Value
  | .agg l => l.flatMap flat2
  | d => flat2 d
def flat : DataW Unit → List Value
  | .agg l => l.flatMap flat1
  | d => flat2 d
def putB (d : DataW Unit) : Obj → Obj
  | .cells _ t frozen => .cells (flat d).toArray t frozen
  | o => o
/-- A WORLD FOR THE WITNESS: the settled one, the tables lying as their initialisers lay them. -/
noncomputable def laidWorld (os : Os) : World :=
  { World.holding Tryz.prog os ⟨#[], #[], []⟩ with heap := (((((((World.holding Tryz.prog os ⟨#[], #[], []⟩).heap.modify 0 (putB Rows.laid_cayley_word_places)).modify 1 (putB Rows.laid_cayley_word_letters)).modify 2 (putB Rows.laid_internal_strconv_uint64pow10)).modify 6 (putB Rows.laid_unicode_utf8_first)).modify 7 (putB Rows.laid_unicode_utf8_acceptRanges)).modify 4 (putB Rows.laid_math_bits_deBruijn32tab)).modify 5 (putB Rows.laid_math_bits_deBruijn64tab) }
set_option maxRecDepth 100000 in
theorem laid_met (os : Os) (args : Array Value) : laidMet Tryz.prog laid7 ((laidWorld os).forCall (fun _ _ => 0) ⟨#[], args, []⟩).memory :=
  laidMet_of_run' 8 (by kernel_rfl) (by kernel_rfl)
end Go.Proofs.YtflieikbhgneoaaGreatDoor
