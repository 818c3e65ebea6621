/-
  NARROWER THAN 'FOR EVERY INPUT', by the rows' own cells (each row's printed sentence says how): PresReads: laid · PresForms: laid · PresMoves: laid · PresCarries: laid · PresThere: laid · PresCanonical: laid · PresBack: laid · PresStays: laid.
  DERIVED. THE GIVEN ROWS OF THIS SEAT. 8 by the template 'for every input the law returns true; each argument reads behind the call as it read before'; 0 by the template 'total and deterministic' (their statements: YteephomlnbbjeaaGreatDoorTotals.lean).
  GIVEN WITH THE SEED: the statements are not yours to turn. If you find one false, say at which input.
  Laid BY PROGRAM, IN A SANDBOX (cutbox-rows.mjs): the forced cells as the released guide's own fill.sh prints them over the translation 8a36fc793ec59249… (all of the seat's roots in one cut). By AI agents, Wed Nov 11 2026. No macro, syntax, notation, axiom, sorry.
-/
import Derived.Test.YteephomlnbbjeaaGreatDoorChecked
import GoSem.PinnedTables
import GoSem.Claim
import GoSem.ClaimJoined
import GoSem.ClaimMapViews
import Derived.JoinedTies
import Derived.KernelRfl
namespace Go.Proofs.YteephomlnbbjeaaGreatDoor
/- THE CELL 'sum', in the pinned program and in every row, IS THE sha256 OF THE DUMP (.gsa) THAT YteephomlnbbjeaaGreatDoorProg.lean LOADS. Nothing in Lean hashes anything: it is a label: what it is worth is what the hold of that sum in a sandbox is worth. -/
noncomputable def Tryz.pinned : Pinned := { name := "yteephomlnbbjeaagreatdoor", sum := "8a36fc793ec5924921fa271b629e6b4d1b961509abba0ea7593f9c6090bfeb6a", checked := Tryz.checked }
namespace Rows
def none {H : Type} : Left H := { results := [], args := [] }

/- WHAT THE LISTED PACKAGE-LEVEL VARIABLES READ AS WHEN THE CALL BEGINS. Each datum BY PROGRAM (the guide's laid-datum.mjs) off the statement by which the dump's own 'gosem.cut.vars' lays the variable. In a bare row this is a premise. The card (YteephomlnbbjeaaGreatDoorCards.lean) ties it to the program's text. -/
def laid_math_bits_deBruijn32tab {H : Type} : DataW H := .agg [.lit (.int .u8 0), .lit (.int .u8 1), .lit (.int .u8 28), .lit (.int .u8 2), .lit (.int .u8 29), .lit (.int .u8 14), .lit (.int .u8 24), .lit (.int .u8 3), .lit (.int .u8 30), .lit (.int .u8 22), .lit (.int .u8 20), .lit (.int .u8 15), .lit (.int .u8 25), .lit (.int .u8 17), .lit (.int .u8 4), .lit (.int .u8 8), .lit (.int .u8 31), .lit (.int .u8 27), .lit (.int .u8 13), .lit (.int .u8 23), .lit (.int .u8 21), .lit (.int .u8 19), .lit (.int .u8 16), .lit (.int .u8 7), .lit (.int .u8 26), .lit (.int .u8 12), .lit (.int .u8 18), .lit (.int .u8 6), .lit (.int .u8 11), .lit (.int .u8 5), .lit (.int .u8 10), .lit (.int .u8 9)]
def laid_math_bits_deBruijn64tab {H : Type} : DataW H := .agg [.lit (.int .u8 0), .lit (.int .u8 1), .lit (.int .u8 56), .lit (.int .u8 2), .lit (.int .u8 57), .lit (.int .u8 49), .lit (.int .u8 28), .lit (.int .u8 3), .lit (.int .u8 61), .lit (.int .u8 58), .lit (.int .u8 42), .lit (.int .u8 50), .lit (.int .u8 38), .lit (.int .u8 29), .lit (.int .u8 17), .lit (.int .u8 4), .lit (.int .u8 62), .lit (.int .u8 47), .lit (.int .u8 59), .lit (.int .u8 36), .lit (.int .u8 45), .lit (.int .u8 43), .lit (.int .u8 51), .lit (.int .u8 22), .lit (.int .u8 53), .lit (.int .u8 39), .lit (.int .u8 33), .lit (.int .u8 30), .lit (.int .u8 24), .lit (.int .u8 18), .lit (.int .u8 12), .lit (.int .u8 5), .lit (.int .u8 63), .lit (.int .u8 55), .lit (.int .u8 48), .lit (.int .u8 27), .lit (.int .u8 60), .lit (.int .u8 41), .lit (.int .u8 37), .lit (.int .u8 16), .lit (.int .u8 46), .lit (.int .u8 35), .lit (.int .u8 44), .lit (.int .u8 21), .lit (.int .u8 52), .lit (.int .u8 32), .lit (.int .u8 23), .lit (.int .u8 11), .lit (.int .u8 54), .lit (.int .u8 26), .lit (.int .u8 40), .lit (.int .u8 15), .lit (.int .u8 34), .lit (.int .u8 20), .lit (.int .u8 31), .lit (.int .u8 10), .lit (.int .u8 25), .lit (.int .u8 14), .lit (.int .u8 19), .lit (.int .u8 9), .lit (.int .u8 13), .lit (.int .u8 8), .lit (.int .u8 7), .lit (.int .u8 6)]
def laid_internal_strconv_uint64pow10 {H : Type} : DataW H := .agg [.lit (.int .u64 1), .lit (.int .u64 10), .lit (.int .u64 100), .lit (.int .u64 1000), .lit (.int .u64 10000), .lit (.int .u64 100000), .lit (.int .u64 1000000), .lit (.int .u64 10000000), .lit (.int .u64 100000000), .lit (.int .u64 1000000000), .lit (.int .u64 10000000000), .lit (.int .u64 100000000000), .lit (.int .u64 1000000000000), .lit (.int .u64 10000000000000), .lit (.int .u64 100000000000000), .lit (.int .u64 1000000000000000), .lit (.int .u64 10000000000000000), .lit (.int .u64 100000000000000000), .lit (.int .u64 1000000000000000000), .lit (.int .u64 10000000000000000000)]
def laid_unicode_utf8_acceptRanges {H : Type} : DataW H := .agg [.agg [.lit (.int .u8 128), .lit (.int .u8 191)], .agg [.lit (.int .u8 160), .lit (.int .u8 191)], .agg [.lit (.int .u8 128), .lit (.int .u8 159)], .agg [.lit (.int .u8 144), .lit (.int .u8 191)], .agg [.lit (.int .u8 128), .lit (.int .u8 143)], .agg [.lit (.int .u8 0), .lit (.int .u8 0)], .agg [.lit (.int .u8 0), .lit (.int .u8 0)], .agg [.lit (.int .u8 0), .lit (.int .u8 0)], .agg [.lit (.int .u8 0), .lit (.int .u8 0)], .agg [.lit (.int .u8 0), .lit (.int .u8 0)], .agg [.lit (.int .u8 0), .lit (.int .u8 0)], .agg [.lit (.int .u8 0), .lit (.int .u8 0)], .agg [.lit (.int .u8 0), .lit (.int .u8 0)], .agg [.lit (.int .u8 0), .lit (.int .u8 0)], .agg [.lit (.int .u8 0), .lit (.int .u8 0)], .agg [.lit (.int .u8 0), .lit (.int .u8 0)]]
def laid_cayley_word_letters {H : Type} : DataW H := .agg [.lit (.int .u8 97), .lit (.int .u8 65), .lit (.int .u8 98), .lit (.int .u8 66), .lit (.int .u8 99), .lit (.int .u8 67), .lit (.int .u8 100), .lit (.int .u8 68), .lit (.int .u8 101), .lit (.int .u8 69), .lit (.int .u8 102), .lit (.int .u8 70), .lit (.int .u8 103), .lit (.int .u8 71), .lit (.int .u8 104), .lit (.int .u8 72)]
def laid_cayley_word_places {H : Type} : DataW H := .agg [.lit (.int .i8 0), .lit (.int .i8 0), .lit (.int .i8 0), .lit (.int .i8 0), .lit (.int .i8 0), .lit (.int .i8 0), .lit (.int .i8 0), .lit (.int .i8 0), .lit (.int .i8 0), .lit (.int .i8 0), .lit (.int .i8 0), .lit (.int .i8 0), .lit (.int .i8 0), .lit (.int .i8 0), .lit (.int .i8 0), .lit (.int .i8 0), .lit (.int .i8 0), .lit (.int .i8 0), .lit (.int .i8 0), .lit (.int .i8 0), .lit (.int .i8 0), .lit (.int .i8 0), .lit (.int .i8 0), .lit (.int .i8 0), .lit (.int .i8 0), .lit (.int .i8 0), .lit (.int .i8 0), .lit (.int .i8 0), .lit (.int .i8 0), .lit (.int .i8 0), .lit (.int .i8 0), .lit (.int .i8 0), .lit (.int .i8 0), .lit (.int .i8 0), .lit (.int .i8 0), .lit (.int .i8 0), .lit (.int .i8 0), .lit (.int .i8 0), .lit (.int .i8 0), .lit (.int .i8 0), .lit (.int .i8 0), .lit (.int .i8 0), .lit (.int .i8 0), .lit (.int .i8 0), .lit (.int .i8 0), .lit (.int .i8 0), .lit (.int .i8 0), .lit (.int .i8 0), .lit (.int .i8 0), .lit (.int .i8 0), .lit (.int .i8 0), .lit (.int .i8 0), .lit (.int .i8 0), .lit (.int .i8 0), .lit (.int .i8 0), .lit (.int .i8 0), .lit (.int .i8 0), .lit (.int .i8 0), .lit (.int .i8 0), .lit (.int .i8 0), .lit (.int .i8 0), .lit (.int .i8 0), .lit (.int .i8 0), .lit (.int .i8 0), .lit (.int .i8 0), .lit (.int .i8 2), .lit (.int .i8 4), .lit (.int .i8 6), .lit (.int .i8 8), .lit (.int .i8 10), .lit (.int .i8 12), .lit (.int .i8 14), .lit (.int .i8 16), .lit (.int .i8 0), .lit (.int .i8 0), .lit (.int .i8 0), .lit (.int .i8 0), .lit (.int .i8 0), .lit (.int .i8 0), .lit (.int .i8 0), .lit (.int .i8 0), .lit (.int .i8 0), .lit (.int .i8 0), .lit (.int .i8 0), .lit (.int .i8 0), .lit (.int .i8 0), .lit (.int .i8 0), .lit (.int .i8 0), .lit (.int .i8 0), .lit (.int .i8 0), .lit (.int .i8 0), .lit (.int .i8 0), .lit (.int .i8 0), .lit (.int .i8 0), .lit (.int .i8 0), .lit (.int .i8 0), .lit (.int .i8 0), .lit (.int .i8 1), .lit (.int .i8 3), .lit (.int .i8 5), .lit (.int .i8 7), .lit (.int .i8 9), .lit (.int .i8 11), .lit (.int .i8 13), .lit (.int .i8 15)]
/-- One of Go's own tables, pinned by name: the form's constant. -/
def laid_unicode_utf8_first : DataW Unit := Go.Pinned.utf8First

/-- 'cayleylaw03.PresReads': WHATEVER THE INPUT: true; the input reads as it did. -/
def presReadsSpec : ChangeSpec := { name := "presReads", fn := fun _ => fun
  | [d1, d2] => { results := [.lit (.bool true)], args := [d1, d2] }
  | _ => none }
def presReadsRow : OpenClaim := { program := "yteephomlnbbjeaagreatdoor", sum := "8a36fc793ec5924921fa271b629e6b4d1b961509abba0ea7593f9c6090bfeb6a", func := "cayley/cayleylaw03.PresReads", spec := "presReads", inPlace := ["internal/bytealg.IndexByteString", "internal/bytealg.IndexString", "internal/abi.NoEscape", "internal/bytealg.MakeNoZero"], unfollowed := true, recurses := true, named := ["unicode/utf8.first", "unicode/utf8.acceptRanges", "internal/bytealg.MaxLen", "cayley/word.letters", "cayley/word.places", "internal/strconv.uint64pow10", "math/bits.deBruijn32tab", "math/bits.deBruijn64tab"], apart := false, laid := [("math/bits.deBruijn32tab", laid_math_bits_deBruijn32tab), ("math/bits.deBruijn64tab", laid_math_bits_deBruijn64tab), ("internal/strconv.uint64pow10", laid_internal_strconv_uint64pow10), ("unicode/utf8.acceptRanges", laid_unicode_utf8_acceptRanges), ("cayley/word.letters", laid_cayley_word_letters), ("cayley/word.places", laid_cayley_word_places), ("unicode/utf8.first", laid_unicode_utf8_first)] }
def PresReadsSaid : Prop := presReadsRow.holds Tryz.pinned (OpenSpec.ofChange presReadsSpec)

/-- ITS FALSE NEIGHBOUR: 'it returns false'. Refute it at one input. -/
def presReadsWrong : ChangeSpec := { name := "presReads", fn := fun _ => fun
  | [d1, d2] => { results := [.lit (.bool false)], args := [d1, d2] }
  | _ => none }
def PresReadsWrongFalsely : Prop := presReadsRow.holds Tryz.pinned (OpenSpec.ofChange presReadsWrong)

/-- 'cayleylaw03.PresForms': WHATEVER THE INPUT: true; the input reads as it did. -/
def presFormsSpec : ChangeSpec := { name := "presForms", fn := fun _ => fun
  | [d1, d2, d3, d4] => { results := [.lit (.bool true)], args := [d1, d2, d3, d4] }
  | _ => none }
def presFormsRow : OpenClaim := { program := "yteephomlnbbjeaagreatdoor", sum := "8a36fc793ec5924921fa271b629e6b4d1b961509abba0ea7593f9c6090bfeb6a", func := "cayley/cayleylaw03.PresForms", spec := "presForms", inPlace := ["internal/bytealg.IndexByteString", "internal/bytealg.IndexString", "internal/abi.NoEscape", "internal/bytealg.MakeNoZero"], unfollowed := true, recurses := true, named := ["unicode/utf8.first", "unicode/utf8.acceptRanges", "internal/bytealg.MaxLen", "cayley/word.letters", "cayley/word.places", "internal/strconv.uint64pow10", "math/bits.deBruijn32tab", "math/bits.deBruijn64tab"], apart := false, laid := [("math/bits.deBruijn32tab", laid_math_bits_deBruijn32tab), ("math/bits.deBruijn64tab", laid_math_bits_deBruijn64tab), ("internal/strconv.uint64pow10", laid_internal_strconv_uint64pow10), ("unicode/utf8.acceptRanges", laid_unicode_utf8_acceptRanges), ("cayley/word.letters", laid_cayley_word_letters), ("cayley/word.places", laid_cayley_word_places), ("unicode/utf8.first", laid_unicode_utf8_first)] }
def PresFormsSaid : Prop := presFormsRow.holds Tryz.pinned (OpenSpec.ofChange presFormsSpec)

/-- ITS FALSE NEIGHBOUR: 'it returns false'. Refute it at one input. -/
def presFormsWrong : ChangeSpec := { name := "presForms", fn := fun _ => fun
  | [d1, d2, d3, d4] => { results := [.lit (.bool false)], args := [d1, d2, d3, d4] }
  | _ => none }
def PresFormsWrongFalsely : Prop := presFormsRow.holds Tryz.pinned (OpenSpec.ofChange presFormsWrong)

/-- 'cayleylaw03.PresMoves': WHATEVER THE INPUT: true; the input reads as it did. -/
def presMovesSpec : ChangeSpec := { name := "presMoves", fn := fun _ => fun
  | [d1, d2, d3] => { results := [.lit (.bool true)], args := [d1, d2, d3] }
  | _ => none }
def presMovesRow : OpenClaim := { program := "yteephomlnbbjeaagreatdoor", sum := "8a36fc793ec5924921fa271b629e6b4d1b961509abba0ea7593f9c6090bfeb6a", func := "cayley/cayleylaw03.PresMoves", spec := "presMoves", inPlace := ["internal/bytealg.IndexByteString", "internal/bytealg.IndexString", "internal/abi.NoEscape", "internal/bytealg.MakeNoZero"], unfollowed := true, recurses := true, named := ["unicode/utf8.first", "unicode/utf8.acceptRanges", "internal/bytealg.MaxLen", "cayley/word.letters", "cayley/word.places", "internal/strconv.uint64pow10", "math/bits.deBruijn32tab", "math/bits.deBruijn64tab"], apart := false, laid := [("math/bits.deBruijn32tab", laid_math_bits_deBruijn32tab), ("math/bits.deBruijn64tab", laid_math_bits_deBruijn64tab), ("internal/strconv.uint64pow10", laid_internal_strconv_uint64pow10), ("unicode/utf8.acceptRanges", laid_unicode_utf8_acceptRanges), ("cayley/word.letters", laid_cayley_word_letters), ("cayley/word.places", laid_cayley_word_places), ("unicode/utf8.first", laid_unicode_utf8_first)] }
def PresMovesSaid : Prop := presMovesRow.holds Tryz.pinned (OpenSpec.ofChange presMovesSpec)

/-- ITS FALSE NEIGHBOUR: 'it returns false'. Refute it at one input. -/
def presMovesWrong : ChangeSpec := { name := "presMoves", fn := fun _ => fun
  | [d1, d2, d3] => { results := [.lit (.bool false)], args := [d1, d2, d3] }
  | _ => none }
def PresMovesWrongFalsely : Prop := presMovesRow.holds Tryz.pinned (OpenSpec.ofChange presMovesWrong)

/-- 'cayleylaw03.PresCarries': WHATEVER THE INPUT: true; the input reads as it did. -/
def presCarriesSpec : ChangeSpec := { name := "presCarries", fn := fun _ => fun
  | [d1, d2, d3] => { results := [.lit (.bool true)], args := [d1, d2, d3] }
  | _ => none }
def presCarriesRow : OpenClaim := { program := "yteephomlnbbjeaagreatdoor", sum := "8a36fc793ec5924921fa271b629e6b4d1b961509abba0ea7593f9c6090bfeb6a", func := "cayley/cayleylaw03.PresCarries", spec := "presCarries", inPlace := ["internal/bytealg.IndexByteString", "internal/bytealg.IndexString", "internal/abi.NoEscape", "internal/bytealg.MakeNoZero"], unfollowed := true, recurses := true, named := ["unicode/utf8.first", "unicode/utf8.acceptRanges", "internal/bytealg.MaxLen", "cayley/word.letters", "cayley/word.places", "internal/strconv.uint64pow10", "math/bits.deBruijn32tab", "math/bits.deBruijn64tab"], apart := false, laid := [("math/bits.deBruijn32tab", laid_math_bits_deBruijn32tab), ("math/bits.deBruijn64tab", laid_math_bits_deBruijn64tab), ("internal/strconv.uint64pow10", laid_internal_strconv_uint64pow10), ("unicode/utf8.acceptRanges", laid_unicode_utf8_acceptRanges), ("cayley/word.letters", laid_cayley_word_letters), ("cayley/word.places", laid_cayley_word_places), ("unicode/utf8.first", laid_unicode_utf8_first)] }
def PresCarriesSaid : Prop := presCarriesRow.holds Tryz.pinned (OpenSpec.ofChange presCarriesSpec)

/-- ITS FALSE NEIGHBOUR: 'it returns false'. Refute it at one input. -/
def presCarriesWrong : ChangeSpec := { name := "presCarries", fn := fun _ => fun
  | [d1, d2, d3] => { results := [.lit (.bool false)], args := [d1, d2, d3] }
  | _ => none }
def PresCarriesWrongFalsely : Prop := presCarriesRow.holds Tryz.pinned (OpenSpec.ofChange presCarriesWrong)

/-- 'cayleylaw03.PresThere': WHATEVER THE INPUT: true; the input reads as it did. -/
def presThereSpec : ChangeSpec := { name := "presThere", fn := fun _ => fun
  | [d1, d2, d3, d4] => { results := [.lit (.bool true)], args := [d1, d2, d3, d4] }
  | _ => none }
def presThereRow : OpenClaim := { program := "yteephomlnbbjeaagreatdoor", sum := "8a36fc793ec5924921fa271b629e6b4d1b961509abba0ea7593f9c6090bfeb6a", func := "cayley/cayleylaw03.PresThere", spec := "presThere", inPlace := ["internal/bytealg.IndexByteString", "internal/bytealg.IndexString", "internal/abi.NoEscape", "internal/bytealg.MakeNoZero"], unfollowed := true, recurses := true, named := ["unicode/utf8.first", "unicode/utf8.acceptRanges", "internal/bytealg.MaxLen", "cayley/word.letters", "cayley/word.places", "internal/strconv.uint64pow10", "math/bits.deBruijn32tab", "math/bits.deBruijn64tab"], apart := false, laid := [("math/bits.deBruijn32tab", laid_math_bits_deBruijn32tab), ("math/bits.deBruijn64tab", laid_math_bits_deBruijn64tab), ("internal/strconv.uint64pow10", laid_internal_strconv_uint64pow10), ("unicode/utf8.acceptRanges", laid_unicode_utf8_acceptRanges), ("cayley/word.letters", laid_cayley_word_letters), ("cayley/word.places", laid_cayley_word_places), ("unicode/utf8.first", laid_unicode_utf8_first)] }
def PresThereSaid : Prop := presThereRow.holds Tryz.pinned (OpenSpec.ofChange presThereSpec)

/-- ITS FALSE NEIGHBOUR: 'it returns false'. Refute it at one input. -/
def presThereWrong : ChangeSpec := { name := "presThere", fn := fun _ => fun
  | [d1, d2, d3, d4] => { results := [.lit (.bool false)], args := [d1, d2, d3, d4] }
  | _ => none }
def PresThereWrongFalsely : Prop := presThereRow.holds Tryz.pinned (OpenSpec.ofChange presThereWrong)

/-- 'cayleylaw03.PresCanonical': WHATEVER THE INPUT: true; the input reads as it did. -/
def presCanonicalSpec : ChangeSpec := { name := "presCanonical", fn := fun _ => fun
  | [d1, d2, d3] => { results := [.lit (.bool true)], args := [d1, d2, d3] }
  | _ => none }
def presCanonicalRow : OpenClaim := { program := "yteephomlnbbjeaagreatdoor", sum := "8a36fc793ec5924921fa271b629e6b4d1b961509abba0ea7593f9c6090bfeb6a", func := "cayley/cayleylaw03.PresCanonical", spec := "presCanonical", inPlace := ["internal/bytealg.IndexByteString", "internal/bytealg.IndexString", "internal/abi.NoEscape", "internal/bytealg.MakeNoZero"], unfollowed := true, recurses := true, named := ["unicode/utf8.first", "unicode/utf8.acceptRanges", "internal/bytealg.MaxLen", "cayley/word.letters", "cayley/word.places", "internal/strconv.uint64pow10", "math/bits.deBruijn32tab", "math/bits.deBruijn64tab"], apart := false, laid := [("math/bits.deBruijn32tab", laid_math_bits_deBruijn32tab), ("math/bits.deBruijn64tab", laid_math_bits_deBruijn64tab), ("internal/strconv.uint64pow10", laid_internal_strconv_uint64pow10), ("unicode/utf8.acceptRanges", laid_unicode_utf8_acceptRanges), ("cayley/word.letters", laid_cayley_word_letters), ("cayley/word.places", laid_cayley_word_places), ("unicode/utf8.first", laid_unicode_utf8_first)] }
def PresCanonicalSaid : Prop := presCanonicalRow.holds Tryz.pinned (OpenSpec.ofChange presCanonicalSpec)

/-- ITS FALSE NEIGHBOUR: 'it returns false'. Refute it at one input. -/
def presCanonicalWrong : ChangeSpec := { name := "presCanonical", fn := fun _ => fun
  | [d1, d2, d3] => { results := [.lit (.bool false)], args := [d1, d2, d3] }
  | _ => none }
def PresCanonicalWrongFalsely : Prop := presCanonicalRow.holds Tryz.pinned (OpenSpec.ofChange presCanonicalWrong)

/-- 'cayleylaw03.PresBack': WHATEVER THE INPUT: true; the input reads as it did. -/
def presBackSpec : ChangeSpec := { name := "presBack", fn := fun _ => fun
  | [d1, d2, d3, d4, d5, d6] => { results := [.lit (.bool true)], args := [d1, d2, d3, d4, d5, d6] }
  | _ => none }
def presBackRow : OpenClaim := { program := "yteephomlnbbjeaagreatdoor", sum := "8a36fc793ec5924921fa271b629e6b4d1b961509abba0ea7593f9c6090bfeb6a", func := "cayley/cayleylaw03.PresBack", spec := "presBack", inPlace := ["internal/bytealg.IndexByteString", "internal/bytealg.IndexString", "internal/abi.NoEscape", "internal/bytealg.MakeNoZero"], unfollowed := true, recurses := true, named := ["unicode/utf8.first", "unicode/utf8.acceptRanges", "internal/bytealg.MaxLen", "cayley/word.letters", "cayley/word.places", "internal/strconv.uint64pow10", "math/bits.deBruijn32tab", "math/bits.deBruijn64tab"], apart := false, laid := [("math/bits.deBruijn32tab", laid_math_bits_deBruijn32tab), ("math/bits.deBruijn64tab", laid_math_bits_deBruijn64tab), ("internal/strconv.uint64pow10", laid_internal_strconv_uint64pow10), ("unicode/utf8.acceptRanges", laid_unicode_utf8_acceptRanges), ("cayley/word.letters", laid_cayley_word_letters), ("cayley/word.places", laid_cayley_word_places), ("unicode/utf8.first", laid_unicode_utf8_first)] }
def PresBackSaid : Prop := presBackRow.holds Tryz.pinned (OpenSpec.ofChange presBackSpec)

/-- ITS FALSE NEIGHBOUR: 'it returns false'. Refute it at one input. -/
def presBackWrong : ChangeSpec := { name := "presBack", fn := fun _ => fun
  | [d1, d2, d3, d4, d5, d6] => { results := [.lit (.bool false)], args := [d1, d2, d3, d4, d5, d6] }
  | _ => none }
def PresBackWrongFalsely : Prop := presBackRow.holds Tryz.pinned (OpenSpec.ofChange presBackWrong)

/-- 'cayleylaw03.PresStays': WHATEVER THE INPUT: true; the input reads as it did. -/
def presStaysSpec : ChangeSpec := { name := "presStays", fn := fun _ => fun
  | [d1, d2, d3, d4, d5, d6] => { results := [.lit (.bool true)], args := [d1, d2, d3, d4, d5, d6] }
  | _ => none }
def presStaysRow : OpenClaim := { program := "yteephomlnbbjeaagreatdoor", sum := "8a36fc793ec5924921fa271b629e6b4d1b961509abba0ea7593f9c6090bfeb6a", func := "cayley/cayleylaw03.PresStays", spec := "presStays", inPlace := ["internal/bytealg.IndexByteString", "internal/bytealg.IndexString", "internal/abi.NoEscape", "internal/bytealg.MakeNoZero"], unfollowed := true, recurses := true, named := ["unicode/utf8.first", "unicode/utf8.acceptRanges", "internal/bytealg.MaxLen", "cayley/word.letters", "cayley/word.places", "internal/strconv.uint64pow10", "math/bits.deBruijn32tab", "math/bits.deBruijn64tab"], apart := false, laid := [("math/bits.deBruijn32tab", laid_math_bits_deBruijn32tab), ("math/bits.deBruijn64tab", laid_math_bits_deBruijn64tab), ("internal/strconv.uint64pow10", laid_internal_strconv_uint64pow10), ("unicode/utf8.acceptRanges", laid_unicode_utf8_acceptRanges), ("cayley/word.letters", laid_cayley_word_letters), ("cayley/word.places", laid_cayley_word_places), ("unicode/utf8.first", laid_unicode_utf8_first)] }
def PresStaysSaid : Prop := presStaysRow.holds Tryz.pinned (OpenSpec.ofChange presStaysSpec)

/-- ITS FALSE NEIGHBOUR: 'it returns false'. Refute it at one input. -/
def presStaysWrong : ChangeSpec := { name := "presStays", fn := fun _ => fun
  | [d1, d2, d3, d4, d5, d6] => { results := [.lit (.bool false)], args := [d1, d2, d3, d4, d5, d6] }
  | _ => none }
def PresStaysWrongFalsely : Prop := presStaysRow.holds Tryz.pinned (OpenSpec.ofChange presStaysWrong)

/- THE SECOND FORM. 'bulk': how many values and letters a reading holds, each counted each time it is reached (what is shared counts as often as it is met; a slice's spare places count too). A statement '..UptoSaid' is the law's where the arguments, and the package variables that the reading takes, are together of bulk at most 1048576: NARROWER than '..Said'. Prove '..Said' where nothing that the law and all that it calls make is longer than what came in: it says more and counts as full. Else prove '..UptoSaid'. A law counts once. -/
mutual
def uptoBulk {H : Type} : DataW H → Nat
  | .lit (.string bytes) => bytes.length + 1
  | .lit _ => 1
  | .nil => 1
  | .ptr d => uptoBulk d + 1
  | .slice elems spare => uptoBulkAll elems + uptoBulkAll spare + 1
  | .agg parts => uptoBulkAll parts + 1
  | .iface _ d => uptoBulk d + 1
  | .map entries => uptoBulkEntries entries + 1
  | .held _ => 1
def uptoBulkAll {H : Type} : List (DataW H) → Nat
  | [] => 0
  | d :: r => uptoBulk d + uptoBulkAll r
def uptoBulkEntries {H : Type} : List (Lit × DataW H) → Nat
  | [] => 0
  | x :: r => uptoBulkEntry x + uptoBulkEntries r
def uptoBulkEntry {H : Type} : Lit × DataW H → Nat
  | (.string bytes, d) => bytes.length + uptoBulk d + 1
  | (_, d) => uptoBulk d + 1
 end
def uptoSmall : (H : Type) → List (DataW H) → Bool := fun _ ds => decide (uptoBulkAll ds ≤ 1048576)
def OpenSpec.upto (s : _root_.Go.ChangeSpec) : _root_.Go.OpenSpec := { _root_.Go.OpenSpec.ofChange s with cond := some uptoSmall }

/-- 'cayleylaw03.PresReads', WHERE WHAT IT READS IS OF BULK AT MOST 1048576: true; the input reads as it did. -/
def presReadsUptoRow : OpenClaim := { program := "yteephomlnbbjeaagreatdoor", sum := "8a36fc793ec5924921fa271b629e6b4d1b961509abba0ea7593f9c6090bfeb6a", func := "cayley/cayleylaw03.PresReads", spec := "presReads", inPlace := ["internal/bytealg.IndexByteString", "internal/bytealg.IndexString", "internal/abi.NoEscape", "internal/bytealg.MakeNoZero"], unfollowed := true, recurses := true, named := ["unicode/utf8.first", "unicode/utf8.acceptRanges", "internal/bytealg.MaxLen", "cayley/word.letters", "cayley/word.places", "internal/strconv.uint64pow10", "math/bits.deBruijn32tab", "math/bits.deBruijn64tab"], apart := false, laid := [("math/bits.deBruijn32tab", laid_math_bits_deBruijn32tab), ("math/bits.deBruijn64tab", laid_math_bits_deBruijn64tab), ("internal/strconv.uint64pow10", laid_internal_strconv_uint64pow10), ("unicode/utf8.acceptRanges", laid_unicode_utf8_acceptRanges), ("cayley/word.letters", laid_cayley_word_letters), ("cayley/word.places", laid_cayley_word_places), ("unicode/utf8.first", laid_unicode_utf8_first)], narrowed := true }
def PresReadsUptoSaid : Prop := presReadsUptoRow.holds Tryz.pinned (OpenSpec.upto presReadsSpec)

/-- 'cayleylaw03.PresForms', WHERE WHAT IT READS IS OF BULK AT MOST 1048576: true; the input reads as it did. -/
def presFormsUptoRow : OpenClaim := { program := "yteephomlnbbjeaagreatdoor", sum := "8a36fc793ec5924921fa271b629e6b4d1b961509abba0ea7593f9c6090bfeb6a", func := "cayley/cayleylaw03.PresForms", spec := "presForms", inPlace := ["internal/bytealg.IndexByteString", "internal/bytealg.IndexString", "internal/abi.NoEscape", "internal/bytealg.MakeNoZero"], unfollowed := true, recurses := true, named := ["unicode/utf8.first", "unicode/utf8.acceptRanges", "internal/bytealg.MaxLen", "cayley/word.letters", "cayley/word.places", "internal/strconv.uint64pow10", "math/bits.deBruijn32tab", "math/bits.deBruijn64tab"], apart := false, laid := [("math/bits.deBruijn32tab", laid_math_bits_deBruijn32tab), ("math/bits.deBruijn64tab", laid_math_bits_deBruijn64tab), ("internal/strconv.uint64pow10", laid_internal_strconv_uint64pow10), ("unicode/utf8.acceptRanges", laid_unicode_utf8_acceptRanges), ("cayley/word.letters", laid_cayley_word_letters), ("cayley/word.places", laid_cayley_word_places), ("unicode/utf8.first", laid_unicode_utf8_first)], narrowed := true }
def PresFormsUptoSaid : Prop := presFormsUptoRow.holds Tryz.pinned (OpenSpec.upto presFormsSpec)

/-- 'cayleylaw03.PresMoves', WHERE WHAT IT READS IS OF BULK AT MOST 1048576: true; the input reads as it did. -/
def presMovesUptoRow : OpenClaim := { program := "yteephomlnbbjeaagreatdoor", sum := "8a36fc793ec5924921fa271b629e6b4d1b961509abba0ea7593f9c6090bfeb6a", func := "cayley/cayleylaw03.PresMoves", spec := "presMoves", inPlace := ["internal/bytealg.IndexByteString", "internal/bytealg.IndexString", "internal/abi.NoEscape", "internal/bytealg.MakeNoZero"], unfollowed := true, recurses := true, named := ["unicode/utf8.first", "unicode/utf8.acceptRanges", "internal/bytealg.MaxLen", "cayley/word.letters", "cayley/word.places", "internal/strconv.uint64pow10", "math/bits.deBruijn32tab", "math/bits.deBruijn64tab"], apart := false, laid := [("math/bits.deBruijn32tab", laid_math_bits_deBruijn32tab), ("math/bits.deBruijn64tab", laid_math_bits_deBruijn64tab), ("internal/strconv.uint64pow10", laid_internal_strconv_uint64pow10), ("unicode/utf8.acceptRanges", laid_unicode_utf8_acceptRanges), ("cayley/word.letters", laid_cayley_word_letters), ("cayley/word.places", laid_cayley_word_places), ("unicode/utf8.first", laid_unicode_utf8_first)], narrowed := true }
def PresMovesUptoSaid : Prop := presMovesUptoRow.holds Tryz.pinned (OpenSpec.upto presMovesSpec)

/-- 'cayleylaw03.PresCarries', WHERE WHAT IT READS IS OF BULK AT MOST 1048576: true; the input reads as it did. -/
def presCarriesUptoRow : OpenClaim := { program := "yteephomlnbbjeaagreatdoor", sum := "8a36fc793ec5924921fa271b629e6b4d1b961509abba0ea7593f9c6090bfeb6a", func := "cayley/cayleylaw03.PresCarries", spec := "presCarries", inPlace := ["internal/bytealg.IndexByteString", "internal/bytealg.IndexString", "internal/abi.NoEscape", "internal/bytealg.MakeNoZero"], unfollowed := true, recurses := true, named := ["unicode/utf8.first", "unicode/utf8.acceptRanges", "internal/bytealg.MaxLen", "cayley/word.letters", "cayley/word.places", "internal/strconv.uint64pow10", "math/bits.deBruijn32tab", "math/bits.deBruijn64tab"], apart := false, laid := [("math/bits.deBruijn32tab", laid_math_bits_deBruijn32tab), ("math/bits.deBruijn64tab", laid_math_bits_deBruijn64tab), ("internal/strconv.uint64pow10", laid_internal_strconv_uint64pow10), ("unicode/utf8.acceptRanges", laid_unicode_utf8_acceptRanges), ("cayley/word.letters", laid_cayley_word_letters), ("cayley/word.places", laid_cayley_word_places), ("unicode/utf8.first", laid_unicode_utf8_first)], narrowed := true }
def PresCarriesUptoSaid : Prop := presCarriesUptoRow.holds Tryz.pinned (OpenSpec.upto presCarriesSpec)

/-- 'cayleylaw03.PresThere', WHERE WHAT IT READS IS OF BULK AT MOST 1048576: true; the input reads as it did. -/
def presThereUptoRow : OpenClaim := { program := "yteephomlnbbjeaagreatdoor", sum := "8a36fc793ec5924921fa271b629e6b4d1b961509abba0ea7593f9c6090bfeb6a", func := "cayley/cayleylaw03.PresThere", spec := "presThere", inPlace := ["internal/bytealg.IndexByteString", "internal/bytealg.IndexString", "internal/abi.NoEscape", "internal/bytealg.MakeNoZero"], unfollowed := true, recurses := true, named := ["unicode/utf8.first", "unicode/utf8.acceptRanges", "internal/bytealg.MaxLen", "cayley/word.letters", "cayley/word.places", "internal/strconv.uint64pow10", "math/bits.deBruijn32tab", "math/bits.deBruijn64tab"], apart := false, laid := [("math/bits.deBruijn32tab", laid_math_bits_deBruijn32tab), ("math/bits.deBruijn64tab", laid_math_bits_deBruijn64tab), ("internal/strconv.uint64pow10", laid_internal_strconv_uint64pow10), ("unicode/utf8.acceptRanges", laid_unicode_utf8_acceptRanges), ("cayley/word.letters", laid_cayley_word_letters), ("cayley/word.places", laid_cayley_word_places), ("unicode/utf8.first", laid_unicode_utf8_first)], narrowed := true }
def PresThereUptoSaid : Prop := presThereUptoRow.holds Tryz.pinned (OpenSpec.upto presThereSpec)

/-- 'cayleylaw03.PresCanonical', WHERE WHAT IT READS IS OF BULK AT MOST 1048576: true; the input reads as it did. -/
def presCanonicalUptoRow : OpenClaim := { program := "yteephomlnbbjeaagreatdoor", sum := "8a36fc793ec5924921fa271b629e6b4d1b961509abba0ea7593f9c6090bfeb6a", func := "cayley/cayleylaw03.PresCanonical", spec := "presCanonical", inPlace := ["internal/bytealg.IndexByteString", "internal/bytealg.IndexString", "internal/abi.NoEscape", "internal/bytealg.MakeNoZero"], unfollowed := true, recurses := true, named := ["unicode/utf8.first", "unicode/utf8.acceptRanges", "internal/bytealg.MaxLen", "cayley/word.letters", "cayley/word.places", "internal/strconv.uint64pow10", "math/bits.deBruijn32tab", "math/bits.deBruijn64tab"], apart := false, laid := [("math/bits.deBruijn32tab", laid_math_bits_deBruijn32tab), ("math/bits.deBruijn64tab", laid_math_bits_deBruijn64tab), ("internal/strconv.uint64pow10", laid_internal_strconv_uint64pow10), ("unicode/utf8.acceptRanges", laid_unicode_utf8_acceptRanges), ("cayley/word.letters", laid_cayley_word_letters), ("cayley/word.places", laid_cayley_word_places), ("unicode/utf8.first", laid_unicode_utf8_first)], narrowed := true }
def PresCanonicalUptoSaid : Prop := presCanonicalUptoRow.holds Tryz.pinned (OpenSpec.upto presCanonicalSpec)

/-- 'cayleylaw03.PresBack', WHERE WHAT IT READS IS OF BULK AT MOST 1048576: true; the input reads as it did. -/
def presBackUptoRow : OpenClaim := { program := "yteephomlnbbjeaagreatdoor", sum := "8a36fc793ec5924921fa271b629e6b4d1b961509abba0ea7593f9c6090bfeb6a", func := "cayley/cayleylaw03.PresBack", spec := "presBack", inPlace := ["internal/bytealg.IndexByteString", "internal/bytealg.IndexString", "internal/abi.NoEscape", "internal/bytealg.MakeNoZero"], unfollowed := true, recurses := true, named := ["unicode/utf8.first", "unicode/utf8.acceptRanges", "internal/bytealg.MaxLen", "cayley/word.letters", "cayley/word.places", "internal/strconv.uint64pow10", "math/bits.deBruijn32tab", "math/bits.deBruijn64tab"], apart := false, laid := [("math/bits.deBruijn32tab", laid_math_bits_deBruijn32tab), ("math/bits.deBruijn64tab", laid_math_bits_deBruijn64tab), ("internal/strconv.uint64pow10", laid_internal_strconv_uint64pow10), ("unicode/utf8.acceptRanges", laid_unicode_utf8_acceptRanges), ("cayley/word.letters", laid_cayley_word_letters), ("cayley/word.places", laid_cayley_word_places), ("unicode/utf8.first", laid_unicode_utf8_first)], narrowed := true }
def PresBackUptoSaid : Prop := presBackUptoRow.holds Tryz.pinned (OpenSpec.upto presBackSpec)

/-- 'cayleylaw03.PresStays', WHERE WHAT IT READS IS OF BULK AT MOST 1048576: true; the input reads as it did. -/
def presStaysUptoRow : OpenClaim := { program := "yteephomlnbbjeaagreatdoor", sum := "8a36fc793ec5924921fa271b629e6b4d1b961509abba0ea7593f9c6090bfeb6a", func := "cayley/cayleylaw03.PresStays", spec := "presStays", inPlace := ["internal/bytealg.IndexByteString", "internal/bytealg.IndexString", "internal/abi.NoEscape", "internal/bytealg.MakeNoZero"], unfollowed := true, recurses := true, named := ["unicode/utf8.first", "unicode/utf8.acceptRanges", "internal/bytealg.MaxLen", "cayley/word.letters", "cayley/word.places", "internal/strconv.uint64pow10", "math/bits.deBruijn32tab", "math/bits.deBruijn64tab"], apart := false, laid := [("math/bits.deBruijn32tab", laid_math_bits_deBruijn32tab), ("math/bits.deBruijn64tab", laid_math_bits_deBruijn64tab), ("internal/strconv.uint64pow10", laid_internal_strconv_uint64pow10), ("unicode/utf8.acceptRanges", laid_unicode_utf8_acceptRanges), ("cayley/word.letters", laid_cayley_word_letters), ("cayley/word.places", laid_cayley_word_places), ("unicode/utf8.first", laid_unicode_utf8_first)], narrowed := true }
def PresStaysUptoSaid : Prop := presStaysUptoRow.holds Tryz.pinned (OpenSpec.upto presStaysSpec)

end Rows
end Go.Proofs.YteephomlnbbjeaaGreatDoor
