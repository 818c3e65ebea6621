/-
  NARROWER THAN 'FOR EVERY INPUT', by the rows' own cells (each row's printed sentence says how): RopeChecks: laid · RopeLetters: laid · RopeConcats: laid · RopeSlices: laid · RopeStays: laid.
  DERIVED. THE GIVEN ROWS OF THIS SEAT. 5 by the template 'for every input the law returns true; each argument reads behind the call as it read before'; 0 by the template 'total and deterministic' (their statements: YtgklmcinbaghmaaGreatDoorTotals.lean).
  GIVEN WITH THE SEED: the statements are not yours to turn. If you find one false, say at which input.
  Laid BY PROGRAM, IN A SANDBOX (cutbox-rows.mjs): the forced cells as the released guide's own fill.sh prints them over the translation 15a248c419105bc1… (all of the seat's roots in one cut). By AI agents, Wed Nov 11 2026. No macro, syntax, notation, axiom, sorry.
-/
import Derived.Test.YtgklmcinbaghmaaGreatDoorChecked
import GoSem.Claim
import GoSem.ClaimJoined
import GoSem.ClaimMapViews
import Derived.JoinedTies
import Derived.KernelRfl
namespace Go.Proofs.YtgklmcinbaghmaaGreatDoor
/- THE CELL 'sum', in the pinned program and in every row, IS THE sha256 OF THE DUMP (.gsa) THAT YtgklmcinbaghmaaGreatDoorProg.lean LOADS. Nothing in Lean hashes anything: it is a label: what it is worth is what the hold of that sum in a sandbox is worth. -/
noncomputable def Tryz.pinned : Pinned := { name := "ytgklmcinbaghmaagreatdoor", sum := "15a248c419105bc170af57f6ceb2c7a6d3edf0af31d953b176518fc67d86b40f", checked := Tryz.checked }
namespace Rows
def none {H : Type} : Left H := { results := [], args := [] }

/- WHAT THE LISTED PACKAGE-LEVEL VARIABLES READ AS WHEN THE CALL BEGINS. Each datum BY PROGRAM (the guide's laid-datum.mjs) off the statement by which the dump's own 'gosem.cut.vars' lays the variable. In a bare row this is a premise. The card (YtgklmcinbaghmaaGreatDoorCards.lean) ties it to the program's text. -/
def laid_cayley_word_places {H : Type} : DataW H := .agg [.lit (.int .i8 0), .lit (.int .i8 0), .lit (.int .i8 0), .lit (.int .i8 0), .lit (.int .i8 0), .lit (.int .i8 0), .lit (.int .i8 0), .lit (.int .i8 0), .lit (.int .i8 0), .lit (.int .i8 0), .lit (.int .i8 0), .lit (.int .i8 0), .lit (.int .i8 0), .lit (.int .i8 0), .lit (.int .i8 0), .lit (.int .i8 0), .lit (.int .i8 0), .lit (.int .i8 0), .lit (.int .i8 0), .lit (.int .i8 0), .lit (.int .i8 0), .lit (.int .i8 0), .lit (.int .i8 0), .lit (.int .i8 0), .lit (.int .i8 0), .lit (.int .i8 0), .lit (.int .i8 0), .lit (.int .i8 0), .lit (.int .i8 0), .lit (.int .i8 0), .lit (.int .i8 0), .lit (.int .i8 0), .lit (.int .i8 0), .lit (.int .i8 0), .lit (.int .i8 0), .lit (.int .i8 0), .lit (.int .i8 0), .lit (.int .i8 0), .lit (.int .i8 0), .lit (.int .i8 0), .lit (.int .i8 0), .lit (.int .i8 0), .lit (.int .i8 0), .lit (.int .i8 0), .lit (.int .i8 0), .lit (.int .i8 0), .lit (.int .i8 0), .lit (.int .i8 0), .lit (.int .i8 0), .lit (.int .i8 0), .lit (.int .i8 0), .lit (.int .i8 0), .lit (.int .i8 0), .lit (.int .i8 0), .lit (.int .i8 0), .lit (.int .i8 0), .lit (.int .i8 0), .lit (.int .i8 0), .lit (.int .i8 0), .lit (.int .i8 0), .lit (.int .i8 0), .lit (.int .i8 0), .lit (.int .i8 0), .lit (.int .i8 0), .lit (.int .i8 0), .lit (.int .i8 2), .lit (.int .i8 4), .lit (.int .i8 6), .lit (.int .i8 8), .lit (.int .i8 10), .lit (.int .i8 12), .lit (.int .i8 14), .lit (.int .i8 16), .lit (.int .i8 0), .lit (.int .i8 0), .lit (.int .i8 0), .lit (.int .i8 0), .lit (.int .i8 0), .lit (.int .i8 0), .lit (.int .i8 0), .lit (.int .i8 0), .lit (.int .i8 0), .lit (.int .i8 0), .lit (.int .i8 0), .lit (.int .i8 0), .lit (.int .i8 0), .lit (.int .i8 0), .lit (.int .i8 0), .lit (.int .i8 0), .lit (.int .i8 0), .lit (.int .i8 0), .lit (.int .i8 0), .lit (.int .i8 0), .lit (.int .i8 0), .lit (.int .i8 0), .lit (.int .i8 0), .lit (.int .i8 0), .lit (.int .i8 1), .lit (.int .i8 3), .lit (.int .i8 5), .lit (.int .i8 7), .lit (.int .i8 9), .lit (.int .i8 11), .lit (.int .i8 13), .lit (.int .i8 15)]

/-- 'cayleylaw02.RopeChecks': WHATEVER THE INPUT: true; the input reads as it did. -/
def ropeChecksSpec : ChangeSpec := { name := "ropeChecks", fn := fun _ => fun
  | [d] => { results := [.lit (.bool true)], args := [d] }
  | _ => none }
def ropeChecksRow : OpenClaim := { program := "ytgklmcinbaghmaagreatdoor", sum := "15a248c419105bc170af57f6ceb2c7a6d3edf0af31d953b176518fc67d86b40f", func := "cayley/cayleylaw02.RopeChecks", spec := "ropeChecks", unfollowed := true, recurses := true, named := ["cayley/word.places"], plainKeys := false, apart := false, laid := [("cayley/word.places", laid_cayley_word_places)] }
def RopeChecksSaid : Prop := ropeChecksRow.holds Tryz.pinned (OpenSpec.ofChange ropeChecksSpec)

/-- ITS FALSE NEIGHBOUR: 'it returns false'. Refute it at one input. -/
def ropeChecksWrong : ChangeSpec := { name := "ropeChecks", fn := fun _ => fun
  | [d] => { results := [.lit (.bool false)], args := [d] }
  | _ => none }
def RopeChecksWrongFalsely : Prop := ropeChecksRow.holds Tryz.pinned (OpenSpec.ofChange ropeChecksWrong)

/-- 'cayleylaw02.RopeLetters': WHATEVER THE INPUT: true; the input reads as it did. -/
def ropeLettersSpec : ChangeSpec := { name := "ropeLetters", fn := fun _ => fun
  | [d1, d2, d3] => { results := [.lit (.bool true)], args := [d1, d2, d3] }
  | _ => none }
def ropeLettersRow : OpenClaim := { program := "ytgklmcinbaghmaagreatdoor", sum := "15a248c419105bc170af57f6ceb2c7a6d3edf0af31d953b176518fc67d86b40f", func := "cayley/cayleylaw02.RopeLetters", spec := "ropeLetters", unfollowed := true, recurses := true, named := ["cayley/word.places"], plainKeys := false, apart := false, laid := [("cayley/word.places", laid_cayley_word_places)] }
def RopeLettersSaid : Prop := ropeLettersRow.holds Tryz.pinned (OpenSpec.ofChange ropeLettersSpec)

/-- ITS FALSE NEIGHBOUR: 'it returns false'. Refute it at one input. -/
def ropeLettersWrong : ChangeSpec := { name := "ropeLetters", fn := fun _ => fun
  | [d1, d2, d3] => { results := [.lit (.bool false)], args := [d1, d2, d3] }
  | _ => none }
def RopeLettersWrongFalsely : Prop := ropeLettersRow.holds Tryz.pinned (OpenSpec.ofChange ropeLettersWrong)

/-- 'cayleylaw02.RopeConcats': WHATEVER THE INPUT: true; the input reads as it did. -/
def ropeConcatsSpec : ChangeSpec := { name := "ropeConcats", fn := fun _ => fun
  | [d1, d2, d3] => { results := [.lit (.bool true)], args := [d1, d2, d3] }
  | _ => none }
def ropeConcatsRow : OpenClaim := { program := "ytgklmcinbaghmaagreatdoor", sum := "15a248c419105bc170af57f6ceb2c7a6d3edf0af31d953b176518fc67d86b40f", func := "cayley/cayleylaw02.RopeConcats", spec := "ropeConcats", unfollowed := true, recurses := true, named := ["cayley/word.places"], plainKeys := false, apart := false, laid := [("cayley/word.places", laid_cayley_word_places)] }
def RopeConcatsSaid : Prop := ropeConcatsRow.holds Tryz.pinned (OpenSpec.ofChange ropeConcatsSpec)

/-- ITS FALSE NEIGHBOUR: 'it returns false'. Refute it at one input. -/
def ropeConcatsWrong : ChangeSpec := { name := "ropeConcats", fn := fun _ => fun
  | [d1, d2, d3] => { results := [.lit (.bool false)], args := [d1, d2, d3] }
  | _ => none }
def RopeConcatsWrongFalsely : Prop := ropeConcatsRow.holds Tryz.pinned (OpenSpec.ofChange ropeConcatsWrong)

/-- 'cayleylaw02.RopeSlices': WHATEVER THE INPUT: true; the input reads as it did. -/
def ropeSlicesSpec : ChangeSpec := { name := "ropeSlices", fn := fun _ => fun
  | [d1, d2, d3, d4] => { results := [.lit (.bool true)], args := [d1, d2, d3, d4] }
  | _ => none }
def ropeSlicesRow : OpenClaim := { program := "ytgklmcinbaghmaagreatdoor", sum := "15a248c419105bc170af57f6ceb2c7a6d3edf0af31d953b176518fc67d86b40f", func := "cayley/cayleylaw02.RopeSlices", spec := "ropeSlices", unfollowed := true, recurses := true, named := ["cayley/word.places"], plainKeys := false, apart := false, laid := [("cayley/word.places", laid_cayley_word_places)] }
def RopeSlicesSaid : Prop := ropeSlicesRow.holds Tryz.pinned (OpenSpec.ofChange ropeSlicesSpec)

/-- ITS FALSE NEIGHBOUR: 'it returns false'. Refute it at one input. -/
def ropeSlicesWrong : ChangeSpec := { name := "ropeSlices", fn := fun _ => fun
  | [d1, d2, d3, d4] => { results := [.lit (.bool false)], args := [d1, d2, d3, d4] }
  | _ => none }
def RopeSlicesWrongFalsely : Prop := ropeSlicesRow.holds Tryz.pinned (OpenSpec.ofChange ropeSlicesWrong)

/-- 'cayleylaw02.RopeStays': WHATEVER THE INPUT: true; the input reads as it did. -/
def ropeStaysSpec : ChangeSpec := { name := "ropeStays", fn := fun _ => fun
  | [d1, d2, d3, d4] => { results := [.lit (.bool true)], args := [d1, d2, d3, d4] }
  | _ => none }
def ropeStaysRow : OpenClaim := { program := "ytgklmcinbaghmaagreatdoor", sum := "15a248c419105bc170af57f6ceb2c7a6d3edf0af31d953b176518fc67d86b40f", func := "cayley/cayleylaw02.RopeStays", spec := "ropeStays", unfollowed := true, recurses := true, named := ["cayley/word.places"], plainKeys := false, apart := false, laid := [("cayley/word.places", laid_cayley_word_places)] }
def RopeStaysSaid : Prop := ropeStaysRow.holds Tryz.pinned (OpenSpec.ofChange ropeStaysSpec)

/-- ITS FALSE NEIGHBOUR: 'it returns false'. Refute it at one input. -/
def ropeStaysWrong : ChangeSpec := { name := "ropeStays", fn := fun _ => fun
  | [d1, d2, d3, d4] => { results := [.lit (.bool false)], args := [d1, d2, d3, d4] }
  | _ => none }
def RopeStaysWrongFalsely : Prop := ropeStaysRow.holds Tryz.pinned (OpenSpec.ofChange ropeStaysWrong)

/- THE SECOND FORM. 'bulk': how many values and letters a reading holds, each counted each time it is reached (what is shared counts as often as it is met; a slice's spare places count too). A statement '..UptoSaid' is the law's where the arguments, and the package variables that the reading takes, are together of bulk at most 1048576: NARROWER than '..Said'. Prove '..Said' where nothing that the law and all that it calls make is longer than what came in: it says more and counts as full. Else prove '..UptoSaid'. A law counts once. -/
mutual
def uptoBulk {H : Type} : DataW H → Nat
  | .lit (.string bytes) => bytes.length + 1
  | .lit _ => 1
  | .nil => 1
  | .ptr d => uptoBulk d + 1
  | .slice elems spare => uptoBulkAll elems + uptoBulkAll spare + 1
  | .agg parts => uptoBulkAll parts + 1
  | .iface _ d => uptoBulk d + 1
  | .map entries => uptoBulkEntries entries + 1
  | .held _ => 1
def uptoBulkAll {H : Type} : List (DataW H) → Nat
  | [] => 0
  | d :: r => uptoBulk d + uptoBulkAll r
def uptoBulkEntries {H : Type} : List (Lit × DataW H) → Nat
  | [] => 0
  | x :: r => uptoBulkEntry x + uptoBulkEntries r
def uptoBulkEntry {H : Type} : Lit × DataW H → Nat
  | (.string bytes, d) => bytes.length + uptoBulk d + 1
  | (_, d) => uptoBulk d + 1
 end
def uptoSmall : (H : Type) → List (DataW H) → Bool := fun _ ds => decide (uptoBulkAll ds ≤ 1048576)
def OpenSpec.upto (s : _root_.Go.ChangeSpec) : _root_.Go.OpenSpec := { _root_.Go.OpenSpec.ofChange s with cond := some uptoSmall }

/-- 'cayleylaw02.RopeChecks', WHERE WHAT IT READS IS OF BULK AT MOST 1048576: true; the input reads as it did. -/
def ropeChecksUptoRow : OpenClaim := { program := "ytgklmcinbaghmaagreatdoor", sum := "15a248c419105bc170af57f6ceb2c7a6d3edf0af31d953b176518fc67d86b40f", func := "cayley/cayleylaw02.RopeChecks", spec := "ropeChecks", unfollowed := true, recurses := true, named := ["cayley/word.places"], plainKeys := false, apart := false, laid := [("cayley/word.places", laid_cayley_word_places)], narrowed := true }
def RopeChecksUptoSaid : Prop := ropeChecksUptoRow.holds Tryz.pinned (OpenSpec.upto ropeChecksSpec)

/-- 'cayleylaw02.RopeLetters', WHERE WHAT IT READS IS OF BULK AT MOST 1048576: true; the input reads as it did. -/
def ropeLettersUptoRow : OpenClaim := { program := "ytgklmcinbaghmaagreatdoor", sum := "15a248c419105bc170af57f6ceb2c7a6d3edf0af31d953b176518fc67d86b40f", func := "cayley/cayleylaw02.RopeLetters", spec := "ropeLetters", unfollowed := true, recurses := true, named := ["cayley/word.places"], plainKeys := false, apart := false, laid := [("cayley/word.places", laid_cayley_word_places)], narrowed := true }
def RopeLettersUptoSaid : Prop := ropeLettersUptoRow.holds Tryz.pinned (OpenSpec.upto ropeLettersSpec)

/-- 'cayleylaw02.RopeConcats', WHERE WHAT IT READS IS OF BULK AT MOST 1048576: true; the input reads as it did. -/
def ropeConcatsUptoRow : OpenClaim := { program := "ytgklmcinbaghmaagreatdoor", sum := "15a248c419105bc170af57f6ceb2c7a6d3edf0af31d953b176518fc67d86b40f", func := "cayley/cayleylaw02.RopeConcats", spec := "ropeConcats", unfollowed := true, recurses := true, named := ["cayley/word.places"], plainKeys := false, apart := false, laid := [("cayley/word.places", laid_cayley_word_places)], narrowed := true }
def RopeConcatsUptoSaid : Prop := ropeConcatsUptoRow.holds Tryz.pinned (OpenSpec.upto ropeConcatsSpec)

/-- 'cayleylaw02.RopeSlices', WHERE WHAT IT READS IS OF BULK AT MOST 1048576: true; the input reads as it did. -/
def ropeSlicesUptoRow : OpenClaim := { program := "ytgklmcinbaghmaagreatdoor", sum := "15a248c419105bc170af57f6ceb2c7a6d3edf0af31d953b176518fc67d86b40f", func := "cayley/cayleylaw02.RopeSlices", spec := "ropeSlices", unfollowed := true, recurses := true, named := ["cayley/word.places"], plainKeys := false, apart := false, laid := [("cayley/word.places", laid_cayley_word_places)], narrowed := true }
def RopeSlicesUptoSaid : Prop := ropeSlicesUptoRow.holds Tryz.pinned (OpenSpec.upto ropeSlicesSpec)

/-- 'cayleylaw02.RopeStays', WHERE WHAT IT READS IS OF BULK AT MOST 1048576: true; the input reads as it did. -/
def ropeStaysUptoRow : OpenClaim := { program := "ytgklmcinbaghmaagreatdoor", sum := "15a248c419105bc170af57f6ceb2c7a6d3edf0af31d953b176518fc67d86b40f", func := "cayley/cayleylaw02.RopeStays", spec := "ropeStays", unfollowed := true, recurses := true, named := ["cayley/word.places"], plainKeys := false, apart := false, laid := [("cayley/word.places", laid_cayley_word_places)], narrowed := true }
def RopeStaysUptoSaid : Prop := ropeStaysUptoRow.holds Tryz.pinned (OpenSpec.upto ropeStaysSpec)

end Rows
end Go.Proofs.YtgklmcinbaghmaaGreatDoor
