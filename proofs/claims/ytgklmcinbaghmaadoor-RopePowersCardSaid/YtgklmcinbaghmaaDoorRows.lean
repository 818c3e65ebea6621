/-
  NARROWER THAN 'FOR EVERY INPUT', by the rows' own cells (each row's printed sentence says how): RopePowers: laid · RopeDiffers: laid.
  DERIVED. THE GIVEN ROWS OF THIS SEAT. 2 by the template 'for every input the law returns true; each argument reads behind the call as it read before'; 0 by the template 'total and deterministic' (their statements: YtgklmcinbaghmaaDoorTotals.lean).
  GIVEN WITH THE SEED: the statements are not yours to turn. If you find one false, say at which input.
  Laid BY PROGRAM, IN A SANDBOX (cutbox-rows.mjs): the forced cells as the released guide's own fill.sh prints them over the translation 8084e928529cfcbd… (all of the seat's roots in one cut). By AI agents, Wed Nov 11 2026. No macro, syntax, notation, axiom, sorry.
-/
import Derived.Test.YtgklmcinbaghmaaDoorChecked
import GoSem.Claim
import GoSem.ClaimJoined
import GoSem.ClaimMapViews
import Derived.JoinedTies
import Derived.KernelRfl
namespace Go.Proofs.YtgklmcinbaghmaaDoor
/- THE CELL 'sum', in the pinned program and in every row, IS THE sha256 OF THE DUMP (.gsa) THAT YtgklmcinbaghmaaDoorProg.lean LOADS. Nothing in Lean hashes anything: it is a label: what it is worth is what the hold of that sum in a sandbox is worth. -/
noncomputable def Tryd.pinned : Pinned := { name := "ytgklmcinbaghmaadoor", sum := "8084e928529cfcbd7a0f8b1c6e7ade0d99ed884c94459de686619c2f2216372b", checked := Tryd.checked }
namespace Rows
def none {H : Type} : Left H := { results := [], args := [] }

/- WHAT THE LISTED PACKAGE-LEVEL VARIABLES READ AS WHEN THE CALL BEGINS. Each datum BY PROGRAM (the guide's laid-datum.mjs) off the statement by which the dump's own 'gosem.cut.vars' lays the variable. In a bare row this is a premise. The card (YtgklmcinbaghmaaDoorCards.lean) ties it to the program's text. -/
def laid_cayley_word_places {H : Type} : DataW H := .agg [.lit (.int .i8 0), .lit (.int .i8 0), .lit (.int .i8 0), .lit (.int .i8 0), .lit (.int .i8 0), .lit (.int .i8 0), .lit (.int .i8 0), .lit (.int .i8 0), .lit (.int .i8 0), .lit (.int .i8 0), .lit (.int .i8 0), .lit (.int .i8 0), .lit (.int .i8 0), .lit (.int .i8 0), .lit (.int .i8 0), .lit (.int .i8 0), .lit (.int .i8 0), .lit (.int .i8 0), .lit (.int .i8 0), .lit (.int .i8 0), .lit (.int .i8 0), .lit (.int .i8 0), .lit (.int .i8 0), .lit (.int .i8 0), .lit (.int .i8 0), .lit (.int .i8 0), .lit (.int .i8 0), .lit (.int .i8 0), .lit (.int .i8 0), .lit (.int .i8 0), .lit (.int .i8 0), .lit (.int .i8 0), .lit (.int .i8 0), .lit (.int .i8 0), .lit (.int .i8 0), .lit (.int .i8 0), .lit (.int .i8 0), .lit (.int .i8 0), .lit (.int .i8 0), .lit (.int .i8 0), .lit (.int .i8 0), .lit (.int .i8 0), .lit (.int .i8 0), .lit (.int .i8 0), .lit (.int .i8 0), .lit (.int .i8 0), .lit (.int .i8 0), .lit (.int .i8 0), .lit (.int .i8 0), .lit (.int .i8 0), .lit (.int .i8 0), .lit (.int .i8 0), .lit (.int .i8 0), .lit (.int .i8 0), .lit (.int .i8 0), .lit (.int .i8 0), .lit (.int .i8 0), .lit (.int .i8 0), .lit (.int .i8 0), .lit (.int .i8 0), .lit (.int .i8 0), .lit (.int .i8 0), .lit (.int .i8 0), .lit (.int .i8 0), .lit (.int .i8 0), .lit (.int .i8 2), .lit (.int .i8 4), .lit (.int .i8 6), .lit (.int .i8 8), .lit (.int .i8 10), .lit (.int .i8 12), .lit (.int .i8 14), .lit (.int .i8 16), .lit (.int .i8 0), .lit (.int .i8 0), .lit (.int .i8 0), .lit (.int .i8 0), .lit (.int .i8 0), .lit (.int .i8 0), .lit (.int .i8 0), .lit (.int .i8 0), .lit (.int .i8 0), .lit (.int .i8 0), .lit (.int .i8 0), .lit (.int .i8 0), .lit (.int .i8 0), .lit (.int .i8 0), .lit (.int .i8 0), .lit (.int .i8 0), .lit (.int .i8 0), .lit (.int .i8 0), .lit (.int .i8 0), .lit (.int .i8 0), .lit (.int .i8 0), .lit (.int .i8 0), .lit (.int .i8 0), .lit (.int .i8 0), .lit (.int .i8 1), .lit (.int .i8 3), .lit (.int .i8 5), .lit (.int .i8 7), .lit (.int .i8 9), .lit (.int .i8 11), .lit (.int .i8 13), .lit (.int .i8 15)]

/-- 'cayleylaw02.RopePowers': WHATEVER THE INPUT: true; the input reads as it did. -/
def ropePowersSpec : ChangeSpec := { name := "ropePowers", fn := fun _ => fun
  | [d1, d2, d3] => { results := [.lit (.bool true)], args := [d1, d2, d3] }
  | _ => none }
def ropePowersRow : OpenClaim := { program := "ytgklmcinbaghmaadoor", sum := "8084e928529cfcbd7a0f8b1c6e7ade0d99ed884c94459de686619c2f2216372b", func := "cayley/cayleylaw02.RopePowers", spec := "ropePowers", unfollowed := true, recurses := true, named := ["cayley/word.places"], plainKeys := false, apart := false, laid := [("cayley/word.places", laid_cayley_word_places)] }
def RopePowersSaid : Prop := ropePowersRow.holds Tryd.pinned (OpenSpec.ofChange ropePowersSpec)

/-- ITS FALSE NEIGHBOUR: 'it returns false'. Refute it at one input. -/
def ropePowersWrong : ChangeSpec := { name := "ropePowers", fn := fun _ => fun
  | [d1, d2, d3] => { results := [.lit (.bool false)], args := [d1, d2, d3] }
  | _ => none }
def RopePowersWrongFalsely : Prop := ropePowersRow.holds Tryd.pinned (OpenSpec.ofChange ropePowersWrong)

/-- 'cayleylaw02.RopeDiffers': WHATEVER THE INPUT: true; the input reads as it did. -/
def ropeDiffersSpec : ChangeSpec := { name := "ropeDiffers", fn := fun _ => fun
  | [d1, d2, d3] => { results := [.lit (.bool true)], args := [d1, d2, d3] }
  | _ => none }
def ropeDiffersRow : OpenClaim := { program := "ytgklmcinbaghmaadoor", sum := "8084e928529cfcbd7a0f8b1c6e7ade0d99ed884c94459de686619c2f2216372b", func := "cayley/cayleylaw02.RopeDiffers", spec := "ropeDiffers", unfollowed := true, recurses := true, named := ["cayley/word.places"], plainKeys := false, apart := false, laid := [("cayley/word.places", laid_cayley_word_places)] }
def RopeDiffersSaid : Prop := ropeDiffersRow.holds Tryd.pinned (OpenSpec.ofChange ropeDiffersSpec)

/-- ITS FALSE NEIGHBOUR: 'it returns false'. Refute it at one input. -/
def ropeDiffersWrong : ChangeSpec := { name := "ropeDiffers", fn := fun _ => fun
  | [d1, d2, d3] => { results := [.lit (.bool false)], args := [d1, d2, d3] }
  | _ => none }
def RopeDiffersWrongFalsely : Prop := ropeDiffersRow.holds Tryd.pinned (OpenSpec.ofChange ropeDiffersWrong)

/- THE SECOND FORM. 'bulk': how many values and letters a reading holds, each counted each time it is reached (what is shared counts as often as it is met; a slice's spare places count too). A statement '..UptoSaid' is the law's where the arguments, and the package variables that the reading takes, are together of bulk at most 1048576: NARROWER than '..Said'. Prove '..Said' where nothing that the law and all that it calls make is longer than what came in: it says more and counts as full. Else prove '..UptoSaid'. A law counts once. -/
mutual
def uptoBulk {H : Type} : DataW H → Nat
  | .lit (.string bytes) => bytes.length + 1
  | .lit _ => 1
  | .nil => 1
  | .ptr d => uptoBulk d + 1
  | .slice elems spare => uptoBulkAll elems + uptoBulkAll spare + 1
  | .agg parts => uptoBulkAll parts + 1
  | .iface _ d => uptoBulk d + 1
  | .map entries => uptoBulkEntries entries + 1
  | .held _ => 1
def uptoBulkAll {H : Type} : List (DataW H) → Nat
  | [] => 0
  | d :: r => uptoBulk d + uptoBulkAll r
def uptoBulkEntries {H : Type} : List (Lit × DataW H) → Nat
  | [] => 0
  | x :: r => uptoBulkEntry x + uptoBulkEntries r
def uptoBulkEntry {H : Type} : Lit × DataW H → Nat
  | (.string bytes, d) => bytes.length + uptoBulk d + 1
  | (_, d) => uptoBulk d + 1
 end
def uptoSmall : (H : Type) → List (DataW H) → Bool := fun _ ds => decide (uptoBulkAll ds ≤ 1048576)
def OpenSpec.upto (s : _root_.Go.ChangeSpec) : _root_.Go.OpenSpec := { _root_.Go.OpenSpec.ofChange s with cond := some uptoSmall }

/-- 'cayleylaw02.RopePowers', WHERE WHAT IT READS IS OF BULK AT MOST 1048576: true; the input reads as it did. -/
def ropePowersUptoRow : OpenClaim := { program := "ytgklmcinbaghmaadoor", sum := "8084e928529cfcbd7a0f8b1c6e7ade0d99ed884c94459de686619c2f2216372b", func := "cayley/cayleylaw02.RopePowers", spec := "ropePowers", unfollowed := true, recurses := true, named := ["cayley/word.places"], plainKeys := false, apart := false, laid := [("cayley/word.places", laid_cayley_word_places)], narrowed := true }
def RopePowersUptoSaid : Prop := ropePowersUptoRow.holds Tryd.pinned (OpenSpec.upto ropePowersSpec)

/-- 'cayleylaw02.RopeDiffers', WHERE WHAT IT READS IS OF BULK AT MOST 1048576: true; the input reads as it did. -/
def ropeDiffersUptoRow : OpenClaim := { program := "ytgklmcinbaghmaadoor", sum := "8084e928529cfcbd7a0f8b1c6e7ade0d99ed884c94459de686619c2f2216372b", func := "cayley/cayleylaw02.RopeDiffers", spec := "ropeDiffers", unfollowed := true, recurses := true, named := ["cayley/word.places"], plainKeys := false, apart := false, laid := [("cayley/word.places", laid_cayley_word_places)], narrowed := true }
def RopeDiffersUptoSaid : Prop := ropeDiffersUptoRow.holds Tryd.pinned (OpenSpec.upto ropeDiffersSpec)

end Rows
end Go.Proofs.YtgklmcinbaghmaaDoor
