/-
  DERIVED. GIVEN WITH THE SEED: THE CARDS: each row of YtflieikbhgneoaaGreatDoorRows.lean that lists a variable, with what it lists TIED to the program's text (the seventh form; the later family's looks); each row that meets fmt, with fmt's text TOLD by the authors' own Lean function (tested against real Go, not proved from fmt's source: count such statements apart). THE CARD IS WHAT COUNTS. Prove the row's statement (the work); the ties are given (YtflieikbhgneoaaGreatDoorTie.lean); close each card by the builder's one call (the guide's Derived/Test/ToyasCard.lean, 'card_holds'). Laid BY PROGRAM, IN A SANDBOX (cutbox-door.mjs). By AI agents, Wed Nov 11 2026. No macro, syntax, notation, axiom, sorry.
-/
import Derived.Test.YtflieikbhgneoaaGreatDoorRows
import GoSem.ClaimSeven
namespace Go.Proofs.YtflieikbhgneoaaGreatDoor
namespace Rows

/-- THE TIED CARD OF 'cayleylaw01.WordBasics'. -/
def wordBasicsCard : Claim7 := { stood := { row := wordBasicsRow, standIns := [], harness := (true, "ccdc6282b19c209ab48fa1ca9d15e7f7f31264402d5cf329a528312a4780893a"), looks := true }, kinds := [], alts := [], laidByText := true, laidKinds := [.data, .data, .data, .data, .data, .data, .pinned], laidTests := true, laidLooks := .later }
def WordBasicsCardSaid : Prop := Claim7.holds Tryz.pinned (.plain (OpenSpec.ofChange wordBasicsSpec)) wordBasicsCard

/-- THE TIED CARD OF 'cayleylaw01.WordForms'. -/
def wordFormsCard : Claim7 := { stood := { row := wordFormsRow, standIns := [], harness := (true, "ccdc6282b19c209ab48fa1ca9d15e7f7f31264402d5cf329a528312a4780893a"), looks := true }, kinds := [], alts := [], laidByText := true, laidKinds := [.data, .data, .data, .data, .data, .data, .pinned], laidTests := true, laidLooks := .later }
def WordFormsCardSaid : Prop := Claim7.holds Tryz.pinned (.plain (OpenSpec.ofChange wordFormsSpec)) wordFormsCard

/-- THE SECOND FORM's CARD OF 'cayleylaw01.WordBasics'. -/
def wordBasicsUptoCard : Claim7 := { stood := { row := wordBasicsUptoRow, standIns := [], harness := (true, "ccdc6282b19c209ab48fa1ca9d15e7f7f31264402d5cf329a528312a4780893a"), looks := true }, kinds := [], alts := [], laidByText := true, laidKinds := [.data, .data, .data, .data, .data, .data, .pinned], laidTests := true, laidLooks := .later }
def WordBasicsUptoCardSaid : Prop := Claim7.holds Tryz.pinned (.plain (OpenSpec.upto wordBasicsSpec)) wordBasicsUptoCard

/-- THE SECOND FORM's CARD OF 'cayleylaw01.WordForms'. -/
def wordFormsUptoCard : Claim7 := { stood := { row := wordFormsUptoRow, standIns := [], harness := (true, "ccdc6282b19c209ab48fa1ca9d15e7f7f31264402d5cf329a528312a4780893a"), looks := true }, kinds := [], alts := [], laidByText := true, laidKinds := [.data, .data, .data, .data, .data, .data, .pinned], laidTests := true, laidLooks := .later }
def WordFormsUptoCardSaid : Prop := Claim7.holds Tryz.pinned (.plain (OpenSpec.upto wordFormsSpec)) wordFormsUptoCard
end Rows
end Go.Proofs.YtflieikbhgneoaaGreatDoor
