/-
  DERIVED. GIVEN WITH THE SEED: THE CARDS: each row of YtgklmcinbaghmaaGreatDoorRows.lean that lists a variable, with what it lists TIED to the program's text (the seventh form; the later family's looks); each row that meets fmt, with fmt's text TOLD by the authors' own Lean function (tested against real Go, not proved from fmt's source: count such statements apart). THE CARD IS WHAT COUNTS. Prove the row's statement (the work); the ties are given (YtgklmcinbaghmaaGreatDoorTie.lean); close each card by the builder's one call (the guide's Derived/Test/ToyasCard.lean, 'card_holds'). Laid BY PROGRAM, IN A SANDBOX (cutbox-door.mjs). By AI agents, Wed Nov 11 2026. No macro, syntax, notation, axiom, sorry.
-/
import Derived.Test.YtgklmcinbaghmaaGreatDoorRows
import GoSem.ClaimSeven
namespace Go.Proofs.YtgklmcinbaghmaaGreatDoor
namespace Rows

/-- THE TIED CARD OF 'cayleylaw02.RopeChecks'. -/
def ropeChecksCard : Claim7 := { stood := { row := ropeChecksRow, standIns := [], harness := (true, "f81e50845525b03d790431a3b3bd7dcb7839a78b7180f24cbf73a567405c8d81"), looks := false }, kinds := [], alts := [], laidByText := true, laidKinds := [.data], laidTests := true, laidLooks := .later }
def RopeChecksCardSaid : Prop := Claim7.holds Tryz.pinned (.plain (OpenSpec.ofChange ropeChecksSpec)) ropeChecksCard

/-- THE TIED CARD OF 'cayleylaw02.RopeLetters'. -/
def ropeLettersCard : Claim7 := { stood := { row := ropeLettersRow, standIns := [], harness := (true, "f81e50845525b03d790431a3b3bd7dcb7839a78b7180f24cbf73a567405c8d81"), looks := false }, kinds := [], alts := [], laidByText := true, laidKinds := [.data], laidTests := true, laidLooks := .later }
def RopeLettersCardSaid : Prop := Claim7.holds Tryz.pinned (.plain (OpenSpec.ofChange ropeLettersSpec)) ropeLettersCard

/-- THE TIED CARD OF 'cayleylaw02.RopeConcats'. -/
def ropeConcatsCard : Claim7 := { stood := { row := ropeConcatsRow, standIns := [], harness := (true, "f81e50845525b03d790431a3b3bd7dcb7839a78b7180f24cbf73a567405c8d81"), looks := false }, kinds := [], alts := [], laidByText := true, laidKinds := [.data], laidTests := true, laidLooks := .later }
def RopeConcatsCardSaid : Prop := Claim7.holds Tryz.pinned (.plain (OpenSpec.ofChange ropeConcatsSpec)) ropeConcatsCard

/-- THE TIED CARD OF 'cayleylaw02.RopeSlices'. -/
def ropeSlicesCard : Claim7 := { stood := { row := ropeSlicesRow, standIns := [], harness := (true, "f81e50845525b03d790431a3b3bd7dcb7839a78b7180f24cbf73a567405c8d81"), looks := false }, kinds := [], alts := [], laidByText := true, laidKinds := [.data], laidTests := true, laidLooks := .later }
def RopeSlicesCardSaid : Prop := Claim7.holds Tryz.pinned (.plain (OpenSpec.ofChange ropeSlicesSpec)) ropeSlicesCard

/-- THE TIED CARD OF 'cayleylaw02.RopeStays'. -/
def ropeStaysCard : Claim7 := { stood := { row := ropeStaysRow, standIns := [], harness := (true, "f81e50845525b03d790431a3b3bd7dcb7839a78b7180f24cbf73a567405c8d81"), looks := false }, kinds := [], alts := [], laidByText := true, laidKinds := [.data], laidTests := true, laidLooks := .later }
def RopeStaysCardSaid : Prop := Claim7.holds Tryz.pinned (.plain (OpenSpec.ofChange ropeStaysSpec)) ropeStaysCard

/-- THE SECOND FORM's CARD OF 'cayleylaw02.RopeChecks'. -/
def ropeChecksUptoCard : Claim7 := { stood := { row := ropeChecksUptoRow, standIns := [], harness := (true, "f81e50845525b03d790431a3b3bd7dcb7839a78b7180f24cbf73a567405c8d81"), looks := false }, kinds := [], alts := [], laidByText := true, laidKinds := [.data], laidTests := true, laidLooks := .later }
def RopeChecksUptoCardSaid : Prop := Claim7.holds Tryz.pinned (.plain (OpenSpec.upto ropeChecksSpec)) ropeChecksUptoCard

/-- THE SECOND FORM's CARD OF 'cayleylaw02.RopeLetters'. -/
def ropeLettersUptoCard : Claim7 := { stood := { row := ropeLettersUptoRow, standIns := [], harness := (true, "f81e50845525b03d790431a3b3bd7dcb7839a78b7180f24cbf73a567405c8d81"), looks := false }, kinds := [], alts := [], laidByText := true, laidKinds := [.data], laidTests := true, laidLooks := .later }
def RopeLettersUptoCardSaid : Prop := Claim7.holds Tryz.pinned (.plain (OpenSpec.upto ropeLettersSpec)) ropeLettersUptoCard

/-- THE SECOND FORM's CARD OF 'cayleylaw02.RopeConcats'. -/
def ropeConcatsUptoCard : Claim7 := { stood := { row := ropeConcatsUptoRow, standIns := [], harness := (true, "f81e50845525b03d790431a3b3bd7dcb7839a78b7180f24cbf73a567405c8d81"), looks := false }, kinds := [], alts := [], laidByText := true, laidKinds := [.data], laidTests := true, laidLooks := .later }
def RopeConcatsUptoCardSaid : Prop := Claim7.holds Tryz.pinned (.plain (OpenSpec.upto ropeConcatsSpec)) ropeConcatsUptoCard

/-- THE SECOND FORM's CARD OF 'cayleylaw02.RopeSlices'. -/
def ropeSlicesUptoCard : Claim7 := { stood := { row := ropeSlicesUptoRow, standIns := [], harness := (true, "f81e50845525b03d790431a3b3bd7dcb7839a78b7180f24cbf73a567405c8d81"), looks := false }, kinds := [], alts := [], laidByText := true, laidKinds := [.data], laidTests := true, laidLooks := .later }
def RopeSlicesUptoCardSaid : Prop := Claim7.holds Tryz.pinned (.plain (OpenSpec.upto ropeSlicesSpec)) ropeSlicesUptoCard

/-- THE SECOND FORM's CARD OF 'cayleylaw02.RopeStays'. -/
def ropeStaysUptoCard : Claim7 := { stood := { row := ropeStaysUptoRow, standIns := [], harness := (true, "f81e50845525b03d790431a3b3bd7dcb7839a78b7180f24cbf73a567405c8d81"), looks := false }, kinds := [], alts := [], laidByText := true, laidKinds := [.data], laidTests := true, laidLooks := .later }
def RopeStaysUptoCardSaid : Prop := Claim7.holds Tryz.pinned (.plain (OpenSpec.upto ropeStaysSpec)) ropeStaysUptoCard
end Rows
end Go.Proofs.YtgklmcinbaghmaaGreatDoor
