/-
  DERIVED. GIVEN WITH THE SEED: THE CARDS: each row of YteephomlnbbjeaaGreatDoorRows.lean that lists a variable, with what it lists TIED to the program's text (the seventh form; the later family's looks); each row that meets fmt, with fmt's text TOLD by the authors' own Lean function (tested against real Go, not proved from fmt's source: count such statements apart). THE CARD IS WHAT COUNTS. Prove the row's statement (the work); the ties are given (YteephomlnbbjeaaGreatDoorTie.lean); close each card by the builder's one call (the guide's Derived/Test/ToyasCard.lean, 'card_holds'). Laid BY PROGRAM, IN A SANDBOX (cutbox-door.mjs). By AI agents, Wed Nov 11 2026. No macro, syntax, notation, axiom, sorry.
-/
import Derived.Test.YteephomlnbbjeaaGreatDoorRows
import GoSem.ClaimSeven
namespace Go.Proofs.YteephomlnbbjeaaGreatDoor
namespace Rows

/-- THE TIED CARD OF 'cayleylaw03.PresReads'. -/
def presReadsCard : Claim7 := { stood := { row := presReadsRow, standIns := [], harness := (true, "7ddac0474c4027a4ddc1a957453943ce7fd9c97b450a8f85798a0ac2bd37eb21"), looks := true }, kinds := [], alts := [], laidByText := true, laidKinds := [.data, .data, .data, .data, .data, .data, .pinned], laidTests := true, laidLooks := .later }
def PresReadsCardSaid : Prop := Claim7.holds Tryz.pinned (.plain (OpenSpec.ofChange presReadsSpec)) presReadsCard

/-- THE TIED CARD OF 'cayleylaw03.PresForms'. -/
def presFormsCard : Claim7 := { stood := { row := presFormsRow, standIns := [], harness := (true, "7ddac0474c4027a4ddc1a957453943ce7fd9c97b450a8f85798a0ac2bd37eb21"), looks := true }, kinds := [], alts := [], laidByText := true, laidKinds := [.data, .data, .data, .data, .data, .data, .pinned], laidTests := true, laidLooks := .later }
def PresFormsCardSaid : Prop := Claim7.holds Tryz.pinned (.plain (OpenSpec.ofChange presFormsSpec)) presFormsCard

/-- THE TIED CARD OF 'cayleylaw03.PresMoves'. -/
def presMovesCard : Claim7 := { stood := { row := presMovesRow, standIns := [], harness := (true, "7ddac0474c4027a4ddc1a957453943ce7fd9c97b450a8f85798a0ac2bd37eb21"), looks := true }, kinds := [], alts := [], laidByText := true, laidKinds := [.data, .data, .data, .data, .data, .data, .pinned], laidTests := true, laidLooks := .later }
def PresMovesCardSaid : Prop := Claim7.holds Tryz.pinned (.plain (OpenSpec.ofChange presMovesSpec)) presMovesCard

/-- THE TIED CARD OF 'cayleylaw03.PresCarries'. -/
def presCarriesCard : Claim7 := { stood := { row := presCarriesRow, standIns := [], harness := (true, "7ddac0474c4027a4ddc1a957453943ce7fd9c97b450a8f85798a0ac2bd37eb21"), looks := true }, kinds := [], alts := [], laidByText := true, laidKinds := [.data, .data, .data, .data, .data, .data, .pinned], laidTests := true, laidLooks := .later }
def PresCarriesCardSaid : Prop := Claim7.holds Tryz.pinned (.plain (OpenSpec.ofChange presCarriesSpec)) presCarriesCard

/-- THE TIED CARD OF 'cayleylaw03.PresThere'. -/
def presThereCard : Claim7 := { stood := { row := presThereRow, standIns := [], harness := (true, "7ddac0474c4027a4ddc1a957453943ce7fd9c97b450a8f85798a0ac2bd37eb21"), looks := true }, kinds := [], alts := [], laidByText := true, laidKinds := [.data, .data, .data, .data, .data, .data, .pinned], laidTests := true, laidLooks := .later }
def PresThereCardSaid : Prop := Claim7.holds Tryz.pinned (.plain (OpenSpec.ofChange presThereSpec)) presThereCard

/-- THE TIED CARD OF 'cayleylaw03.PresCanonical'. -/
def presCanonicalCard : Claim7 := { stood := { row := presCanonicalRow, standIns := [], harness := (true, "7ddac0474c4027a4ddc1a957453943ce7fd9c97b450a8f85798a0ac2bd37eb21"), looks := true }, kinds := [], alts := [], laidByText := true, laidKinds := [.data, .data, .data, .data, .data, .data, .pinned], laidTests := true, laidLooks := .later }
def PresCanonicalCardSaid : Prop := Claim7.holds Tryz.pinned (.plain (OpenSpec.ofChange presCanonicalSpec)) presCanonicalCard

/-- THE TIED CARD OF 'cayleylaw03.PresBack'. -/
def presBackCard : Claim7 := { stood := { row := presBackRow, standIns := [], harness := (true, "7ddac0474c4027a4ddc1a957453943ce7fd9c97b450a8f85798a0ac2bd37eb21"), looks := true }, kinds := [], alts := [], laidByText := true, laidKinds := [.data, .data, .data, .data, .data, .data, .pinned], laidTests := true, laidLooks := .later }
def PresBackCardSaid : Prop := Claim7.holds Tryz.pinned (.plain (OpenSpec.ofChange presBackSpec)) presBackCard

/-- THE TIED CARD OF 'cayleylaw03.PresStays'. -/
def presStaysCard : Claim7 := { stood := { row := presStaysRow, standIns := [], harness := (true, "7ddac0474c4027a4ddc1a957453943ce7fd9c97b450a8f85798a0ac2bd37eb21"), looks := true }, kinds := [], alts := [], laidByText := true, laidKinds := [.data, .data, .data, .data, .data, .data, .pinned], laidTests := true, laidLooks := .later }
def PresStaysCardSaid : Prop := Claim7.holds Tryz.pinned (.plain (OpenSpec.ofChange presStaysSpec)) presStaysCard

/-- THE SECOND FORM's CARD OF 'cayleylaw03.PresReads'. -/
def presReadsUptoCard : Claim7 := { stood := { row := presReadsUptoRow, standIns := [], harness := (true, "7ddac0474c4027a4ddc1a957453943ce7fd9c97b450a8f85798a0ac2bd37eb21"), looks := true }, kinds := [], alts := [], laidByText := true, laidKinds := [.data, .data, .data, .data, .data, .data, .pinned], laidTests := true, laidLooks := .later }
def PresReadsUptoCardSaid : Prop := Claim7.holds Tryz.pinned (.plain (OpenSpec.upto presReadsSpec)) presReadsUptoCard

/-- THE SECOND FORM's CARD OF 'cayleylaw03.PresForms'. -/
def presFormsUptoCard : Claim7 := { stood := { row := presFormsUptoRow, standIns := [], harness := (true, "7ddac0474c4027a4ddc1a957453943ce7fd9c97b450a8f85798a0ac2bd37eb21"), looks := true }, kinds := [], alts := [], laidByText := true, laidKinds := [.data, .data, .data, .data, .data, .data, .pinned], laidTests := true, laidLooks := .later }
def PresFormsUptoCardSaid : Prop := Claim7.holds Tryz.pinned (.plain (OpenSpec.upto presFormsSpec)) presFormsUptoCard

/-- THE SECOND FORM's CARD OF 'cayleylaw03.PresMoves'. -/
def presMovesUptoCard : Claim7 := { stood := { row := presMovesUptoRow, standIns := [], harness := (true, "7ddac0474c4027a4ddc1a957453943ce7fd9c97b450a8f85798a0ac2bd37eb21"), looks := true }, kinds := [], alts := [], laidByText := true, laidKinds := [.data, .data, .data, .data, .data, .data, .pinned], laidTests := true, laidLooks := .later }
def PresMovesUptoCardSaid : Prop := Claim7.holds Tryz.pinned (.plain (OpenSpec.upto presMovesSpec)) presMovesUptoCard

/-- THE SECOND FORM's CARD OF 'cayleylaw03.PresCarries'. -/
def presCarriesUptoCard : Claim7 := { stood := { row := presCarriesUptoRow, standIns := [], harness := (true, "7ddac0474c4027a4ddc1a957453943ce7fd9c97b450a8f85798a0ac2bd37eb21"), looks := true }, kinds := [], alts := [], laidByText := true, laidKinds := [.data, .data, .data, .data, .data, .data, .pinned], laidTests := true, laidLooks := .later }
def PresCarriesUptoCardSaid : Prop := Claim7.holds Tryz.pinned (.plain (OpenSpec.upto presCarriesSpec)) presCarriesUptoCard

/-- THE SECOND FORM's CARD OF 'cayleylaw03.PresThere'. -/
def presThereUptoCard : Claim7 := { stood := { row := presThereUptoRow, standIns := [], harness := (true, "7ddac0474c4027a4ddc1a957453943ce7fd9c97b450a8f85798a0ac2bd37eb21"), looks := true }, kinds := [], alts := [], laidByText := true, laidKinds := [.data, .data, .data, .data, .data, .data, .pinned], laidTests := true, laidLooks := .later }
def PresThereUptoCardSaid : Prop := Claim7.holds Tryz.pinned (.plain (OpenSpec.upto presThereSpec)) presThereUptoCard

/-- THE SECOND FORM's CARD OF 'cayleylaw03.PresCanonical'. -/
def presCanonicalUptoCard : Claim7 := { stood := { row := presCanonicalUptoRow, standIns := [], harness := (true, "7ddac0474c4027a4ddc1a957453943ce7fd9c97b450a8f85798a0ac2bd37eb21"), looks := true }, kinds := [], alts := [], laidByText := true, laidKinds := [.data, .data, .data, .data, .data, .data, .pinned], laidTests := true, laidLooks := .later }
def PresCanonicalUptoCardSaid : Prop := Claim7.holds Tryz.pinned (.plain (OpenSpec.upto presCanonicalSpec)) presCanonicalUptoCard

/-- THE SECOND FORM's CARD OF 'cayleylaw03.PresBack'. -/
def presBackUptoCard : Claim7 := { stood := { row := presBackUptoRow, standIns := [], harness := (true, "7ddac0474c4027a4ddc1a957453943ce7fd9c97b450a8f85798a0ac2bd37eb21"), looks := true }, kinds := [], alts := [], laidByText := true, laidKinds := [.data, .data, .data, .data, .data, .data, .pinned], laidTests := true, laidLooks := .later }
def PresBackUptoCardSaid : Prop := Claim7.holds Tryz.pinned (.plain (OpenSpec.upto presBackSpec)) presBackUptoCard

/-- THE SECOND FORM's CARD OF 'cayleylaw03.PresStays'. -/
def presStaysUptoCard : Claim7 := { stood := { row := presStaysUptoRow, standIns := [], harness := (true, "7ddac0474c4027a4ddc1a957453943ce7fd9c97b450a8f85798a0ac2bd37eb21"), looks := true }, kinds := [], alts := [], laidByText := true, laidKinds := [.data, .data, .data, .data, .data, .data, .pinned], laidTests := true, laidLooks := .later }
def PresStaysUptoCardSaid : Prop := Claim7.holds Tryz.pinned (.plain (OpenSpec.upto presStaysSpec)) presStaysUptoCard
end Rows
end Go.Proofs.YteephomlnbbjeaaGreatDoor
