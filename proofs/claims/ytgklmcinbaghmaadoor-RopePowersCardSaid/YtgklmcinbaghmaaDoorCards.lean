/-
  DERIVED. GIVEN WITH THE SEED: THE CARDS: each row of YtgklmcinbaghmaaDoorRows.lean that lists a variable, with what it lists TIED to the program's text (the seventh form; the later family's looks); each row that meets fmt, with fmt's text TOLD by the authors' own Lean function (tested against real Go, not proved from fmt's source: count such statements apart). THE CARD IS WHAT COUNTS. Prove the row's statement (the work); the ties are given (YtgklmcinbaghmaaDoorTie.lean); close each card by the builder's one call (the guide's Derived/Test/ToyasCard.lean, 'card_holds'). Laid BY PROGRAM, IN A SANDBOX (cutbox-door.mjs). By AI agents, Wed Nov 11 2026. No macro, syntax, notation, axiom, sorry.
-/
import Derived.Test.YtgklmcinbaghmaaDoorRows
import GoSem.ClaimSeven
namespace Go.Proofs.YtgklmcinbaghmaaDoor
namespace Rows

/-- THE TIED CARD OF 'cayleylaw02.RopePowers'. -/
def ropePowersCard : Claim7 := { stood := { row := ropePowersRow, standIns := [], harness := (true, "6cb118983512aee2236e482821c42f1256b01b36ebe370da47a587527ec15f84"), looks := false }, kinds := [], alts := [], laidByText := true, laidKinds := [.data], laidTests := true, laidLooks := .later }
def RopePowersCardSaid : Prop := Claim7.holds Tryd.pinned (.plain (OpenSpec.ofChange ropePowersSpec)) ropePowersCard

/-- THE TIED CARD OF 'cayleylaw02.RopeDiffers'. -/
def ropeDiffersCard : Claim7 := { stood := { row := ropeDiffersRow, standIns := [], harness := (true, "6cb118983512aee2236e482821c42f1256b01b36ebe370da47a587527ec15f84"), looks := false }, kinds := [], alts := [], laidByText := true, laidKinds := [.data], laidTests := true, laidLooks := .later }
def RopeDiffersCardSaid : Prop := Claim7.holds Tryd.pinned (.plain (OpenSpec.ofChange ropeDiffersSpec)) ropeDiffersCard

/-- THE SECOND FORM's CARD OF 'cayleylaw02.RopePowers'. -/
def ropePowersUptoCard : Claim7 := { stood := { row := ropePowersUptoRow, standIns := [], harness := (true, "6cb118983512aee2236e482821c42f1256b01b36ebe370da47a587527ec15f84"), looks := false }, kinds := [], alts := [], laidByText := true, laidKinds := [.data], laidTests := true, laidLooks := .later }
def RopePowersUptoCardSaid : Prop := Claim7.holds Tryd.pinned (.plain (OpenSpec.upto ropePowersSpec)) ropePowersUptoCard

/-- THE SECOND FORM's CARD OF 'cayleylaw02.RopeDiffers'. -/
def ropeDiffersUptoCard : Claim7 := { stood := { row := ropeDiffersUptoRow, standIns := [], harness := (true, "6cb118983512aee2236e482821c42f1256b01b36ebe370da47a587527ec15f84"), looks := false }, kinds := [], alts := [], laidByText := true, laidKinds := [.data], laidTests := true, laidLooks := .later }
def RopeDiffersUptoCardSaid : Prop := Claim7.holds Tryd.pinned (.plain (OpenSpec.upto ropeDiffersSpec)) ropeDiffersUptoCard
end Rows
end Go.Proofs.YtgklmcinbaghmaaDoor
