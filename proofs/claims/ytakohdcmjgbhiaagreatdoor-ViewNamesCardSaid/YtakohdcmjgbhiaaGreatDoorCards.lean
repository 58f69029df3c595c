/-
  DERIVED. GIVEN WITH THE SEED: THE CARDS: each row of YtakohdcmjgbhiaaGreatDoorRows.lean that lists a variable, with what it lists TIED to the program's text (the seventh form; the later family's looks); each row that meets fmt, with fmt's text TOLD by the authors' own Lean function (tested against real Go, not proved from fmt's source: count such statements apart). THE CARD IS WHAT COUNTS. Prove the row's statement (the work); the ties are given (YtakohdcmjgbhiaaGreatDoorTie.lean); close each card by the builder's one call (the guide's Derived/Test/ToyasCard.lean, 'card_holds'). Laid BY PROGRAM, IN A SANDBOX (cutbox-door.mjs). By AI agents, Wed Nov 11 2026. No macro, syntax, notation, axiom, sorry.
-/
import Derived.Test.YtakohdcmjgbhiaaGreatDoorRows
import GoSem.ClaimSeven
namespace Go.Proofs.YtakohdcmjgbhiaaGreatDoor
namespace Rows

/-- THE TIED CARD OF 'filigreelaw24.ViewNames'. -/
def viewNamesCard : Claim7 := { stood := { row := viewNamesRow, standIns := [], harness := (true, "f8378d537aeae229c2d3303927a5ba5159fb4d6ff844aeeed3e82aa8c18171eb"), looks := false }, kinds := [], alts := [], laidByText := true, laidKinds := [.data], laidTests := true, laidLooks := .later }
def ViewNamesCardSaid : Prop := Claim7.holds Tryz.pinned (.plain (OpenSpec.ofChange viewNamesSpec)) viewNamesCard

/-- THE TIED CARD OF 'filigreelaw27.RefineNames'. -/
def refineNamesCard : Claim7 := { stood := { row := refineNamesRow, standIns := [], harness := (true, "f8378d537aeae229c2d3303927a5ba5159fb4d6ff844aeeed3e82aa8c18171eb"), looks := false }, kinds := [], alts := [], laidByText := true, laidKinds := [.data], laidTests := true, laidLooks := .later }
def RefineNamesCardSaid : Prop := Claim7.holds Tryz.pinned (.plain (OpenSpec.ofChange refineNamesSpec)) refineNamesCard

/-- THE SECOND FORM's CARD OF 'filigreelaw24.ViewNames'. -/
def viewNamesUptoCard : Claim7 := { stood := { row := viewNamesUptoRow, standIns := [], harness := (true, "f8378d537aeae229c2d3303927a5ba5159fb4d6ff844aeeed3e82aa8c18171eb"), looks := false }, kinds := [], alts := [], laidByText := true, laidKinds := [.data], laidTests := true, laidLooks := .later }
def ViewNamesUptoCardSaid : Prop := Claim7.holds Tryz.pinned (.plain (OpenSpec.upto viewNamesSpec)) viewNamesUptoCard

/-- THE SECOND FORM's CARD OF 'filigreelaw27.RefineNames'. -/
def refineNamesUptoCard : Claim7 := { stood := { row := refineNamesUptoRow, standIns := [], harness := (true, "f8378d537aeae229c2d3303927a5ba5159fb4d6ff844aeeed3e82aa8c18171eb"), looks := false }, kinds := [], alts := [], laidByText := true, laidKinds := [.data], laidTests := true, laidLooks := .later }
def RefineNamesUptoCardSaid : Prop := Claim7.holds Tryz.pinned (.plain (OpenSpec.upto refineNamesSpec)) refineNamesUptoCard
end Rows
end Go.Proofs.YtakohdcmjgbhiaaGreatDoor
