/-
  DERIVED. GIVEN WITH THE SEED: THE CARDS: each row of YtmjjodficjjehabGreatDoorRows.lean that lists a variable, with what it lists TIED to the program's text (the seventh form; the later family's looks); each row that meets fmt, with fmt's text TOLD by the authors' own Lean function (tested against real Go, not proved from fmt's source: count such statements apart). THE CARD IS WHAT COUNTS. Prove the row's statement (the work); the ties are given (YtmjjodficjjehabGreatDoorTie.lean); close each card by the builder's one call (the guide's Derived/Test/ToyasCard.lean, 'card_holds'). Laid BY PROGRAM, IN A SANDBOX (cutbox-door.mjs). By AI agents, Wed Nov 11 2026. No macro, syntax, notation, axiom, sorry.
-/
import Derived.Test.YtmjjodficjjehabGreatDoorRows
import GoSem.ClaimSeven
namespace Go.Proofs.YtmjjodficjjehabGreatDoor
namespace Rows

/-- THE TIED CARD OF 'filigreelaw24.ViewAround'. -/
def viewAroundCard : Claim7 := { stood := { row := viewAroundRow, standIns := [], harness := (true, "f5a48d7884e19382ab475e5fd66e9268b87830ba04f1a9c7f23a2b01fd503051"), looks := false }, kinds := [], alts := [], laidByText := true, laidKinds := [.data], laidTests := true, laidLooks := .later }
def ViewAroundCardSaid : Prop := Claim7.holds Tryz.pinned (.plain (OpenSpec.ofChange viewAroundSpec)) viewAroundCard

/-- THE SECOND FORM's CARD OF 'filigreelaw24.ViewAround'. -/
def viewAroundUptoCard : Claim7 := { stood := { row := viewAroundUptoRow, standIns := [], harness := (true, "f5a48d7884e19382ab475e5fd66e9268b87830ba04f1a9c7f23a2b01fd503051"), looks := false }, kinds := [], alts := [], laidByText := true, laidKinds := [.data], laidTests := true, laidLooks := .later }
def ViewAroundUptoCardSaid : Prop := Claim7.holds Tryz.pinned (.plain (OpenSpec.upto viewAroundSpec)) viewAroundUptoCard
end Rows
end Go.Proofs.YtmjjodficjjehabGreatDoor
