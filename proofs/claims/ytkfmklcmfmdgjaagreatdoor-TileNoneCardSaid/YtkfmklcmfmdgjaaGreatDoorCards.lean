/-
  DERIVED. GIVEN WITH THE SEED: THE CARDS: each row of YtkfmklcmfmdgjaaGreatDoorRows.lean that lists a variable, with what it lists TIED to the program's text (the seventh form; the later family's looks); each row that meets fmt, with fmt's text TOLD by the authors' own Lean function (tested against real Go, not proved from fmt's source: count such statements apart). THE CARD IS WHAT COUNTS. Prove the row's statement (the work); the ties are given (YtkfmklcmfmdgjaaGreatDoorTie.lean); close each card by the builder's one call (the guide's Derived/Test/ToyasCard.lean, 'card_holds'). Laid BY PROGRAM, IN A SANDBOX (cutbox-door.mjs). By AI agents, Wed Nov 11 2026. No macro, syntax, notation, axiom, sorry.
-/
import Derived.Test.YtkfmklcmfmdgjaaGreatDoorRows
import GoSem.ClaimSeven
namespace Go.Proofs.YtkfmklcmfmdgjaaGreatDoor
namespace Rows

/-- THE TIED CARD OF 'filigreelaw25.TileNone'. -/
def tileNoneCard : Claim7 := { stood := { row := tileNoneRow, standIns := [], harness := (true, "8b0c278bc0be82ba44851484b97919e0303ea63483959be7bc45c7a92340abd5"), looks := false }, kinds := [], alts := [], laidByText := true, laidKinds := [.data], laidTests := true, laidLooks := .later }
def TileNoneCardSaid : Prop := Claim7.holds Tryz.pinned (.plain (OpenSpec.ofChange tileNoneSpec)) tileNoneCard

/-- THE SECOND FORM's CARD OF 'filigreelaw25.TileNone'. -/
def tileNoneUptoCard : Claim7 := { stood := { row := tileNoneUptoRow, standIns := [], harness := (true, "8b0c278bc0be82ba44851484b97919e0303ea63483959be7bc45c7a92340abd5"), looks := false }, kinds := [], alts := [], laidByText := true, laidKinds := [.data], laidTests := true, laidLooks := .later }
def TileNoneUptoCardSaid : Prop := Claim7.holds Tryz.pinned (.plain (OpenSpec.upto tileNoneSpec)) tileNoneUptoCard
end Rows
end Go.Proofs.YtkfmklcmfmdgjaaGreatDoor
