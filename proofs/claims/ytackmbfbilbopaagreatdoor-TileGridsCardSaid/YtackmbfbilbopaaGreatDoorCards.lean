/-
  DERIVED. GIVEN WITH THE SEED: THE CARDS: each row of YtackmbfbilbopaaGreatDoorRows.lean that lists a variable, with what it lists TIED to the program's text (the seventh form; the later family's looks); each row that meets fmt, with fmt's text TOLD by the authors' own Lean function (tested against real Go, not proved from fmt's source: count such statements apart). THE CARD IS WHAT COUNTS. Prove the row's statement (the work); the ties are given (YtackmbfbilbopaaGreatDoorTie.lean); close each card by the builder's one call (the guide's Derived/Test/ToyasCard.lean, 'card_holds'). Laid BY PROGRAM, IN A SANDBOX (cutbox-door.mjs). By AI agents, Wed Nov 11 2026. No macro, syntax, notation, axiom, sorry.
-/
import Derived.Test.YtackmbfbilbopaaGreatDoorRows
import GoSem.ClaimSeven
namespace Go.Proofs.YtackmbfbilbopaaGreatDoor
namespace Rows

/-- THE TIED CARD OF 'filigreelaw25.TileGrids'. -/
def tileGridsCard : Claim7 := { stood := { row := tileGridsRow, standIns := [], harness := (true, "9a4b545e7e78a310a22108644fd97576bf392834716a9f33c39c1219211aa86b"), looks := false }, kinds := [], alts := [], laidByText := true, laidKinds := [.data], laidTests := true, laidLooks := .later }
def TileGridsCardSaid : Prop := Claim7.holds Tryz.pinned (.plain (OpenSpec.ofChange tileGridsSpec)) tileGridsCard

/-- THE SECOND FORM's CARD OF 'filigreelaw25.TileGrids'. -/
def tileGridsUptoCard : Claim7 := { stood := { row := tileGridsUptoRow, standIns := [], harness := (true, "9a4b545e7e78a310a22108644fd97576bf392834716a9f33c39c1219211aa86b"), looks := false }, kinds := [], alts := [], laidByText := true, laidKinds := [.data], laidTests := true, laidLooks := .later }
def TileGridsUptoCardSaid : Prop := Claim7.holds Tryz.pinned (.plain (OpenSpec.upto tileGridsSpec)) tileGridsUptoCard
end Rows
end Go.Proofs.YtackmbfbilbopaaGreatDoor
