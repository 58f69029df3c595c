/-
  DERIVED. GIVEN WITH THE SEED: THE CARDS: each row of YtamcnnocjelcjaaGreatDoorRows.lean that lists a variable, with what it lists TIED to the program's text (the seventh form; the later family's looks); each row that meets fmt, with fmt's text TOLD by the authors' own Lean function (tested against real Go, not proved from fmt's source: count such statements apart). THE CARD IS WHAT COUNTS. Prove the row's statement (the work); the ties are given (YtamcnnocjelcjaaGreatDoorTie.lean); close each card by the builder's one call (the guide's Derived/Test/ToyasCard.lean, 'card_holds'). Laid BY PROGRAM, IN A SANDBOX (cutbox-door.mjs). By AI agents, Wed Nov 11 2026. No macro, syntax, notation, axiom, sorry.
-/
import Derived.Test.YtamcnnocjelcjaaGreatDoorRows
import GoSem.ClaimSeven
namespace Go.Proofs.YtamcnnocjelcjaaGreatDoor
namespace Rows

/-- THE TIED CARD OF 'filigreelaw24.ViewCells'. -/
def viewCellsCard : Claim7 := { stood := { row := viewCellsRow, standIns := [], harness := (true, "0c03ec197df2f6e12370455d1383d0bc16412a126ce99ba9ad5c58ec2bfc5a3b"), looks := false }, kinds := [], alts := [], laidByText := true, laidKinds := [.data], laidTests := true, laidLooks := .later }
def ViewCellsCardSaid : Prop := Claim7.holds Tryz.pinned (.plain (OpenSpec.ofChange viewCellsSpec)) viewCellsCard

/-- THE TIED CARD OF 'filigreelaw24.ViewEdges'. -/
def viewEdgesCard : Claim7 := { stood := { row := viewEdgesRow, standIns := [], harness := (true, "0c03ec197df2f6e12370455d1383d0bc16412a126ce99ba9ad5c58ec2bfc5a3b"), looks := false }, kinds := [], alts := [], laidByText := true, laidKinds := [.data], laidTests := true, laidLooks := .later }
def ViewEdgesCardSaid : Prop := Claim7.holds Tryz.pinned (.plain (OpenSpec.ofChange viewEdgesSpec)) viewEdgesCard

/-- THE SECOND FORM's CARD OF 'filigreelaw24.ViewCells'. -/
def viewCellsUptoCard : Claim7 := { stood := { row := viewCellsUptoRow, standIns := [], harness := (true, "0c03ec197df2f6e12370455d1383d0bc16412a126ce99ba9ad5c58ec2bfc5a3b"), looks := false }, kinds := [], alts := [], laidByText := true, laidKinds := [.data], laidTests := true, laidLooks := .later }
def ViewCellsUptoCardSaid : Prop := Claim7.holds Tryz.pinned (.plain (OpenSpec.upto viewCellsSpec)) viewCellsUptoCard

/-- THE SECOND FORM's CARD OF 'filigreelaw24.ViewEdges'. -/
def viewEdgesUptoCard : Claim7 := { stood := { row := viewEdgesUptoRow, standIns := [], harness := (true, "0c03ec197df2f6e12370455d1383d0bc16412a126ce99ba9ad5c58ec2bfc5a3b"), looks := false }, kinds := [], alts := [], laidByText := true, laidKinds := [.data], laidTests := true, laidLooks := .later }
def ViewEdgesUptoCardSaid : Prop := Claim7.holds Tryz.pinned (.plain (OpenSpec.upto viewEdgesSpec)) viewEdgesUptoCard
end Rows
end Go.Proofs.YtamcnnocjelcjaaGreatDoor
