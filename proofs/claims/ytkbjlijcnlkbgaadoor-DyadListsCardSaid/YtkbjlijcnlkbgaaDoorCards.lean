/-
  DERIVED. GIVEN WITH THE SEED: THE CARDS: each row of YtkbjlijcnlkbgaaDoorRows.lean that lists a variable, with what it lists TIED to the program's text (the seventh form; the later family's looks); each row that meets fmt, with fmt's text TOLD by the authors' own Lean function (tested against real Go, not proved from fmt's source: count such statements apart). THE CARD IS WHAT COUNTS. Prove the row's statement (the work); the ties are given (YtkbjlijcnlkbgaaDoorTie.lean); close each card by the builder's one call (the guide's Derived/Test/ToyasCard.lean, 'card_holds'). Laid BY PROGRAM, IN A SANDBOX (cutbox-door.mjs). By AI agents, Wed Nov 11 2026. No macro, syntax, notation, axiom, sorry.
-/
import Derived.Test.YtkbjlijcnlkbgaaDoorRows
import GoSem.ClaimSeven
namespace Go.Proofs.YtkbjlijcnlkbgaaDoor
namespace Rows

/-- THE TIED CARD OF 'filigreelaw03.DyadLists'. -/
def dyadListsCard : Claim7 := { stood := { row := dyadListsRow, standIns := [], harness := (true, "8883515531cce41da7cff9bfa75c39a538b921d71c30dc969fb06aea9c1c57d9"), looks := false }, kinds := [], alts := [], laidByText := true, laidKinds := [.data], laidTests := true, laidLooks := .later }
def DyadListsCardSaid : Prop := Claim7.holds Tryd.pinned (.plain (OpenSpec.ofChange dyadListsSpec)) dyadListsCard

/-- THE SECOND FORM's CARD OF 'filigreelaw03.DyadLists'. -/
def dyadListsUptoCard : Claim7 := { stood := { row := dyadListsUptoRow, standIns := [], harness := (true, "8883515531cce41da7cff9bfa75c39a538b921d71c30dc969fb06aea9c1c57d9"), looks := false }, kinds := [], alts := [], laidByText := true, laidKinds := [.data], laidTests := true, laidLooks := .later }
def DyadListsUptoCardSaid : Prop := Claim7.holds Tryd.pinned (.plain (OpenSpec.upto dyadListsSpec)) dyadListsUptoCard
end Rows
end Go.Proofs.YtkbjlijcnlkbgaaDoor
