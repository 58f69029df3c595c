/-
  DERIVED. GIVEN WITH THE SEED: THE CARDS: each row of YtmjjodficjjehaaGreatDoorRows.lean that lists a variable, with what it lists TIED to the program's text (the seventh form; the later family's looks); each row that meets fmt, with fmt's text TOLD by the authors' own Lean function (tested against real Go, not proved from fmt's source: count such statements apart). THE CARD IS WHAT COUNTS. Prove the row's statement (the work); the ties are given (YtmjjodficjjehaaGreatDoorTie.lean); close each card by the builder's one call (the guide's Derived/Test/ToyasCard.lean, 'card_holds'). Laid BY PROGRAM, IN A SANDBOX (cutbox-door.mjs). By AI agents, Wed Nov 11 2026. No macro, syntax, notation, axiom, sorry.
-/
import Derived.Test.YtmjjodficjjehaaGreatDoorRows
import GoSem.ClaimSeven
namespace Go.Proofs.YtmjjodficjjehaaGreatDoor
namespace Rows

/-- THE TIED CARD OF 'filigreelaw24.ViewCovers'. -/
def viewCoversCard : Claim7 := { stood := { row := viewCoversRow, standIns := [], harness := (true, "a8691e34b910448e98a79063de30a0768cefd358526024650fcfbe3cb79cd407"), looks := false }, kinds := [], alts := [], laidByText := true, laidKinds := [.data], laidTests := true, laidLooks := .later }
def ViewCoversCardSaid : Prop := Claim7.holds Tryz.pinned (.plain (OpenSpec.ofChange viewCoversSpec)) viewCoversCard

/-- THE SECOND FORM's CARD OF 'filigreelaw24.ViewCovers'. -/
def viewCoversUptoCard : Claim7 := { stood := { row := viewCoversUptoRow, standIns := [], harness := (true, "a8691e34b910448e98a79063de30a0768cefd358526024650fcfbe3cb79cd407"), looks := false }, kinds := [], alts := [], laidByText := true, laidKinds := [.data], laidTests := true, laidLooks := .later }
def ViewCoversUptoCardSaid : Prop := Claim7.holds Tryz.pinned (.plain (OpenSpec.upto viewCoversSpec)) viewCoversUptoCard
end Rows
end Go.Proofs.YtmjjodficjjehaaGreatDoor
