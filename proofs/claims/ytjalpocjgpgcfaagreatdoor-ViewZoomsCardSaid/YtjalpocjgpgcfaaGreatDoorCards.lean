/-
  DERIVED. GIVEN WITH THE SEED: THE CARDS: each row of YtjalpocjgpgcfaaGreatDoorRows.lean that lists a variable, with what it lists TIED to the program's text (the seventh form; the later family's looks); each row that meets fmt, with fmt's text TOLD by the authors' own Lean function (tested against real Go, not proved from fmt's source: count such statements apart). THE CARD IS WHAT COUNTS. Prove the row's statement (the work); the ties are given (YtjalpocjgpgcfaaGreatDoorTie.lean); close each card by the builder's one call (the guide's Derived/Test/ToyasCard.lean, 'card_holds'). Laid BY PROGRAM, IN A SANDBOX (cutbox-door.mjs). By AI agents, Wed Nov 11 2026. No macro, syntax, notation, axiom, sorry.
-/
import Derived.Test.YtjalpocjgpgcfaaGreatDoorRows
import GoSem.ClaimSeven
namespace Go.Proofs.YtjalpocjgpgcfaaGreatDoor
namespace Rows

/-- THE TIED CARD OF 'filigreelaw24.ViewSquares'. -/
def viewSquaresCard : Claim7 := { stood := { row := viewSquaresRow, standIns := [], harness := (true, "b7ed315d3b53145a1c67cb6cc152798d06bdec8f492fd2188dd583d647220af0"), looks := false }, kinds := [], alts := [], laidByText := true, laidKinds := [.data], laidTests := true, laidLooks := .later }
def ViewSquaresCardSaid : Prop := Claim7.holds Tryz.pinned (.plain (OpenSpec.ofChange viewSquaresSpec)) viewSquaresCard

/-- THE TIED CARD OF 'filigreelaw24.ViewParts'. -/
def viewPartsCard : Claim7 := { stood := { row := viewPartsRow, standIns := [], harness := (true, "b7ed315d3b53145a1c67cb6cc152798d06bdec8f492fd2188dd583d647220af0"), looks := false }, kinds := [], alts := [], laidByText := true, laidKinds := [.data], laidTests := true, laidLooks := .later }
def ViewPartsCardSaid : Prop := Claim7.holds Tryz.pinned (.plain (OpenSpec.ofChange viewPartsSpec)) viewPartsCard

/-- THE TIED CARD OF 'filigreelaw24.ViewZooms'. -/
def viewZoomsCard : Claim7 := { stood := { row := viewZoomsRow, standIns := [], harness := (true, "b7ed315d3b53145a1c67cb6cc152798d06bdec8f492fd2188dd583d647220af0"), looks := false }, kinds := [], alts := [], laidByText := true, laidKinds := [.data], laidTests := true, laidLooks := .later }
def ViewZoomsCardSaid : Prop := Claim7.holds Tryz.pinned (.plain (OpenSpec.ofChange viewZoomsSpec)) viewZoomsCard

/-- THE SECOND FORM's CARD OF 'filigreelaw24.ViewSquares'. -/
def viewSquaresUptoCard : Claim7 := { stood := { row := viewSquaresUptoRow, standIns := [], harness := (true, "b7ed315d3b53145a1c67cb6cc152798d06bdec8f492fd2188dd583d647220af0"), looks := false }, kinds := [], alts := [], laidByText := true, laidKinds := [.data], laidTests := true, laidLooks := .later }
def ViewSquaresUptoCardSaid : Prop := Claim7.holds Tryz.pinned (.plain (OpenSpec.upto viewSquaresSpec)) viewSquaresUptoCard

/-- THE SECOND FORM's CARD OF 'filigreelaw24.ViewParts'. -/
def viewPartsUptoCard : Claim7 := { stood := { row := viewPartsUptoRow, standIns := [], harness := (true, "b7ed315d3b53145a1c67cb6cc152798d06bdec8f492fd2188dd583d647220af0"), looks := false }, kinds := [], alts := [], laidByText := true, laidKinds := [.data], laidTests := true, laidLooks := .later }
def ViewPartsUptoCardSaid : Prop := Claim7.holds Tryz.pinned (.plain (OpenSpec.upto viewPartsSpec)) viewPartsUptoCard

/-- THE SECOND FORM's CARD OF 'filigreelaw24.ViewZooms'. -/
def viewZoomsUptoCard : Claim7 := { stood := { row := viewZoomsUptoRow, standIns := [], harness := (true, "b7ed315d3b53145a1c67cb6cc152798d06bdec8f492fd2188dd583d647220af0"), looks := false }, kinds := [], alts := [], laidByText := true, laidKinds := [.data], laidTests := true, laidLooks := .later }
def ViewZoomsUptoCardSaid : Prop := Claim7.holds Tryz.pinned (.plain (OpenSpec.upto viewZoomsSpec)) viewZoomsUptoCard
end Rows
end Go.Proofs.YtjalpocjgpgcfaaGreatDoor
