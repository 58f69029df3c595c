/-
  DERIVED. GIVEN WITH THE SEED: THE CARDS: each row of YtdknipaimfecaaaGreatDoorRows.lean that lists a variable, with what it lists TIED to the program's text (the seventh form; the later family's looks); each row that meets fmt, with fmt's text TOLD by the authors' own Lean function (tested against real Go, not proved from fmt's source: count such statements apart). THE CARD IS WHAT COUNTS. Prove the row's statement (the work); the ties are given (YtdknipaimfecaaaGreatDoorTie.lean); close each card by the builder's one call (the guide's Derived/Test/ToyasCard.lean, 'card_holds'). Laid BY PROGRAM, IN A SANDBOX (cutbox-door.mjs). By AI agents, Wed Nov 11 2026. No macro, syntax, notation, axiom, sorry.
-/
import Derived.Test.YtdknipaimfecaaaGreatDoorRows
import GoSem.ClaimSeven
namespace Go.Proofs.YtdknipaimfecaaaGreatDoor
namespace Rows

/-- THE TIED CARD OF 'filigreelaw06.GaussPowers'. -/
def gaussPowersCard : Claim7 := { stood := { row := gaussPowersRow, standIns := [], harness := (true, "0d3cc04d9a7f7afb4883534d4f800e18c127a95c31ceba402965aad118e2e270"), looks := false }, kinds := [], alts := [], laidByText := true, laidKinds := [.data], laidTests := true, laidLooks := .later }
def GaussPowersCardSaid : Prop := Claim7.holds Tryz.pinned (.plain (OpenSpec.ofChange gaussPowersSpec)) gaussPowersCard

/-- THE SECOND FORM's CARD OF 'filigreelaw06.GaussPowers'. -/
def gaussPowersUptoCard : Claim7 := { stood := { row := gaussPowersUptoRow, standIns := [], harness := (true, "0d3cc04d9a7f7afb4883534d4f800e18c127a95c31ceba402965aad118e2e270"), looks := false }, kinds := [], alts := [], laidByText := true, laidKinds := [.data], laidTests := true, laidLooks := .later }
def GaussPowersUptoCardSaid : Prop := Claim7.holds Tryz.pinned (.plain (OpenSpec.upto gaussPowersSpec)) gaussPowersUptoCard
end Rows
end Go.Proofs.YtdknipaimfecaaaGreatDoor
