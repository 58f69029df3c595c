/-
  DERIVED. GIVEN WITH THE SEED: THE CARDS: each row of YtkahbcohhhcciaaGreatDoorRows.lean that lists a variable, with what it lists TIED to the program's text (the seventh form; the later family's looks); each row that meets fmt, with fmt's text TOLD by the authors' own Lean function (tested against real Go, not proved from fmt's source: count such statements apart). THE CARD IS WHAT COUNTS. Prove the row's statement (the work); the ties are given (YtkahbcohhhcciaaGreatDoorTie.lean); close each card by the builder's one call (the guide's Derived/Test/ToyasCard.lean, 'card_holds'). Laid BY PROGRAM, IN A SANDBOX (cutbox-door.mjs). By AI agents, Wed Nov 11 2026. No macro, syntax, notation, axiom, sorry.
-/
import Derived.Test.YtkahbcohhhcciaaGreatDoorRows
import GoSem.ClaimSeven
namespace Go.Proofs.YtkahbcohhhcciaaGreatDoor
namespace Rows

/-- THE TIED CARD OF 'filigreelaw19.StatusAgrees'. -/
def statusAgreesCard : Claim7 := { stood := { row := statusAgreesRow, standIns := [], harness := (true, "5d658d9cdcf73558b627769ccf2a9765f5380e6f02cb77be35accbdc2b318cda"), looks := false }, kinds := [], alts := [], laidByText := true, laidKinds := [.data], laidTests := true, laidLooks := .later }
def StatusAgreesCardSaid : Prop := Claim7.holds Tryz.pinned (.plain (OpenSpec.ofChange statusAgreesSpec)) statusAgreesCard

/-- THE SECOND FORM's CARD OF 'filigreelaw19.StatusAgrees'. -/
def statusAgreesUptoCard : Claim7 := { stood := { row := statusAgreesUptoRow, standIns := [], harness := (true, "5d658d9cdcf73558b627769ccf2a9765f5380e6f02cb77be35accbdc2b318cda"), looks := false }, kinds := [], alts := [], laidByText := true, laidKinds := [.data], laidTests := true, laidLooks := .later }
def StatusAgreesUptoCardSaid : Prop := Claim7.holds Tryz.pinned (.plain (OpenSpec.upto statusAgreesSpec)) statusAgreesUptoCard
end Rows
end Go.Proofs.YtkahbcohhhcciaaGreatDoor
