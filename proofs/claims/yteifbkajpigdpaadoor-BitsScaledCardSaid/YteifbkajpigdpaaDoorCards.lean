/-
  DERIVED. GIVEN WITH THE SEED: THE CARDS: each row of YteifbkajpigdpaaDoorRows.lean that lists a variable, with what it lists TIED to the program's text (the seventh form; the later family's looks); each row that meets fmt, with fmt's text TOLD by the authors' own Lean function (tested against real Go, not proved from fmt's source: count such statements apart). THE CARD IS WHAT COUNTS. Prove the row's statement (the work); the ties are given (YteifbkajpigdpaaDoorTie.lean); close each card by the builder's one call (the guide's Derived/Test/ToyasCard.lean, 'card_holds'). Laid BY PROGRAM, IN A SANDBOX (cutbox-door.mjs). By AI agents, Wed Nov 11 2026. No macro, syntax, notation, axiom, sorry.
-/
import Derived.Test.YteifbkajpigdpaaDoorRows
import GoSem.ClaimSeven
namespace Go.Proofs.YteifbkajpigdpaaDoor
namespace Rows

/-- THE TIED CARD OF 'filigreelaw01.BitsScaled'. -/
def bitsScaledCard : Claim7 := { stood := { row := bitsScaledRow, standIns := [], harness := (true, "25cf01049e85db494ebb9fc41bc8b8a01ab4759f0b9657c992801089f6da25b3"), looks := true }, kinds := [], alts := [], laidByText := true, laidKinds := [.data, .data, .data, .sentinel, .sentinel], laidTests := true, laidLooks := .later }
def BitsScaledCardSaid : Prop := Claim7.holds Tryd.pinned (.plain (OpenSpec.ofChange bitsScaledSpec)) bitsScaledCard

/-- THE SECOND FORM's CARD OF 'filigreelaw01.BitsScaled'. -/
def bitsScaledUptoCard : Claim7 := { stood := { row := bitsScaledUptoRow, standIns := [], harness := (true, "25cf01049e85db494ebb9fc41bc8b8a01ab4759f0b9657c992801089f6da25b3"), looks := true }, kinds := [], alts := [], laidByText := true, laidKinds := [.data, .data, .data, .sentinel, .sentinel], laidTests := true, laidLooks := .later }
def BitsScaledUptoCardSaid : Prop := Claim7.holds Tryd.pinned (.plain (OpenSpec.upto bitsScaledSpec)) bitsScaledUptoCard
end Rows
end Go.Proofs.YteifbkajpigdpaaDoor
