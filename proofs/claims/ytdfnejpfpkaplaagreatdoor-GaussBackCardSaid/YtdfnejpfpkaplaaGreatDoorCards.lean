/-
  DERIVED. GIVEN WITH THE SEED: THE CARDS: each row of YtdfnejpfpkaplaaGreatDoorRows.lean that lists a variable, with what it lists TIED to the program's text (the seventh form; the later family's looks); each row that meets fmt, with fmt's text TOLD by the authors' own Lean function (tested against real Go, not proved from fmt's source: count such statements apart). THE CARD IS WHAT COUNTS. Prove the row's statement (the work); the ties are given (YtdfnejpfpkaplaaGreatDoorTie.lean); close each card by the builder's one call (the guide's Derived/Test/ToyasCard.lean, 'card_holds'). Laid BY PROGRAM, IN A SANDBOX (cutbox-door.mjs). By AI agents, Wed Nov 11 2026. No macro, syntax, notation, axiom, sorry.
-/
import Derived.Test.YtdfnejpfpkaplaaGreatDoorRows
import GoSem.ClaimSeven
namespace Go.Proofs.YtdfnejpfpkaplaaGreatDoor
namespace Rows

/-- THE TIED CARD OF 'filigreelaw03.DyadTexts'. -/
def dyadTextsCard : Claim7 := { stood := { row := dyadTextsRow, standIns := [], harness := (true, "02f8a0f91678dd88988108f4cd2c8805707e6dfe97f30a00b50f478e73964e22"), looks := true }, kinds := [], alts := [], laidByText := true, laidKinds := [.data, .data, .data, .sentinel, .sentinel], laidTests := true, laidLooks := .later }
def DyadTextsCardSaid : Prop := Claim7.holds Tryz.pinned (.plain (OpenSpec.ofChange dyadTextsSpec)) dyadTextsCard

/-- THE TIED CARD OF 'filigreelaw03.DyadBack'. -/
def dyadBackCard : Claim7 := { stood := { row := dyadBackRow, standIns := [], harness := (true, "02f8a0f91678dd88988108f4cd2c8805707e6dfe97f30a00b50f478e73964e22"), looks := true }, kinds := [], alts := [], laidByText := true, laidKinds := [.data, .data, .data, .sentinel, .sentinel], laidTests := true, laidLooks := .later }
def DyadBackCardSaid : Prop := Claim7.holds Tryz.pinned (.plain (OpenSpec.ofChange dyadBackSpec)) dyadBackCard

/-- THE TIED CARD OF 'filigreelaw06.GaussTexts'. -/
def gaussTextsCard : Claim7 := { stood := { row := gaussTextsRow, standIns := [], harness := (true, "02f8a0f91678dd88988108f4cd2c8805707e6dfe97f30a00b50f478e73964e22"), looks := true }, kinds := [], alts := [], laidByText := true, laidKinds := [.data, .data, .data, .sentinel, .sentinel], laidTests := true, laidLooks := .later }
def GaussTextsCardSaid : Prop := Claim7.holds Tryz.pinned (.plain (OpenSpec.ofChange gaussTextsSpec)) gaussTextsCard

/-- THE TIED CARD OF 'filigreelaw06.GaussBack'. -/
def gaussBackCard : Claim7 := { stood := { row := gaussBackRow, standIns := [], harness := (true, "02f8a0f91678dd88988108f4cd2c8805707e6dfe97f30a00b50f478e73964e22"), looks := true }, kinds := [], alts := [], laidByText := true, laidKinds := [.data, .data, .data, .sentinel, .sentinel], laidTests := true, laidLooks := .later }
def GaussBackCardSaid : Prop := Claim7.holds Tryz.pinned (.plain (OpenSpec.ofChange gaussBackSpec)) gaussBackCard

/-- THE SECOND FORM's CARD OF 'filigreelaw03.DyadTexts'. -/
def dyadTextsUptoCard : Claim7 := { stood := { row := dyadTextsUptoRow, standIns := [], harness := (true, "02f8a0f91678dd88988108f4cd2c8805707e6dfe97f30a00b50f478e73964e22"), looks := true }, kinds := [], alts := [], laidByText := true, laidKinds := [.data, .data, .data, .sentinel, .sentinel], laidTests := true, laidLooks := .later }
def DyadTextsUptoCardSaid : Prop := Claim7.holds Tryz.pinned (.plain (OpenSpec.upto dyadTextsSpec)) dyadTextsUptoCard

/-- THE SECOND FORM's CARD OF 'filigreelaw03.DyadBack'. -/
def dyadBackUptoCard : Claim7 := { stood := { row := dyadBackUptoRow, standIns := [], harness := (true, "02f8a0f91678dd88988108f4cd2c8805707e6dfe97f30a00b50f478e73964e22"), looks := true }, kinds := [], alts := [], laidByText := true, laidKinds := [.data, .data, .data, .sentinel, .sentinel], laidTests := true, laidLooks := .later }
def DyadBackUptoCardSaid : Prop := Claim7.holds Tryz.pinned (.plain (OpenSpec.upto dyadBackSpec)) dyadBackUptoCard

/-- THE SECOND FORM's CARD OF 'filigreelaw06.GaussTexts'. -/
def gaussTextsUptoCard : Claim7 := { stood := { row := gaussTextsUptoRow, standIns := [], harness := (true, "02f8a0f91678dd88988108f4cd2c8805707e6dfe97f30a00b50f478e73964e22"), looks := true }, kinds := [], alts := [], laidByText := true, laidKinds := [.data, .data, .data, .sentinel, .sentinel], laidTests := true, laidLooks := .later }
def GaussTextsUptoCardSaid : Prop := Claim7.holds Tryz.pinned (.plain (OpenSpec.upto gaussTextsSpec)) gaussTextsUptoCard

/-- THE SECOND FORM's CARD OF 'filigreelaw06.GaussBack'. -/
def gaussBackUptoCard : Claim7 := { stood := { row := gaussBackUptoRow, standIns := [], harness := (true, "02f8a0f91678dd88988108f4cd2c8805707e6dfe97f30a00b50f478e73964e22"), looks := true }, kinds := [], alts := [], laidByText := true, laidKinds := [.data, .data, .data, .sentinel, .sentinel], laidTests := true, laidLooks := .later }
def GaussBackUptoCardSaid : Prop := Claim7.holds Tryz.pinned (.plain (OpenSpec.upto gaussBackSpec)) gaussBackUptoCard
end Rows
end Go.Proofs.YtdfnejpfpkaplaaGreatDoor
