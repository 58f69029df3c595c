/-
  DERIVED. GIVEN WITH THE SEED: THE CARDS: each row of YtpfgefeehagjcaaDoorRows.lean that lists a variable, with what it lists TIED to the program's text (the seventh form; the later family's looks); each row that meets fmt, with fmt's text TOLD by the authors' own Lean function (tested against real Go, not proved from fmt's source: count such statements apart). THE CARD IS WHAT COUNTS. Prove the row's statement (the work); the ties are given (YtpfgefeehagjcaaDoorTie.lean); close each card by the builder's one call (the guide's Derived/Test/ToyasCard.lean, 'card_holds'). Laid BY PROGRAM, IN A SANDBOX (cutbox-door.mjs). By AI agents, Wed Nov 11 2026. No macro, syntax, notation, axiom, sorry.
-/
import Derived.Test.YtpfgefeehagjcaaDoorRows
import GoSem.ClaimSeven
namespace Go.Proofs.YtpfgefeehagjcaaDoor
namespace Rows

/-- THE TIED CARD OF 'filigreelaw01.BitsParts'. -/
def bitsPartsCard : Claim7 := { stood := { row := bitsPartsRow, standIns := [], harness := (true, "51b5b5187ecaeabedee0b9b4588b5e87ce6aac35941e9624b4d0b7536f773b9b"), looks := true }, kinds := [], alts := [], laidByText := true, laidKinds := [.data, .data, .data, .sentinel, .sentinel], laidTests := true, laidLooks := .later }
def BitsPartsCardSaid : Prop := Claim7.holds Tryd.pinned (.plain (OpenSpec.ofChange bitsPartsSpec)) bitsPartsCard

/-- THE TIED CARD OF 'filigreelaw01.BitsMakes'. -/
def bitsMakesCard : Claim7 := { stood := { row := bitsMakesRow, standIns := [], harness := (true, "51b5b5187ecaeabedee0b9b4588b5e87ce6aac35941e9624b4d0b7536f773b9b"), looks := true }, kinds := [], alts := [], laidByText := true, laidKinds := [.data, .data, .data, .sentinel, .sentinel], laidTests := true, laidLooks := .later }
def BitsMakesCardSaid : Prop := Claim7.holds Tryd.pinned (.plain (OpenSpec.ofChange bitsMakesSpec)) bitsMakesCard

/-- THE TIED CARD OF 'filigreelaw01.BitsNext'. -/
def bitsNextCard : Claim7 := { stood := { row := bitsNextRow, standIns := [], harness := (true, "51b5b5187ecaeabedee0b9b4588b5e87ce6aac35941e9624b4d0b7536f773b9b"), looks := true }, kinds := [], alts := [], laidByText := true, laidKinds := [.data, .data, .data, .sentinel, .sentinel], laidTests := true, laidLooks := .later }
def BitsNextCardSaid : Prop := Claim7.holds Tryd.pinned (.plain (OpenSpec.ofChange bitsNextSpec)) bitsNextCard

/-- THE TIED CARD OF 'filigreelaw01.BitsTexts'. -/
def bitsTextsCard : Claim7 := { stood := { row := bitsTextsRow, standIns := [], harness := (true, "51b5b5187ecaeabedee0b9b4588b5e87ce6aac35941e9624b4d0b7536f773b9b"), looks := true }, kinds := [], alts := [], laidByText := true, laidKinds := [.data, .data, .data, .sentinel, .sentinel], laidTests := true, laidLooks := .later }
def BitsTextsCardSaid : Prop := Claim7.holds Tryd.pinned (.plain (OpenSpec.ofChange bitsTextsSpec)) bitsTextsCard

/-- THE TIED CARD OF 'filigreelaw01.BitsNames'. -/
def bitsNamesCard : Claim7 := { stood := { row := bitsNamesRow, standIns := [], harness := (true, "51b5b5187ecaeabedee0b9b4588b5e87ce6aac35941e9624b4d0b7536f773b9b"), looks := true }, kinds := [], alts := [], laidByText := true, laidKinds := [.data, .data, .data, .sentinel, .sentinel], laidTests := true, laidLooks := .later }
def BitsNamesCardSaid : Prop := Claim7.holds Tryd.pinned (.plain (OpenSpec.ofChange bitsNamesSpec)) bitsNamesCard

/-- THE TIED CARD OF 'filigreelaw01.BitsBack'. -/
def bitsBackCard : Claim7 := { stood := { row := bitsBackRow, standIns := [], harness := (true, "51b5b5187ecaeabedee0b9b4588b5e87ce6aac35941e9624b4d0b7536f773b9b"), looks := true }, kinds := [], alts := [], laidByText := true, laidKinds := [.data, .data, .data, .sentinel, .sentinel], laidTests := true, laidLooks := .later }
def BitsBackCardSaid : Prop := Claim7.holds Tryd.pinned (.plain (OpenSpec.ofChange bitsBackSpec)) bitsBackCard

/-- THE TIED CARD OF 'filigreelaw01.BitsBetween'. -/
def bitsBetweenCard : Claim7 := { stood := { row := bitsBetweenRow, standIns := [], harness := (true, "51b5b5187ecaeabedee0b9b4588b5e87ce6aac35941e9624b4d0b7536f773b9b"), looks := true }, kinds := [], alts := [], laidByText := true, laidKinds := [.data, .data, .data, .sentinel, .sentinel], laidTests := true, laidLooks := .later }
def BitsBetweenCardSaid : Prop := Claim7.holds Tryd.pinned (.plain (OpenSpec.ofChange bitsBetweenSpec)) bitsBetweenCard

/-- THE TIED CARD OF 'filigreelaw01.BitsGo'. -/
def bitsGoCard : Claim7 := { stood := { row := bitsGoRow, standIns := [], harness := (true, "51b5b5187ecaeabedee0b9b4588b5e87ce6aac35941e9624b4d0b7536f773b9b"), looks := true }, kinds := [], alts := [], laidByText := true, laidKinds := [.data, .data, .data, .sentinel, .sentinel], laidTests := true, laidLooks := .later }
def BitsGoCardSaid : Prop := Claim7.holds Tryd.pinned (.plain (OpenSpec.ofChange bitsGoSpec)) bitsGoCard

/-- THE TIED CARD OF 'filigreelaw01.BitsScaled'. -/
def bitsScaledCard : Claim7 := { stood := { row := bitsScaledRow, standIns := [], harness := (true, "51b5b5187ecaeabedee0b9b4588b5e87ce6aac35941e9624b4d0b7536f773b9b"), looks := true }, kinds := [], alts := [], laidByText := true, laidKinds := [.data, .data, .data, .sentinel, .sentinel], laidTests := true, laidLooks := .later }
def BitsScaledCardSaid : Prop := Claim7.holds Tryd.pinned (.plain (OpenSpec.ofChange bitsScaledSpec)) bitsScaledCard

/-- THE SECOND FORM's CARD OF 'filigreelaw01.BitsParts'. -/
def bitsPartsUptoCard : Claim7 := { stood := { row := bitsPartsUptoRow, standIns := [], harness := (true, "51b5b5187ecaeabedee0b9b4588b5e87ce6aac35941e9624b4d0b7536f773b9b"), looks := true }, kinds := [], alts := [], laidByText := true, laidKinds := [.data, .data, .data, .sentinel, .sentinel], laidTests := true, laidLooks := .later }
def BitsPartsUptoCardSaid : Prop := Claim7.holds Tryd.pinned (.plain (OpenSpec.upto bitsPartsSpec)) bitsPartsUptoCard

/-- THE SECOND FORM's CARD OF 'filigreelaw01.BitsMakes'. -/
def bitsMakesUptoCard : Claim7 := { stood := { row := bitsMakesUptoRow, standIns := [], harness := (true, "51b5b5187ecaeabedee0b9b4588b5e87ce6aac35941e9624b4d0b7536f773b9b"), looks := true }, kinds := [], alts := [], laidByText := true, laidKinds := [.data, .data, .data, .sentinel, .sentinel], laidTests := true, laidLooks := .later }
def BitsMakesUptoCardSaid : Prop := Claim7.holds Tryd.pinned (.plain (OpenSpec.upto bitsMakesSpec)) bitsMakesUptoCard

/-- THE SECOND FORM's CARD OF 'filigreelaw01.BitsNext'. -/
def bitsNextUptoCard : Claim7 := { stood := { row := bitsNextUptoRow, standIns := [], harness := (true, "51b5b5187ecaeabedee0b9b4588b5e87ce6aac35941e9624b4d0b7536f773b9b"), looks := true }, kinds := [], alts := [], laidByText := true, laidKinds := [.data, .data, .data, .sentinel, .sentinel], laidTests := true, laidLooks := .later }
def BitsNextUptoCardSaid : Prop := Claim7.holds Tryd.pinned (.plain (OpenSpec.upto bitsNextSpec)) bitsNextUptoCard

/-- THE SECOND FORM's CARD OF 'filigreelaw01.BitsTexts'. -/
def bitsTextsUptoCard : Claim7 := { stood := { row := bitsTextsUptoRow, standIns := [], harness := (true, "51b5b5187ecaeabedee0b9b4588b5e87ce6aac35941e9624b4d0b7536f773b9b"), looks := true }, kinds := [], alts := [], laidByText := true, laidKinds := [.data, .data, .data, .sentinel, .sentinel], laidTests := true, laidLooks := .later }
def BitsTextsUptoCardSaid : Prop := Claim7.holds Tryd.pinned (.plain (OpenSpec.upto bitsTextsSpec)) bitsTextsUptoCard

/-- THE SECOND FORM's CARD OF 'filigreelaw01.BitsNames'. -/
def bitsNamesUptoCard : Claim7 := { stood := { row := bitsNamesUptoRow, standIns := [], harness := (true, "51b5b5187ecaeabedee0b9b4588b5e87ce6aac35941e9624b4d0b7536f773b9b"), looks := true }, kinds := [], alts := [], laidByText := true, laidKinds := [.data, .data, .data, .sentinel, .sentinel], laidTests := true, laidLooks := .later }
def BitsNamesUptoCardSaid : Prop := Claim7.holds Tryd.pinned (.plain (OpenSpec.upto bitsNamesSpec)) bitsNamesUptoCard

/-- THE SECOND FORM's CARD OF 'filigreelaw01.BitsBack'. -/
def bitsBackUptoCard : Claim7 := { stood := { row := bitsBackUptoRow, standIns := [], harness := (true, "51b5b5187ecaeabedee0b9b4588b5e87ce6aac35941e9624b4d0b7536f773b9b"), looks := true }, kinds := [], alts := [], laidByText := true, laidKinds := [.data, .data, .data, .sentinel, .sentinel], laidTests := true, laidLooks := .later }
def BitsBackUptoCardSaid : Prop := Claim7.holds Tryd.pinned (.plain (OpenSpec.upto bitsBackSpec)) bitsBackUptoCard

/-- THE SECOND FORM's CARD OF 'filigreelaw01.BitsBetween'. -/
def bitsBetweenUptoCard : Claim7 := { stood := { row := bitsBetweenUptoRow, standIns := [], harness := (true, "51b5b5187ecaeabedee0b9b4588b5e87ce6aac35941e9624b4d0b7536f773b9b"), looks := true }, kinds := [], alts := [], laidByText := true, laidKinds := [.data, .data, .data, .sentinel, .sentinel], laidTests := true, laidLooks := .later }
def BitsBetweenUptoCardSaid : Prop := Claim7.holds Tryd.pinned (.plain (OpenSpec.upto bitsBetweenSpec)) bitsBetweenUptoCard

/-- THE SECOND FORM's CARD OF 'filigreelaw01.BitsGo'. -/
def bitsGoUptoCard : Claim7 := { stood := { row := bitsGoUptoRow, standIns := [], harness := (true, "51b5b5187ecaeabedee0b9b4588b5e87ce6aac35941e9624b4d0b7536f773b9b"), looks := true }, kinds := [], alts := [], laidByText := true, laidKinds := [.data, .data, .data, .sentinel, .sentinel], laidTests := true, laidLooks := .later }
def BitsGoUptoCardSaid : Prop := Claim7.holds Tryd.pinned (.plain (OpenSpec.upto bitsGoSpec)) bitsGoUptoCard

/-- THE SECOND FORM's CARD OF 'filigreelaw01.BitsScaled'. -/
def bitsScaledUptoCard : Claim7 := { stood := { row := bitsScaledUptoRow, standIns := [], harness := (true, "51b5b5187ecaeabedee0b9b4588b5e87ce6aac35941e9624b4d0b7536f773b9b"), looks := true }, kinds := [], alts := [], laidByText := true, laidKinds := [.data, .data, .data, .sentinel, .sentinel], laidTests := true, laidLooks := .later }
def BitsScaledUptoCardSaid : Prop := Claim7.holds Tryd.pinned (.plain (OpenSpec.upto bitsScaledSpec)) bitsScaledUptoCard
end Rows
end Go.Proofs.YtpfgefeehagjcaaDoor
