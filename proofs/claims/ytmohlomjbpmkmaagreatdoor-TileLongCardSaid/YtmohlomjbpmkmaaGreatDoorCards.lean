/-
  DERIVED. GIVEN WITH THE SEED: THE CARDS: each row of YtmohlomjbpmkmaaGreatDoorRows.lean that lists a variable, with what it lists TIED to the program's text (the seventh form; the later family's looks); each row that meets fmt, with fmt's text TOLD by the authors' own Lean function (tested against real Go, not proved from fmt's source: count such statements apart). THE CARD IS WHAT COUNTS. Prove the row's statement (the work); the ties are given (YtmohlomjbpmkmaaGreatDoorTie.lean); close each card by the builder's one call (the guide's Derived/Test/ToyasCard.lean, 'card_holds'). Laid BY PROGRAM, IN A SANDBOX (cutbox-door.mjs). By AI agents, Wed Nov 11 2026. No macro, syntax, notation, axiom, sorry.
-/
import Derived.Test.YtmohlomjbpmkmaaGreatDoorRows
import GoSem.ClaimSeven
namespace Go.Proofs.YtmohlomjbpmkmaaGreatDoor
namespace Rows

/-- THE TIED CARD OF 'filigreelaw19.StatusNames'. -/
def statusNamesCard : Claim7 := { stood := { row := statusNamesRow, standIns := [], harness := (true, "047b8d086b33f5182da313e3b62f7273e77ab62b91d37c18944fb759d97e4659"), looks := false }, kinds := [], alts := [], laidByText := true, laidKinds := [.data], laidTests := true, laidLooks := .later }
def StatusNamesCardSaid : Prop := Claim7.holds Tryz.pinned (.plain (OpenSpec.ofChange statusNamesSpec)) statusNamesCard

/-- THE TIED CARD OF 'filigreelaw25.TileNames'. -/
def tileNamesCard : Claim7 := { stood := { row := tileNamesRow, standIns := [], harness := (true, "047b8d086b33f5182da313e3b62f7273e77ab62b91d37c18944fb759d97e4659"), looks := false }, kinds := [], alts := [], laidByText := true, laidKinds := [.data], laidTests := true, laidLooks := .later }
def TileNamesCardSaid : Prop := Claim7.holds Tryz.pinned (.plain (OpenSpec.ofChange tileNamesSpec)) tileNamesCard

/-- THE TIED CARD OF 'filigreelaw25.TileLong'. -/
def tileLongCard : Claim7 := { stood := { row := tileLongRow, standIns := [], harness := (true, "047b8d086b33f5182da313e3b62f7273e77ab62b91d37c18944fb759d97e4659"), looks := false }, kinds := [], alts := [], laidByText := true, laidKinds := [.data], laidTests := true, laidLooks := .later }
def TileLongCardSaid : Prop := Claim7.holds Tryz.pinned (.plain (OpenSpec.ofChange tileLongSpec)) tileLongCard

/-- THE SECOND FORM's CARD OF 'filigreelaw19.StatusNames'. -/
def statusNamesUptoCard : Claim7 := { stood := { row := statusNamesUptoRow, standIns := [], harness := (true, "047b8d086b33f5182da313e3b62f7273e77ab62b91d37c18944fb759d97e4659"), looks := false }, kinds := [], alts := [], laidByText := true, laidKinds := [.data], laidTests := true, laidLooks := .later }
def StatusNamesUptoCardSaid : Prop := Claim7.holds Tryz.pinned (.plain (OpenSpec.upto statusNamesSpec)) statusNamesUptoCard

/-- THE SECOND FORM's CARD OF 'filigreelaw25.TileNames'. -/
def tileNamesUptoCard : Claim7 := { stood := { row := tileNamesUptoRow, standIns := [], harness := (true, "047b8d086b33f5182da313e3b62f7273e77ab62b91d37c18944fb759d97e4659"), looks := false }, kinds := [], alts := [], laidByText := true, laidKinds := [.data], laidTests := true, laidLooks := .later }
def TileNamesUptoCardSaid : Prop := Claim7.holds Tryz.pinned (.plain (OpenSpec.upto tileNamesSpec)) tileNamesUptoCard

/-- THE SECOND FORM's CARD OF 'filigreelaw25.TileLong'. -/
def tileLongUptoCard : Claim7 := { stood := { row := tileLongUptoRow, standIns := [], harness := (true, "047b8d086b33f5182da313e3b62f7273e77ab62b91d37c18944fb759d97e4659"), looks := false }, kinds := [], alts := [], laidByText := true, laidKinds := [.data], laidTests := true, laidLooks := .later }
def TileLongUptoCardSaid : Prop := Claim7.holds Tryz.pinned (.plain (OpenSpec.upto tileLongSpec)) tileLongUptoCard
end Rows
end Go.Proofs.YtmohlomjbpmkmaaGreatDoor
