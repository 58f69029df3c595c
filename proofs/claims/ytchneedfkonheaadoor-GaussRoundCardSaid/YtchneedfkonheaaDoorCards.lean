/-
  DERIVED. GIVEN WITH THE SEED: THE CARDS: each row of YtchneedfkonheaaDoorRows.lean that lists a variable, with what it lists TIED to the program's text (the seventh form; the later family's looks); each row that meets fmt, with fmt's text TOLD by the authors' own Lean function (tested against real Go, not proved from fmt's source: count such statements apart). THE CARD IS WHAT COUNTS. Prove the row's statement (the work); the ties are given (YtchneedfkonheaaDoorTie.lean); close each card by the builder's one call (the guide's Derived/Test/ToyasCard.lean, 'card_holds'). Laid BY PROGRAM, IN A SANDBOX (cutbox-door.mjs). By AI agents, Wed Nov 11 2026. No macro, syntax, notation, axiom, sorry.
-/
import Derived.Test.YtchneedfkonheaaDoorRows
import GoSem.ClaimSeven
namespace Go.Proofs.YtchneedfkonheaaDoor
namespace Rows

/-- THE TIED CARD OF 'filigreelaw06.GaussSums'. -/
def gaussSumsCard : Claim7 := { stood := { row := gaussSumsRow, standIns := [], harness := (true, "39b618f3be0270f08c812da1242480405d8d198c044e96aaeef3c38bda142b10"), looks := false }, kinds := [], alts := [], laidByText := true, laidKinds := [.data], laidTests := true, laidLooks := .later }
def GaussSumsCardSaid : Prop := Claim7.holds Tryd.pinned (.plain (OpenSpec.ofChange gaussSumsSpec)) gaussSumsCard

/-- THE TIED CARD OF 'filigreelaw06.GaussField'. -/
def gaussFieldCard : Claim7 := { stood := { row := gaussFieldRow, standIns := [], harness := (true, "39b618f3be0270f08c812da1242480405d8d198c044e96aaeef3c38bda142b10"), looks := false }, kinds := [], alts := [], laidByText := true, laidKinds := [.data], laidTests := true, laidLooks := .later }
def GaussFieldCardSaid : Prop := Claim7.holds Tryd.pinned (.plain (OpenSpec.ofChange gaussFieldSpec)) gaussFieldCard

/-- THE TIED CARD OF 'filigreelaw06.GaussParts'. -/
def gaussPartsCard : Claim7 := { stood := { row := gaussPartsRow, standIns := [], harness := (true, "39b618f3be0270f08c812da1242480405d8d198c044e96aaeef3c38bda142b10"), looks := false }, kinds := [], alts := [], laidByText := true, laidKinds := [.data], laidTests := true, laidLooks := .later }
def GaussPartsCardSaid : Prop := Claim7.holds Tryd.pinned (.plain (OpenSpec.ofChange gaussPartsSpec)) gaussPartsCard

/-- THE TIED CARD OF 'filigreelaw06.GaussRound'. -/
def gaussRoundCard : Claim7 := { stood := { row := gaussRoundRow, standIns := [], harness := (true, "39b618f3be0270f08c812da1242480405d8d198c044e96aaeef3c38bda142b10"), looks := false }, kinds := [], alts := [], laidByText := true, laidKinds := [.data], laidTests := true, laidLooks := .later }
def GaussRoundCardSaid : Prop := Claim7.holds Tryd.pinned (.plain (OpenSpec.ofChange gaussRoundSpec)) gaussRoundCard

/-- THE SECOND FORM's CARD OF 'filigreelaw06.GaussSums'. -/
def gaussSumsUptoCard : Claim7 := { stood := { row := gaussSumsUptoRow, standIns := [], harness := (true, "39b618f3be0270f08c812da1242480405d8d198c044e96aaeef3c38bda142b10"), looks := false }, kinds := [], alts := [], laidByText := true, laidKinds := [.data], laidTests := true, laidLooks := .later }
def GaussSumsUptoCardSaid : Prop := Claim7.holds Tryd.pinned (.plain (OpenSpec.upto gaussSumsSpec)) gaussSumsUptoCard

/-- THE SECOND FORM's CARD OF 'filigreelaw06.GaussField'. -/
def gaussFieldUptoCard : Claim7 := { stood := { row := gaussFieldUptoRow, standIns := [], harness := (true, "39b618f3be0270f08c812da1242480405d8d198c044e96aaeef3c38bda142b10"), looks := false }, kinds := [], alts := [], laidByText := true, laidKinds := [.data], laidTests := true, laidLooks := .later }
def GaussFieldUptoCardSaid : Prop := Claim7.holds Tryd.pinned (.plain (OpenSpec.upto gaussFieldSpec)) gaussFieldUptoCard

/-- THE SECOND FORM's CARD OF 'filigreelaw06.GaussParts'. -/
def gaussPartsUptoCard : Claim7 := { stood := { row := gaussPartsUptoRow, standIns := [], harness := (true, "39b618f3be0270f08c812da1242480405d8d198c044e96aaeef3c38bda142b10"), looks := false }, kinds := [], alts := [], laidByText := true, laidKinds := [.data], laidTests := true, laidLooks := .later }
def GaussPartsUptoCardSaid : Prop := Claim7.holds Tryd.pinned (.plain (OpenSpec.upto gaussPartsSpec)) gaussPartsUptoCard

/-- THE SECOND FORM's CARD OF 'filigreelaw06.GaussRound'. -/
def gaussRoundUptoCard : Claim7 := { stood := { row := gaussRoundUptoRow, standIns := [], harness := (true, "39b618f3be0270f08c812da1242480405d8d198c044e96aaeef3c38bda142b10"), looks := false }, kinds := [], alts := [], laidByText := true, laidKinds := [.data], laidTests := true, laidLooks := .later }
def GaussRoundUptoCardSaid : Prop := Claim7.holds Tryd.pinned (.plain (OpenSpec.upto gaussRoundSpec)) gaussRoundUptoCard
end Rows
end Go.Proofs.YtchneedfkonheaaDoor
