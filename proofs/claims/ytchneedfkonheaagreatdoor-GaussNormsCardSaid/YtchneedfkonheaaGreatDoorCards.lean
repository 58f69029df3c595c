/-
  DERIVED. GIVEN WITH THE SEED: THE CARDS: each row of YtchneedfkonheaaGreatDoorRows.lean that lists a variable, with what it lists TIED to the program's text (the seventh form; the later family's looks); each row that meets fmt, with fmt's text TOLD by the authors' own Lean function (tested against real Go, not proved from fmt's source: count such statements apart). THE CARD IS WHAT COUNTS. Prove the row's statement (the work); the ties are given (YtchneedfkonheaaGreatDoorTie.lean); close each card by the builder's one call (the guide's Derived/Test/ToyasCard.lean, 'card_holds'). Laid BY PROGRAM, IN A SANDBOX (cutbox-door.mjs). By AI agents, Wed Nov 11 2026. No macro, syntax, notation, axiom, sorry.
-/
import Derived.Test.YtchneedfkonheaaGreatDoorRows
import GoSem.ClaimSeven
namespace Go.Proofs.YtchneedfkonheaaGreatDoor
namespace Rows

/-- THE TIED CARD OF 'filigreelaw06.GaussPowers'. -/
def gaussPowersCard : Claim7 := { stood := { row := gaussPowersRow, standIns := [], harness := (true, "2fb9a97743406f15d0314d70b597a6a926abcf59565ade8b2ceecc168e36e31f"), looks := true }, kinds := [], alts := [], laidByText := true, laidKinds := [.data], laidTests := true, laidLooks := .later }
def GaussPowersCardSaid : Prop := Claim7.holds Tryz.pinned (.plain (OpenSpec.ofChange gaussPowersSpec)) gaussPowersCard

/-- THE TIED CARD OF 'filigreelaw06.GaussNorms'. -/
def gaussNormsCard : Claim7 := { stood := { row := gaussNormsRow, standIns := [], harness := (true, "2fb9a97743406f15d0314d70b597a6a926abcf59565ade8b2ceecc168e36e31f"), looks := true }, kinds := [], alts := [], laidByText := true, laidKinds := [.data], laidTests := true, laidLooks := .later }
def GaussNormsCardSaid : Prop := Claim7.holds Tryz.pinned (.plain (OpenSpec.ofChange gaussNormsSpec)) gaussNormsCard

/-- THE TIED CARD OF 'filigreelaw06.GaussDiscs'. -/
def gaussDiscsCard : Claim7 := { stood := { row := gaussDiscsRow, standIns := [], harness := (true, "2fb9a97743406f15d0314d70b597a6a926abcf59565ade8b2ceecc168e36e31f"), looks := true }, kinds := [], alts := [], laidByText := true, laidKinds := [.data], laidTests := true, laidLooks := .later }
def GaussDiscsCardSaid : Prop := Claim7.holds Tryz.pinned (.plain (OpenSpec.ofChange gaussDiscsSpec)) gaussDiscsCard

/-- THE TIED CARD OF 'filigreelaw06.GaussTexts'. -/
def gaussTextsCard : Claim7 := { stood := { row := gaussTextsRow, standIns := [], harness := (true, "2fb9a97743406f15d0314d70b597a6a926abcf59565ade8b2ceecc168e36e31f"), looks := true }, kinds := [], alts := [], laidByText := true, laidKinds := [.data, .data, .data, .sentinel, .sentinel], laidTests := true, laidLooks := .later }
def GaussTextsCardSaid : Prop := Claim7.holds Tryz.pinned (.plain (OpenSpec.ofChange gaussTextsSpec)) gaussTextsCard

/-- THE TIED CARD OF 'filigreelaw06.GaussBack'. -/
def gaussBackCard : Claim7 := { stood := { row := gaussBackRow, standIns := [], harness := (true, "2fb9a97743406f15d0314d70b597a6a926abcf59565ade8b2ceecc168e36e31f"), looks := true }, kinds := [], alts := [], laidByText := true, laidKinds := [.data, .data, .data, .sentinel, .sentinel], laidTests := true, laidLooks := .later }
def GaussBackCardSaid : Prop := Claim7.holds Tryz.pinned (.plain (OpenSpec.ofChange gaussBackSpec)) gaussBackCard

/-- THE SECOND FORM's CARD OF 'filigreelaw06.GaussPowers'. -/
def gaussPowersUptoCard : Claim7 := { stood := { row := gaussPowersUptoRow, standIns := [], harness := (true, "2fb9a97743406f15d0314d70b597a6a926abcf59565ade8b2ceecc168e36e31f"), looks := true }, kinds := [], alts := [], laidByText := true, laidKinds := [.data], laidTests := true, laidLooks := .later }
def GaussPowersUptoCardSaid : Prop := Claim7.holds Tryz.pinned (.plain (OpenSpec.upto gaussPowersSpec)) gaussPowersUptoCard

/-- THE SECOND FORM's CARD OF 'filigreelaw06.GaussNorms'. -/
def gaussNormsUptoCard : Claim7 := { stood := { row := gaussNormsUptoRow, standIns := [], harness := (true, "2fb9a97743406f15d0314d70b597a6a926abcf59565ade8b2ceecc168e36e31f"), looks := true }, kinds := [], alts := [], laidByText := true, laidKinds := [.data], laidTests := true, laidLooks := .later }
def GaussNormsUptoCardSaid : Prop := Claim7.holds Tryz.pinned (.plain (OpenSpec.upto gaussNormsSpec)) gaussNormsUptoCard

/-- THE SECOND FORM's CARD OF 'filigreelaw06.GaussDiscs'. -/
def gaussDiscsUptoCard : Claim7 := { stood := { row := gaussDiscsUptoRow, standIns := [], harness := (true, "2fb9a97743406f15d0314d70b597a6a926abcf59565ade8b2ceecc168e36e31f"), looks := true }, kinds := [], alts := [], laidByText := true, laidKinds := [.data], laidTests := true, laidLooks := .later }
def GaussDiscsUptoCardSaid : Prop := Claim7.holds Tryz.pinned (.plain (OpenSpec.upto gaussDiscsSpec)) gaussDiscsUptoCard

/-- THE SECOND FORM's CARD OF 'filigreelaw06.GaussTexts'. -/
def gaussTextsUptoCard : Claim7 := { stood := { row := gaussTextsUptoRow, standIns := [], harness := (true, "2fb9a97743406f15d0314d70b597a6a926abcf59565ade8b2ceecc168e36e31f"), looks := true }, kinds := [], alts := [], laidByText := true, laidKinds := [.data, .data, .data, .sentinel, .sentinel], laidTests := true, laidLooks := .later }
def GaussTextsUptoCardSaid : Prop := Claim7.holds Tryz.pinned (.plain (OpenSpec.upto gaussTextsSpec)) gaussTextsUptoCard

/-- THE SECOND FORM's CARD OF 'filigreelaw06.GaussBack'. -/
def gaussBackUptoCard : Claim7 := { stood := { row := gaussBackUptoRow, standIns := [], harness := (true, "2fb9a97743406f15d0314d70b597a6a926abcf59565ade8b2ceecc168e36e31f"), looks := true }, kinds := [], alts := [], laidByText := true, laidKinds := [.data, .data, .data, .sentinel, .sentinel], laidTests := true, laidLooks := .later }
def GaussBackUptoCardSaid : Prop := Claim7.holds Tryz.pinned (.plain (OpenSpec.upto gaussBackSpec)) gaussBackUptoCard
end Rows
end Go.Proofs.YtchneedfkonheaaGreatDoor
