/-
  DERIVED. GIVEN WITH THE SEED: THE CARDS: each row of YtjkonfopajihdaaDoorRows.lean that lists a variable, with what it lists TIED to the program's text (the seventh form; the later family's looks); each row that meets fmt, with fmt's text TOLD by the authors' own Lean function (tested against real Go, not proved from fmt's source: count such statements apart). THE CARD IS WHAT COUNTS. Prove the row's statement (the work); the ties are given (YtjkonfopajihdaaDoorTie.lean); close each card by the builder's one call (the guide's Derived/Test/ToyasCard.lean, 'card_holds'). Laid BY PROGRAM, IN A SANDBOX (cutbox-door.mjs). By AI agents, Wed Nov 11 2026. No macro, syntax, notation, axiom, sorry.
-/
import Derived.Test.YtjkonfopajihdaaDoorRows
import GoSem.ClaimSeven
namespace Go.Proofs.YtjkonfopajihdaaDoor
namespace Rows

/-- THE TIED CARD OF 'filigreelaw03.DyadChecks'. -/
def dyadChecksCard : Claim7 := { stood := { row := dyadChecksRow, standIns := [], harness := (true, "47b456f6da1cf59f72f98cdf4fda8f84d61544415175f00153182118e2c87627"), looks := false }, kinds := [], alts := [], laidByText := true, laidKinds := [.data], laidTests := true, laidLooks := .later }
def DyadChecksCardSaid : Prop := Claim7.holds Tryd.pinned (.plain (OpenSpec.ofChange dyadChecksSpec)) dyadChecksCard

/-- THE TIED CARD OF 'filigreelaw03.DyadMakes'. -/
def dyadMakesCard : Claim7 := { stood := { row := dyadMakesRow, standIns := [], harness := (true, "47b456f6da1cf59f72f98cdf4fda8f84d61544415175f00153182118e2c87627"), looks := false }, kinds := [], alts := [], laidByText := true, laidKinds := [.data], laidTests := true, laidLooks := .later }
def DyadMakesCardSaid : Prop := Claim7.holds Tryd.pinned (.plain (OpenSpec.ofChange dyadMakesSpec)) dyadMakesCard

/-- THE TIED CARD OF 'filigreelaw03.DyadRounds'. -/
def dyadRoundsCard : Claim7 := { stood := { row := dyadRoundsRow, standIns := [], harness := (true, "47b456f6da1cf59f72f98cdf4fda8f84d61544415175f00153182118e2c87627"), looks := false }, kinds := [], alts := [], laidByText := true, laidKinds := [.data], laidTests := true, laidLooks := .later }
def DyadRoundsCardSaid : Prop := Claim7.holds Tryd.pinned (.plain (OpenSpec.ofChange dyadRoundsSpec)) dyadRoundsCard

/-- THE TIED CARD OF 'filigreelaw03.DyadOrders'. -/
def dyadOrdersCard : Claim7 := { stood := { row := dyadOrdersRow, standIns := [], harness := (true, "47b456f6da1cf59f72f98cdf4fda8f84d61544415175f00153182118e2c87627"), looks := false }, kinds := [], alts := [], laidByText := true, laidKinds := [.data], laidTests := true, laidLooks := .later }
def DyadOrdersCardSaid : Prop := Claim7.holds Tryd.pinned (.plain (OpenSpec.ofChange dyadOrdersSpec)) dyadOrdersCard

/-- THE TIED CARD OF 'filigreelaw03.DyadSums'. -/
def dyadSumsCard : Claim7 := { stood := { row := dyadSumsRow, standIns := [], harness := (true, "47b456f6da1cf59f72f98cdf4fda8f84d61544415175f00153182118e2c87627"), looks := false }, kinds := [], alts := [], laidByText := true, laidKinds := [.data], laidTests := true, laidLooks := .later }
def DyadSumsCardSaid : Prop := Claim7.holds Tryd.pinned (.plain (OpenSpec.ofChange dyadSumsSpec)) dyadSumsCard

/-- THE TIED CARD OF 'filigreelaw03.DyadLists'. -/
def dyadListsCard : Claim7 := { stood := { row := dyadListsRow, standIns := [], harness := (true, "47b456f6da1cf59f72f98cdf4fda8f84d61544415175f00153182118e2c87627"), looks := false }, kinds := [], alts := [], laidByText := true, laidKinds := [.data], laidTests := true, laidLooks := .later }
def DyadListsCardSaid : Prop := Claim7.holds Tryd.pinned (.plain (OpenSpec.ofChange dyadListsSpec)) dyadListsCard

/-- THE TIED CARD OF 'filigreelaw03.DyadShifts'. -/
def dyadShiftsCard : Claim7 := { stood := { row := dyadShiftsRow, standIns := [], harness := (true, "47b456f6da1cf59f72f98cdf4fda8f84d61544415175f00153182118e2c87627"), looks := false }, kinds := [], alts := [], laidByText := true, laidKinds := [.data], laidTests := true, laidLooks := .later }
def DyadShiftsCardSaid : Prop := Claim7.holds Tryd.pinned (.plain (OpenSpec.ofChange dyadShiftsSpec)) dyadShiftsCard

/-- THE TIED CARD OF 'filigreelaw03.DyadRing'. -/
def dyadRingCard : Claim7 := { stood := { row := dyadRingRow, standIns := [], harness := (true, "47b456f6da1cf59f72f98cdf4fda8f84d61544415175f00153182118e2c87627"), looks := false }, kinds := [], alts := [], laidByText := true, laidKinds := [.data], laidTests := true, laidLooks := .later }
def DyadRingCardSaid : Prop := Claim7.holds Tryd.pinned (.plain (OpenSpec.ofChange dyadRingSpec)) dyadRingCard

/-- THE TIED CARD OF 'filigreelaw03.DyadBetween'. -/
def dyadBetweenCard : Claim7 := { stood := { row := dyadBetweenRow, standIns := [], harness := (true, "47b456f6da1cf59f72f98cdf4fda8f84d61544415175f00153182118e2c87627"), looks := false }, kinds := [], alts := [], laidByText := true, laidKinds := [.data], laidTests := true, laidLooks := .later }
def DyadBetweenCardSaid : Prop := Claim7.holds Tryd.pinned (.plain (OpenSpec.ofChange dyadBetweenSpec)) dyadBetweenCard

/-- THE TIED CARD OF 'filigreelaw03.DyadGo'. -/
def dyadGoCard : Claim7 := { stood := { row := dyadGoRow, standIns := [], harness := (true, "47b456f6da1cf59f72f98cdf4fda8f84d61544415175f00153182118e2c87627"), looks := false }, kinds := [], alts := [], laidByText := true, laidKinds := [.data], laidTests := true, laidLooks := .later }
def DyadGoCardSaid : Prop := Claim7.holds Tryd.pinned (.plain (OpenSpec.ofChange dyadGoSpec)) dyadGoCard

/-- THE SECOND FORM's CARD OF 'filigreelaw03.DyadChecks'. -/
def dyadChecksUptoCard : Claim7 := { stood := { row := dyadChecksUptoRow, standIns := [], harness := (true, "47b456f6da1cf59f72f98cdf4fda8f84d61544415175f00153182118e2c87627"), looks := false }, kinds := [], alts := [], laidByText := true, laidKinds := [.data], laidTests := true, laidLooks := .later }
def DyadChecksUptoCardSaid : Prop := Claim7.holds Tryd.pinned (.plain (OpenSpec.upto dyadChecksSpec)) dyadChecksUptoCard

/-- THE SECOND FORM's CARD OF 'filigreelaw03.DyadMakes'. -/
def dyadMakesUptoCard : Claim7 := { stood := { row := dyadMakesUptoRow, standIns := [], harness := (true, "47b456f6da1cf59f72f98cdf4fda8f84d61544415175f00153182118e2c87627"), looks := false }, kinds := [], alts := [], laidByText := true, laidKinds := [.data], laidTests := true, laidLooks := .later }
def DyadMakesUptoCardSaid : Prop := Claim7.holds Tryd.pinned (.plain (OpenSpec.upto dyadMakesSpec)) dyadMakesUptoCard

/-- THE SECOND FORM's CARD OF 'filigreelaw03.DyadRounds'. -/
def dyadRoundsUptoCard : Claim7 := { stood := { row := dyadRoundsUptoRow, standIns := [], harness := (true, "47b456f6da1cf59f72f98cdf4fda8f84d61544415175f00153182118e2c87627"), looks := false }, kinds := [], alts := [], laidByText := true, laidKinds := [.data], laidTests := true, laidLooks := .later }
def DyadRoundsUptoCardSaid : Prop := Claim7.holds Tryd.pinned (.plain (OpenSpec.upto dyadRoundsSpec)) dyadRoundsUptoCard

/-- THE SECOND FORM's CARD OF 'filigreelaw03.DyadOrders'. -/
def dyadOrdersUptoCard : Claim7 := { stood := { row := dyadOrdersUptoRow, standIns := [], harness := (true, "47b456f6da1cf59f72f98cdf4fda8f84d61544415175f00153182118e2c87627"), looks := false }, kinds := [], alts := [], laidByText := true, laidKinds := [.data], laidTests := true, laidLooks := .later }
def DyadOrdersUptoCardSaid : Prop := Claim7.holds Tryd.pinned (.plain (OpenSpec.upto dyadOrdersSpec)) dyadOrdersUptoCard

/-- THE SECOND FORM's CARD OF 'filigreelaw03.DyadSums'. -/
def dyadSumsUptoCard : Claim7 := { stood := { row := dyadSumsUptoRow, standIns := [], harness := (true, "47b456f6da1cf59f72f98cdf4fda8f84d61544415175f00153182118e2c87627"), looks := false }, kinds := [], alts := [], laidByText := true, laidKinds := [.data], laidTests := true, laidLooks := .later }
def DyadSumsUptoCardSaid : Prop := Claim7.holds Tryd.pinned (.plain (OpenSpec.upto dyadSumsSpec)) dyadSumsUptoCard

/-- THE SECOND FORM's CARD OF 'filigreelaw03.DyadLists'. -/
def dyadListsUptoCard : Claim7 := { stood := { row := dyadListsUptoRow, standIns := [], harness := (true, "47b456f6da1cf59f72f98cdf4fda8f84d61544415175f00153182118e2c87627"), looks := false }, kinds := [], alts := [], laidByText := true, laidKinds := [.data], laidTests := true, laidLooks := .later }
def DyadListsUptoCardSaid : Prop := Claim7.holds Tryd.pinned (.plain (OpenSpec.upto dyadListsSpec)) dyadListsUptoCard

/-- THE SECOND FORM's CARD OF 'filigreelaw03.DyadShifts'. -/
def dyadShiftsUptoCard : Claim7 := { stood := { row := dyadShiftsUptoRow, standIns := [], harness := (true, "47b456f6da1cf59f72f98cdf4fda8f84d61544415175f00153182118e2c87627"), looks := false }, kinds := [], alts := [], laidByText := true, laidKinds := [.data], laidTests := true, laidLooks := .later }
def DyadShiftsUptoCardSaid : Prop := Claim7.holds Tryd.pinned (.plain (OpenSpec.upto dyadShiftsSpec)) dyadShiftsUptoCard

/-- THE SECOND FORM's CARD OF 'filigreelaw03.DyadRing'. -/
def dyadRingUptoCard : Claim7 := { stood := { row := dyadRingUptoRow, standIns := [], harness := (true, "47b456f6da1cf59f72f98cdf4fda8f84d61544415175f00153182118e2c87627"), looks := false }, kinds := [], alts := [], laidByText := true, laidKinds := [.data], laidTests := true, laidLooks := .later }
def DyadRingUptoCardSaid : Prop := Claim7.holds Tryd.pinned (.plain (OpenSpec.upto dyadRingSpec)) dyadRingUptoCard

/-- THE SECOND FORM's CARD OF 'filigreelaw03.DyadBetween'. -/
def dyadBetweenUptoCard : Claim7 := { stood := { row := dyadBetweenUptoRow, standIns := [], harness := (true, "47b456f6da1cf59f72f98cdf4fda8f84d61544415175f00153182118e2c87627"), looks := false }, kinds := [], alts := [], laidByText := true, laidKinds := [.data], laidTests := true, laidLooks := .later }
def DyadBetweenUptoCardSaid : Prop := Claim7.holds Tryd.pinned (.plain (OpenSpec.upto dyadBetweenSpec)) dyadBetweenUptoCard

/-- THE SECOND FORM's CARD OF 'filigreelaw03.DyadGo'. -/
def dyadGoUptoCard : Claim7 := { stood := { row := dyadGoUptoRow, standIns := [], harness := (true, "47b456f6da1cf59f72f98cdf4fda8f84d61544415175f00153182118e2c87627"), looks := false }, kinds := [], alts := [], laidByText := true, laidKinds := [.data], laidTests := true, laidLooks := .later }
def DyadGoUptoCardSaid : Prop := Claim7.holds Tryd.pinned (.plain (OpenSpec.upto dyadGoSpec)) dyadGoUptoCard
end Rows
end Go.Proofs.YtjkonfopajihdaaDoor
