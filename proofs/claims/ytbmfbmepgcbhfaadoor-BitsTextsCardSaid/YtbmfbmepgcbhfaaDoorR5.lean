/- The law BitsBack over whatever world holds the tables. -/
import Derived.Test.YtbmfbmepgcbhfaaDoorR4
set_option linter.unusedSimpArgs false
set_option linter.unusedVariables false
namespace Go.Proofs.YtbmfbmepgcbhfaaDoor
open Go Go.RowKit Go.Sort Ff
attribute [local go_sem] f_lt f_gt f_eq f_ne

@[irreducible] def bigB (p : Nat) : Bool := decide (9007199254740992 ≤ p)
@[local go_sem] theorem big_ge (p : Nat) : decide ((9007199254740992 : Int) ≤ (p : Int)) = bigB p := by
  unfold bigB; rw [Bool.eq_iff_iff, decide_eq_true_iff, decide_eq_true_iff]; omega
end Go.Proofs.YtbmfbmepgcbhfaaDoor
