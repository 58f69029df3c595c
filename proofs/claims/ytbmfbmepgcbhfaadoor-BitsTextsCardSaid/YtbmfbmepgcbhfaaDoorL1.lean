/- The laws BitsParts, BitsMakes, BitsNext over whatever world holds the tables. -/
import Derived.Test.YtbmfbmepgcbhfaaDoorB12
import Derived.DataShut
set_option linter.unusedSimpArgs false
set_option linter.unusedVariables false
namespace Go.Proofs.YtbmfbmepgcbhfaaDoor
open Go Go.WideShapes Go.ChangeShapes Go.RowKit Go.Sort Ff
attribute [local go_sem] f_lt f_gt f_eq f_ne

theorem u64_nat {x : Int} (h : (Lit.int .u64 x).wf = true) : ∃ n : Nat, n < 18446744073709551616 ∧ x = n := by
  have h' := (Lit.wf_int_iff .u64 x).1 h
  rw [show IntKind.min .u64 = 0 from rfl, show IntKind.max .u64 = 18446744073709551615 from rfl] at h'
  exact ⟨x.toNat, by omega, by omega⟩
theorem i64_bd {x : Int} (h : (Lit.int .i64 x).wf = true) : -9223372036854775808 ≤ x ∧ x ≤ 9223372036854775807 := by
  have h' := (Lit.wf_int_iff .i64 x).1 h
  rw [show IntKind.min .i64 = -9223372036854775808 from rfl, show IntKind.max .i64 = 9223372036854775807 from rfl] at h'
  omega
theorem kind_le (x : Nat) : kind x ≤ 5 := by unfold kind; (repeat' split) <;> omega

theorem like_refl (x : Nat) : likeB x x = true := by unfold likeB; simp
end Go.Proofs.YtbmfbmepgcbhfaaDoor
