/- Laws of layer 5: CplxSizes. -/
import Derived.Test.YtcoddacbmjlcnaaM1
set_option linter.unusedSimpArgs false
set_option linter.unusedVariables false
namespace Go.Proofs.Ytcoddacbmjlcnaa
open Go Go.RowKit Ff
attribute [local go_sem] f_lt f_gt f_eq f_ne run_add run_sub run_mul run_quo k_inf k_nan finC_ne

theorem CplxSizes_law (a b : Nat) (ha : a < 18446744073709551616) (hb0 : b < 18446744073709551616) (w : World) : Calls Try.prog 7 #[.agg #[.int .u64 a, .int .u64 b]] w fun e w' => e = .returned (.bool true) ∧ Below w.heap.size w w' := by
  have hf := ext_from
  go_enter Try.func7, Try.ntmps7
  go_wp2_with (first
    | (go_at_call 13; refine (of_c _ _ _).mono ?_; rintro e w' ⟨rfl, rfl⟩)
    | (go_at_call 52; refine (Hi_c _ _ (by assumption) (by assumption) _).mono ?_; rintro e w' ⟨a1, n1, rfl, h1, rfl⟩)
    | (go_at_call 53; refine (rHi_c _ _ (by assumption) (by assumption) _).mono ?_; rintro e w' ⟨a2, n2, rfl, h2, rfl⟩; have k1 := like_two h1 h2)
    | (go_at_call 54; refine (Lo_c _ _ (by assumption) (by assumption) _).mono ?_; rintro e w' ⟨a3, n3, rfl, h3, rfl⟩)
    | (go_at_call 55; refine (rLo_c _ _ (by assumption) (by assumption) _).mono ?_; rintro e w' ⟨a4, n4, rfl, h4, rfl⟩; have k2 := like_two h3 h4)
    | (go_at_call 51; refine (rLike5_c _ _ _).mono ?_; rintro e w' ⟨rfl, rfl⟩)
    | (go_at_call 30; refine (awake_c _).mono ?_; rintro e w' ⟨rfl, hb⟩))
  all_goals go_ret
  all_goals exact ⟨rfl, below_last (below_drewN ((Below.refl _ _).alloc (Nat.le_refl _) _) _) hb⟩
end Go.Proofs.Ytcoddacbmjlcnaa
