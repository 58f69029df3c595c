/- Laws of layer 5: CplxScale, CplxSizes. -/
import Derived.Test.YtcoddacbmjlcnaaC10
set_option linter.unusedSimpArgs false
set_option linter.unusedVariables false
namespace Go.Proofs.Ytcoddacbmjlcnaa
open Go Go.RowKit Ff
attribute [local go_sem] f_lt f_gt f_eq f_ne run_add run_sub run_mul run_quo k_inf k_nan finC_ne

theorem same_two {a b c d x y : Nat} (h1 : likeB a x = true) (h2 : likeB b y = true) (h3 : likeB c x = true) (h4 : likeB d y = true) : sameB a b c d = true :=
  same_of (like_trans h1 (like_symm h3)) (like_trans h2 (like_symm h4))
theorem like_two {a b x : Nat} (h1 : likeB a x = true) (h2 : likeB b x = true) : likeB a b = true := like_trans h1 (like_symm h2)
theorem rLike_5 (a b : Nat) (w : World) : Calls Try.prog 51 #[.float .f64 a, .float .f64 b] w fun e w' => e = .returned (.bool (likeB a b)) ∧ w = w' := rLike5_c a b w
theorem below_last {w w1 w' : World} (h : Below w.heap.size w w1) (hb : Below w1.heap.size w1 w') : Below w.heap.size w w' := h.trans (hb.mono h.size)
theorem CplxScale_law (a b x : Nat) (ha : a < 18446744073709551616) (hb0 : b < 18446744073709551616) (hx : x < 18446744073709551616) (w : World) : Calls Try.prog 5 #[.agg #[.int .u64 a, .int .u64 b], .int .u64 x] w fun e w' => e = .returned (.bool true) ∧ Below w.heap.size w w' := by
  have hf := ext_from
  go_enter Try.func5, Try.ntmps5
  go_wp2_with (first
    | (go_at_call 13; refine (of_c _ _ _).mono ?_; rintro e w' ⟨rfl, rfl⟩)
    | (go_at_call 45; refine (Scale_c5 _ _ _ _).mono ?_; rintro e w' ⟨a1, b1, n1, rfl, h1, h2, rfl⟩)
    | (go_at_call 46; refine (rScale_c5 _ _ _ _).mono ?_; rintro e w' ⟨a2, b2, n2, rfl, h3, h4, rfl⟩; have hs := same_two h1 h2 h3 h4)
    | (go_at_call 18; refine (like5_c _ _ _ _ _).mono ?_; rintro e w' ⟨rfl, rfl⟩)
    | (go_at_call 30; refine (awake_c _).mono ?_; rintro e w' ⟨rfl, hb⟩))
  all_goals go_ret
  all_goals exact ⟨rfl, below_last (below_drewN ((Below.refl _ _).alloc (Nat.le_refl _) _) _) hb⟩
end Go.Proofs.Ytcoddacbmjlcnaa
