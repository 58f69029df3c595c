/- Laws of layer 5: CplxTwo. -/
import Derived.Test.YtcoddacbmjlcnaaM3
set_option linter.unusedSimpArgs false
set_option linter.unusedVariables false
namespace Go.Proofs.Ytcoddacbmjlcnaa
open Go Go.RowKit Ff
attribute [local go_sem] f_lt f_gt f_eq f_ne run_add run_sub run_mul run_quo k_inf k_nan finC_ne

theorem below_two {w : World} (x y : Obj) (n : Nat) : Below w.heap.size w (((w.alloc x).alloc y).drewN n) := below_drewN (((Below.refl _ _).alloc (Nat.le_refl _) _).alloc (by simp) _) _
theorem CplxTwo_law (a b c d : Nat) (ha : a < 18446744073709551616) (hb0 : b < 18446744073709551616) (hc : c < 18446744073709551616) (hd : d < 18446744073709551616) (w : World) : Calls Try.prog 4 #[.agg #[.int .u64 a, .int .u64 b], .agg #[.int .u64 c, .int .u64 d]] w fun e w' => e = .returned (.bool true) ∧ Below w.heap.size w w' := by
  have hf := ext_from
  cases e1 : feqB a c <;> cases e2 : feqB b d
  all_goals
    go_enter Try.func4, Try.ntmps4
    go_wp2
    go_quiet ((go_at_call 13; exact Calls.quiet_of_same ((of_c _ _ _).mono fun _ _ h => ⟨h.1, h.2.symm⟩)))
    go_wp2_with (first
      | (go_at_call 13; refine (of_c _ _ _).mono ?_; rintro e w' ⟨rfl, rfl⟩)
      | (go_at_call 31; refine (Same_c5 _ _ _ _ _).mono ?_; rintro e w' ⟨rfl, rfl⟩)
      | (go_at_call 32; refine (rSame_c _ _ _ _ _).mono ?_; rintro e w' ⟨rfl, rfl⟩)
      | (go_at_call 33; refine (Equal_c _ _ _ _ _).mono ?_; rintro e w' ⟨rfl, rfl⟩)
      | (go_at_call 34; refine (Order_c5 _ _ _ _ (by assumption) (by assumption) (by assumption) (by assumption) _).mono ?_; rintro e w' ⟨rfl, rfl⟩)
      | (go_at_call 35; refine (rOrder_c5 _ _ _ _ (by assumption) (by assumption) (by assumption) (by assumption) _).mono ?_; rintro e w' ⟨rfl, rfl⟩)
      | (go_at_call 36; refine (Add_c _ _ _ _ _).mono ?_; rintro e w' ⟨a1, b1, n1, rfl, h1, h2, rfl⟩)
      | (go_at_call 37; refine (rAdd_c _ _ _ _ _).mono ?_; rintro e w' ⟨a2, b2, n2, rfl, h3, h4, rfl⟩; have hs1 := same_two h1 h2 h3 h4)
      | (go_at_call 38; refine (Sub_c _ _ _ _ _).mono ?_; rintro e w' ⟨a3, b3, n3, rfl, h5, h6, rfl⟩)
      | (go_at_call 39; refine (rSub_c _ _ _ _ _).mono ?_; rintro e w' ⟨a4, b4, n4, rfl, h7, h8, rfl⟩; have hs2 := same_two h5 h6 h7 h8)
      | (go_at_call 40; refine (Mul_c _ _ _ _ _).mono ?_; rintro e w' ⟨a5, b5, n5, rfl, h9, h10, rfl⟩)
      | (go_at_call 41; refine (rMul_c _ _ _ _ _).mono ?_; rintro e w' ⟨a6, b6, n6, rfl, h11, h12, rfl⟩; have hs3 := same_two h9 h10 h11 h12)
      | (go_at_call 42; refine (Quo_c _ _ _ _ (by assumption) (by assumption) _).mono ?_; rintro e w' ⟨a7, b7, n7, rfl, h13, h14, rfl⟩)
      | (go_at_call 43; refine (rQuo_c _ _ _ _ (by assumption) (by assumption) _).mono ?_; rintro e w' ⟨a8, b8, n8, rfl, h15, h16, rfl⟩; have hs4 := same_two h13 h14 h15 h16)
      | (go_at_call 18; refine (like5_c _ _ _ _ _).mono ?_; rintro e w' ⟨rfl, rfl⟩)
      | (go_at_call 30; refine (awake_c _).mono ?_; rintro e w' ⟨rfl, hb⟩))
    all_goals go_ret
    all_goals exact ⟨rfl, below_last (below_two _ _ _) hb⟩
end Go.Proofs.Ytcoddacbmjlcnaa
