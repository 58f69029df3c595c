/- Laws of layer 5: CplxGo. -/
import Derived.Test.YtcoddacbmjlcnaaM8
import Derived.Test.YtcoddacbmjlcnaaM6
import Derived.Test.YtcoddacbmjlcnaaC11
set_option linter.unusedSimpArgs false
set_option linter.unusedVariables false
namespace Go.Proofs.Ytcoddacbmjlcnaa
open Go Go.RowKit Ff
attribute [local go_sem] f_lt f_gt f_eq f_ne run_add run_sub run_mul run_quo k_inf k_nan finC_ne

@[local go_sem] theorem run_csum (op : BinOp) (hop : op = .add ∨ op = .sub) (t : TypeId) (a b c d : Nat) (w : World) :
    (binOp op t (.complex .f64 a b) (.complex .f64 c d)).run Try.prog w = .ok (.complex .f64 (opAt op w a c) (opAt op (w.drewN (opN op a c)) b d)) (w.drewN (opN op a c + opN op b d)) := by
  have h1 := run_op (op := op) (by rcases hop with h | h <;> simp [h]) t a c w
  have h2 := run_op (op := op) (by rcases hop with h | h <;> simp [h]) t b d (w.drewN (opN op a c))
  rcases hop with rfl | rfl
  · simp only [binOp] at h1 h2 ⊢
    rw [if_neg (by simp)] at h1 h2
    simp [Op.complexOp, Op.Complex.arith, h1, h2]
  · simp only [binOp] at h1 h2 ⊢
    rw [if_neg (by simp)] at h1 h2
    simp [Op.complexOp, Op.Complex.arith, h1, h2]
theorem run_cneg (a b : Nat) (w : World) : (Op.unary .neg (.complex .f64 a b)).run Try.prog w = .ok (.complex .f64 (negW a) (negW b)) w := by
  unfold negW Op.unary; rfl
theorem whole_c (a b : Nat) (w : World) : Calls Try.prog 72 #[.complex .f64 a b] w fun e w' => e = .returned (.bool (feqB a a && feqB b b)) ∧ w = w' := by
  cases h1 : feqB a a <;> cases h2 : feqB b b
  all_goals
    go_enter Try.func72, Try.ntmps72
    go_wp2
    all_goals go_ret
    all_goals exact ⟨rfl, rfl⟩
theorem cut_same (a b : Nat) : sameB (bitsC a) (bitsC b) a b = true := by
  have h : ∀ x, likeB (bitsC x) x = true := fun x => by
    by_cases i : isn x
    · rw [bitsC_nan i]; exact (like_iff _ _).2 (Or.inl ⟨by decide, i⟩)
    · rw [bitsC_ok i]; exact like_refl x
  exact same_of (h a) (h b)
@[irreducible] def wholeB (a b : Nat) : Bool := feqB a a && feqB b b
theorem wholeB_c (a b : Nat) (w : World) : Calls Try.prog 72 #[.complex .f64 a b] w fun e w' => e = .returned (.bool (wholeB a b)) ∧ w = w' :=
  (whole_c a b w).mono fun e w' h => by unfold wholeB; exact h
theorem sum_same {op : BinOp} {a b c d x y : Nat} (h1 : likeB x (fop op a c) = true) (h2 : likeB y (fop op b d) = true) (W1 W2 : World) : sameB x y (opAt op W1 a c) (opAt op W2 b d) = true :=
  same_two h1 h2 (op_fop (like_refl _) (like_refl _)) (op_fop (like_refl _) (like_refl _))
set_option maxRecDepth 100000 in
set_option maxHeartbeats 1000000 in
theorem CplxGo_law (a b c d : Nat) (ha : a < 18446744073709551616) (hb0 : b < 18446744073709551616) (hc : c < 18446744073709551616) (hd : d < 18446744073709551616) (w : World) : Calls Try.prog 11 #[.agg #[.int .u64 a, .int .u64 b], .agg #[.int .u64 c, .int .u64 d]] w fun e w' => e = .returned (.bool true) ∧ Below w.heap.size w w' := by
  have hf := ext_from
  have hn := run_cneg
  have s1 := cut_same a b
  have s2 := same_of (like_refl (negW a)) (like_refl (negW b))
  cases q1 : wholeB a b <;> cases q2 : wholeB c d
  all_goals
    go_enter Try.func11, Try.ntmps11
    go_wp2
    go_quiet ((go_at_call 13; exact Calls.quiet_of_same ((of_c _ _ _).mono fun _ _ h => ⟨h.1, h.2.symm⟩)))
    go_wp2_with (first
      | (go_at_call 33; refine (Equal_c _ _ _ _ _).mono ?_; rintro e w' ⟨rfl, rfl⟩)
      | (go_at_call 14; refine (Cut_c5 _ _ _).mono ?_; rintro e w7 ⟨rfl, hb7⟩)
      | (go_at_call 19; refine (Make_c5 _ _ _).mono ?_; rintro e w8 ⟨rfl, hb8⟩)
      | (go_at_call 72; refine (wholeB_c _ _ _).mono ?_; rintro e w' ⟨rfl, rfl⟩)
      | (go_at_call 36; refine (Add_c _ _ _ _ _).mono ?_; rintro e w' ⟨a1, b1, n1, rfl, h1, h2, rfl⟩; have hs1 := sum_same (op := .add) h1 h2; clear h1 h2)
      | (go_at_call 38; refine (Sub_c _ _ _ _ _).mono ?_; rintro e w' ⟨a2, b2, n2, rfl, h3, h4, rfl⟩; have hs2 := sum_same (op := .sub) h3 h4; clear h3 h4)
      | (go_at_call 22; refine (Neg5_c _ _ _).mono ?_; rintro e w' ⟨rfl, rfl⟩)
      | (go_at_call 58; refine (Narrow_c _ _ _).mono ?_; rintro e w' ⟨u1, u2, n3, rfl, rfl⟩)
      | (go_at_call 60; refine (Widen_c _ _ _).mono ?_; rintro e w' ⟨u3, u4, n4, rfl, rfl⟩)
      | (go_at_call 62; refine (Same64_c _ _ _ _ (round32 (cv_lt32 _ _) _ _) (round32 (cv_lt32 _ _) _ _) _).mono ?_; rintro e w' ⟨rfl, rfl⟩)
      | (go_at_call 31; refine (Same_c5 _ _ _ _ _).mono ?_; rintro e w' ⟨rfl, rfl⟩)
      | (go_at_call 30; refine (awake_c _).mono ?_; rintro e w' ⟨rfl, hb⟩))
    all_goals go_ret
    all_goals exact ⟨rfl, below_last (below_drewN (below_last (below_last (below_two _ _ nq) hb7) hb8) _) hb⟩
end Go.Proofs.Ytcoddacbmjlcnaa
