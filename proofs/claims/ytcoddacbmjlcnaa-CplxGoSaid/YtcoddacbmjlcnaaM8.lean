/- Laws of layer 5: CplxSigns. -/
import Derived.Test.YtcoddacbmjlcnaaM7
set_option linter.unusedSimpArgs false
set_option linter.unusedVariables false
namespace Go.Proofs.Ytcoddacbmjlcnaa
open Go Go.RowKit Ff
attribute [local go_sem] f_lt f_gt f_eq f_ne run_add run_sub run_mul run_quo k_inf k_nan finC_ne

theorem equalOr_c (x y : Nat) (w : World) : Calls Try.prog 71 #[.float .f64 x, .float .f64 y] w fun e w' => e = .returned (.bool (eqOr x y)) ∧ w = w' := by
  have H : Hid (eqOr x y = (feqB x y || (decide (isn x) && decide (isn y)))) := Lib.hid (by unfold eqOr; rfl)
  have f1 := feq_self x
  have f2 := feq_self y
  by_cases i : isn x <;> by_cases j : isn y <;> cases e : feqB x y
  all_goals
    simp only [i, j, e, decide_true, decide_false, Bool.not_true, Bool.not_false] at H f1 f2
    go_enter Try.func71, Try.ntmps71
    go_wp2
    all_goals go_ret
    all_goals exact ⟨ret_bool (by rw [H.out]; rfl), rfl⟩
theorem negneg_like {x : Nat} (hx : x < 18446744073709551616) : likeB (negW (negW x)) x = true := by rw [negW_negW hx]; exact like_refl x
/-- What CplxSigns asks of two products. -/
theorem conj_re {a b c d : Nat} (hb : b < 18446744073709551616) (hd : d < 18446744073709551616) : likeB (mulR a b c d) (mulR a (negW b) c (negW d)) = true := by
  unfold mulR
  refine fop_like (like_refl _) ?_
  have h1 := fop_mul_neg_r (x := negW b) hd
  have h2 := fop_mul_neg_l (x := b) (y := d) hb
  have h3 := neg_like (fop_lt _ _ _) (negW_lt (fop_lt _ _ _)) h2
  rw [negW_negW (fop_lt _ _ _)] at h3
  exact like_symm (like_trans h1 h3)
theorem conj_im {a b c d : Nat} (hb : b < 18446744073709551616) (hd : d < 18446744073709551616) : eqOr (negW (mulI a b c d)) (mulI a (negW b) c (negW d)) = true := by
  unfold mulI
  refine eqOr_trans (fop_add_neg (fop_lt _ _ _) (fop_lt _ _ _)) (eqOr_like ?_)
  exact like_symm (fop_like (fop_mul_neg_r hd) (fop_mul_neg_l hb))
theorem mul_swap_re (a b c d : Nat) : mulR a b c d = mulR c d a b := by
  unfold mulR
  have e1 : fop .mul a c = fop .mul c a := by unfold fop; rw [mul_comm5]
  have e2 : fop .mul b d = fop .mul d b := by unfold fop; rw [mul_comm5]
  rw [e1, e2]
theorem mul_swap_im (a b c d : Nat) : mulI a b c d = mulI c d a b := by
  unfold mulI
  have e1 : fop .mul a d = fop .mul d a := by unfold fop; rw [mul_comm5]
  have e2 : fop .mul b c = fop .mul c b := by unfold fop; rw [mul_comm5]
  rw [e1, e2]; unfold fop; rw [add_comm5]
/-- As CPost, the parts' bounds told. -/
def CPostB (re im : Nat) (w : World) (e : Ending) (w' : World) : Prop := ∃ a b n, e = .returned (.complex .f64 a b) ∧ (a < 18446744073709551616 ∧ b < 18446744073709551616) ∧ likeB a re = true ∧ likeB b im = true ∧ w' = w.drewN n
theorem MulB_c (a b c d : Nat) (w : World) : Calls Try.prog 40 #[.complex .f64 a b, .complex .f64 c d] w (CPostB (mulR a b c d) (mulI a b c d) w) := by
  go_enter Try.func40, Try.ntmps40
  go_wp2
  go_ret
  exact ⟨_, _, _, rfl, ⟨opAt_lt _ _ _ _, opAt_lt _ _ _ _⟩, op_fop (op_fop (like_refl _) (like_refl _)) (op_fop (like_refl _) (like_refl _)), op_fop (op_fop (like_refl _) (like_refl _)) (op_fop (like_refl _) (like_refl _)), rfl⟩
theorem conj_fact1 {x y m m' : Nat} (h1 : likeB x m = true) (hr : likeB m m' = true) (h3 : likeB y m' = true) : eqOr x y = true := eqOr_like (like_trans h1 (like_trans hr (like_symm h3)))
theorem conj_fact2 {x y a b c d m' : Nat} (hx : x < 18446744073709551616) (h1 : likeB x (mulI a b c d) = true) (hi : eqOr (negW (mulI a b c d)) m' = true) (h3 : likeB y m' = true) : eqOr (negW x) y = true :=
  eqOr_trans (eqOr_like (neg_like hx (fop_lt _ _ _) h1)) (eqOr_trans hi (eqOr_like (like_symm h3)))
theorem swap_fact {x y x' y' a b c d : Nat} (h1 : likeB x (mulR a b c d) = true) (h2 : likeB y (mulI a b c d) = true) (h3 : likeB x' (mulR c d a b) = true) (h4 : likeB y' (mulI c d a b) = true) (e1 : mulR a b c d = mulR c d a b) (e2 : mulI a b c d = mulI c d a b) : sameB x y x' y' = true :=
  same_two h1 h2 (by rw [e1]; exact h3) (by rw [e2]; exact h4)
set_option maxHeartbeats 1000000 in
theorem CplxSigns_law (a b c d : Nat) (ha : a < 18446744073709551616) (hb0 : b < 18446744073709551616) (hc : c < 18446744073709551616) (hd : d < 18446744073709551616) (w : World) : Calls Try.prog 10 #[.agg #[.int .u64 a, .int .u64 b], .agg #[.int .u64 c, .int .u64 d]] w fun e w' => e = .returned (.bool true) ∧ Below w.heap.size w w' := by
  have hf := ext_from
  have s1 := negW_negW ha
  have s2 := negW_negW hb0
  have s5 := same_of (like_refl a) (like_refl b)
  have s6 := same_of (like_refl (negW a)) (like_refl (negW b))
  have HR := Lib.hid (conj_re (a := a) (c := c) hb0 hd)
  have HI := Lib.hid (conj_im (a := a) (c := c) hb0 hd)
  have HS := Lib.hid (mul_swap_re a b c d)
  have HT := Lib.hid (mul_swap_im a b c d)
  go_enter Try.func10, Try.ntmps10
  go_wp2
  go_quiet ((go_at_call 13; exact Calls.quiet_of_same ((of_c _ _ _).mono fun _ _ h => ⟨h.1, h.2.symm⟩)))
  go_wp2_with (first
    | (go_at_call 22; refine (Neg5_c _ _ _).mono ?_; rintro e w' ⟨rfl, rfl⟩)
    | (go_at_call 24; refine (Conj_c _ _ _).mono ?_; rintro e w' ⟨rfl, rfl⟩)
    | (go_at_call 26; refine (Turn_c _ _ _).mono ?_; rintro e w' ⟨rfl, rfl⟩)
    | (go_at_call 31; refine (Same_c5 _ _ _ _ _).mono ?_; rintro e w' ⟨rfl, rfl⟩)
    | (go_at_call 40; refine (MulB_c _ _ _ _ _).mono ?_; rintro e w' ⟨a2, b2, n2, rfl, ⟨hl3, hl4⟩, h3, h4, rfl⟩; (first | (have k3 := swap_fact h1 h2 h3 h4 HS.out HT.out; clear h1 h2 h3 h4) | (have k1 := conj_fact1 h1 HR.out h3; have k2 := conj_fact2 hl2 h2 HI.out h4; clear h1 h2 h3 h4) | (have h1 := h3; have h2 := h4; have hl2 := hl4; clear h3 h4)))
    | (go_at_call 71; refine (equalOr_c _ _ _).mono ?_; rintro e w' ⟨rfl, rfl⟩)
    | (go_at_call 30; refine (awake_c _).mono ?_; rintro e w' ⟨rfl, hb⟩))
  all_goals go_ret
  all_goals exact ⟨rfl, below_last (below_two _ _ _) hb⟩
end Go.Proofs.Ytcoddacbmjlcnaa
