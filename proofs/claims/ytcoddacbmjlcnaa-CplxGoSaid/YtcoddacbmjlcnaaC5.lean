/- Contracts of package cplx and of the document's answer: parts, quotients, sizes. -/
import Derived.Test.YtcoddacbmjlcnaaC4
import Derived.Deep.QuietTactic
import Derived.BigQuiet
set_option linter.unusedSimpArgs false
set_option linter.unusedVariables false
namespace Go.Proofs.Ytcoddacbmjlcnaa
open Go Go.RowKit Ff
attribute [local go_sem] f_lt f_gt f_eq f_ne run_add run_sub run_mul run_quo k_inf k_nan

theorem Cut_c5 (a b : Nat) (w : World) : Calls Try.prog 14 #[.complex .f64 a b] w fun e w' => e = .returned (.agg #[.int .u64 (bitsC a), .int .u64 (bitsC b)]) ∧ Below w.heap.size w w' := by
  go_enter Try.func14, Try.ntmps14
  go_wp2_with (go_at_call 73; refine (cut_c5 _ _).mono ?_; rintro e w' ⟨rfl, rfl⟩)
  exact bodyPost_ret (v := .agg #[.int .u64 (bitsC a), .int .u64 (bitsC b)]) (by simp [results, Try.results14, go_sem]) rfl ⟨rfl, (Below.refl _ _).alloc (Nat.le_refl _) _⟩
theorem below_drewN {B : Nat} {a w : World} (h : Below B a w) (n : Nat) : Below B a (w.drewN n) := ⟨h.os, h.tape, h.output, h.size, h.block⟩
theorem Make_c5 (a b : Nat) (w : World) : Calls Try.prog 19 #[.agg #[.int .u64 a, .int .u64 b]] w fun e w' => e = .returned (.complex .f64 a b) ∧ Below w.heap.size w w' := by
  have h := ext_from
  go_enter Try.func19, Try.ntmps19
  go_wp2
  go_quiet (skip)
  go_wp2
  go_ret
  exact ⟨rfl, below_drewN ((Below.refl _ _).alloc (Nat.le_refl _) _) _⟩
theorem Abs_c (x : Nat) (hx : x < 18446744073709551616) (w : World) : Calls Try.prog 69 #[.float .f64 x] w fun e w' => e = .returned (.float .f64 (rung x)) ∧ w = w' := by
  have h := ext_from
  have h2 := ext_bits
  have hb := and_not_top x hx
  go_enter Try.func69, Try.ntmps69
  go_wp2
  go_ret
  exact ⟨rfl, rfl⟩
theorem NaN_c5 (w : World) : Calls Try.prog 79 #[] w fun e w' => e = .returned (.float .f64 9221120237041090561) ∧ w = w' := by
  have h : ∀ w, (callFunc 44 #[.int .u64 9221120237041090561]).run Try.prog w = .ok (.value (.float .f64 9221120237041090561)) w := fun w => by kernel_rfl
  go_enter Try.func79, Try.ntmps79
  go_wp2
  go_ret
  exact ⟨rfl, rfl⟩
theorem Inf_15 (w : World) : Calls Try.prog 83 #[.int .i64 1] w fun e w' => e = .returned (.float .f64 9218868437227405312) ∧ w = w' := by
  have h12 : ∀ w, (callFunc 44 #[.int .u64 9218868437227405312]).run Try.prog w = .ok (.value (.float .f64 9218868437227405312)) w := fun w => by kernel_rfl
  go_enter Try.func83, Try.ntmps83
  go_wp2
  go_ret
  exact ⟨rfl, rfl⟩
@[irreducible] def geB (c d : Nat) : Bool := fltB (rung d) (rung c) || feqB (rung c) (rung d)
def qT1 (c d : Nat) : Nat := fop .quo d c
def qN1 (c d : Nat) : Nat := fop .add c (fop .mul d (qT1 c d))
def qT2 (c d : Nat) : Nat := fop .quo c d
def qN2 (c d : Nat) : Nat := fop .add d (fop .mul c (qT2 c d))
@[irreducible] def quoR (a b c d : Nat) : Nat := if geB c d then fop .quo (fop .add a (fop .mul b (qT1 c d))) (qN1 c d) else fop .quo (fop .add (fop .mul a (qT2 c d)) b) (qN2 c d)
@[irreducible] def quoI (a b c d : Nat) : Nat := if geB c d then fop .quo (fop .sub b (fop .mul a (qT1 c d))) (qN1 c d) else fop .quo (fop .sub (fop .mul b (qT2 c d)) a) (qN2 c d)
theorem Quo_c (a b c d : Nat) (hc : c < 18446744073709551616) (hd : d < 18446744073709551616) (w : World) : Calls Try.prog 42 #[.complex .f64 a b, .complex .f64 c d] w (CPost (quoR a b c d) (quoI a b c d) w) := by
  cases g : geB c d
  · have H1 : Hid (quoR a b c d = fop .quo (fop .add (fop .mul a (qT2 c d)) b) (qN2 c d)) := Lib.hid (by unfold quoR; rw [if_neg (by simp [g])])
    have H2 : Hid (quoI a b c d = fop .quo (fop .sub (fop .mul b (qT2 c d)) a) (qN2 c d)) := Lib.hid (by unfold quoI; rw [if_neg (by simp [g])])
    unfold geB at g; rw [Bool.or_eq_false_iff] at g; obtain ⟨g1, g2⟩ := g
    go_enter Try.func42, Try.ntmps42
    go_wp2_with (go_at_call 69; refine (Abs_c _ (by assumption) _).mono ?_; rintro e w' ⟨rfl, rfl⟩)
    all_goals go_ret
    all_goals
      refine ⟨_, _, _, rfl, ?_, ?_, rfl⟩
      · rw [H1.out]; unfold qN2 qT2; repeat' first | exact like_refl _ | apply op_fop
      · rw [H2.out]; unfold qN2 qT2; repeat' first | exact like_refl _ | apply op_fop
  · have H1 : Hid (quoR a b c d = fop .quo (fop .add a (fop .mul b (qT1 c d))) (qN1 c d)) := Lib.hid (by unfold quoR; rw [if_pos g])
    have H2 : Hid (quoI a b c d = fop .quo (fop .sub b (fop .mul a (qT1 c d))) (qN1 c d)) := Lib.hid (by unfold quoI; rw [if_pos g])
    unfold geB at g
    go_enter Try.func42, Try.ntmps42
    go_wp2_with (go_at_call 69; refine (Abs_c _ (by assumption) _).mono ?_; rintro e w' ⟨rfl, rfl⟩)
    all_goals go_ret
    all_goals
      refine ⟨_, _, _, rfl, ?_, ?_, rfl⟩
      · rw [H1.out]; unfold qN1 qT1; repeat' first | exact like_refl _ | apply op_fop
      · rw [H2.out]; unfold qN1 qT1; repeat' first | exact like_refl _ | apply op_fop
theorem rQuo_c (a b c d : Nat) (hc : c < 18446744073709551616) (hd : d < 18446744073709551616) (w : World) : Calls Try.prog 43 #[.complex .f64 a b, .complex .f64 c d] w (CPost (quoR a b c d) (quoI a b c d) w) := by
  cases g : geB c d
  · have H1 : Hid (quoR a b c d = fop .quo (fop .add (fop .mul a (qT2 c d)) b) (qN2 c d)) := Lib.hid (by unfold quoR; rw [if_neg (by simp [g])])
    have H2 : Hid (quoI a b c d = fop .quo (fop .sub (fop .mul b (qT2 c d)) a) (qN2 c d)) := Lib.hid (by unfold quoI; rw [if_neg (by simp [g])])
    unfold geB at g; rw [Bool.or_eq_false_iff] at g; obtain ⟨g1, g2⟩ := g
    go_enter Try.func43, Try.ntmps43
    go_wp2_with (go_at_call 69; refine (Abs_c _ (by assumption) _).mono ?_; rintro e w' ⟨rfl, rfl⟩)
    all_goals go_ret
    all_goals
      refine ⟨_, _, _, rfl, ?_, ?_, rfl⟩
      · rw [H1.out]; unfold qN2 qT2; repeat' first | exact like_refl _ | apply op_fop
      · rw [H2.out]; unfold qN2 qT2; repeat' first | exact like_refl _ | apply op_fop
  · have H1 : Hid (quoR a b c d = fop .quo (fop .add a (fop .mul b (qT1 c d))) (qN1 c d)) := Lib.hid (by unfold quoR; rw [if_pos g])
    have H2 : Hid (quoI a b c d = fop .quo (fop .sub b (fop .mul a (qT1 c d))) (qN1 c d)) := Lib.hid (by unfold quoI; rw [if_pos g])
    unfold geB at g
    go_enter Try.func43, Try.ntmps43
    go_wp2_with (go_at_call 69; refine (Abs_c _ (by assumption) _).mono ?_; rintro e w' ⟨rfl, rfl⟩)
    all_goals go_ret
    all_goals
      refine ⟨_, _, _, rfl, ?_, ?_, rfl⟩
      · rw [H1.out]; unfold qN1 qT1; repeat' first | exact like_refl _ | apply op_fop
      · rw [H2.out]; unfold qN1 qT1; repeat' first | exact like_refl _ | apply op_fop
end Go.Proofs.Ytcoddacbmjlcnaa
