/- Contracts of package cplx and of the document's answer: signs, kinds, likeness, order. -/
import Derived.Test.YtnnefiefgpahdaaC2
set_option linter.unusedSimpArgs false
set_option linter.unusedVariables false
namespace Go.Proofs.Ytnnefiefgpahdaa
open Go Go.RowKit Ff
attribute [local go_sem] f_lt f_gt f_eq f_ne run_add run_sub run_mul run_quo

theorem of_c (a b : Nat) (w : World) : Calls Try.prog 4 #[.int .u64 a, .int .u64 b] w fun e w' => e = .returned (.complex .f64 a b) ∧ w = w' := by
  have h := ext_from
  go_enter Try.func4, Try.ntmps4
  go_wp2
  go_ret
  exact ⟨rfl, rfl⟩
@[irreducible] def turnW (x : Nat) : Nat := if isn x then x else negW x
theorem xor_w (x : Nat) (hx : x < 18446744073709551616) : bits BinOp.xor IntKind.u64 (x : Int) 9223372036854775808 = (negW x : Int) := by
  rw [show (9223372036854775808 : Int) = ((9223372036854775808 : Nat) : Int) from rfl, u64_xor_nat x _ hx (by decide)]
  unfold negW; rfl
theorem turn_like {x : Nat} (hx : x < 18446744073709551616) : likeB (negW x) (turnW x) = true := by
  unfold turnW
  by_cases i : isn x
  · rw [if_pos i]; exact (like_iff _ _).2 (Or.inl ⟨(negW_isn hx).2 i, i⟩)
  · rw [if_neg i]; exact like_refl _
@[irreducible] def bitsC (x : Nat) : Nat := if isn x then 9221120237041090560 else x
theorem bitsC_nan {x : Nat} (h : isn x) : bitsC x = 9221120237041090560 := by unfold bitsC; rw [if_pos h]
theorem bitsC_ok {x : Nat} (h : ¬ isn x) : bitsC x = x := by unfold bitsC; rw [if_neg h]
theorem bitsC_like (x y : Nat) : ((bitsC x : Int) == (bitsC y : Int)) = likeB x y := by
  rw [Bool.eq_iff_iff, beq_iff_eq, like_iff]
  have hn : isn 9221120237041090560 := by decide
  by_cases i : isn x <;> by_cases j : isn y
  · rw [bitsC_nan i, bitsC_nan j]; exact ⟨fun _ => Or.inl ⟨i, j⟩, fun _ => rfl⟩
  · rw [bitsC_nan i, bitsC_ok j]
    constructor
    · intro c; have : y = 9221120237041090560 := by omega
      subst this; exact absurd hn j
    · rintro (⟨_, c⟩ | c)
      · exact absurd c j
      · subst c; exact absurd i j
  · rw [bitsC_ok i, bitsC_nan j]
    constructor
    · intro c; have : x = 9221120237041090560 := by omega
      subst this; exact absurd hn i
    · rintro (⟨c, _⟩ | c)
      · exact absurd c i
      · subst c; exact absurd j i
  · rw [bitsC_ok i, bitsC_ok j]
    constructor
    · intro c; right; omega
    · rintro (⟨c, _⟩ | c)
      · exact absurd c i
      · omega
theorem rBits_c (x : Nat) (w : World) : Calls Try.prog 32 #[.float .f64 x] w fun e w' => e = .returned (.int .u64 (bitsC x)) ∧ w = w' := by
  have h2 := ext_bits
  by_cases i : isn x
  · have H := Lib.hid (bitsC_nan i)
    have f := feq_nn i
    go_enter Try.func32, Try.ntmps32
    go_wp2
    all_goals go_ret
    all_goals exact ⟨ret_int (by rw [H.out]; rfl), rfl⟩
  · have H := Lib.hid (bitsC_ok i)
    have f := feq_ok i
    go_enter Try.func32, Try.ntmps32
    go_wp2
    all_goals go_ret
    all_goals exact ⟨ret_int (by rw [H.out]), rfl⟩
theorem rLike5_c (x y : Nat) (w : World) : Calls Try.prog 24 #[.float .f64 x, .float .f64 y] w fun e w' => e = .returned (.bool (likeB x y)) ∧ w = w' := by
  have h := bitsC_like x y
  go_enter Try.func24, Try.ntmps24
  go_wp2_with (go_at_call 32; refine (rBits_c _ _).mono ?_; rintro e w' ⟨rfl, rfl⟩)
  go_ret
  exact ⟨rfl, rfl⟩
@[irreducible] def sameB (a b c d : Nat) : Bool := likeB a c && likeB b d
theorem same_of {a b c d : Nat} (h : likeB a c = true) (k : likeB b d = true) : sameB a b c d = true := by unfold sameB; rw [h, k]; rfl
theorem rSame_c (a b c d : Nat) (w : World) : Calls Try.prog 12 #[.complex .f64 a b, .complex .f64 c d] w fun e w' => e = .returned (.bool (sameB a b c d)) ∧ w = w' := by
  have H : Hid (sameB a b c d = (likeB a c && likeB b d)) := Lib.hid (by unfold sameB; rfl)
  cases h1 : likeB a c <;> cases h2 : likeB b d
  all_goals
    rw [h1, h2] at H
    go_enter Try.func12, Try.ntmps12
    go_wp2_with (go_at_call 24; refine (rLike5_c _ _ _).mono ?_; rintro e w' ⟨rfl, rfl⟩)
    all_goals go_ret
    all_goals exact ⟨ret_bool (by rw [H.out]; rfl), rfl⟩
theorem like5_c (a b c d : Nat) (w : World) : Calls Try.prog 5 #[.complex .f64 a b, .complex .f64 c d] w fun e w' => e = .returned (.bool (sameB a b c d)) ∧ w = w' := by
  go_enter Try.func5, Try.ntmps5
  go_wp2_with (go_at_call 12; refine (rSame_c _ _ _ _ _).mono ?_; rintro e w' ⟨rfl, rfl⟩)
  go_ret
  exact ⟨rfl, rfl⟩
theorem Same_c5 (a b c d : Nat) (w : World) : Calls Try.prog 19 #[.complex .f64 a b, .complex .f64 c d] w fun e w' => e = .returned (.bool (sameB a b c d)) ∧ w = w' := by
  have H : Hid (sameB a b c d = (likeB a c && likeB b d)) := Lib.hid (by unfold sameB; rfl)
  cases h1 : likeB a c <;> cases h2 : likeB b d
  all_goals
    rw [h1, h2] at H
    go_enter Try.func19, Try.ntmps19
    go_wp2_with (go_at_call 25; refine (Like_c _ _ _).mono ?_; rintro e w' ⟨rfl, rfl⟩)
    all_goals go_ret
    all_goals exact ⟨ret_bool (by rw [H.out]; rfl), rfl⟩
theorem Equal_c (a b c d : Nat) (w : World) : Calls Try.prog 20 #[.complex .f64 a b, .complex .f64 c d] w fun e w' => e = .returned (.bool (feqB a c && feqB b d)) ∧ w = w' := by
  go_enter Try.func20, Try.ntmps20
  go_wp2
  go_ret
  exact ⟨rfl, rfl⟩
end Go.Proofs.Ytnnefiefgpahdaa
