/- Contracts of package cplx and of the document's answer: kinds, order, parts, quotients. -/
import Derived.Test.YtnnefiefgpahdaaC3
set_option linter.unusedSimpArgs false
set_option linter.unusedVariables false
namespace Go.Proofs.Ytnnefiefgpahdaa
open Go Go.RowKit Ff
attribute [local go_sem] f_lt f_gt f_eq f_ne run_add run_sub run_mul run_quo

def ckind (a b : Nat) : Nat := if kind a = 4 ∨ kind b = 4 then 1 else if kind a = 5 ∨ kind b = 5 then 2 else 0
@[irreducible] def kindInf (x : Nat) : Bool := decide (kind x = 4)
@[irreducible] def kindNaN (x : Nat) : Bool := decide (kind x = 5)
@[local go_sem] theorem k_inf (x : Nat) : ((kind x : Int) == 4) = kindInf x := by
  unfold kindInf; rw [Bool.eq_iff_iff, beq_iff_eq, decide_eq_true_iff]; omega
@[local go_sem] theorem k_nan (x : Nat) : ((kind x : Int) == 5) = kindNaN x := by
  unfold kindNaN; rw [Bool.eq_iff_iff, beq_iff_eq, decide_eq_true_iff]; omega
theorem kind_nan (x : Nat) : kind x = 5 ↔ isn x := by
  unfold kind
  by_cases h : isn x
  · rw [if_pos h]; simp [h]
  · rw [if_neg h]; constructor
    · intro c; exfalso; revert c; repeat' split
      all_goals omega
    · intro c; exact absurd c h
theorem kindNaN_eq (x : Nat) : (!feqB x x) = kindNaN x := by
  rw [feq_self, Bool.not_not]; unfold kindNaN; rw [decide_eq_decide]; exact (kind_nan x).symm
theorem ckind_eq (a b : Nat) : ckind a b = if kindInf a || kindInf b then 1 else if kindNaN a || kindNaN b then 2 else 0 := by
  unfold ckind kindInf kindNaN; simp only [Bool.or_eq_true, decide_eq_true_iff]
theorem kind_inf (x : Nat) (hx : x < 18446744073709551616) : (infW x || infW (negW x)) = kindInf x := by
  have e : kind x = 4 ↔ rung x = 9218868437227405312 := by
    unfold kind
    by_cases h : rung x = 9218868437227405312
    · rw [if_neg (by unfold isn; omega), if_pos h]; simp [h]
    · constructor
      · intro c; exfalso; revert c; rw [if_neg h]; repeat' split
        all_goals omega
      · intro c; exact absurd c h
  unfold kindInf; rw [Bool.eq_iff_iff, Bool.or_eq_true, infW_iff, infW_iff, decide_eq_true_iff, e]
  have hr := rung_lt x
  cases s : sgn x
  · rw [neg_pos hx s, topped_eq, sgn_rung hx s]; omega
  · rw [neg_neg hx s]
    have := sgn_rung' hx s
    rw [topped_eq] at this
    omega
theorem Kind_c5 (a b : Nat) (ha : a < 18446744073709551616) (hb : b < 18446744073709551616) (w : World) : Calls Try.prog 23 #[.complex .f64 a b] w fun e w' => e = .returned (.int .u8 (ckind a b)) ∧ w = w' := by
  have H := Lib.hid (ckind_eq a b)
  cases h1 : kindInf a <;> cases h2 : kindInf b <;> cases h3 : kindNaN a <;> cases h4 : kindNaN b
  all_goals
    rw [h1, h2, h3, h4] at H
    go_enter Try.func23, Try.ntmps23
    go_wp2_with (go_at_call 31; refine (KindOf_c _ (by assumption) _).mono ?_; rintro e w' ⟨rfl, rfl⟩)
    all_goals go_ret
    all_goals exact ⟨ret_int (by rw [H.out]; rfl), rfl⟩
def place5 (x : Nat) : Int := if isn x then 9223372036854775807 else if sgn x then -(rung x : Int) - 1 else rung x
theorem place5_nan {x : Nat} (h : isn x) : place5 x = 9223372036854775807 := by unfold place5; rw [if_pos h]
theorem place5_neg {x : Nat} (h : ¬ isn x) (s : sgn x = true) : place5 x = -(rung x : Int) - 1 := by unfold place5; rw [if_neg h, if_pos s]
theorem place5_pos {x : Nat} (h : ¬ isn x) (s : sgn x = false) : place5 x = rung x := by unfold place5; rw [if_neg h, if_neg (by simp [s])]
theorem and_low (x : Nat) (hx : x < 18446744073709551616) : bits BinOp.and IntKind.u64 (x : Int) 9223372036854775807 = ((rung x : Nat) : Int) := by
  rw [show (9223372036854775807 : Int) = ((9223372036854775807 : Nat) : Int) from rfl, u64_and_nat x _ hx (by decide)]
  congr 1
  exact Nat.and_two_pow_sub_one_eq_mod x 63
theorem place5_lt (x y : Nat) : place5 x < place5 y ↔ place x < place y := by
  have hr := rung_lt x
  have hs := rung_lt y
  by_cases i : isn x <;> by_cases j : isn y
  · rw [place5_nan i, place5_nan j, place_nan i, place_nan j]; omega
  · rw [place5_nan i, place_nan i]
    cases s : sgn y
    · rw [place5_pos j s, place_pos j s]; unfold isn at j; omega
    · rw [place5_neg j s, place_neg j s]; unfold isn at j; omega
  · rw [place5_nan j, place_nan j]
    cases s : sgn x
    · rw [place5_pos i s, place_pos i s]; unfold isn at i; omega
    · rw [place5_neg i s, place_neg i s]; unfold isn at i; omega
  · cases s : sgn x <;> cases t : sgn y
    · rw [place5_pos i s, place5_pos j t, place_pos i s, place_pos j t]; unfold isn at i j; omega
    · rw [place5_pos i s, place5_neg j t, place_pos i s, place_neg j t]; unfold isn at i j; omega
    · rw [place5_neg i s, place5_pos j t, place_neg i s, place_pos j t]; unfold isn at i j; omega
    · rw [place5_neg i s, place5_neg j t, place_neg i s, place_neg j t]; unfold isn at i j; omega
def ord5 (a b c d : Nat) : Int := if place a = place c then ordN (place b) (place d) else ordN (place a) (place c)
theorem ordN_5 (x y : Nat) : ordN (place x) (place y) = if place5 x < place5 y then -1 else if place5 y < place5 x then 1 else 0 := by
  unfold ordN
  have h1 := place5_lt x y
  have h2 := place5_lt y x
  by_cases c1 : place x < place y
  · rw [if_pos c1, if_pos (h1.2 c1)]
  · rw [if_neg c1, if_neg (fun c => c1 (h1.1 c))]
    by_cases c2 : place y < place x
    · rw [if_pos c2, if_pos (h2.2 c2)]
    · rw [if_neg c2, if_neg (fun c => c2 (h2.1 c))]
theorem ord5_eq (a b c d : Nat) : ord5 a b c d = if place5 a = place5 c then (if place5 b < place5 d then -1 else if place5 d < place5 b then 1 else 0) else (if place5 a < place5 c then -1 else if place5 c < place5 a then 1 else 0) := by
  unfold ord5; rw [ordN_5, ordN_5]
  have h1 := place5_lt a c
  have h2 := place5_lt c a
  by_cases e : place a = place c
  · have e' : place5 a = place5 c := by omega
    rw [if_pos e, if_pos e']
  · have e' : ¬ place5 a = place5 c := by omega
    rw [if_neg e, if_neg e']
end Go.Proofs.Ytnnefiefgpahdaa
