/- Facts on signs in float arithmetic. -/
import Derived.Test.YtcoddacbmjlcnaaM5
set_option linter.unusedSimpArgs false
set_option linter.unusedVariables false
namespace Go.Proofs.Ytcoddacbmjlcnaa
open Go Go.RowKit Ff Ieee

theorem read_neg {x : Nat} (hx : x < 18446744073709551616) : double.read (negW x) = (double.read x).opposite := by
  obtain ⟨h1, h2⟩ := negW_rung hx
  rw [read_eq, read_eq, h1, h2]
  repeat' split
  all_goals rfl
theorem product_comm (x y : Datum) : x.product y = y.product x := by
  cases x <;> cases y <;> simp [Datum.product, Bool.xor_comm, Nat.mul_comm, Int.add_comm]
theorem sum_comm (x y : Datum) : x.sum y = y.sum x := by
  cases x <;> cases y
  all_goals simp only [Datum.sum, Bool.and_comm, Int.add_comm, Int.min_comm]
  all_goals (try rfl)
  all_goals (try (rename_i s t; cases s <;> cases t <;> rfl))
  all_goals (try (simp [Int.min_comm, Int.add_comm, Bool.and_comm]))
theorem mul_comm5 (x y : Nat) : floatBits .mul .f64 x y = floatBits .mul .f64 y x := by
  show Option.map _ ((double.read x).product (double.read y)) = Option.map _ ((double.read y).product (double.read x))
  rw [product_comm]
theorem add_comm5 (x y : Nat) : floatBits .add .f64 x y = floatBits .add .f64 y x := by
  show Option.map _ ((double.read x).sum (double.read y)) = Option.map _ ((double.read y).sum (double.read x))
  rw [sum_comm]
theorem product_opp (x y : Datum) : x.product y.opposite = (x.product y).map Datum.opposite := by
  cases x <;> cases y
  all_goals simp only [Datum.product, Datum.opposite, Option.map]
  all_goals (try rfl)
  all_goals (try (split <;> simp))
  all_goals simp
theorem word_opp (s : Bool) {r : Nat} (h : r < 9223372036854775808) : double.word (!s) r = negW (double.word s r) := by
  have e := xor_top h
  unfold Format.word negW
  rw [sw]
  cases s
  · simp only [Bool.not_false, if_true, Bool.false_eq_true, if_false]; exact e.1.symm
  · simp only [Bool.not_true, if_true, Bool.false_eq_true, if_false]; exact e.2.symm
theorem nearest_opp (s : Bool) (m : Nat) (p : Int) : double.nearest (!s) m p = negW (double.nearest s m p) := by
  unfold Format.nearest
  by_cases h : m = 0
  · rw [if_pos h, if_pos h]; exact word_opp s (by decide)
  · rw [if_neg h, if_neg h]
    simp only
    refine word_opp s ?_
    rw [infr]
    exact Nat.lt_of_le_of_lt (Nat.min_le_right _ _) (by decide)
theorem write_opp (d : Datum) : double.write d.opposite = negW (double.write d) := by
  cases d with
  | number s m p => exact nearest_opp s m p
  | infinity s => exact word_opp s (by rw [infr]; decide)
  | nan s t => exact word_opp s (by rw [infr, bin]; have := Nat.mod_lt t (show 0 < 4503599627370496 by decide); omega)
theorem mul_neg_r {x y : Nat} (hy : y < 18446744073709551616) : floatBits .mul .f64 x (negW y) = (floatBits .mul .f64 x y).map negW := by
  show Option.map _ ((double.read x).product (double.read (negW y))) = Option.map _ (Option.map _ ((double.read x).product (double.read y)))
  rw [read_neg hy, product_opp]
  cases (double.read x).product (double.read y) with
  | none => rfl
  | some d => exact congrArg some (write_opp d)
theorem mul_neg_l {x y : Nat} (hx : x < 18446744073709551616) : floatBits .mul .f64 (negW x) y = (floatBits .mul .f64 x y).map negW := by
  rw [mul_comm5, mul_neg_r hx, mul_comm5]
theorem signed_neg (s : Bool) (m k : Nat) : signed (!s) m k = - signed s m k := by
  unfold signed; cases s <;> simp
theorem zero_rung (s : Bool) (p : Int) : rung (double.write (.number s 0 p)) = 0 ∧ ¬ isn (double.write (.number s 0 p)) := by
  show rung (double.nearest s 0 p) = 0 ∧ ¬ isn (double.nearest s 0 p)
  unfold Format.nearest; rw [if_pos rfl]; cases s <;> decide
/-- The sum of the opposites: the opposite, or another nought. -/
theorem sum_opp (x y : Datum) : (x.sum y = none ∧ x.opposite.sum y.opposite = none) ∨ ∃ d d', x.sum y = some d ∧ x.opposite.sum y.opposite = some d' ∧ (d' = d.opposite ∨ ∃ s s' p, d = .number s 0 p ∧ d' = .number s' 0 p) := by
  cases x with
  | nan s t => left; cases y <;> exact ⟨rfl, rfl⟩
  | infinity s =>
    cases y with
    | nan t u => left; exact ⟨rfl, rfl⟩
    | infinity t =>
      by_cases h : s = t
      · subst h; right; exact ⟨.infinity s, .infinity (!s), by simp [Datum.sum], by simp [Datum.sum, Datum.opposite], Or.inl rfl⟩
      · left; simp [Datum.sum, Datum.opposite, h]
    | number t n j => right; exact ⟨_, _, rfl, rfl, Or.inl rfl⟩
  | number s m i =>
    cases y with
    | nan t u => left; exact ⟨rfl, rfl⟩
    | infinity t => right; exact ⟨_, _, rfl, rfl, Or.inl rfl⟩
    | number t n j =>
      right
      refine ⟨_, _, rfl, rfl, ?_⟩
      simp only [signed_neg]
      generalize signed s m (i - min i j).toNat = a
      generalize signed t n (j - min i j).toNat = b
      by_cases h : a + b = 0
      · right
        rw [if_pos h, if_pos (by omega), h, show -a + -b = 0 by omega]
        exact ⟨_, _, _, rfl, rfl⟩
      · left
        rw [if_neg h, if_neg (by omega)]
        unfold Datum.opposite
        have e1 : decide (-a + -b < 0) = !decide (a + b < 0) := by
          rw [Bool.eq_iff_iff, Bool.not_eq_true', decide_eq_true_iff, decide_eq_false_iff_not]; omega
        have e2 : (-a + -b).natAbs = (a + b).natAbs := by omega
        rw [e1, e2]
theorem add_neg5 {x y : Nat} (hx : x < 18446744073709551616) (hy : y < 18446744073709551616) :
    (floatBits .add .f64 x y = none ∧ floatBits .add .f64 (negW x) (negW y) = none) ∨
    ∃ r r', floatBits .add .f64 x y = some r ∧ floatBits .add .f64 (negW x) (negW y) = some r' ∧ (r' = negW r ∨ rung r = 0 ∧ rung r' = 0) := by
  have e1 : floatBits .add .f64 x y = Option.map double.write ((double.read x).sum (double.read y)) := rfl
  have e2 : floatBits .add .f64 (negW x) (negW y) = Option.map double.write ((double.read x).opposite.sum (double.read y).opposite) := by
    show Option.map _ ((double.read (negW x)).sum (double.read (negW y))) = _
    rw [read_neg hx, read_neg hy]; rfl
  rw [e1, e2]
  rcases sum_opp (double.read x) (double.read y) with ⟨h1, h2⟩ | ⟨d, d', h1, h2, h | ⟨s, s', p, hd, hd'⟩⟩
  · left; rw [h1, h2]; exact ⟨rfl, rfl⟩
  · right; rw [h1, h2]; refine ⟨_, _, rfl, rfl, Or.inl ?_⟩; rw [h]; exact write_opp d
  · right; rw [h1, h2]; refine ⟨_, _, rfl, rfl, Or.inr ?_⟩; rw [hd, hd']; exact ⟨(zero_rung s p).1, (zero_rung s' p).1⟩
@[irreducible] def eqOr (x y : Nat) : Bool := feqB x y || (decide (isn x) && decide (isn y))
theorem eqOr_iff (x y : Nat) : eqOr x y = true ↔ feqB x y = true ∨ isn x ∧ isn y := by
  unfold eqOr; rw [Bool.or_eq_true, Bool.and_eq_true, decide_eq_true_iff, decide_eq_true_iff]
theorem feq_iff (x y : Nat) : feqB x y = true ↔ ¬ isn x ∧ ¬ isn y ∧ srung x = srung y := by unfold feqB; exact decide_eq_true_iff
theorem eqOr_like {x y : Nat} (h : likeB x y = true) : eqOr x y = true := by
  rw [eqOr_iff]
  rcases (like_iff _ _).1 h with k | rfl
  · exact Or.inr k
  · by_cases i : isn x
    · exact Or.inr ⟨i, i⟩
    · exact Or.inl (feq_ok i)
theorem eqOr_trans {x y z : Nat} (h : eqOr x y = true) (k : eqOr y z = true) : eqOr x z = true := by
  rw [eqOr_iff] at *
  rcases h with h | h <;> rcases k with k | k
  · rw [feq_iff] at *; exact Or.inl ⟨h.1, k.2.1, by omega⟩
  · rw [feq_iff] at h; exact absurd k.1 h.2.1
  · rw [feq_iff] at k; exact absurd h.2 k.1
  · exact Or.inr ⟨h.1, k.2⟩
theorem fop_mul_neg_r {x y : Nat} (hy : y < 18446744073709551616) : likeB (fop .mul x (negW y)) (negW (fop .mul x y)) = true := by
  cases h : floatBits .mul .f64 x y with
  | none =>
    have h2 := mul_neg_r (x := x) hy; rw [h] at h2
    rw [fop_none h, fop_none h2]; exact (like_iff _ _).2 (Or.inl ⟨nanW_isn, (negW_isn nanW_lt).2 nanW_isn⟩)
  | some r =>
    have h2 := mul_neg_r (x := x) hy; rw [h] at h2
    rw [fop_some h, fop_some h2]; exact like_refl _
theorem fop_mul_neg_l {x y : Nat} (hx : x < 18446744073709551616) : likeB (fop .mul (negW x) y) (negW (fop .mul x y)) = true := by
  have e : fop .mul (negW x) y = fop .mul y (negW x) := by unfold fop; rw [mul_comm5]
  have e' : fop .mul x y = fop .mul y x := by unfold fop; rw [mul_comm5]
  rw [e, e']; exact fop_mul_neg_r hx
theorem fop_add_neg {x y : Nat} (hx : x < 18446744073709551616) (hy : y < 18446744073709551616) : eqOr (negW (fop .add x y)) (fop .add (negW x) (negW y)) = true := by
  rcases add_neg5 hx hy with ⟨h1, h2⟩ | ⟨r, r', h1, h2, h⟩
  · rw [fop_none h1, fop_none h2, eqOr_iff]; exact Or.inr ⟨(negW_isn nanW_lt).2 nanW_isn, nanW_isn⟩
  · have hr := fb_lt h1
    rw [fop_some h1, fop_some h2]
    rcases h with rfl | ⟨z1, z2⟩
    · exact eqOr_like (like_refl _)
    · rw [eqOr_iff, feq_iff]; left
      have z3 : rung (negW r) = 0 := by rw [(negW_rung hr).1]; exact z1
      exact ⟨by unfold isn; omega, by unfold isn; omega, by rw [(srung_eq_zero _).2 z3, (srung_eq_zero _).2 z2]⟩
theorem neg_like {x y : Nat} (hx : x < 18446744073709551616) (hy : y < 18446744073709551616) (h : likeB x y = true) : likeB (negW x) (negW y) = true := by
  rcases (like_iff _ _).1 h with ⟨a, b⟩ | rfl
  · exact (like_iff _ _).2 (Or.inl ⟨(negW_isn hx).2 a, (negW_isn hy).2 b⟩)
  · exact like_refl _
end Go.Proofs.Ytcoddacbmjlcnaa
