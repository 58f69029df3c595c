/- Contracts: the document's answer's digits, Make. -/
import Derived.Test.YtnnefiefgpahdaaB4
set_option linter.unusedSimpArgs false
set_option linter.unusedVariables false
namespace Go.Proofs.Ytnnefiefgpahdaa
open Go Go.RowKit Ff

@[irreducible] def shl (q k : Nat) : Nat := q * 2 ^ k
theorem shl_eq (q k : Nat) : shl q k = q * 2 ^ k := by unfold shl; rfl
theorem shl_zero (q : Nat) : shl q 0 = q := by rw [shl_eq]; simp
theorem shl_succ (q k : Nat) : shl q (k + 1) = 2 * shl q k := by rw [shl_eq, shl_eq, Nat.pow_succ, ← Nat.mul_assoc, Nat.mul_comm]
theorem shl_lt {q B k n : Nat} (h : q < 2 ^ B) (hk : B + k ≤ n) : shl q k < 2 ^ n := by
  rw [shl_eq]; exact Nat.lt_of_lt_of_le (mul_lt_pow h) (Nat.pow_le_pow_right (by decide) hk)

@[irreducible] def shlB (q k : Nat) : Bool := decide (shl q k < 4503599627370496)
theorem shlB_true (q k : Nat) : shlB q k = true ↔ shl q k < 4503599627370496 := by unfold shlB; exact decide_eq_true_iff
theorem shlB_false (q k : Nat) : shlB q k = false ↔ ¬ shl q k < 4503599627370496 := by unfold shlB; exact decide_eq_false_iff_not
@[local go_sem] theorem lt_shl (q k : Nat) : decide ((shl q k : Int) < 4503599627370496) = shlB q k := by
  rw [Bool.eq_iff_iff, decide_eq_true_iff, shlB_true]; omega

theorem ret_fb {neg t : Bool} {a b : Nat} (h : a = b) : Ending.returned (.tuple #[.float .f64 (wf neg a), .bool t]) = .returned (.tuple #[.float .f64 (wf neg b), .bool t]) := by rw [h]

end Go.Proofs.Ytnnefiefgpahdaa
