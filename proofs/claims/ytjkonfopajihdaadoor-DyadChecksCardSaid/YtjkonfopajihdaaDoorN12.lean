/- Contracts of package limb: Of, Take. -/
import Derived.Test.YtjkonfopajihdaaDoorN11
set_option linter.unusedSimpArgs false
set_option linter.unusedVariables false
namespace Go.Proofs.YtjkonfopajihdaaDoor
open Go Go.RowKit Nt

theorem below_drewN {B : Nat} {a w : World} (h : Below B a w) (n : Nat) : Below B a (w.drewN n) := ⟨h.os, h.tape, h.output, h.size, h.block⟩
@[irreducible] def rst (x y k : Nat) : Nat := x / W ^ k % y
theorem rst_def (x y k : Nat) : rst x y k = x / W ^ k % y := by unfold rst; rfl
/-- The quotient, from the digit k on. -/
def hiV (q k : Nat) : Nat := W ^ k * (q / W ^ k)
theorem hiV_put (q m : Nat) : put W (hiV q (m + 1)) m (dgt W q m) = hiV q m := by
  unfold hiV
  have h0 : dgt W (W ^ (m + 1) * (q / W ^ (m + 1))) m = 0 := by
    have := dgt_add_mul (b := W) W0 0 (q / W ^ (m + 1)) (i := m) (L := m + 1) (by omega)
    rw [Nat.zero_add] at this
    rw [this, dgt_def]; simp
  rw [put_new _ _ _ W0 h0, div_eq_dgt W0 q m, Nat.mul_add, Nat.pow_succ, Nat.mul_assoc, Nat.add_comm]
theorem hiV_zero (q : Nat) : hiV q 0 = q := by unfold hiV; rw [Nat.pow_zero, Nat.one_mul, Nat.div_one]
theorem hiV_top {q L : Nat} (h : q < W ^ L) : hiV q L = 0 := by unfold hiV; rw [Nat.div_eq_of_lt h, Nat.mul_zero]
end Go.Proofs.YtjkonfopajihdaaDoor
