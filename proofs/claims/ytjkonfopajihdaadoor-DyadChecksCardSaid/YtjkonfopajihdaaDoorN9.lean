/- Contracts of package limb: Put, Of. -/
import Derived.Test.YtjkonfopajihdaaDoorN8
set_option linter.unusedSimpArgs false
set_option linter.unusedVariables false
namespace Go.Proofs.YtjkonfopajihdaaDoor
open Go Go.RowKit Nt

theorem mca_low (x y m i : Nat) : (dgt W x i * y % 18446744073709551616 + mca W x y m i + 0) % 18446744073709551616 = dgt W (x * y + m) i := by
  rw [Nat.add_zero, two_mod, dgt_mca W0, W_eq]
theorem mca_high (x y m i : Nat) : dgt W x i * y / 18446744073709551616 + (dgt W x i * y % 18446744073709551616 + mca W x y m i + 0) / 18446744073709551616 = mca W x y m (i + 1) := by
  rw [Nat.add_zero, two_div (by omega), mca_succ W0, W_eq]
theorem wadd_nat {a b c : Nat} (h : a + b = c) (hc : c < 18446744073709551616) : IntKind.u64.wrap ((a : Int) + (b : Int)) = (c : Int) := by
  rw [IntKind.wrap_u64, ← Int.natCast_add, h, Int.emod_eq_of_lt (by omega) (by omega)]
end Go.Proofs.YtjkonfopajihdaaDoor
