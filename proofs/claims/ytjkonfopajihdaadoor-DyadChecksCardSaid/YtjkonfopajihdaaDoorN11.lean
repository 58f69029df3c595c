/- Contracts: math/bits.Div64; limb's Take. -/
import Derived.Test.YtjkonfopajihdaaDoorN10
import Derived.Test.YtjkonfopajihdaaDoorN9
import Derived.Deep.CutBlock
import Derived.Deep.DeepCutAuto
set_option linter.unusedSimpArgs false
set_option linter.unusedVariables false
namespace Go.Proofs.YtjkonfopajihdaaDoor
open Go Go.RowKit Nt

@[irreducible] def b32 (x : Nat) : Bool := decide (4294967296 ≤ x)
theorem b32_true {x : Nat} (h : 4294967296 ≤ x) : b32 x = true := by unfold b32; exact decide_eq_true_iff.2 h
theorem b32_false {x : Nat} (h : ¬ 4294967296 ≤ x) : b32 x = false := by unfold b32; exact decide_eq_false_iff_not.2 h
@[local go_sem] theorem ge_b32 (x : Nat) : decide ((4294967296 : Int) ≤ (x : Int)) = b32 x := by
  unfold b32; rw [Bool.eq_iff_iff, decide_eq_true_iff, decide_eq_true_iff]; omega
theorem wrap_nat (z : Int) : ∃ n : Nat, IntKind.u64.wrap z = (n : Int) := by
  refine ⟨(IntKind.u64.wrap z).toNat, ?_⟩
  rw [IntKind.wrap_u64]; omega
theorem wrap_r (u c Q Y : Nat) (h : Q * Y ≤ u * 4294967296 + c) (h2 : u * 4294967296 + c - Q * Y < 18446744073709551616) :
    IntKind.u64.wrap (IntKind.u64.wrap (IntKind.u64.wrap ((u : Int) * 4294967296) + (c : Int)) - IntKind.u64.wrap ((Q : Int) * (Y : Int))) = ((u * 4294967296 + c - Q * Y : Nat) : Int) := by
  rw [← Int.natCast_mul]
  simp only [IntKind.wrap_u64]
  generalize Q * Y = p at *
  omega
end Go.Proofs.YtjkonfopajihdaaDoor
