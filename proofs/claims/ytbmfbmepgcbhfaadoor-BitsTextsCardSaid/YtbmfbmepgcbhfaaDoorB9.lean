/- Contracts: At, Up, Down of both. -/
import Derived.Test.YtbmfbmepgcbhfaaDoorB8
set_option linter.unusedSimpArgs false
set_option linter.unusedVariables false
namespace Go.Proofs.YtbmfbmepgcbhfaaDoor
open Go Go.RowKit Ff
attribute [local go_sem] f_lt f_gt f_eq f_ne

@[irreducible] def nanW : Nat := 9221120237041090561
@[irreducible] def atF (p : Nat) : Nat := if 18437736874454810626 < p then 0 else if p = 18437736874454810626 then nanW else if p < 9218868437227405313 then topped (9218868437227405312 - p) else p - 9218868437227405313
@[irreducible] def atB (p : Nat) : Bool := decide (p ≤ 18437736874454810626)
@[irreducible] def bigP (p : Nat) : Bool := decide (18437736874454810626 < p)
@[irreducible] def nanP (p : Nat) : Bool := decide (p = 18437736874454810626)
@[irreducible] def lowP (p : Nat) : Bool := decide (p < 9218868437227405313)
theorem bigP_iff (p : Nat) : bigP p = true ↔ 18437736874454810626 < p := by unfold bigP; exact decide_eq_true_iff
theorem nanP_iff (p : Nat) : nanP p = true ↔ p = 18437736874454810626 := by unfold nanP; exact decide_eq_true_iff
theorem lowP_iff (p : Nat) : lowP p = true ↔ p < 9218868437227405313 := by unfold lowP; exact decide_eq_true_iff
@[local go_sem] theorem big_p1 (p : Nat) : decide ((18437736874454810626 : Int) < (p : Int)) = bigP p := by
  rw [Bool.eq_iff_iff, decide_eq_true_iff, bigP_iff]; omega
@[local go_sem] theorem big_p2 (p : Nat) : decide ((18437736874454810627 : Int) ≤ (p : Int)) = bigP p := by
  rw [Bool.eq_iff_iff, decide_eq_true_iff, bigP_iff]; omega
@[local go_sem] theorem nan_p (p : Nat) : ((p : Int) == 18437736874454810626) = nanP p := by
  rw [Bool.eq_iff_iff, beq_iff_eq, nanP_iff]; omega
@[local go_sem] theorem low_p1 (p : Nat) : decide ((p : Int) < 9218868437227405313) = lowP p := by
  rw [Bool.eq_iff_iff, decide_eq_true_iff, lowP_iff]; omega
@[local go_sem] theorem low_p2 (p : Nat) : decide ((p : Int) ≤ 9218868437227405312) = lowP p := by
  rw [Bool.eq_iff_iff, decide_eq_true_iff, lowP_iff]; omega
theorem at_big {p : Nat} (h : bigP p = true) : atF p = 0 ∧ atB p = false := by
  have h := (bigP_iff p).1 h
  unfold atF atB; rw [if_pos h, decide_eq_false_iff_not]; exact ⟨rfl, by omega⟩
theorem at_nan {p : Nat} (h : nanP p = true) : atF p = nanW ∧ atB p = true := by
  have h := (nanP_iff p).1 h
  unfold atF atB; rw [if_neg (by omega), if_pos h, decide_eq_true_iff]; exact ⟨rfl, by omega⟩
theorem at_low {p : Nat} (h : lowP p = true) : atF p = topped (9218868437227405312 - p) ∧ atB p = true := by
  have h := (lowP_iff p).1 h
  unfold atF atB; rw [if_neg (by omega), if_neg (by omega), if_pos h, decide_eq_true_iff]; exact ⟨rfl, by omega⟩
theorem at_high {p : Nat} (h1 : bigP p = false) (h2 : nanP p = false) (h3 : lowP p = false) : atF p = p - 9218868437227405313 ∧ atB p = true := by
  have h1 : ¬ 18437736874454810626 < p := fun c => by rw [(bigP_iff p).2 c] at h1; cases h1
  have h2 : ¬ p = 18437736874454810626 := fun c => by rw [(nanP_iff p).2 c] at h2; cases h2
  have h3 : ¬ p < 9218868437227405313 := fun c => by rw [(lowP_iff p).2 c] at h3; cases h3
  unfold atF atB; rw [if_neg h1, if_neg h2, if_neg h3, decide_eq_true_iff]; exact ⟨rfl, by omega⟩
theorem low_or {p : Nat} (h : lowP p = true) : bits BinOp.or IntKind.u64 9223372036854775808 (IntKind.u64.wrap (9218868437227405312 - (p : Int))) = (topped (9218868437227405312 - p) : Int) := by
  have h := (lowP_iff p).1 h
  have e : IntKind.u64.wrap (9218868437227405312 - (p : Int)) = ((9218868437227405312 - p : Nat) : Int) := by rw [IntKind.wrap_u64]; omega
  rw [e, show (9223372036854775808 : Int) = ((9223372036854775808 : Nat) : Int) from rfl, u64_or_nat _ _ (by decide) (by omega), topped_eq]
  congr 1
  exact nat_join 63 _ _ (by decide) (by omega)
theorem high_sub {p : Nat} (hp : p < 18446744073709551616) (h3 : lowP p = false) : IntKind.u64.wrap ((p : Int) - 9218868437227405313) = ((p - 9218868437227405313 : Nat) : Int) := by
  have h3 : ¬ p < 9218868437227405313 := fun c => by rw [(lowP_iff p).2 c] at h3; cases h3
  rw [IntKind.wrap_u64]; omega
theorem low_sub {p : Nat} (h : lowP p = true) : IntKind.u64.wrap (9218868437227405312 - (p : Int)) = ((9218868437227405312 - p : Nat) : Int) := by
  have h := (lowP_iff p).1 h
  rw [IntKind.wrap_u64]; omega
@[irreducible] def lowD (p : Nat) : Nat := 9218868437227405312 - p
@[irreducible] def highD (p : Nat) : Nat := p - 9218868437227405313
theorem high_sub2 {p : Nat} (hp : p < 18446744073709551616) (h3 : lowP p = false) : IntKind.u64.wrap (IntKind.u64.wrap ((p : Int) - 9218868437227405312) - 1) = ((highD p : Nat) : Int) := by
  have h3 : ¬ p < 9218868437227405313 := fun c => by rw [(lowP_iff p).2 c] at h3; cases h3
  obtain ⟨d, rfl⟩ : ∃ d, p = 9218868437227405313 + d := ⟨p - 9218868437227405313, by omega⟩
  have e1 : highD (9218868437227405313 + d) = d := by unfold highD; omega
  rw [e1, IntKind.wrap_u64, IntKind.wrap_u64]; omega
theorem at_tests {p : Nat} : (nanP p = true → bigP p = false) ∧ (lowP p = true → bigP p = false ∧ nanP p = false) := by
  refine ⟨fun h => ?_, fun h => ⟨?_, ?_⟩⟩
  · have h := (nanP_iff p).1 h; unfold bigP; rw [decide_eq_false_iff_not]; omega
  · have h := (lowP_iff p).1 h; unfold bigP; rw [decide_eq_false_iff_not]; omega
  · have h := (lowP_iff p).1 h; unfold nanP; rw [decide_eq_false_iff_not]; omega

theorem ext_nan (w : World) : (callFunc 4 #[.int .u64 9221120237041090561]).run Tryd.prog w = .ok (.value (.float .f64 nanW)) w := by
  unfold nanW; kernel_rfl
theorem NaN_c (w : World) : Calls Tryd.prog 12 #[] w fun e w' => e = .returned (.float .f64 nanW) ∧ w = w' := by
  have h12 : ∀ w, (callFunc 4 #[.int .u64 9221120237041090561]).run Tryd.prog w = .ok (.value (.float .f64 nanW)) w := ext_nan
  go_enter Tryd.func12, Tryd.ntmps12
  go_wp2
  go_ret
  exact ⟨rfl, rfl⟩
end Go.Proofs.YtbmfbmepgcbhfaaDoor
