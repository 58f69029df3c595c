/- Contracts of package cplx and of the document's answer: parts, quotients, sizes. -/
import Derived.Test.YtnnefiefgpahdaaC4
import Derived.Deep.QuietTactic
import Derived.BigQuiet
set_option linter.unusedSimpArgs false
set_option linter.unusedVariables false
namespace Go.Proofs.Ytnnefiefgpahdaa
open Go Go.RowKit Ff
attribute [local go_sem] f_lt f_gt f_eq f_ne run_add run_sub run_mul run_quo k_inf k_nan

theorem below_drewN {B : Nat} {a w : World} (h : Below B a w) (n : Nat) : Below B a (w.drewN n) := ⟨h.os, h.tape, h.output, h.size, h.block⟩
theorem Abs_c (x : Nat) (hx : x < 18446744073709551616) (w : World) : Calls Try.prog 34 #[.float .f64 x] w fun e w' => e = .returned (.float .f64 (rung x)) ∧ w = w' := by
  have h := ext_from
  have h2 := ext_bits
  have hb := and_not_top x hx
  go_enter Try.func34, Try.ntmps34
  go_wp2
  go_ret
  exact ⟨rfl, rfl⟩
theorem NaN_c5 (w : World) : Calls Try.prog 17 #[] w fun e w' => e = .returned (.float .f64 9221120237041090561) ∧ w = w' := by
  have h : ∀ w, (callFunc 11 #[.int .u64 9221120237041090561]).run Try.prog w = .ok (.value (.float .f64 9221120237041090561)) w := fun w => by kernel_rfl
  go_enter Try.func17, Try.ntmps17
  go_wp2
  go_ret
  exact ⟨rfl, rfl⟩
theorem Inf_15 (w : World) : Calls Try.prog 26 #[.int .i64 1] w fun e w' => e = .returned (.float .f64 9218868437227405312) ∧ w = w' := by
  have h12 : ∀ w, (callFunc 11 #[.int .u64 9218868437227405312]).run Try.prog w = .ok (.value (.float .f64 9218868437227405312)) w := fun w => by kernel_rfl
  go_enter Try.func26, Try.ntmps26
  go_wp2
  go_ret
  exact ⟨rfl, rfl⟩
@[irreducible] def geB (c d : Nat) : Bool := fltB (rung d) (rung c) || feqB (rung c) (rung d)
def qT1 (c d : Nat) : Nat := fop .quo d c
def qN1 (c d : Nat) : Nat := fop .add c (fop .mul d (qT1 c d))
def qT2 (c d : Nat) : Nat := fop .quo c d
def qN2 (c d : Nat) : Nat := fop .add d (fop .mul c (qT2 c d))
@[irreducible] def quoR (a b c d : Nat) : Nat := if geB c d then fop .quo (fop .add a (fop .mul b (qT1 c d))) (qN1 c d) else fop .quo (fop .add (fop .mul a (qT2 c d)) b) (qN2 c d)
@[irreducible] def quoI (a b c d : Nat) : Nat := if geB c d then fop .quo (fop .sub b (fop .mul a (qT1 c d))) (qN1 c d) else fop .quo (fop .sub (fop .mul b (qT2 c d)) a) (qN2 c d)
end Go.Proofs.Ytnnefiefgpahdaa
