/- Contracts of package cplx and of the document's answer: arithmetic. -/
import Derived.Test.YtnnefiefgpahdaaC1
set_option linter.unusedSimpArgs false
set_option linter.unusedVariables false
namespace Go.Proofs.Ytnnefiefgpahdaa
open Go Go.RowKit Ff
attribute [local go_sem] f_lt f_gt f_eq f_ne run_add run_sub run_mul run_quo

/-- An operation's answer, a fixed NaN where there is no number. -/
@[irreducible] def fop (op : BinOp) (x y : Nat) : Nat := match floatBits op .f64 x y with
  | some r => r
  | none => nanW
theorem nanW_isn : isn nanW := by unfold nanW; decide
theorem nanW_lt : nanW < 18446744073709551616 := by unfold nanW; decide
theorem fop_some {op : BinOp} {x y r : Nat} (h : floatBits op .f64 x y = some r) : fop op x y = r := by unfold fop; rw [h]
theorem fop_none {op : BinOp} {x y : Nat} (h : floatBits op .f64 x y = none) : fop op x y = nanW := by unfold fop; rw [h]
theorem op_fop {op : BinOp} {x x' y y' : Nat} {w : World} (h : likeB x x' = true) (k : likeB y y' = true) : likeB (opAt op w x y) (fop op x' y') = true := by
  refine like_trans (op_like (w' := w) h k) ?_
  cases e : floatBits op .f64 x' y' with
  | some r => rw [opAt_some e, fop_some e]; exact like_refl r
  | none => rw [fop_none e]; exact (like_iff _ _).2 (Or.inl ⟨opAt_none e w, nanW_isn⟩)
theorem fop_like {op : BinOp} {x x' y y' : Nat} (h : likeB x x' = true) (k : likeB y y' = true) : likeB (fop op x y) (fop op x' y') = true := by
  have w : World := default
  exact like_trans (like_symm (op_fop (w := w) (like_refl x) (like_refl y))) (op_fop h k)

/-- A complex number comes back, its parts alike these; only draws happened. -/
def CPost (re im : Nat) (w : World) (e : Ending) (w' : World) : Prop := ∃ a b n, e = .returned (.complex .f64 a b) ∧ likeB a re = true ∧ likeB b im = true ∧ w' = w.drewN n
def FPost (r : Nat) (w : World) (e : Ending) (w' : World) : Prop := ∃ a n, e = .returned (.float .f64 a) ∧ likeB a r = true ∧ w' = w.drewN n

def addR (a b c d : Nat) : Nat := fop .add a c
def addI (a b c d : Nat) : Nat := fop .add b d
def subR (a b c d : Nat) : Nat := fop .sub a c
def subI (a b c d : Nat) : Nat := fop .sub b d
def mulR (a b c d : Nat) : Nat := fop .sub (fop .mul a c) (fop .mul b d)
def mulI (a b c d : Nat) : Nat := fop .add (fop .mul a d) (fop .mul b c)
def sqrR (a b : Nat) : Nat := fop .mul (fop .sub a b) (fop .add a b)
def sqrI (a b : Nat) : Nat := fop .mul (fop .mul 4611686018427387904 a) b

theorem Add_c (a b c d : Nat) (w : World) : Calls Try.prog 13 #[.complex .f64 a b, .complex .f64 c d] w (CPost (addR a b c d) (addI a b c d) w) := by
  go_enter Try.func13, Try.ntmps13
  go_wp2
  go_ret
  exact ⟨_, _, _, rfl, op_fop (like_refl _) (like_refl _), op_fop (like_refl _) (like_refl _), rfl⟩
theorem rAdd_c (a b c d : Nat) (w : World) : Calls Try.prog 14 #[.complex .f64 a b, .complex .f64 c d] w (CPost (addR a b c d) (addI a b c d) w) := by
  go_enter Try.func14, Try.ntmps14
  go_wp2
  go_ret
  exact ⟨_, _, _, rfl, op_fop (like_refl _) (like_refl _), op_fop (like_refl _) (like_refl _), rfl⟩
theorem Mul_c (a b c d : Nat) (w : World) : Calls Try.prog 15 #[.complex .f64 a b, .complex .f64 c d] w (CPost (mulR a b c d) (mulI a b c d) w) := by
  go_enter Try.func15, Try.ntmps15
  go_wp2
  go_ret
  exact ⟨_, _, _, rfl, op_fop (op_fop (like_refl _) (like_refl _)) (op_fop (like_refl _) (like_refl _)), op_fop (op_fop (like_refl _) (like_refl _)) (op_fop (like_refl _) (like_refl _)), rfl⟩
theorem rMul_c (a b c d : Nat) (w : World) : Calls Try.prog 16 #[.complex .f64 a b, .complex .f64 c d] w (CPost (mulR a b c d) (mulI a b c d) w) := by
  go_enter Try.func16, Try.ntmps16
  go_wp2
  go_ret
  exact ⟨_, _, _, rfl, op_fop (op_fop (like_refl _) (like_refl _)) (op_fop (like_refl _) (like_refl _)), op_fop (op_fop (like_refl _) (like_refl _)) (op_fop (like_refl _) (like_refl _)), rfl⟩
theorem Square_c (a b : Nat) (w : World) : Calls Try.prog 18 #[.complex .f64 a b] w (CPost (sqrR a b) (sqrI a b) w) := by
  go_enter Try.func18, Try.ntmps18
  go_wp2
  go_ret
  exact ⟨_, _, _, rfl, op_fop (op_fop (like_refl _) (like_refl _)) (op_fop (like_refl _) (like_refl _)), op_fop (op_fop (like_refl _) (like_refl _)) (like_refl _), rfl⟩
end Go.Proofs.Ytnnefiefgpahdaa
