/- Float arithmetic up to the bits of a NaN. -/
import Derived.Test.YtnnefiefgpahdaaB10
import Derived.Laws.ComplexArith
import Derived.Deep.Draws
set_option linter.unusedSimpArgs false
set_option linter.unusedVariables false
namespace Go.Proofs.Ytnnefiefgpahdaa
open Go Go.RowKit Ff
attribute [local go_sem] f_lt f_gt f_eq f_ne

/-- What an operation gives in a world: where it has no number the tape says which NaN. -/
@[irreducible] def opAt (op : BinOp) (w : World) (x y : Nat) : Nat := match floatBits op .f64 x y with
  | some r => r
  | none => (Question.nanBits .f64 x y).cut (w.tape w.drawn (.nanBits .f64 x y))
@[irreducible] def opN (op : BinOp) (x y : Nat) : Nat := match floatBits op .f64 x y with
  | some _ => 0
  | none => 1
theorem nan_cut (w : World) (x y : Nat) : isn ((Question.nanBits .f64 x y).cut (w.tape w.drawn (.nanBits .f64 x y))) := by
  have := nanAt_isn w x y; unfold nanAt at this; exact this
theorem run_op {op : BinOp} (ho : op = .add ∨ op = .sub ∨ op = .mul ∨ op = .quo) (t : TypeId) (x y : Nat) (w : World) :
    (binOp op t (.float .f64 x) (.float .f64 y)).run Try.prog w = .ok (.float .f64 (opAt op w x y)) (w.drewN (opN op x y)) := by
  unfold opAt opN
  cases h : floatBits op .f64 x y with
  | some r => exact run_float_arith (P := Try.prog) w op t .f64 x y r h
  | none =>
    rcases ho with rfl | rfl | rfl | rfl
    all_goals
      unfold floatBits at h
      simp only at h
      simp [binOp, Op.floatArith, h, Question.forced]
      rfl
@[local go_sem] theorem run_add (t : TypeId) (x y : Nat) (w : World) : (binOp .add t (.float .f64 x) (.float .f64 y)).run Try.prog w = .ok (.float .f64 (opAt .add w x y)) (w.drewN (opN .add x y)) := run_op (Or.inl rfl) t x y w
@[local go_sem] theorem run_sub (t : TypeId) (x y : Nat) (w : World) : (binOp .sub t (.float .f64 x) (.float .f64 y)).run Try.prog w = .ok (.float .f64 (opAt .sub w x y)) (w.drewN (opN .sub x y)) := run_op (Or.inr (Or.inl rfl)) t x y w
@[local go_sem] theorem run_mul (t : TypeId) (x y : Nat) (w : World) : (binOp .mul t (.float .f64 x) (.float .f64 y)).run Try.prog w = .ok (.float .f64 (opAt .mul w x y)) (w.drewN (opN .mul x y)) := run_op (Or.inr (Or.inr (Or.inl rfl))) t x y w
@[local go_sem] theorem run_quo (t : TypeId) (x y : Nat) (w : World) : (binOp .quo t (.float .f64 x) (.float .f64 y)).run Try.prog w = .ok (.float .f64 (opAt .quo w x y)) (w.drewN (opN .quo x y)) := run_op (Or.inr (Or.inr (Or.inr rfl))) t x y w

theorem like_iff (x y : Nat) : likeB x y = true ↔ isn x ∧ isn y ∨ x = y := by unfold likeB; exact decide_eq_true_iff
theorem like_refl (x : Nat) : likeB x x = true := (like_iff x x).2 (Or.inr rfl)
theorem like_symm {x y : Nat} (h : likeB x y = true) : likeB y x = true := by
  rw [like_iff] at h ⊢; rcases h with ⟨a, b⟩ | h
  · exact Or.inl ⟨b, a⟩
  · exact Or.inr h.symm
theorem like_trans {x y z : Nat} (h : likeB x y = true) (k : likeB y z = true) : likeB x z = true := by
  rw [like_iff] at h k ⊢
  rcases h with ⟨a, b⟩ | rfl
  · rcases k with ⟨c, d⟩ | rfl
    · exact Or.inl ⟨a, d⟩
    · exact Or.inl ⟨a, b⟩
  · exact k
theorem floatBits_nan {op : BinOp} {x y : Nat} (h : isn x ∨ isn y) : floatBits op .f64 x y = none := by
  have e1 : ∀ x, isn x → ∃ s t, Ieee.double.read x = .nan s t := fun x h => ⟨_, _, read_nan h⟩
  unfold floatBits
  cases op <;> simp only
  · show Ieee.double.add x y = none
    unfold Ieee.Format.add
    rcases h with h | h
    · obtain ⟨s, t, e⟩ := e1 x h; rw [e]; rfl
    · obtain ⟨s, t, e⟩ := e1 y h; rw [e]; cases Ieee.double.read x <;> rfl
  · show Ieee.double.sub x y = none
    unfold Ieee.Format.sub
    rcases h with h | h
    · obtain ⟨s, t, e⟩ := e1 x h; rw [e]; rfl
    · obtain ⟨s, t, e⟩ := e1 y h; rw [e]; cases Ieee.double.read x <;> rfl
  · show Ieee.double.mul x y = none
    unfold Ieee.Format.mul
    rcases h with h | h
    · obtain ⟨s, t, e⟩ := e1 x h; rw [e]; rfl
    · obtain ⟨s, t, e⟩ := e1 y h; rw [e]; cases Ieee.double.read x <;> rfl
  · show Ieee.double.div x y = none
    unfold Ieee.Format.div
    rcases h with h | h
    · obtain ⟨s, t, e⟩ := e1 x h; rw [e]; rfl
    · obtain ⟨s, t, e⟩ := e1 y h; rw [e]; cases Ieee.double.read x <;> rfl
theorem opAt_none {op : BinOp} {x y : Nat} (h : floatBits op .f64 x y = none) (w : World) : isn (opAt op w x y) := by
  unfold opAt; rw [h]; exact nan_cut w x y
theorem opAt_nan {op : BinOp} {x y : Nat} (h : isn x ∨ isn y) (w : World) : isn (opAt op w x y) := opAt_none (floatBits_nan h) w
theorem opAt_some {op : BinOp} {x y r : Nat} (h : floatBits op .f64 x y = some r) (w : World) : opAt op w x y = r := by
  unfold opAt; rw [h]
/-- Operations of alike operands are alike, in whatever worlds. -/
theorem op_like {op : BinOp} {x x' y y' : Nat} {w w' : World} (h : likeB x x' = true) (k : likeB y y' = true) : likeB (opAt op w x y) (opAt op w' x' y') = true := by
  rw [like_iff] at h k
  rcases h with ⟨a, b⟩ | rfl
  · exact (like_iff _ _).2 (Or.inl ⟨opAt_nan (Or.inl a) w, opAt_nan (Or.inl b) w'⟩)
  · rcases k with ⟨c, d⟩ | rfl
    · exact (like_iff _ _).2 (Or.inl ⟨opAt_nan (Or.inr c) w, opAt_nan (Or.inr d) w'⟩)
    · cases e : floatBits op .f64 x y with
      | some r => rw [opAt_some e, opAt_some e]; exact like_refl r
      | none => exact (like_iff _ _).2 (Or.inl ⟨opAt_none e w, opAt_none e w'⟩)
end Go.Proofs.Ytnnefiefgpahdaa
