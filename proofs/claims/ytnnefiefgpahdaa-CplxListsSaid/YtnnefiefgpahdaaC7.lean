/- Contracts of package cplx and of the document's answer: the bounds of a magnitude. -/
import Derived.Test.YtnnefiefgpahdaaC6
set_option linter.unusedSimpArgs false
set_option linter.unusedVariables false
namespace Go.Proofs.Ytnnefiefgpahdaa
open Go Go.RowKit Ff
attribute [local go_sem] f_lt f_gt f_eq f_ne run_add run_sub run_mul run_quo k_inf k_nan

@[irreducible] def bigF (a b : Nat) : Nat := if fltB (rung a) (rung b) then rung b else rung a
@[irreducible] def smallF (a b : Nat) : Nat := if fltB (rung a) (rung b) then rung a else rung b
theorem sides_c (a b : Nat) (ha : a < 18446744073709551616) (hb : b < 18446744073709551616) (w : World) : Calls Try.prog 27 #[.complex .f64 a b] w fun e w' => e = .returned (.tuple #[.float .f64 (bigF a b), .float .f64 (smallF a b)]) ∧ w = w' := by
  have H1 : Hid (bigF a b = if fltB (rung a) (rung b) then rung b else rung a) := Lib.hid (by unfold bigF; rfl)
  have H2 : Hid (smallF a b = if fltB (rung a) (rung b) then rung a else rung b) := Lib.hid (by unfold smallF; rfl)
  cases h : fltB (rung a) (rung b)
  all_goals
    rw [h] at H1 H2
    go_enter Try.func27, Try.ntmps27
    go_wp2_with (go_at_call 34; refine (Abs_c _ (by assumption) _).mono ?_; rintro e w' ⟨rfl, rfl⟩)
    all_goals go_ret2
    all_goals exact ⟨by rw [H1.out, H2.out]; rfl, rfl⟩
/-- Down, but not below +0. -/
@[irreducible] def underF (x : Nat) : Nat := if isn (downF x) then nanW else if fltB (downF x) 0 then 0 else downF x
theorem under_like {x y : Nat} (h : likeB x y = true) (hx : x < 18446744073709551616) (hy : y < 18446744073709551616) : likeB (underF x) (underF y) = true := by
  rcases (like_iff _ _).1 h with ⟨a, b⟩ | rfl
  · unfold underF; rw [down_nan hx a, down_nan hy b, if_pos a, if_pos b]; exact like_refl _
  · exact like_refl _
theorem up_ne_zero (x : Nat) : upF x ≠ 0 := by
  unfold upF
  by_cases h : isn x
  · rw [if_pos h]; intro c; subst c; exact isn_zero h
  · rw [if_neg h]
    by_cases h2 : x = 9218868437227405312
    · rw [if_pos h2]; omega
    · rw [if_neg h2]
      by_cases h3 : rung x = 0
      · rw [if_pos h3]; omega
      · rw [if_neg h3]
        cases s : sgn x
        · rw [if_neg (by simp)]; omega
        · rw [if_pos rfl]; unfold sgn at s; rw [beq_iff_eq] at s; omega
theorem down_sgn {x : Nat} (hx : x < 18446744073709551616) (h : rung (downF x) = 0) : downF x = 0 := by
  have hl := up_lt (negW_lt hx)
  have h1 := up_ne_zero (negW x)
  unfold downF at h ⊢
  rw [(negW_rung hl).1] at h
  cases s : sgn (upF (negW x))
  · exact absurd ((sgn_rung hl s).symm.trans h) h1
  · rw [neg_neg hl s]; exact h
theorem mm_isn (t y : Nat) : isn ((Question.nanMinMax .f64 true y 0).cut t) := by
  unfold Question.cut isn rung
  simp only
  have h2 : t / 2 % (2 ^ 52 - 1) < 4503599627370495 := Nat.mod_lt _ (by decide)
  generalize t / 2 % (2 ^ 52 - 1) = u at h2
  have h3 : t % 2 = 0 ∨ t % 2 = 1 := by omega
  rcases h3 with h3 | h3 <;> rw [h3] <;> omega
@[irreducible] def mmAt (w : World) (y : Nat) : Nat := (Question.nanMinMax .f64 true y 0).cut (w.tape w.drawn (.nanMinMax .f64 true y 0))
theorem mmAt_isn (w : World) (y : Nat) : isn (mmAt w y) := by unfold mmAt; exact mm_isn _ _
theorem max_fold (ats : Array TypeId) (ty : TypeId) (y : Nat) : Builtin.max_ ats ty #[.float .f64 y, .float .f64 0] = (do pure (← Builtin.max2 (.float .f64 y) (.float .f64 0)) : Sem Value) := by
  unfold Builtin.max_; simp [List.foldlM]
theorem max_ord (y : Nat) : Builtin.max2 (.float .f64 y) (.float .f64 0) = (match FloatKind.f64.format.order y 0 with
    | none => (do pure (Value.float .f64 (← choose (.nanMinMax .f64 true y 0))) : Sem Value)
    | some .lt => pure (Value.float .f64 0)
    | some .gt => pure (Value.float .f64 y)
    | some .eq => pure (Value.float .f64 (if (FloatKind.f64.decode y).neg then 0 else y))) := rfl
theorem max_nan {y : Nat} (h : isn y) (ats : Array TypeId) (ty : TypeId) (w : World) : (Builtin.max_ ats ty #[.float .f64 y, .float .f64 0]).run Try.prog w = .ok (.float .f64 (mmAt w y)) w.drew := by
  rw [max_fold, max_ord, ord_cmp, if_pos (Or.inl h)]
  simp [Question.forced, mmAt]
theorem max_lt0 {y : Nat} (h : fltB y 0 = true) (ats : Array TypeId) (ty : TypeId) (w : World) : (Builtin.max_ ats ty #[.float .f64 y, .float .f64 0]).run Try.prog w = .ok (.float .f64 0) w := by
  unfold fltB at h; rw [decide_eq_true_iff] at h
  rw [max_fold, max_ord, ord_cmp, if_neg (fun c => c.elim h.1 h.2.1), (cmp_lt _ _).2 h.2.2]; rfl
theorem max_ge0 {y : Nat} (i : ¬ isn y) (h : fltB y 0 = false) (hz : rung y = 0 → y = 0) (ats : Array TypeId) (ty : TypeId) (w : World) : (Builtin.max_ ats ty #[.float .f64 y, .float .f64 0]).run Try.prog w = .ok (.float .f64 y) w := by
  unfold fltB at h; rw [decide_eq_false_iff_not] at h
  rw [max_fold, max_ord, ord_cmp, if_neg (fun c => c.elim i isn_zero)]
  by_cases g : srung 0 < srung y
  · rw [(cmp_gt _ _).2 g]; rfl
  · have e : srung y = srung 0 := by
      have : ¬ srung y < srung 0 := fun c => h ⟨i, isn_zero, c⟩
      omega
    rw [(cmp_eq _ _).2 e]
    rw [srung_zero, srung_eq_zero] at e
    have := hz e; subst this; rfl
theorem under_c (x : Nat) (hx : x < 18446744073709551616) (w : World) : Calls Try.prog 30 #[.float .f64 x] w (FPost (underF x) w) := by
  have hd := down_lt5 hx
  by_cases i : isn (downF x)
  · have H : Hid (underF x = nanW) := Lib.hid (by unfold underF; rw [if_pos i])
    have f := max_nan i
    go_enter Try.func30, Try.ntmps30
    go_wp2_with (go_at_call 36; refine (Down_c _ (by assumption) _).mono ?_; rintro e w' ⟨rfl, rfl⟩)
    all_goals go_ret
    all_goals exact ⟨_, 1, rfl, by rw [H.out]; exact (like_iff _ _).2 (Or.inl ⟨mmAt_isn _ _, nanW_isn⟩), rfl⟩
  · have H : Hid (underF x = if fltB (downF x) 0 then 0 else downF x) := Lib.hid (by unfold underF; rw [if_neg i])
    cases g : fltB (downF x) 0
    · rw [g] at H
      have f := max_ge0 i g (down_sgn hx)
      go_enter Try.func30, Try.ntmps30
      go_wp2_with (go_at_call 36; refine (Down_c _ (by assumption) _).mono ?_; rintro e w' ⟨rfl, rfl⟩)
      all_goals go_ret
      all_goals exact ⟨_, 0, rfl, by rw [H.out]; exact like_refl _, rfl⟩
    · rw [g] at H
      have f := max_lt0 g
      go_enter Try.func30, Try.ntmps30
      go_wp2_with (go_at_call 36; refine (Down_c _ (by assumption) _).mono ?_; rintro e w' ⟨rfl, rfl⟩)
      all_goals go_ret
      all_goals exact ⟨_, 0, rfl, by rw [H.out]; exact like_refl _, rfl⟩
end Go.Proofs.Ytnnefiefgpahdaa
