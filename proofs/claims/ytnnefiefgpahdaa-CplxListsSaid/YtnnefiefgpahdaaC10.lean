/- The calls whose answers the document fixes. -/
import Derived.Test.YtnnefiefgpahdaaC9
set_option linter.unusedSimpArgs false
set_option linter.unusedVariables false
namespace Go.Proofs.Ytnnefiefgpahdaa
open Go Go.RowKit Ff
attribute [local go_sem] f_lt f_gt f_eq f_ne run_add run_sub run_mul run_quo k_inf k_nan finC_ne

theorem feq_lit (x : Nat) (h : ¬ isn x) : feqB x x = true := feq_ok h
theorem Sum_awake (B : Nat) (w : World) (h0 : w.cell? ⟨B, 0, none⟩ = some (.complex .f64 4607182418800017408 4611686018427387904)) (h1 : w.cell? ⟨B, 1, none⟩ = some (.complex .f64 4613937818241073152 4616189618054758400)) (h2 : w.cell? ⟨B, 2, none⟩ = some (.complex .f64 4607182418800017408 4611686018427387904)) :
    Calls Try.prog 6 #[.slice (some ⟨B, 0, none⟩) 3 3] w (CPost 4617315517961601024 4620693217682128896 w) := by
  have h := Sum_c [(4607182418800017408, 4611686018427387904), (4613937818241073152, 4616189618054758400), (4607182418800017408, 4611686018427387904)] ⟨B, 0, none⟩ 3 w (by decide) (by
    intro k hk
    rcases (show k = 0 ∨ k = 1 ∨ k = 2 by simp at hk; omega) with rfl | rfl | rfl
    · exact h0
    · exact h1
    · exact h2)
  rw [sum_awake] at h
  exact h
theorem awake_c (w : World) : Calls Try.prog 10 #[] w fun e w' => e = .returned (.bool true) ∧ Below w.heap.size w w' := by
  have l1 : feqB 13840687554816376832 13840687554816376832 = true := feq_lit _ (by decide)
  have l2 : feqB 4621819117588971520 4621819117588971520 = true := feq_lit _ (by decide)
  have l3 : feqB 13837309855095848960 13837309855095848960 = true := feq_lit _ (by decide)
  have l4 : feqB 4616189618054758400 4616189618054758400 = true := feq_lit _ (by decide)
  have l5 : feqB 4617315517961601024 4617315517961601024 = true := feq_lit _ (by decide)
  have l6 : feqB 4620693217682128896 4620693217682128896 = true := feq_lit _ (by decide)
  have l7 : feqB 9221120237041090561 9221120237041090561 = false := feq_nn (by decide)
  have l8 : sameB 9221120237041090561 0 9221120237041090561 0 = true := same_of (like_refl _) (like_refl _)
  have l9 := hi_awake
  have l10 : ckind 9221120237041090561 0 = 2 := by decide +kernel
  go_enter Try.func10, Try.ntmps10
  go_wp2_with (first
    | (go_at_call 17; refine (NaN_c5 _).mono ?_; rintro e w' ⟨rfl, rfl⟩)
    | (go_at_call 15; refine (Mul_c _ _ _ _ _).mono ?_; rw [mul_awake.1, mul_awake.2]; intro e w' hp; obtain ⟨_, rfl, rfl⟩ := hp.fixed (by decide) (by decide); clear hp)
    | (go_at_call 18; refine (Square_c _ _ _).mono ?_; rw [sqr_awake.1, sqr_awake.2]; intro e w' hp; obtain ⟨_, rfl, rfl⟩ := hp.fixed (by decide) (by decide); clear hp)
    | (go_at_call 19; refine (Same_c5 _ _ _ _ _).mono ?_; rintro e w' ⟨rfl, rfl⟩)
    | (go_at_call 20; refine (Equal_c _ _ _ _ _).mono ?_; rintro e w' ⟨rfl, rfl⟩)
    | (go_at_call 6; refine (Sum_awake _ _ ((World.cell?_alloc_at _ _ _ _ rfl).trans rfl) ((World.cell?_alloc_at _ _ _ _ rfl).trans rfl) ((World.cell?_alloc_at _ _ _ _ rfl).trans rfl)).mono ?_; intro e w' hp; obtain ⟨_, rfl, rfl⟩ := hp.fixed (by decide) (by decide); clear hp)
    | (go_at_call 21; refine (Hi_c _ _ (by decide) (by decide) _).mono ?_; intro e w' hp; obtain ⟨_, rfl, rfl⟩ := hp.fixed (by unfold hiF finC bigF smallF fltB hiV upF sqF fop; decide +kernel); clear hp)
    | (go_at_call 22; refine (Lo_c _ _ (by decide) (by decide) _).mono ?_; intro e w' hp; obtain ⟨_, rfl, rfl⟩ := hp.fixed (by unfold loF finC bigF smallF fltB loV underF downF upF sqF fop fltB; decide +kernel); clear hp)
    | (go_at_call 23; refine (Kind_c5 _ _ (by decide) (by decide) _).mono ?_; rintro e w' ⟨rfl, rfl⟩))
  all_goals go_ret
  all_goals exact ⟨rfl, below_drewN ((below_drewN (Below.refl _ _) _).alloc (Nat.le_refl _) _) _⟩
end Go.Proofs.Ytnnefiefgpahdaa
