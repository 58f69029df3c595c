/- Contracts of package cplx and of the document's answer: what the bounds are made of. -/
import Derived.Test.YtnnefiefgpahdaaC5
import Derived.Laws.FloatBits
set_option linter.unusedSimpArgs false
set_option linter.unusedVariables false
namespace Go.Proofs.Ytnnefiefgpahdaa
open Go Go.RowKit Ff
attribute [local go_sem] f_lt f_gt f_eq f_ne run_add run_sub run_mul run_quo k_inf k_nan

theorem fb_lt {op : BinOp} {x y r : Nat} (h : floatBits op .f64 x y = some r) : r < 18446744073709551616 := by
  unfold floatBits at h
  cases op <;> simp only at h
  all_goals first
    | exact Ieee.Format.add_lt _ h
    | exact Ieee.Format.sub_lt _ h
    | exact Ieee.Format.mul_lt _ h
    | exact Ieee.Format.div_lt _ h
    | cases h
theorem cut_lt (t : Nat) (x y : Nat) : (Question.nanBits .f64 x y).cut t < 18446744073709551616 := by
  unfold Question.cut
  simp only
  have h2 : t / 2 % (2 ^ 52 - 1) < 4503599627370495 := Nat.mod_lt _ (by decide)
  generalize t / 2 % (2 ^ 52 - 1) = u at h2
  have h3 : t % 2 = 0 ∨ t % 2 = 1 := by omega
  rcases h3 with h3 | h3 <;> rw [h3] <;> omega
theorem opAt_lt (op : BinOp) (w : World) (x y : Nat) : opAt op w x y < 18446744073709551616 := by
  cases h : floatBits op .f64 x y with
  | some r => rw [opAt_some h]; exact fb_lt h
  | none => unfold opAt; rw [h]; exact cut_lt _ _ _
@[irreducible] def sqAt (w : World) (x : Nat) : Nat := match FloatKind.f64.format.sqrt x with
  | some r => r
  | none => (Question.nanBits .f64 x x).cut (w.tape w.drawn (.nanBits .f64 x x))
@[irreducible] def sqN (x : Nat) : Nat := match FloatKind.f64.format.sqrt x with
  | some _ => 0
  | none => 1
theorem run_sqrt (x : Nat) (w : World) : (callFunc 35 #[.float .f64 x]).run Try.prog w = .ok (.value (.float .f64 (sqAt w x))) (w.drewN (sqN x)) := by
  have e : (callFunc 35 #[.float .f64 x]).run Try.prog w = (do pure (Next.value (← Extern.MathSqrt.sqrt #[.float .f64 x])) : Sem Next).run Try.prog w := by kernel_rfl
  rw [e]
  have e2 : Extern.MathSqrt.sqrt #[.float .f64 x] = (match FloatKind.f64.format.sqrt x with
    | some r => (pure (Value.float .f64 r) : Sem Value)
    | none => (do pure (Value.float .f64 (← choose (.nanBits .f64 x x))) : Sem Value)) := rfl
  rw [e2]
  unfold sqAt sqN
  cases h : FloatKind.f64.format.sqrt x with
  | some r => rfl
  | none => simp [Question.forced]; rfl
@[irreducible] def sqF (x : Nat) : Nat := match FloatKind.f64.format.sqrt x with
  | some r => r
  | none => nanW
theorem sqrt_nan {x : Nat} (h : isn x) : FloatKind.f64.format.sqrt x = none := by
  show Ieee.double.sqrt x = none
  unfold Ieee.Format.sqrt
  rw [read_nan h]; rfl
theorem sqAt_isn {w : World} {x : Nat} (h : FloatKind.f64.format.sqrt x = none) : isn (sqAt w x) := by
  unfold sqAt; rw [h]; exact nan_cut w x x
theorem sq_like {w : World} {x y : Nat} (h : likeB x y = true) : likeB (sqAt w x) (sqF y) = true := by
  rcases (like_iff _ _).1 h with ⟨a, b⟩ | rfl
  · refine (like_iff _ _).2 (Or.inl ⟨sqAt_isn (sqrt_nan a), ?_⟩)
    unfold sqF; rw [sqrt_nan b]; exact nanW_isn
  · cases e : FloatKind.f64.format.sqrt x with
    | some r => unfold sqAt sqF; rw [e]; exact like_refl r
    | none => refine (like_iff _ _).2 (Or.inl ⟨sqAt_isn e, ?_⟩); unfold sqF; rw [e]; exact nanW_isn
theorem sqAt_lt (w : World) (x : Nat) : sqAt w x < 18446744073709551616 := by
  unfold sqAt
  cases e : FloatKind.f64.format.sqrt x with
  | some r => exact Ieee.Format.sqrt_lt _ e
  | none => exact cut_lt _ _ _
theorem up_like {x y : Nat} (h : likeB x y = true) : likeB (upF x) (upF y) = true := by
  rcases (like_iff _ _).1 h with ⟨a, b⟩ | rfl
  · rw [up_nan a, up_nan b]; exact h
  · exact like_refl _
theorem down_lt5 {x : Nat} (hx : x < 18446744073709551616) : downF x < 18446744073709551616 := by
  unfold downF; exact negW_lt (up_lt (negW_lt hx))
theorem Sqrt_c (x : Nat) (w : World) : Calls Try.prog 29 #[.float .f64 x] w fun e w' => e = .returned (.float .f64 (sqAt w x)) ∧ w' = w.drewN (sqN x) := by
  have h := run_sqrt
  go_enter Try.func29, Try.ntmps29
  go_wp2
  go_ret
  exact ⟨rfl, rfl⟩

theorem down_pos {x : Nat} (hx : x < 18446744073709551616) (h : ¬ isn x) (h0 : rung x ≠ 0) (s : sgn x = false) : downF x = x - 1 := by
  have h1 : ¬ isn (negW x) := fun c => h ((negW_isn hx).1 c)
  have hr := rung_lt x
  have hs : sgn (negW x) = true := by rw [(negW_rung hx).2, s]; rfl
  have hi : infW (negW x) = false := by
    cases c : infW (negW x)
    · rfl
    · rw [infW_iff, neg_pos hx s, topped_eq] at c; omega
  have e := sgn_rung hx s
  unfold downF
  rw [up_neg h1 hi (by rw [(negW_rung hx).1]; exact h0) hs, neg_pos hx s, topped_eq, show 9223372036854775808 + rung x - 1 = topped (rung x - 1) by rw [topped_eq]; omega]
  have q := rung_top (r := rung x - 1) (by omega)
  rw [neg_neg (by rw [topped_eq]; omega) q.2, q.1, e]
theorem down_neg {x : Nat} (hx : x < 18446744073709551616) (h : ¬ isn x) (hi : infW (negW x) = false) (h0 : rung x ≠ 0) (s : sgn x = true) : downF x = x + 1 := by
  have h1 : ¬ isn (negW x) := fun c => h ((negW_isn hx).1 c)
  have hr := rung_lt x
  have hs : sgn (negW x) = false := by rw [(negW_rung hx).2, s]; rfl
  have hb := fin_not (negW_lt hx) h1 hi hs
  rw [(negW_rung hx).1] at hb
  have e := sgn_rung' hx s
  rw [topped_eq] at e
  unfold downF
  rw [up_pos h1 hi (by rw [(negW_rung hx).1]; exact h0) hs, neg_neg hx s]
  have q := rung_low (r := rung x + 1) (by omega)
  rw [neg_pos (by omega) q.2, q.1, topped_eq]; omega
end Go.Proofs.Ytnnefiefgpahdaa
