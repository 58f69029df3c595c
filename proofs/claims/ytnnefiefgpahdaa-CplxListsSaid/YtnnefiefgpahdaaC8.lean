/- Contracts of package cplx and of the document's answer: Hi, Lo. -/
import Derived.Test.YtnnefiefgpahdaaC7
set_option linter.unusedSimpArgs false
set_option linter.unusedVariables false
namespace Go.Proofs.Ytnnefiefgpahdaa
open Go Go.RowKit Ff
attribute [local go_sem] f_lt f_gt f_eq f_ne run_add run_sub run_mul run_quo k_inf k_nan

def oneW : Nat := 4607182418800017408
def hiV (p q : Nat) : Nat := upF (fop .mul p (upF (sqF (upF (fop .add 4607182418800017408 (upF (fop .mul (upF (fop .quo q p)) (upF (fop .quo q p)))))))))
def loV (p q : Nat) : Nat := underF (fop .mul p (underF (sqF (underF (fop .add 4607182418800017408 (underF (fop .mul (underF (fop .quo q p)) (underF (fop .quo q p)))))))))
@[irreducible] def finC (a b : Nat) : Bool := decide (ckind a b = 0)
@[local go_sem] theorem finC_ne (a b : Nat) : ((ckind a b : Int) != 0) = !finC a b := by
  unfold finC; rw [Bool.eq_iff_iff, bne_iff_ne, Bool.not_eq_true', decide_eq_false_iff_not]; omega
@[irreducible] def hiF (a b : Nat) : Nat := if finC a b then (if rung (smallF a b) = 0 then bigF a b else hiV (bigF a b) (smallF a b)) else 9218868437227405312
@[irreducible] def loF (a b : Nat) : Nat := if finC a b then (if rung (smallF a b) = 0 then bigF a b else loV (bigF a b) (smallF a b)) else 0
theorem fop_lt (op : BinOp) (x y : Nat) : fop op x y < 18446744073709551616 := by
  cases h : floatBits op .f64 x y with
  | some r => rw [fop_some h]; exact fb_lt h
  | none => rw [fop_none h]; exact nanW_lt
theorem sqF_lt (x : Nat) : sqF x < 18446744073709551616 := by
  unfold sqF
  cases e : FloatKind.f64.format.sqrt x with
  | some r => exact Ieee.Format.sqrt_lt _ e
  | none => exact nanW_lt
theorem Hi_c (a b : Nat) (ha : a < 18446744073709551616) (hb : b < 18446744073709551616) (w : World) : Calls Try.prog 21 #[.complex .f64 a b] w (FPost (hiF a b) w) := by
  cases f : finC a b
  · have H : Hid (hiF a b = 9218868437227405312) := Lib.hid (by unfold hiF; rw [f]; rfl)
    go_enter Try.func21, Try.ntmps21
    go_wp2_with (first
      | (go_at_call 23; refine (Kind_c5 _ _ (by assumption) (by assumption) _).mono ?_; rintro e w' ⟨rfl, rfl⟩)
      | (go_at_call 26; refine (Inf_15 _).mono ?_; rintro e w' ⟨rfl, rfl⟩))
    all_goals go_ret
    all_goals exact ⟨_, 0, rfl, by rw [H.out]; exact like_refl _, rfl⟩
  · by_cases z : rung (smallF a b) = 0
    · have H : Hid (hiF a b = bigF a b) := Lib.hid (by unfold hiF; rw [if_pos f, if_pos z])
      have hz := feq_z z
      go_enter Try.func21, Try.ntmps21
      go_wp2_with (first
        | (go_at_call 23; refine (Kind_c5 _ _ (by assumption) (by assumption) _).mono ?_; rintro e w' ⟨rfl, rfl⟩)
        | (go_at_call 27; refine (sides_c _ _ (by assumption) (by assumption) _).mono ?_; rintro e w' ⟨rfl, rfl⟩))
      all_goals go_ret
      all_goals exact ⟨_, 0, rfl, by rw [H.out]; exact like_refl _, rfl⟩
    · have H : Hid (hiF a b = hiV (bigF a b) (smallF a b)) := Lib.hid (by unfold hiF; rw [if_pos f, if_neg z])
      have hz := feq_nz z
      go_enter Try.func21, Try.ntmps21
      go_wp2_with (first
        | (go_at_call 23; refine (Kind_c5 _ _ (by assumption) (by assumption) _).mono ?_; rintro e w' ⟨rfl, rfl⟩)
        | (go_at_call 27; refine (sides_c _ _ (by assumption) (by assumption) _).mono ?_; rintro e w' ⟨rfl, rfl⟩)
        | (go_at_call 28; refine (Up_c _ (by first | exact opAt_lt _ _ _ _ | exact sqAt_lt _ _) _).mono ?_; rintro e w' ⟨rfl, rfl⟩)
        | (go_at_call 29; refine (Sqrt_c _ _).mono ?_; rintro e w' ⟨rfl, rfl⟩))
      all_goals go_ret
      all_goals exact ⟨_, _, rfl, by rw [H.out]; unfold hiV; repeat' first | exact like_refl _ | apply up_like | apply op_fop | apply sq_like, rfl⟩
theorem Lo_c (a b : Nat) (ha : a < 18446744073709551616) (hb : b < 18446744073709551616) (w : World) : Calls Try.prog 22 #[.complex .f64 a b] w (FPost (loF a b) w) := by
  cases f : finC a b
  · have H : Hid (loF a b = 0) := Lib.hid (by unfold loF; rw [f]; rfl)
    go_enter Try.func22, Try.ntmps22
    go_wp2_with (go_at_call 23; refine (Kind_c5 _ _ (by assumption) (by assumption) _).mono ?_; rintro e w' ⟨rfl, rfl⟩)
    all_goals go_ret
    all_goals exact ⟨_, 0, rfl, by rw [H.out]; exact like_refl _, rfl⟩
  · by_cases z : rung (smallF a b) = 0
    · have H : Hid (loF a b = bigF a b) := Lib.hid (by unfold loF; rw [if_pos f, if_pos z])
      have hz := feq_z z
      go_enter Try.func22, Try.ntmps22
      go_wp2_with (first
        | (go_at_call 23; refine (Kind_c5 _ _ (by assumption) (by assumption) _).mono ?_; rintro e w' ⟨rfl, rfl⟩)
        | (go_at_call 27; refine (sides_c _ _ (by assumption) (by assumption) _).mono ?_; rintro e w' ⟨rfl, rfl⟩))
      all_goals go_ret
      all_goals exact ⟨_, 0, rfl, by rw [H.out]; exact like_refl _, rfl⟩
    · have H : Hid (loF a b = loV (bigF a b) (smallF a b)) := Lib.hid (by unfold loF; rw [if_pos f, if_neg z])
      have hz := feq_nz z
      go_enter Try.func22, Try.ntmps22
      go_wp2_with (first
        | (go_at_call 23; refine (Kind_c5 _ _ (by assumption) (by assumption) _).mono ?_; rintro e w' ⟨rfl, rfl⟩)
        | (go_at_call 27; refine (sides_c _ _ (by assumption) (by assumption) _).mono ?_; rintro e w' ⟨rfl, rfl⟩)
        | (go_at_call 30; refine (under_c _ (by first | exact opAt_lt _ _ _ _ | exact sqAt_lt _ _) _).mono ?_; rintro e w' ⟨_, _, rfl, _, rfl⟩)
        | (go_at_call 29; refine (Sqrt_c _ _).mono ?_; rintro e w' ⟨rfl, rfl⟩))
      all_goals go_ret
      all_goals exact ⟨_, _, rfl, by rw [H.out]; unfold loV; repeat' first | exact like_refl _ | exact opAt_lt _ _ _ _ | exact sqAt_lt _ _ | exact fop_lt _ _ _ | exact sqF_lt _ | (refine like_trans (by assumption) (under_like ?_ ?_ ?_)) | apply op_fop | apply sq_like, rfl⟩
end Go.Proofs.Ytnnefiefgpahdaa
