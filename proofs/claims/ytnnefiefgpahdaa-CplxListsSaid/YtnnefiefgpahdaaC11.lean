/- Contracts: narrow complex numbers of package cplx and of the document's answer. -/
import Derived.Test.YtnnefiefgpahdaaC10
import Derived.Test.YtnnefiefgpahdaaFr
set_option linter.unusedSimpArgs false
set_option linter.unusedVariables false
namespace Go.Proofs.Ytnnefiefgpahdaa
open Go Go.RowKit Ff
attribute [local go_sem] f_lt f_gt f_eq f_ne run_add run_sub run_mul run_quo k_inf k_nan finC_ne

/-- What a conversion gives in a world. -/
@[irreducible] def cvAt (src dst : FloatKind) (w : World) (x : Nat) : Nat := match src.decode x with
  | .nan _ _ => (Question.nanConv dst x).cut (w.tape w.drawn (.nanConv dst x))
  | .infinity s => dst.encode (.infinity s)
  | .number s m e => if (dst.decode (dst.encode (.number s m e))).isInfinity then (Question.floatToFloat x).cut (w.tape w.drawn (.floatToFloat x)) else dst.encode (.number s m e)
@[irreducible] def cvN (src dst : FloatKind) (x : Nat) : Nat := match src.decode x with
  | .nan _ _ => 1
  | .infinity _ => 0
  | .number s m e => if (dst.decode (dst.encode (.number s m e))).isInfinity then 1 else 0
theorem run_cv {src dst : FloatKind} (h : src ≠ dst) (x : Nat) (w : World) : (Conv.floatToFloat src x dst).run Try.prog w = .ok (.float dst (cvAt src dst w x)) (w.drewN (cvN src dst x)) := by
  unfold cvAt cvN Conv.floatToFloat
  rw [if_neg h]
  cases he : src.decode x with
  | nan s t => simp [Question.forced]; rfl
  | infinity s => rfl
  | number s m e =>
    simp only
    by_cases c : (dst.decode (dst.encode (.number s m e))).isInfinity = true
    · rw [if_pos c, if_pos c, if_pos c]; simp [Question.forced]; rfl
    · rw [if_neg c, if_neg c, if_neg c]; rfl
theorem cv_lt32 (w : World) (x : Nat) : cvAt .f64 .f32 w x < 4294967296 := by
  unfold cvAt
  cases he : FloatKind.f64.decode x with
  | nan s t =>
    simp only; unfold Question.cut; simp only
    generalize w.tape w.drawn (.nanConv .f32 x) = t
    have h2 : t / 2 % (2 ^ 23 - 1) < 8388607 := Nat.mod_lt _ (by decide)
    omega
  | infinity s => exact Ieee.Format.write_lt Ieee.single (.infinity s)
  | number s m e =>
    simp only
    by_cases c : (FloatKind.f32.decode (FloatKind.f32.encode (.number s m e))).isInfinity = true
    · rw [if_pos c]; unfold Question.cut; simp only; omega
    · rw [if_neg c]; exact Ieee.Format.write_lt Ieee.single (.number s m e)
def nan32 (x : Nat) : Prop := 2139095040 < x % 2147483648
instance (x : Nat) : Decidable (nan32 x) := by unfold nan32; exact inferInstance
theorem read32 (x : Nat) : Ieee.single.read x = if x % 2147483648 < 8388608 then .number (x / 2147483648 % 2 == 1) (x % 2147483648) (-149)
      else if x % 2147483648 < 2139095040 then .number (x / 2147483648 % 2 == 1) (8388608 + x % 2147483648 % 8388608) (-149 + ((x % 2147483648 / 8388608 - 1 : Nat) : Int))
      else if x % 2147483648 = 2139095040 then .infinity (x / 2147483648 % 2 == 1) else .nan (x / 2147483648 % 2 == 1) (x % 2147483648 - 2139095040) := by
  obtain ⟨f1, f2, f3, f4, f5⟩ := single_facts
  unfold Ieee.Format.read; rw [f1, f2, f3, f4]
theorem order32 (x : Nat) : (FloatKind.f32.format.order x x != some Ordering.eq) = decide (nan32 x) := by
  show (((Ieee.single.read x).order (Ieee.single.read x)) != some Ordering.eq) = _
  rw [read32]
  by_cases h1 : x % 2147483648 < 8388608
  · rw [if_pos h1]; rw [decide_eq_false (show ¬ nan32 x by unfold nan32; omega)]; simp [Ieee.Datum.order, cmp_eq]
  · rw [if_neg h1]
    by_cases h2 : x % 2147483648 < 2139095040
    · rw [if_pos h2]; rw [decide_eq_false (show ¬ nan32 x by unfold nan32; omega)]; simp [Ieee.Datum.order, cmp_eq]
    · rw [if_neg h2]
      by_cases h3 : x % 2147483648 = 2139095040
      · rw [if_pos h3]; rw [decide_eq_false (show ¬ nan32 x by unfold nan32; omega)]; simp [Ieee.Datum.order]
      · rw [if_neg h3]; rw [decide_eq_true (show nan32 x by unfold nan32; omega)]; rfl
/-- A narrow number, widened and narrowed, is like itself. -/
theorem round32 {x : Nat} (hx : x < 4294967296) (w w' : World) : nan32 x ∧ nan32 (cvAt .f64 .f32 w' (cvAt .f32 .f64 w x)) ∨ cvAt .f64 .f32 w' (cvAt .f32 .f64 w x) = x := by
  by_cases hn : nan32 x
  · left; refine ⟨hn, ?_⟩
    have e1 : FloatKind.f32.decode x = .nan (x / 2147483648 % 2 == 1) (x % 2147483648 - 2139095040) := by
      show Ieee.single.read x = _; rw [read32]; unfold nan32 at hn; rw [if_neg (by omega), if_neg (by omega), if_neg (by omega)]
    have e2 : isn (cvAt .f32 .f64 w x) := by
      unfold cvAt; rw [e1]; simp only; unfold Question.cut isn rung; simp only
      generalize w.tape w.drawn (.nanConv .f64 x) = t
      have h2 : t / 2 % (2 ^ 52 - 1) < 4503599627370495 := Nat.mod_lt _ (by decide)
      generalize t / 2 % (2 ^ 52 - 1) = u at h2
      have h3 : t % 2 = 0 ∨ t % 2 = 1 := by omega
      rcases h3 with h3 | h3 <;> rw [h3] <;> omega
    generalize cvAt .f32 .f64 w x = y at e2
    unfold cvAt
    rw [show FloatKind.f64.decode y = Ieee.double.read y from rfl, read_nan e2]
    simp only; unfold Question.cut nan32; simp only
    generalize w'.tape w'.drawn (.nanConv .f32 y) = t
    have h2 : t / 2 % (2 ^ 23 - 1) < 8388607 := Nat.mod_lt _ (by decide)
    generalize t / 2 % (2 ^ 23 - 1) = u at h2
    have h3 : t % 2 = 0 ∨ t % 2 = 1 := by omega
    rcases h3 with h3 | h3 <;> rw [h3] <;> omega
  · right
    unfold nan32 at hn
    by_cases hi : x % 2147483648 = 2139095040
    · have e1 : FloatKind.f32.decode x = .infinity (x / 2147483648 % 2 == 1) := by
        show Ieee.single.read x = _; rw [read32, if_neg (by omega), if_neg (by omega), if_pos hi]
      have e2 : cvAt .f32 .f64 w x = FloatKind.f64.encode (.infinity (x / 2147483648 % 2 == 1)) := by unfold cvAt; rw [e1]
      rw [e2]
      have e3 : ∀ s, FloatKind.f64.decode (FloatKind.f64.encode (.infinity s)) = .infinity s := by intro s; cases s <;> decide
      have e4 : cvAt .f64 .f32 w' (FloatKind.f64.encode (.infinity (x / 2147483648 % 2 == 1))) = FloatKind.f32.encode (.infinity (x / 2147483648 % 2 == 1)) := by unfold cvAt; rw [e3]
      rw [e4]
      have e5 : FloatKind.f32.encode (.infinity false) = 2139095040 ∧ FloatKind.f32.encode (.infinity true) = 4286578688 := by decide
      rcases (show x / 2147483648 = 0 ∨ x / 2147483648 = 1 by omega) with h | h
      · rw [h]; exact e5.1.trans (by omega)
      · rw [h]; exact e5.2.trans (by omega)
    · obtain ⟨s, m, e, h1, M, p, h2, h3⟩ := widen_fin hx (by omega)
      have e1 : FloatKind.f32.decode x = .number s m e := h1
      have g2 : FloatKind.f64.decode (FloatKind.f64.encode (.number s m e)) = .number s M p := h2
      have e2 : cvAt .f32 .f64 w x = FloatKind.f64.encode (.number s m e) := by
        unfold cvAt; rw [e1]; simp only; rw [g2, if_neg (by simp [Ieee.Datum.isInfinity])]
      have g3 : FloatKind.f32.encode (.number s M p) = x := h3
      rw [e2]; unfold cvAt; rw [g2]; simp only; rw [g3, e1, if_neg (by simp [Ieee.Datum.isInfinity])]
end Go.Proofs.Ytnnefiefgpahdaa
