/- The laws BitsGo, BitsBetween over whatever world holds the tables. -/
import Derived.Test.YtbmfbmepgcbhfaaDoorL1
set_option linter.unusedSimpArgs false
set_option linter.unusedVariables false
namespace Go.Proofs.YtbmfbmepgcbhfaaDoor
open Go Go.RowKit Go.Sort Ff
attribute [local go_sem] f_lt f_gt f_eq f_ne

theorem flt_iff (x y : Nat) : fltB x y = true ↔ ¬ isn x ∧ ¬ isn y ∧ srung x < srung y := by unfold fltB; exact decide_eq_true_iff
theorem feq_iff (x y : Nat) : feqB x y = true ↔ ¬ isn x ∧ ¬ isn y ∧ srung x = srung y := by unfold feqB; exact decide_eq_true_iff
theorem srung_pos {x : Nat} (s : sgn x = false) : srung x = rung x := by unfold srung; rw [s]; rfl
theorem srung_neg {x : Nat} (s : sgn x = true) : srung x = -(rung x : Int) := by unfold srung; rw [s]; rfl
theorem place_mono {x y : Nat} (h : fltB x y = true) : place x < place y := by
  obtain ⟨h1, h2, h3⟩ := (flt_iff x y).1 h
  cases s : sgn x <;> cases t : sgn y
  · rw [place_pos h1 s, place_pos h2 t]; rw [srung_pos s, srung_pos t] at h3; omega
  · rw [srung_pos s, srung_neg t] at h3; omega
  · rw [place_neg h1 s, place_pos h2 t]; omega
  · rw [place_neg h1 s, place_neg h2 t]; rw [srung_neg s, srung_neg t] at h3; unfold isn at h1 h2; omega
theorem place_inj {x y : Nat} (hx : x < 18446744073709551616) (hy : y < 18446744073709551616) (h : place x = place y) : likeB x y = true := by
  unfold likeB; rw [decide_eq_true_iff]
  have hrx := rung_lt x
  have hry := rung_lt y
  by_cases i : isn x <;> by_cases j : isn y
  · exact Or.inl ⟨i, j⟩
  · exfalso; rw [place_nan i] at h; cases t : sgn y
    · rw [place_pos j t] at h; unfold isn at j; omega
    · rw [place_neg j t] at h; omega
  · exfalso; rw [place_nan j] at h; cases t : sgn x
    · rw [place_pos i t] at h; unfold isn at i; omega
    · rw [place_neg i t] at h; omega
  · right
    cases s : sgn x <;> cases t : sgn y
    · rw [place_pos i s, place_pos j t] at h; have := sgn_rung hx s; have := sgn_rung hy t; omega
    · rw [place_pos i s, place_neg j t] at h; omega
    · rw [place_neg i s, place_pos j t] at h; omega
    · rw [place_neg i s, place_neg j t] at h; have e1 := sgn_rung' hx s; have e2 := sgn_rung' hy t
      have e3 : rung x = rung y := by unfold isn at i j; omega
      rw [e1, e2, e3]
theorem like_place {x y : Nat} (h : likeB x y = true) : place x = place y := by
  unfold likeB at h; rw [decide_eq_true_iff] at h
  rcases h with ⟨i, j⟩ | h
  · rw [place_nan i, place_nan j]
  · rw [h]
theorem like_no {x y : Nat} (h : place x ≠ place y) : likeB x y = false := by
  cases c : likeB x y
  · rfl
  · exact absurd (like_place c) h
theorem flt_no {x y : Nat} (h : ¬ place x < place y) : fltB x y = false := by
  cases c : fltB x y
  · rfl
  · exact absurd (place_mono c) h
theorem nan_top {x y : Nat} (h : place x < place y) : ¬ isn x := fun c => by have := place_le y; rw [place_nan c] at h; omega
theorem zero_signs {x y : Nat} (h : place x < place y) (hx : rung x = 0) (hy : rung y = 0) : sgn x = true ∧ sgn y = false := by
  have i : ¬ isn x := nan_top h
  have j : ¬ isn y := by unfold isn; omega
  cases s : sgn x <;> cases t : sgn y
  · rw [place_pos i s, place_pos j t] at h; omega
  · rw [place_pos i s, place_neg j t] at h; omega
  · exact ⟨rfl, rfl⟩
  · rw [place_neg i s, place_neg j t] at h; omega
theorem neg_ok {x : Nat} (h : ¬ isn x) : (!decide (isn x) && sgn x) = sgn x := by simp [h]

end Go.Proofs.YtbmfbmepgcbhfaaDoor
