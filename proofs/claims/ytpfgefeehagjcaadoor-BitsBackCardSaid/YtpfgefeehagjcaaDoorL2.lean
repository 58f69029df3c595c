/- The laws BitsGo, BitsBetween over whatever world holds the tables. -/
import Derived.Test.YtpfgefeehagjcaaDoorL1
set_option linter.unusedSimpArgs false
set_option linter.unusedVariables false
namespace Go.Proofs.YtpfgefeehagjcaaDoor
open Go Go.RowKit Go.Sort Ff
attribute [local go_sem] f_lt f_gt f_eq f_ne

theorem flt_iff (x y : Nat) : fltB x y = true ↔ ¬ isn x ∧ ¬ isn y ∧ srung x < srung y := by unfold fltB; exact decide_eq_true_iff
theorem feq_iff (x y : Nat) : feqB x y = true ↔ ¬ isn x ∧ ¬ isn y ∧ srung x = srung y := by unfold feqB; exact decide_eq_true_iff
theorem srung_pos {x : Nat} (s : sgn x = false) : srung x = rung x := by unfold srung; rw [s]; rfl
theorem srung_neg {x : Nat} (s : sgn x = true) : srung x = -(rung x : Int) := by unfold srung; rw [s]; rfl
theorem place_mono {x y : Nat} (h : fltB x y = true) : place x < place y := by
  obtain ⟨h1, h2, h3⟩ := (flt_iff x y).1 h
  cases s : sgn x <;> cases t : sgn y
  · rw [place_pos h1 s, place_pos h2 t]; rw [srung_pos s, srung_pos t] at h3; omega
  · rw [srung_pos s, srung_neg t] at h3; omega
  · rw [place_neg h1 s, place_pos h2 t]; omega
  · rw [place_neg h1 s, place_neg h2 t]; rw [srung_neg s, srung_neg t] at h3; unfold isn at h1 h2; omega
theorem place_inj {x y : Nat} (hx : x < 18446744073709551616) (hy : y < 18446744073709551616) (h : place x = place y) : likeB x y = true := by
  unfold likeB; rw [decide_eq_true_iff]
  have hrx := rung_lt x
  have hry := rung_lt y
  by_cases i : isn x <;> by_cases j : isn y
  · exact Or.inl ⟨i, j⟩
  · exfalso; rw [place_nan i] at h; cases t : sgn y
    · rw [place_pos j t] at h; unfold isn at j; omega
    · rw [place_neg j t] at h; omega
  · exfalso; rw [place_nan j] at h; cases t : sgn x
    · rw [place_pos i t] at h; unfold isn at i; omega
    · rw [place_neg i t] at h; omega
  · right
    cases s : sgn x <;> cases t : sgn y
    · rw [place_pos i s, place_pos j t] at h; have := sgn_rung hx s; have := sgn_rung hy t; omega
    · rw [place_pos i s, place_neg j t] at h; omega
    · rw [place_neg i s, place_pos j t] at h; omega
    · rw [place_neg i s, place_neg j t] at h; have e1 := sgn_rung' hx s; have e2 := sgn_rung' hy t
      have e3 : rung x = rung y := by unfold isn at i j; omega
      rw [e1, e2, e3]
theorem like_place {x y : Nat} (h : likeB x y = true) : place x = place y := by
  unfold likeB at h; rw [decide_eq_true_iff] at h
  rcases h with ⟨i, j⟩ | h
  · rw [place_nan i, place_nan j]
  · rw [h]
theorem like_no {x y : Nat} (h : place x ≠ place y) : likeB x y = false := by
  cases c : likeB x y
  · rfl
  · exact absurd (like_place c) h
theorem flt_no {x y : Nat} (h : ¬ place x < place y) : fltB x y = false := by
  cases c : fltB x y
  · rfl
  · exact absurd (place_mono c) h
theorem nan_top {x y : Nat} (h : place x < place y) : ¬ isn x := fun c => by have := place_le y; rw [place_nan c] at h; omega
theorem zero_signs {x y : Nat} (h : place x < place y) (hx : rung x = 0) (hy : rung y = 0) : sgn x = true ∧ sgn y = false := by
  have i : ¬ isn x := nan_top h
  have j : ¬ isn y := by unfold isn; omega
  cases s : sgn x <;> cases t : sgn y
  · rw [place_pos i s, place_pos j t] at h; omega
  · rw [place_pos i s, place_neg j t] at h; omega
  · exact ⟨rfl, rfl⟩
  · rw [place_neg i s, place_neg j t] at h; omega
theorem neg_ok {x : Nat} (h : ¬ isn x) : (!decide (isn x) && sgn x) = sgn x := by simp [h]

theorem BitsGo_lt (x y : Nat) (hx : x < 18446744073709551616) (hy : y < 18446744073709551616) (h : place x < place y) (w : World) (ht : TabR w) :
    Calls Tryd.prog 10 #[.int .u64 x, .int .u64 y] w fun e w' => e = .returned (.bool true) ∧ Below w.heap.size w w' := by
  have h12 := ext_from
  have i := nan_top h
  have f1 : ordN (place x) (place y) = -1 := by unfold ordN; rw [if_pos h]
  have f2 : ordN (place y) (place x) = 1 := by unfold ordN; rw [if_neg (by omega), if_pos h]
  have f3 := like_no (Nat.ne_of_lt h)
  have f4 := flt_no (Nat.lt_asymm h)
  have f5 := feq_ok i
  have f7 : (place x : Int) < place y := by omega
  have f8 : ((place x : Int) == (place y : Int)) = false := by rw [beq_eq_false_iff_ne]; omega
  have hz := Lib.hid (zero_signs h)
  cases z1 : feqB x 0
  case' false => skip
  case' true => cases z2 : feqB y 0
  case' true.true => obtain ⟨s1, s2⟩ := hz.out (by rw [feq_zero, decide_eq_true_iff] at z1; exact z1) (by rw [feq_zero, decide_eq_true_iff] at z2; exact z2)
  case' true.true => have f10 := neg_ok (x := y) (by rw [feq_zero, decide_eq_true_iff] at z2; unfold isn; omega)
  case' true.true => have f11 := neg_ok (x := x) (by rw [feq_zero, decide_eq_true_iff] at z1; unfold isn; omega)
  all_goals
    go_enter Tryd.func10, Tryd.ntmps10
    go_wp2_with (first | (go_at_call 32; refine (Order_c _ _ (by assumption) (by assumption) _).mono ?_; rintro e w' ⟨rfl, rfl⟩) | (go_at_call 42; refine (same_c _ _ _).mono ?_; rintro e w' ⟨rfl, rfl⟩) | (go_at_call 31; refine (Like_c _ _ _).mono ?_; rintro e w' ⟨rfl, rfl⟩) | (go_at_call 18; refine (Neg_c _ (by assumption) _).mono ?_; rintro e w' ⟨rfl, rfl⟩) | (go_at_call 36; refine (Place_c _ (by assumption) _).mono ?_; rintro e w' ⟨rfl, rfl⟩) | (go_at_call 20; refine (lives_c _ ht).mono ?_; rintro e w' ⟨rfl, hb⟩))
    all_goals go_ret
    all_goals exact ⟨rfl, by assumption⟩
theorem BitsGo_gt (x y : Nat) (hx : x < 18446744073709551616) (hy : y < 18446744073709551616) (h : place y < place x) (w : World) (ht : TabR w) :
    Calls Tryd.prog 10 #[.int .u64 x, .int .u64 y] w fun e w' => e = .returned (.bool true) ∧ Below w.heap.size w w' := by
  have h12 := ext_from
  have i := nan_top h
  have f1 : ordN (place x) (place y) = 1 := by unfold ordN; rw [if_neg (by omega), if_pos h]
  have f2 : ordN (place y) (place x) = -1 := by unfold ordN; rw [if_pos h]
  have f3 := like_no (Nat.ne_of_gt h)
  have f4 := flt_no (Nat.lt_asymm h)
  have f5 := feq_ok i
  have f7 : ¬ (place x : Int) < place y := by omega
  have f7n : ¬ place x < place y := by omega
  have f8 : ((place x : Int) == (place y : Int)) = false := by rw [beq_eq_false_iff_ne]; omega
  have hz : Hid (rung x = 0 → rung y = 0 → sgn y = true ∧ sgn x = false) := Lib.hid (fun a b => zero_signs h b a)
  cases z1 : feqB x 0
  case' false => skip
  case' true => cases z2 : feqB y 0
  case' true.true => obtain ⟨s1, s2⟩ := hz.out (by rw [feq_zero, decide_eq_true_iff] at z1; exact z1) (by rw [feq_zero, decide_eq_true_iff] at z2; exact z2)
  case' true.true => have f10 := neg_ok (x := y) (by rw [feq_zero, decide_eq_true_iff] at z2; unfold isn; omega)
  case' true.true => have f11 := neg_ok (x := x) (by rw [feq_zero, decide_eq_true_iff] at z1; unfold isn; omega)
  all_goals
    go_enter Tryd.func10, Tryd.ntmps10
    go_wp2_with (first | (go_at_call 32; refine (Order_c _ _ (by assumption) (by assumption) _).mono ?_; rintro e w' ⟨rfl, rfl⟩) | (go_at_call 42; refine (same_c _ _ _).mono ?_; rintro e w' ⟨rfl, rfl⟩) | (go_at_call 31; refine (Like_c _ _ _).mono ?_; rintro e w' ⟨rfl, rfl⟩) | (go_at_call 18; refine (Neg_c _ (by assumption) _).mono ?_; rintro e w' ⟨rfl, rfl⟩) | (go_at_call 36; refine (Place_c _ (by assumption) _).mono ?_; rintro e w' ⟨rfl, rfl⟩) | (go_at_call 20; refine (lives_c _ ht).mono ?_; rintro e w' ⟨rfl, hb⟩))
    all_goals go_ret
    all_goals exact ⟨rfl, by assumption⟩
theorem BitsGo_eq (x y : Nat) (hx : x < 18446744073709551616) (hy : y < 18446744073709551616) (h : place x = place y) (w : World) (ht : TabR w) :
    Calls Tryd.prog 10 #[.int .u64 x, .int .u64 y] w fun e w' => e = .returned (.bool true) ∧ Below w.heap.size w w' := by
  have h12 := ext_from
  have f1 : ordN (place x) (place y) = 0 := by unfold ordN; rw [if_neg (by omega), if_neg (by omega)]
  have f2 : ordN (place y) (place x) = 0 := by unfold ordN; rw [if_neg (by omega), if_neg (by omega)]
  have f3 := place_inj hx hy h
  have f4 := flt_no (Nat.lt_irrefl (place x) : ¬ place x < place x)
  have f5 : fltB x y = false := flt_no (by omega)
  have f6 : fltB y x = false := flt_no (by omega)
  have f8 : ((place x : Int) == (place y : Int)) = true := by rw [beq_iff_eq]; omega
  have f9 : ¬ (place x : Int) < place y := by omega
  have f9n : ¬ place x < place y := by omega
  have hc : isn x ∧ isn y ∨ x = y := by have := f3; unfold likeB at this; exact of_decide_eq_true this
  clear h
  rcases hc with ⟨i, j⟩ | rfl
  · have g1 := feq_nn i
    have g2 := feq_nn j
    have g3 : feqB x 0 = false := by rw [feq_zero, decide_eq_false_iff_not]; unfold isn at i; omega
    go_enter Tryd.func10, Tryd.ntmps10
    go_wp2_with (first | (go_at_call 32; refine (Order_c _ _ (by assumption) (by assumption) _).mono ?_; rintro e w' ⟨rfl, rfl⟩) | (go_at_call 42; refine (same_c _ _ _).mono ?_; rintro e w' ⟨rfl, rfl⟩) | (go_at_call 31; refine (Like_c _ _ _).mono ?_; rintro e w' ⟨rfl, rfl⟩) | (go_at_call 18; refine (Neg_c _ (by assumption) _).mono ?_; rintro e w' ⟨rfl, rfl⟩) | (go_at_call 36; refine (Place_c _ (by assumption) _).mono ?_; rintro e w' ⟨rfl, rfl⟩) | (go_at_call 20; refine (lives_c _ ht).mono ?_; rintro e w' ⟨rfl, hb⟩))
    all_goals go_ret
    all_goals exact ⟨rfl, by assumption⟩
  · cases g1 : feqB x x
    all_goals
      go_enter Tryd.func10, Tryd.ntmps10
      go_wp2_with (first | (go_at_call 32; refine (Order_c _ _ (by assumption) (by assumption) _).mono ?_; rintro e w' ⟨rfl, rfl⟩) | (go_at_call 42; refine (same_c _ _ _).mono ?_; rintro e w' ⟨rfl, rfl⟩) | (go_at_call 31; refine (Like_c _ _ _).mono ?_; rintro e w' ⟨rfl, rfl⟩) | (go_at_call 18; refine (Neg_c _ (by assumption) _).mono ?_; rintro e w' ⟨rfl, rfl⟩) | (go_at_call 36; refine (Place_c _ (by assumption) _).mono ?_; rintro e w' ⟨rfl, rfl⟩) | (go_at_call 20; refine (lives_c _ ht).mono ?_; rintro e w' ⟨rfl, hb⟩))
      all_goals go_ret
      all_goals exact ⟨rfl, by assumption⟩
theorem BitsGo_law (x y : Nat) (hx : x < 18446744073709551616) (hy : y < 18446744073709551616) (w : World) (ht : TabR w) :
    Calls Tryd.prog 10 #[.int .u64 x, .int .u64 y] w fun e w' => e = .returned (.bool true) ∧ Below w.heap.size w w' := by
  rcases Nat.lt_trichotomy (place x) (place y) with h | h | h
  · exact BitsGo_lt x y hx hy h w ht
  · exact BitsGo_eq x y hx hy h w ht
  · exact BitsGo_gt x y hx hy h w ht
end Go.Proofs.YtpfgefeehagjcaaDoor
