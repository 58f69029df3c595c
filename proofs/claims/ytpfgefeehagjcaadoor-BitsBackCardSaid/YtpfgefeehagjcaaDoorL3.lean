/- The law BitsBetween over whatever world holds the tables. -/
import Derived.Test.YtpfgefeehagjcaaDoorL2
set_option linter.unusedSimpArgs false
set_option linter.unusedVariables false
namespace Go.Proofs.YtpfgefeehagjcaaDoor
open Go Go.RowKit Go.Sort Ff
attribute [local go_sem] f_lt f_gt f_eq f_ne

theorem up_srung {x : Nat} (hx : x < 18446744073709551616) (h : ¬ isn x) (h' : infW x = false) : ¬ isn (upF x) ∧ srung (upF x) = srung x + 1 := by
  by_cases h0 : rung x = 0
  · rw [up_zero h h' h0, (srung_eq_zero x).2 h0]; exact ⟨by decide, by decide⟩
  · cases s : sgn x
    · have hf := fin_not hx h h' s
      rw [up_pos h h' h0 s, srung_pos s]
      have e := sgn_rung hx s
      have q := rung_low (r := x + 1) (by omega)
      rw [srung_pos q.2, q.1]; unfold isn; rw [q.1]; exact ⟨by omega, by omega⟩
    · have hr := rung_lt x
      rw [up_neg h h' h0 s, srung_neg s]
      have e := sgn_rung' hx s
      have q := rung_top (r := rung x - 1) (by omega)
      rw [show x - 1 = topped (rung x - 1) by rw [topped_eq] at e ⊢; omega, srung_neg q.2, q.1]
      unfold isn at h ⊢; rw [q.1]; exact ⟨by omega, by omega⟩
theorem neg_srung {x : Nat} (hx : x < 18446744073709551616) : srung (negW x) = - srung x := by
  have q := negW_rung hx
  unfold srung; rw [q.1, q.2]; cases sgn x <;> simp
theorem down_srung {x : Nat} (hx : x < 18446744073709551616) (h : ¬ isn x) (h' : infW (negW x) = false) : ¬ isn (downF x) ∧ srung (downF x) = srung x - 1 := by
  have hn := negW_lt hx
  obtain ⟨a, b⟩ := up_srung hn (fun c => h ((negW_isn hx).1 c)) h'
  unfold downF
  rw [neg_srung (up_lt hn), b, neg_srung hx]
  exact ⟨fun c => a ((negW_isn (up_lt hn)).1 c), by omega⟩
theorem down_lt {x : Nat} (hx : x < 18446744073709551616) : downF x < 18446744073709551616 := by
  unfold downF; exact negW_lt (up_lt (negW_lt hx))
theorem inf_srung {x : Nat} (hx : x < 18446744073709551616) (h : ¬ isn x) : infW x = true ↔ srung x = 9218868437227405312 := by
  rw [infW_iff]
  cases s : sgn x
  · rw [srung_pos s, sgn_rung hx s]; omega
  · rw [srung_neg s]; have e := sgn_rung' hx s; rw [topped_eq] at e; omega
theorem srung_le {x : Nat} (h : ¬ isn x) : -9218868437227405312 ≤ srung x ∧ srung x ≤ 9218868437227405312 := by
  unfold isn at h; unfold srung; split <;> omega

theorem Inf_1 (w : World) : Calls Tryd.prog 43 #[.int .i64 1] w fun e w' => e = .returned (.float .f64 9218868437227405312) ∧ w = w' := by
  have h12 : ∀ w, (callFunc 12 #[.int .u64 9218868437227405312]).run Tryd.prog w = .ok (.value (.float .f64 9218868437227405312)) w := fun w => by kernel_rfl
  go_enter Tryd.func43, Tryd.ntmps43
  go_wp2
  go_ret
  exact ⟨rfl, rfl⟩
theorem Inf_m1 (w : World) : Calls Tryd.prog 43 #[.int .i64 (-1)] w fun e w' => e = .returned (.float .f64 18442240474082181120) ∧ w = w' := by
  have h12 : ∀ w, (callFunc 12 #[.int .u64 18442240474082181120]).run Tryd.prog w = .ok (.value (.float .f64 18442240474082181120)) w := fun w => by kernel_rfl
  go_enter Tryd.func43, Tryd.ntmps43
  go_wp2
  go_ret
  exact ⟨rfl, rfl⟩

theorem flt_false {x y : Nat} (h : ¬ (¬ isn x ∧ ¬ isn y ∧ srung x < srung y)) : fltB x y = false := by unfold fltB; exact decide_eq_false h
theorem feq_false {x y : Nat} (h : ¬ (¬ isn x ∧ ¬ isn y ∧ srung x = srung y)) : feqB x y = false := by unfold feqB; exact decide_eq_false h
theorem TabR.drew {w : World} (h : TabR w) : TabR w.drew := h.below (Below.refl _ _).drew
theorem feq_nanAt (w : World) (x y : Nat) : feqB (nanAt w x y) 0 = false := feq_false (fun c => c.1 (nanAt_isn w x y))
theorem sr_minf : srung 18442240474082181120 = -9218868437227405312 := by decide
theorem sr_pinf : srung 9218868437227405312 = 9218868437227405312 := by decide
theorem BitsBetween_nan (x y : Nat) (hx : x < 18446744073709551616) (i : isn x) (w : World) (ht : TabR w) :
    Calls Tryd.prog 9 #[.int .u64 x, .int .u64 y] w fun e w' => e = .returned (.bool true) ∧ Below w.heap.size w w' := by
  have h12 := ext_from
  have f1 := up_nan i
  have f2 := down_nan hx i
  have f3 := feq_nn i
  go_enter Tryd.func9, Tryd.ntmps9
  go_wp2_with (first | (go_at_call 27; refine (Up_c _ (by assumption) _).mono ?_; rintro e w' ⟨rfl, rfl⟩) | (go_at_call 29; refine (Down_c _ (by assumption) _).mono ?_; rintro e w' ⟨rfl, rfl⟩) | (go_at_call 20; refine (lives_c _ ht).mono ?_; rintro e w' ⟨rfl, hb⟩))
  all_goals go_ret
  all_goals exact ⟨rfl, by assumption⟩
theorem BitsBetween_pinf (x y : Nat) (hx : x < 18446744073709551616) (i : ¬ isn x) (hf : infW x = true) (w : World) (ht : TabR w) :
    Calls Tryd.prog 9 #[.int .u64 x, .int .u64 y] w fun e w' => e = .returned (.bool true) ∧ Below w.heap.size w w' := by
  have h12 := ext_from
  have hs := (inf_srung hx i).1 hf
  have hx' := (infW_iff x).1 hf
  have hn : infW (negW x) = false := by
    cases c : infW (negW x)
    · rfl
    · have := (inf_srung (negW_lt hx) (fun d => i ((negW_isn hx).1 d))).1 c
      rw [neg_srung hx] at this; omega
  obtain ⟨d1, d2⟩ := down_srung hx i hn
  have f0 := feq_ok i
  have f1 : fltB x 9218868437227405312 = false := flt_false (by rw [hx']; intro c; exact Int.lt_irrefl _ c.2.2)
  have f1b : fltB 18442240474082181120 x = true := (flt_iff _ _).2 ⟨by decide, i, by rw [sr_minf]; omega⟩
  have f2 : fltB x (downF x) = false := flt_false (by intro c; have := c.2.2; omega)
  have f3 : feqB (downF x) x = false := feq_false (by intro c; have := c.2.2; omega)
  have f4 : fltB x y = false := flt_false (by intro c; have := srung_le c.2.1; have := c.2.2; omega)
  have f5 : fltB (downF x) y = true → fltB y x = false := fun a => flt_false (by intro c; have := c.2.2; have := ((flt_iff _ _).1 a).2.2; omega)
  have f6 : feqB x 0 = false := feq_nz (by rw [hx']; decide)
  have f7 := run_sub_nan 23 x x (sub_inf x (by rw [hx']; decide))
  have f8 := feq_nanAt w x x
  have H5 := Lib.hid f5
  clear f5 hx' hs d1 d2
  cases c : fltB (downF x) y
  case' true => have f9 := H5.out c
  all_goals
    go_enter Tryd.func9, Tryd.ntmps9
    go_wp2_with (first | (go_at_call 27; refine (Up_c _ (by assumption) _).mono ?_; rintro e w' ⟨rfl, rfl⟩) | (go_at_call 29; refine (Down_c _ (by assumption) _).mono ?_; rintro e w' ⟨rfl, rfl⟩) | (go_at_call 20; refine (lives_c _ ht.drew).mono ?_; rintro e w' ⟨rfl, hb⟩))
    refine (Inf_1 _).mono ?_; rintro e w' ⟨rfl, rfl⟩
    go_wp2_with (first | (go_at_call 27; refine (Up_c _ (by assumption) _).mono ?_; rintro e w' ⟨rfl, rfl⟩) | (go_at_call 29; refine (Down_c _ (by assumption) _).mono ?_; rintro e w' ⟨rfl, rfl⟩) | (go_at_call 20; refine (lives_c _ ht.drew).mono ?_; rintro e w' ⟨rfl, hb⟩))
    refine (Inf_m1 _).mono ?_; rintro e w' ⟨rfl, rfl⟩
    go_wp2_with (first | (go_at_call 27; refine (Up_c _ (by assumption) _).mono ?_; rintro e w' ⟨rfl, rfl⟩) | (go_at_call 29; refine (Down_c _ (by assumption) _).mono ?_; rintro e w' ⟨rfl, rfl⟩) | (go_at_call 20; refine (lives_c _ ht.drew).mono ?_; rintro e w' ⟨rfl, hb⟩))
    all_goals go_ret
    all_goals exact ⟨rfl, ((Below.refl _ _).drew).trans (hb.mono (Nat.le_refl _))⟩
theorem BitsBetween_minf (x y : Nat) (hx : x < 18446744073709551616) (i : ¬ isn x) (hf : infW (negW x) = true) (w : World) (ht : TabR w) :
    Calls Tryd.prog 9 #[.int .u64 x, .int .u64 y] w fun e w' => e = .returned (.bool true) ∧ Below w.heap.size w w' := by
  have h12 := ext_from
  have i' : ¬ isn (negW x) := fun d => i ((negW_isn hx).1 d)
  have hs : srung x = -9218868437227405312 := by have := (inf_srung (negW_lt hx) i').1 hf; rw [neg_srung hx] at this; omega
  have hn : infW x = false := by
    cases c : infW x
    · rfl
    · have := (inf_srung hx i).1 c; omega
  obtain ⟨d1, d2⟩ := up_srung hx i hn
  have hr : rung x = 9218868437227405312 := by unfold srung at hs; have := rung_lt x; split at hs <;> omega
  have f0 := feq_ok i
  have e0 : srung 18442240474082181120 = -9218868437227405312 := by decide
  have f1 : fltB 18442240474082181120 x = false := flt_false (by intro c; have := c.2.2; omega)
  have f1b : fltB x 9218868437227405312 = true := (flt_iff _ _).2 ⟨i, by decide, by rw [sr_pinf]; omega⟩
  have f2 : fltB (upF x) x = false := flt_false (by intro c; have := c.2.2; omega)
  have f3 : feqB (upF x) x = false := feq_false (by intro c; have := c.2.2; omega)
  have f4 : fltB y x = false := flt_false (by intro c; have := srung_le c.1; have := c.2.2; omega)
  have f5 : fltB x y = true → fltB y (upF x) = false := fun a => flt_false (by intro c; have := c.2.2; have := ((flt_iff _ _).1 a).2.2; omega)
  have f6 : feqB x 0 = false := feq_nz (by omega)
  have f7 := run_sub_nan 23 x x (sub_inf x hr)
  have f8 := feq_nanAt w x x
  have H5 := Lib.hid f5
  clear f5 hs d1 d2 e0 hr
  cases c : fltB x y
  case' true => have f9 := H5.out c
  all_goals
    go_enter Tryd.func9, Tryd.ntmps9
    go_wp2_with (first | (go_at_call 27; refine (Up_c _ (by assumption) _).mono ?_; rintro e w' ⟨rfl, rfl⟩) | (go_at_call 29; refine (Down_c _ (by assumption) _).mono ?_; rintro e w' ⟨rfl, rfl⟩) | (go_at_call 20; refine (lives_c _ ht.drew).mono ?_; rintro e w' ⟨rfl, hb⟩))
    refine (Inf_1 _).mono ?_; rintro e w' ⟨rfl, rfl⟩
    go_wp2_with (first | (go_at_call 27; refine (Up_c _ (by assumption) _).mono ?_; rintro e w' ⟨rfl, rfl⟩) | (go_at_call 29; refine (Down_c _ (by assumption) _).mono ?_; rintro e w' ⟨rfl, rfl⟩) | (go_at_call 20; refine (lives_c _ ht.drew).mono ?_; rintro e w' ⟨rfl, hb⟩))
    refine (Inf_m1 _).mono ?_; rintro e w' ⟨rfl, rfl⟩
    go_wp2_with (first | (go_at_call 27; refine (Up_c _ (by assumption) _).mono ?_; rintro e w' ⟨rfl, rfl⟩) | (go_at_call 29; refine (Down_c _ (by assumption) _).mono ?_; rintro e w' ⟨rfl, rfl⟩) | (go_at_call 20; refine (lives_c _ ht.drew).mono ?_; rintro e w' ⟨rfl, hb⟩))
    all_goals go_ret
    all_goals exact ⟨rfl, ((Below.refl _ _).drew).trans (hb.mono (Nat.le_refl _))⟩
theorem BitsBetween_fin (x y : Nat) (hx : x < 18446744073709551616) (i : ¬ isn x) (hp : infW x = false) (hm : infW (negW x) = false) (w : World) (ht : TabR w) :
    Calls Tryd.prog 9 #[.int .u64 x, .int .u64 y] w fun e w' => e = .returned (.bool true) ∧ Below w.heap.size w w' := by
  have h12 := ext_from
  have i' : ¬ isn (negW x) := fun d => i ((negW_isn hx).1 d)
  obtain ⟨u1, u2⟩ := up_srung hx i hp
  obtain ⟨d1, d2⟩ := down_srung hx i hm
  have hul := up_lt hx
  have hdl := down_lt hx
  have b1 : srung x ≠ 9218868437227405312 := fun c => by rw [(inf_srung hx i).2 c] at hp; cases hp
  have b2 : srung x ≠ -9218868437227405312 := fun c => by rw [(inf_srung (negW_lt hx) i').2 (by rw [neg_srung hx, c]; rfl)] at hm; cases hm
  have b3 := srung_le i
  have hr : rung x < 9218868437227405312 := by
    unfold isn at i
    cases s : sgn x
    · rw [srung_pos s] at b1; omega
    · rw [srung_neg s] at b2; omega
  have q1 : infW (negW (upF x)) = false := by
    cases c : infW (negW (upF x))
    · rfl
    · have := (inf_srung (negW_lt hul) (fun d => u1 ((negW_isn hul).1 d))).1 c
      rw [neg_srung hul, u2] at this; omega
  have q2 : infW (downF x) = false := by
    cases c : infW (downF x)
    · rfl
    · have := (inf_srung hdl d1).1 c; omega
  obtain ⟨r1, r2⟩ := down_srung hul u1 q1
  obtain ⟨t1, t2⟩ := up_srung hdl d1 q2
  have f0 := feq_ok i
  have f2 : fltB x (downF x) = false := flt_false (by intro c; have := c.2.2; omega)
  have f3 : feqB (downF x) x = false := feq_false (by intro c; have := c.2.2; omega)
  have f1a : fltB x 9218868437227405312 = true := (flt_iff _ _).2 ⟨i, by decide, by rw [sr_pinf]; omega⟩
  have f1b : fltB 18442240474082181120 x = true := (flt_iff _ _).2 ⟨by decide, i, by rw [sr_minf]; omega⟩
  have f2' : fltB (upF x) x = false := flt_false (by intro c; have := c.2.2; omega)
  have f3' : feqB (upF x) x = false := feq_false (by intro c; have := c.2.2; omega)
  have f5 : fltB (downF x) y = true → fltB y x = false := fun a => flt_false (by intro c; have := c.2.2; have := ((flt_iff _ _).1 a).2.2; omega)
  have f5' : fltB x y = true → fltB y (upF x) = false := fun a => flt_false (by intro c; have := c.2.2; have := ((flt_iff _ _).1 a).2.2; omega)
  have f7 := fun w => run_float_arith (P := Tryd.prog) w .sub 23 .f64 x x 0 (sub_self x hr)
  have f8 : feqB 0 0 = true := feq_z (by decide)
  have f9 : feqB (downF (upF x)) x = true := (feq_iff _ _).2 ⟨r1, i, by omega⟩
  have f9' : feqB (upF (downF x)) x = true := (feq_iff _ _).2 ⟨t1, i, by omega⟩
  have H5 := Lib.hid f5
  have H5' := Lib.hid f5'
  clear f5 f5' u2 d2 r2 t2 b1 b2 b3 hr
  cases c : fltB (downF x) y
  case' true => have f10 := H5.out c
  all_goals cases c' : fltB x y
  case' true.true => have f11 := H5'.out c'
  case' false.true => have f11 := H5'.out c'
  all_goals
    go_enter Tryd.func9, Tryd.ntmps9
    go_wp2_with (first | (go_at_call 27; refine (Up_c _ (by assumption) _).mono ?_; rintro e w' ⟨rfl, rfl⟩) | (go_at_call 29; refine (Down_c _ (by assumption) _).mono ?_; rintro e w' ⟨rfl, rfl⟩) | (go_at_call 20; refine (lives_c _ ht).mono ?_; rintro e w' ⟨rfl, hb⟩))
    refine (Inf_1 _).mono ?_; rintro e w' ⟨rfl, rfl⟩
    go_wp2_with (first | (go_at_call 27; refine (Up_c _ (by assumption) _).mono ?_; rintro e w' ⟨rfl, rfl⟩) | (go_at_call 29; refine (Down_c _ (by assumption) _).mono ?_; rintro e w' ⟨rfl, rfl⟩) | (go_at_call 20; refine (lives_c _ ht).mono ?_; rintro e w' ⟨rfl, hb⟩))
    refine (Inf_m1 _).mono ?_; rintro e w' ⟨rfl, rfl⟩
    go_wp2_with (first | (go_at_call 27; refine (Up_c _ (by assumption) _).mono ?_; rintro e w' ⟨rfl, rfl⟩) | (go_at_call 29; refine (Down_c _ (by assumption) _).mono ?_; rintro e w' ⟨rfl, rfl⟩) | (go_at_call 20; refine (lives_c _ ht).mono ?_; rintro e w' ⟨rfl, hb⟩))
    all_goals go_ret
    all_goals exact ⟨rfl, by assumption⟩
theorem BitsBetween_law (x y : Nat) (hx : x < 18446744073709551616) (hy : y < 18446744073709551616) (w : World) (ht : TabR w) :
    Calls Tryd.prog 9 #[.int .u64 x, .int .u64 y] w fun e w' => e = .returned (.bool true) ∧ Below w.heap.size w w' := by
  by_cases i : isn x
  · exact BitsBetween_nan x y hx i w ht
  · cases hp : infW x
    · cases hm : infW (negW x)
      · exact BitsBetween_fin x y hx i hp hm w ht
      · exact BitsBetween_minf x y hx i hm w ht
    · exact BitsBetween_pinf x y hx i hp w ht
end Go.Proofs.YtpfgefeehagjcaaDoor
