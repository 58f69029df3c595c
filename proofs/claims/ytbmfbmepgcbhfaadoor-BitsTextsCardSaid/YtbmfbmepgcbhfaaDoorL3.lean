/- The law BitsBetween over whatever world holds the tables. -/
import Derived.Test.YtbmfbmepgcbhfaaDoorL2
set_option linter.unusedSimpArgs false
set_option linter.unusedVariables false
namespace Go.Proofs.YtbmfbmepgcbhfaaDoor
open Go Go.RowKit Go.Sort Ff
attribute [local go_sem] f_lt f_gt f_eq f_ne

theorem up_srung {x : Nat} (hx : x < 18446744073709551616) (h : ¬ isn x) (h' : infW x = false) : ¬ isn (upF x) ∧ srung (upF x) = srung x + 1 := by
  by_cases h0 : rung x = 0
  · rw [up_zero h h' h0, (srung_eq_zero x).2 h0]; exact ⟨by decide, by decide⟩
  · cases s : sgn x
    · have hf := fin_not hx h h' s
      rw [up_pos h h' h0 s, srung_pos s]
      have e := sgn_rung hx s
      have q := rung_low (r := x + 1) (by omega)
      rw [srung_pos q.2, q.1]; unfold isn; rw [q.1]; exact ⟨by omega, by omega⟩
    · have hr := rung_lt x
      rw [up_neg h h' h0 s, srung_neg s]
      have e := sgn_rung' hx s
      have q := rung_top (r := rung x - 1) (by omega)
      rw [show x - 1 = topped (rung x - 1) by rw [topped_eq] at e ⊢; omega, srung_neg q.2, q.1]
      unfold isn at h ⊢; rw [q.1]; exact ⟨by omega, by omega⟩
theorem neg_srung {x : Nat} (hx : x < 18446744073709551616) : srung (negW x) = - srung x := by
  have q := negW_rung hx
  unfold srung; rw [q.1, q.2]; cases sgn x <;> simp
theorem down_srung {x : Nat} (hx : x < 18446744073709551616) (h : ¬ isn x) (h' : infW (negW x) = false) : ¬ isn (downF x) ∧ srung (downF x) = srung x - 1 := by
  have hn := negW_lt hx
  obtain ⟨a, b⟩ := up_srung hn (fun c => h ((negW_isn hx).1 c)) h'
  unfold downF
  rw [neg_srung (up_lt hn), b, neg_srung hx]
  exact ⟨fun c => a ((negW_isn (up_lt hn)).1 c), by omega⟩
theorem down_lt {x : Nat} (hx : x < 18446744073709551616) : downF x < 18446744073709551616 := by
  unfold downF; exact negW_lt (up_lt (negW_lt hx))
theorem inf_srung {x : Nat} (hx : x < 18446744073709551616) (h : ¬ isn x) : infW x = true ↔ srung x = 9218868437227405312 := by
  rw [infW_iff]
  cases s : sgn x
  · rw [srung_pos s, sgn_rung hx s]; omega
  · rw [srung_neg s]; have e := sgn_rung' hx s; rw [topped_eq] at e; omega
theorem srung_le {x : Nat} (h : ¬ isn x) : -9218868437227405312 ≤ srung x ∧ srung x ≤ 9218868437227405312 := by
  unfold isn at h; unfold srung; split <;> omega

theorem Inf_1 (w : World) : Calls Tryd.prog 30 #[.int .i64 1] w fun e w' => e = .returned (.float .f64 9218868437227405312) ∧ w = w' := by
  have h12 : ∀ w, (callFunc 4 #[.int .u64 9218868437227405312]).run Tryd.prog w = .ok (.value (.float .f64 9218868437227405312)) w := fun w => by kernel_rfl
  go_enter Tryd.func30, Tryd.ntmps30
  go_wp2
  go_ret
  exact ⟨rfl, rfl⟩
theorem Inf_m1 (w : World) : Calls Tryd.prog 30 #[.int .i64 (-1)] w fun e w' => e = .returned (.float .f64 18442240474082181120) ∧ w = w' := by
  have h12 : ∀ w, (callFunc 4 #[.int .u64 18442240474082181120]).run Tryd.prog w = .ok (.value (.float .f64 18442240474082181120)) w := fun w => by kernel_rfl
  go_enter Tryd.func30, Tryd.ntmps30
  go_wp2
  go_ret
  exact ⟨rfl, rfl⟩

theorem flt_false {x y : Nat} (h : ¬ (¬ isn x ∧ ¬ isn y ∧ srung x < srung y)) : fltB x y = false := by unfold fltB; exact decide_eq_false h
theorem feq_false {x y : Nat} (h : ¬ (¬ isn x ∧ ¬ isn y ∧ srung x = srung y)) : feqB x y = false := by unfold feqB; exact decide_eq_false h
theorem TabR.drew {w : World} (h : TabR w) : TabR w.drew := h.below (Below.refl _ _).drew
theorem feq_nanAt (w : World) (x y : Nat) : feqB (nanAt w x y) 0 = false := feq_false (fun c => c.1 (nanAt_isn w x y))
theorem sr_minf : srung 18442240474082181120 = -9218868437227405312 := by decide
theorem sr_pinf : srung 9218868437227405312 = 9218868437227405312 := by decide
end Go.Proofs.YtbmfbmepgcbhfaaDoor
