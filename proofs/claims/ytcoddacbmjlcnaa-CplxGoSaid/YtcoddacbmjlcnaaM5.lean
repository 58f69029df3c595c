/- Laws of layer 5: CplxOrder. -/
import Derived.Test.YtcoddacbmjlcnaaM4
set_option linter.unusedSimpArgs false
set_option linter.unusedVariables false
namespace Go.Proofs.Ytcoddacbmjlcnaa
open Go Go.RowKit Ff
attribute [local go_sem] f_lt f_gt f_eq f_ne run_add run_sub run_mul run_quo k_inf k_nan finC_ne

theorem below_three {w : World} (x y z : Obj) (n : Nat) : Below w.heap.size w ((((w.alloc x).alloc y).alloc z).drewN n) := below_drewN ((((Below.refl _ _).alloc (Nat.le_refl _) _).alloc (by simp) _).alloc (by simp; omega) _) _
set_option maxHeartbeats 1000000 in
theorem CplxOrder_law (a b c d f g : Nat) (ha : a < 18446744073709551616) (hb0 : b < 18446744073709551616) (hc : c < 18446744073709551616) (hd : d < 18446744073709551616) (hf0 : f < 18446744073709551616) (hg : g < 18446744073709551616) (w : World) : Calls Try.prog 12 #[.agg #[.int .u64 a, .int .u64 b], .agg #[.int .u64 c, .int .u64 d], .agg #[.int .u64 f, .int .u64 g]] w fun e w' => e = .returned (.bool true) ∧ Below w.heap.size w w' := by
  have hf := ext_from
  have bd := ord5_bd a b c d
  have an := ord5_anti c d a b
  have sz := ord5_zero ha hb0 hc hd
  by_cases p1 : ord5 a b c d = 1
  · have p2 : ord5 c d a b = -1 := by omega
    have p3 : sameB a b c d = false := by rw [← sz, p1]; rfl
    clear bd an sz
    go_enter Try.func12, Try.ntmps12
    go_wp2
    go_quiet ((go_at_call 13; exact Calls.quiet_of_same ((of_c _ _ _).mono fun _ _ h => ⟨h.1, h.2.symm⟩)))
    go_wp2_with (first
      | (go_at_call 31; refine (Same_c5 _ _ _ _ _).mono ?_; rintro e w' ⟨rfl, rfl⟩)
      | (go_at_call 34; refine (Order_c5 _ _ _ _ (by assumption) (by assumption) (by assumption) (by assumption) _).mono ?_; rintro e w' ⟨rfl, rfl⟩)
      | (go_at_call 30; refine (awake_c _).mono ?_; rintro e w' ⟨rfl, hb⟩))
    all_goals go_ret
    all_goals exact ⟨rfl, below_last (below_three _ _ _ _) hb⟩
  · have tr : ∀ (k : ¬ 0 < ord5 c d f g), ord5 a b f g ≤ 0 := fun k => by have := ord5_trans (a := a) (b := b) (c := c) (d := d) (by omega) k; omega
    by_cases p5 : 0 < ord5 c d f g
    all_goals
      by_cases p0 : ord5 a b c d = 0
      · have p2 : ord5 c d a b = 0 := by omega
        have p3 : sameB a b c d = true := by rw [← sz, p0]; rfl
        have p6 := Lib.hid tr
        try have p7 := tr p5
        clear bd an sz tr p1
        go_enter Try.func12, Try.ntmps12
        go_wp2
        go_quiet ((go_at_call 13; exact Calls.quiet_of_same ((of_c _ _ _).mono fun _ _ h => ⟨h.1, h.2.symm⟩)))
        go_wp2_with (first
          | (go_at_call 31; refine (Same_c5 _ _ _ _ _).mono ?_; rintro e w' ⟨rfl, rfl⟩)
          | (go_at_call 34; refine (Order_c5 _ _ _ _ (by assumption) (by assumption) (by assumption) (by assumption) _).mono ?_; rintro e w' ⟨rfl, rfl⟩)
          | (go_at_call 30; refine (awake_c _).mono ?_; rintro e w' ⟨rfl, hb⟩))
        all_goals go_ret
        all_goals exact ⟨rfl, below_last (below_three _ _ _ _) hb⟩
      · have p4 : ord5 a b c d = -1 := by omega
        have p2 : ord5 c d a b = 1 := by omega
        have p3 : sameB a b c d = false := by rw [← sz, p4]; rfl
        try have p7 := tr p5
        clear bd an sz tr p1 p0
        go_enter Try.func12, Try.ntmps12
        go_wp2
        go_quiet ((go_at_call 13; exact Calls.quiet_of_same ((of_c _ _ _).mono fun _ _ h => ⟨h.1, h.2.symm⟩)))
        go_wp2_with (first
          | (go_at_call 31; refine (Same_c5 _ _ _ _ _).mono ?_; rintro e w' ⟨rfl, rfl⟩)
          | (go_at_call 34; refine (Order_c5 _ _ _ _ (by assumption) (by assumption) (by assumption) (by assumption) _).mono ?_; rintro e w' ⟨rfl, rfl⟩)
          | (go_at_call 30; refine (awake_c _).mono ?_; rintro e w' ⟨rfl, hb⟩))
        all_goals go_ret
        all_goals exact ⟨rfl, below_last (below_three _ _ _ _) hb⟩
end Go.Proofs.Ytcoddacbmjlcnaa
