/- Contracts: Read of package bits at the text of a float, whatever float. -/
import Derived.Test.YtbmfbmepgcbhfaaDoorR3
import Derived.Test.YtbmfbmepgcbhfaaDoorL3
set_option linter.unusedSimpArgs false
set_option linter.unusedVariables false
namespace Go.Proofs.YtbmfbmepgcbhfaaDoor
open Go Go.RowKit Go.Sort Ff
attribute [local go_sem] f_lt f_gt f_eq f_ne

theorem guess_nan (w : World) :
    Calls Tryd.prog 11 #[.string ⟨#[110, 97, 110]⟩] w fun e w' => e = .returned (.tuple #[.float .f64 nanW, .bool true]) ∧ w = w' := by
  have t1 : Lib.trimPrefix [110, 97, 110] [45] = [110, 97, 110] := by decide +kernel
  have t2 : Lib.hasPrefix [110, 97, 110] [45] = false := by decide +kernel
  go_enter Tryd.func11, Tryd.ntmps11
  go_wp2_with fail
  go_at_call 29
  refine (Tryd.strings_CutPrefix _ _ _).mono ?_
  rintro e w1 ⟨rfl, rfl⟩
  go_wp2_with (go_at_call 12; refine (NaN_c _).mono ?_; rintro e w' ⟨rfl, rfl⟩)
  go_ret2
  exact ⟨rfl, rfl⟩
theorem btoi_c (b : Bool) (w : World) :
    Calls Tryd.prog 31 #[.bool b] w fun e w' => e = .returned (.int .i64 (if b then 1 else 0)) ∧ w = w' := by
  cases b
  all_goals
    go_enter Tryd.func31, Tryd.ntmps31
    go_wp2
    go_ret
    exact ⟨rfl, rfl⟩
theorem guess_pinf (w : World) :
    Calls Tryd.prog 11 #[.string ⟨#[105, 110, 102]⟩] w fun e w' => e = .returned (.tuple #[.float .f64 9218868437227405312, .bool true]) ∧ w = w' := by
  have t1 : Lib.trimPrefix [105, 110, 102] [45] = [105, 110, 102] := by decide +kernel
  have t2 : Lib.hasPrefix [105, 110, 102] [45] = false := by decide +kernel
  go_enter Tryd.func11, Tryd.ntmps11
  go_wp2_with fail
  go_at_call 29
  refine (Tryd.strings_CutPrefix _ _ _).mono ?_
  rintro e w1 ⟨rfl, rfl⟩
  go_wp2_with (first | (go_at_call 31; refine (btoi_c _ _).mono ?_; rintro e w' ⟨rfl, rfl⟩) | (go_at_call 30; refine (Inf_1 _).mono ?_; rintro e w' ⟨rfl, rfl⟩))
  go_ret2
  exact ⟨rfl, rfl⟩
theorem guess_minf (w : World) :
    Calls Tryd.prog 11 #[.string ⟨#[45, 105, 110, 102]⟩] w fun e w' => e = .returned (.tuple #[.float .f64 18442240474082181120, .bool true]) ∧ w = w' := by
  have t1 : Lib.trimPrefix [45, 105, 110, 102] [45] = [105, 110, 102] := by decide +kernel
  have t2 : Lib.hasPrefix [45, 105, 110, 102] [45] = true := by decide +kernel
  go_enter Tryd.func11, Tryd.ntmps11
  go_wp2_with fail
  go_at_call 29
  refine (Tryd.strings_CutPrefix _ _ _).mono ?_
  rintro e w1 ⟨rfl, rfl⟩
  go_wp2_with (first | (go_at_call 31; refine (btoi_c _ _).mono ?_; rintro e w' ⟨rfl, rfl⟩) | (go_at_call 30; refine (Inf_m1 _).mono ?_; rintro e w' ⟨rfl, rfl⟩))
  go_ret2
  exact ⟨rfl, rfl⟩
theorem guess_zero (neg : Bool) (w : World) :
    Calls Tryd.prog 11 #[.string ⟨(sgT neg [48]).toArray⟩] w fun e w' => e = .returned (.tuple #[.float .f64 (wf neg 0), .bool true]) ∧ w = w' := by
  have hT : Lib.trimPrefix (sgT neg [48]) [45] = [48] ∧ Lib.hasPrefix (sgT neg [48]) [45] = neg := by
    cases neg <;> decide +kernel
  obtain ⟨t1, t2⟩ := hT
  go_enter Tryd.func11, Tryd.ntmps11
  go_wp2_with fail
  go_at_call 29
  refine (Tryd.strings_CutPrefix _ _ _).mono ?_
  rintro e w1 ⟨rfl, rfl⟩
  go_wp2_with (go_at_call 32; refine (signed_b neg 0 (by decide) _).mono ?_; rintro e w' ⟨rfl, rfl⟩)
  go_ret2
  exact ⟨rfl, rfl⟩

theorem nanW_isn : isn nanW := by unfold nanW; decide
theorem nanW_lt : nanW < 18446744073709551616 := by unfold nanW; decide
theorem inf_word {x : Nat} (hx : x < 18446744073709551616) (h : rung x = 9218868437227405312) : x = if sgn x then 18442240474082181120 else 9218868437227405312 := by
  cases s : sgn x
  · rw [if_neg (by simp)]; have := sgn_rung hx s; omega
  · rw [if_pos rfl]; have := sgn_rung' hx s; rw [topped_eq] at this; omega

/-- guess at a float's text: the float, or a NaN for a NaN. -/
theorem guess_text (y : Nat) (hy : y < 18446744073709551616) (w : World) (ht : TabR w) :
    Calls Tryd.prog 11 #[.string ⟨(textF y).toArray⟩] w fun e w' => e = .returned (.tuple #[.float .f64 (if isn y then nanW else y), .bool true]) ∧ Below w.heap.size w w' := by
  by_cases i : isn y
  · rw [text_nan i, if_pos i]; exact (guess_nan w).mono fun e w' ⟨h1, h2⟩ => ⟨h1, by rw [← h2]; exact Below.refl _ _⟩
  · rw [if_neg i]
    cases hf : finB y
    · have hr : rung y = 9218868437227405312 := by have := (finB_false y).1 hf; unfold isn at i; omega
      have hw := inf_word hy hr
      rw [text_inf i hf]
      cases s : sgn y
      · rw [s, if_neg (by simp)] at hw
        rw [hw]; exact (guess_pinf w).mono fun e w' ⟨h1, h2⟩ => ⟨h1, by rw [← h2]; exact Below.refl _ _⟩
      · rw [s, if_pos rfl] at hw
        rw [hw]; exact (guess_minf w).mono fun e w' ⟨h1, h2⟩ => ⟨h1, by rw [← h2]; exact Below.refl _ _⟩
    · by_cases h0 : rung y = 0
      · rw [text_zero i hf h0]
        have e1 : (if sgn y = true then [45] else []) ++ [48] = sgT (sgn y) [48] := by unfold sgT; cases sgn y <;> rfl
        rw [e1]
        have := guess_zero (sgn y) w
        rw [zero_word hy h0] at this
        exact this.mono fun e w' ⟨h1, h2⟩ => ⟨h1, by rw [← h2]; exact Below.refl _ _⟩
      · rw [text_num i hf h0]
        have e1 : (if sgn y = true then [45] else []) ++ (Lib.decDigits (partM y) ++ [112] ++ Lib.itoa (partE y)) = sgT (sgn y) (numT (partM y) (partE y)) := by
          rw [numT_eq]; unfold sgT; cases sgn y <;> simp
        rw [e1]
        have hb := partE_bd y hf
        have hl := partM_lt y
        have := guess_num (sgn y) (partM y) (by omega) (partE y) (by omega) w ht
        rw [(mk_parts hy hf).1, (mk_parts hy hf).2] at this
        exact this
theorem text_guess (y : Nat) : textF (if isn y then nanW else y) = textF y := by
  by_cases i : isn y
  · rw [if_pos i, text_nan i, text_nan nanW_isn]
  · rw [if_neg i]
theorem like_guess (y : Nat) : likeB y (if isn y then nanW else y) = true := by
  by_cases i : isn y
  · rw [if_pos i]; exact like_nn i nanW_isn
  · rw [if_neg i]; exact like_refl y
@[irreducible] def canonF (y : Nat) : Nat := if isn y then nanW else y
theorem canon_eq (y : Nat) : canonF y = if isn y then nanW else y := by unfold canonF; rfl
theorem canon_lt {y : Nat} (hy : y < 18446744073709551616) : canonF y < 18446744073709551616 := by
  rw [canon_eq]; split
  · exact nanW_lt
  · exact hy
theorem Read_text (y : Nat) (hy : y < 18446744073709551616) (w : World) (ht : TabR w) :
    Calls Tryd.prog 5 #[.string ⟨(textF y).toArray⟩] w fun e w' => e = .returned (.tuple #[.float .f64 (canonF y), .int .i64 0]) ∧ Below w.heap.size w w' := by
  have hg := guess_text y hy w ht
  rw [← canon_eq] at hg
  have htx := text_guess y
  rw [← canon_eq] at htx
  have hc := canon_lt hy
  go_enter Tryd.func5, Tryd.ntmps5
  go_wp2_with fail
  refine hg.mono ?_
  rintro e w1 ⟨rfl, hb1⟩
  go_wp2_with fail
  go_at_call 7
  refine (Text_c _ hc _ (ht.below hb1).1).mono ?_
  rintro e w2 ⟨rfl, hb2⟩
  go_wp2
  go_ret2
  exact ⟨rfl, hb1.trans (hb2.mono hb1.size)⟩

/-- What stands at a float's place is the float. -/
theorem at_place {x : Nat} (hx : x < 18446744073709551616) : likeB x (atF (place x)) = true ∧ atB (place x) = true := by
  have hb : atB (place x) = true := by unfold atB; rw [decide_eq_true_iff]; exact place_le x
  refine ⟨?_, hb⟩
  by_cases i : isn x
  · rw [place_nan i, (at_nan ((nanP_iff _).2 rfl)).1]; exact like_nn i nanW_isn
  · have hr := rung_lt x
    cases s : sgn x
    · rw [place_pos i s, atF_high (by unfold isn at i; omega) (by omega), Nat.add_sub_cancel_left, sgn_rung hx s]; exact like_refl x
    · rw [place_neg i s, atF_low (by omega)]
      have e : 9218868437227405312 - (9218868437227405312 - rung x) = rung x := by unfold isn at i; omega
      rw [e, ← sgn_rung' hx s]; exact like_refl x
end Go.Proofs.YtbmfbmepgcbhfaaDoor
