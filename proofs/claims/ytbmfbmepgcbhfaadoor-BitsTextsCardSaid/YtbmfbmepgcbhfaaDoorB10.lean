/- Contracts: Up, Down of both. -/
import Derived.Test.YtbmfbmepgcbhfaaDoorB9
set_option linter.unusedSimpArgs false
set_option linter.unusedVariables false
namespace Go.Proofs.YtbmfbmepgcbhfaaDoor
open Go Go.RowKit Ff
attribute [local go_sem] f_lt f_gt f_eq f_ne

@[irreducible] def infW (x : Nat) : Bool := decide (x = 9218868437227405312)
theorem infW_iff (x : Nat) : infW x = true ↔ x = 9218868437227405312 := by unfold infW; exact decide_eq_true_iff
@[local go_sem] theorem inf_w (x : Nat) : ((x : Int) == 9218868437227405312) = infW x := by
  rw [Bool.eq_iff_iff, beq_iff_eq, infW_iff]; omega
@[irreducible] def upF (x : Nat) : Nat := if isn x then x else if x = 9218868437227405312 then x else if rung x = 0 then 1 else if sgn x then x - 1 else x + 1
theorem up_nan {x : Nat} (h : isn x) : upF x = x := by unfold upF; rw [if_pos h]
theorem up_inf {x : Nat} (h : infW x = true) : upF x = x := by unfold upF; rw [if_pos ((infW_iff x).1 h)]; split <;> rfl
theorem notInf {x : Nat} (h : infW x = false) : ¬ x = 9218868437227405312 := fun c => by rw [(infW_iff x).2 c] at h; cases h
theorem up_zero {x : Nat} (h : ¬ isn x) (h' : infW x = false) (h0 : rung x = 0) : upF x = 1 := by unfold upF; rw [if_neg h, if_neg (notInf h'), if_pos h0]
theorem up_neg {x : Nat} (h : ¬ isn x) (h' : infW x = false) (h0 : rung x ≠ 0) (s : sgn x = true) : upF x = x - 1 := by unfold upF; rw [if_neg h, if_neg (notInf h'), if_neg h0, if_pos s]
theorem up_pos {x : Nat} (h : ¬ isn x) (h' : infW x = false) (h0 : rung x ≠ 0) (s : sgn x = false) : upF x = x + 1 := by unfold upF; rw [if_neg h, if_neg (notInf h'), if_neg h0, if_neg (by simp [s])]
theorem ret_f {a b : Nat} (h : a = b) : Ending.returned (.float .f64 a) = .returned (.float .f64 b) := by rw [h]
theorem ext_one (w : World) : (callFunc 4 #[.int .u64 1]).run Tryd.prog w = .ok (.value (.float .f64 1)) w := by kernel_rfl
@[irreducible] def prevN (x : Nat) : Nat := x - 1
@[irreducible] def nextN (x : Nat) : Nat := x + 1
theorem prev_eq (x : Nat) : prevN x = x - 1 := by unfold prevN; rfl
theorem next_eq (x : Nat) : nextN x = x + 1 := by unfold nextN; rfl

theorem Up_c (x : Nat) (hx : x < 18446744073709551616) (w : World) :
    Calls Tryd.prog 25 #[.float .f64 x] w fun e w' => e = .returned (.float .f64 (upF x)) ∧ w = w' := by
  have h44 := ext_bits
  have h12 := ext_from
  have h1 := ext_one
  have ha := top_and x hx
  have ht := top_ne x
  by_cases hi : isn x
  · have H := Lib.hid (up_nan hi)
    have hn := feq_nn hi
    go_enter Tryd.func25, Tryd.ntmps25
    go_wp2
    all_goals go_ret
    all_goals exact ⟨ret_f H.out.symm, rfl⟩
  · have hn := feq_ok hi
    cases hf : infW x
    · by_cases h0 : rung x = 0
      · have H := Lib.hid (up_zero hi hf h0)
        have hz := feq_z h0
        go_enter Tryd.func25, Tryd.ntmps25
        go_wp2
        all_goals go_ret
        all_goals exact ⟨ret_f H.out.symm, rfl⟩
      · have hz := feq_nz h0
        cases hs : sgn x
        · have H := Lib.hid (up_pos hi hf h0 hs)
          have e : IntKind.u64.wrap ((x : Int) + 1) = (nextN x : Int) := by
            rw [IntKind.wrap_u64, next_eq]; have := sgn_rung hx hs; have := rung_lt x; omega
          go_enter Tryd.func25, Tryd.ntmps25
          go_wp2
          all_goals go_ret
          all_goals exact ⟨ret_f (by rw [H.out, next_eq]), rfl⟩
        · have H := Lib.hid (up_neg hi hf h0 hs)
          have e : IntKind.u64.wrap ((x : Int) - 1) = (prevN x : Int) := by
            rw [IntKind.wrap_u64, prev_eq]; have := sgn_rung' hx hs; rw [topped_eq] at this; omega
          go_enter Tryd.func25, Tryd.ntmps25
          go_wp2
          all_goals go_ret
          all_goals exact ⟨ret_f (by rw [H.out, prev_eq]), rfl⟩
    · have H := Lib.hid (up_inf hf)
      go_enter Tryd.func25, Tryd.ntmps25
      go_wp2
      all_goals go_ret
      all_goals exact ⟨ret_f H.out.symm, rfl⟩

theorem place_le (x : Nat) : place x ≤ 18437736874454810626 := by unfold place; have := rung_lt x; split; omega; split; omega; rename_i h _; unfold isn at h; omega

theorem atF_low {p : Nat} (h : p < 9218868437227405313) : atF p = topped (9218868437227405312 - p) := (at_low ((lowP_iff p).2 h)).1
theorem atF_high {p : Nat} (h1 : p < 18437736874454810626) (h3 : ¬ p < 9218868437227405313) : atF p = p - 9218868437227405313 := by
  unfold atF; rw [if_neg (by omega), if_neg (by omega), if_neg h3]
theorem max_gt {x : Nat} (hx : x < 18446744073709551616) : fltB 9218868437227405311 x = infW x := by
  unfold fltB infW
  rw [Bool.eq_iff_iff, decide_eq_true_iff, decide_eq_true_iff]
  have e : srung 9218868437227405311 = 9218868437227405311 := by decide
  rw [e]
  unfold srung isn rung sgn
  constructor
  · rintro ⟨_, h2, h3⟩; split at h3 <;> rename_i c <;> simp only [beq_iff_eq] at c <;> omega
  · intro h; subst h; decide
theorem fin_not {x : Nat} (hx : x < 18446744073709551616) (h : ¬ isn x) (h' : infW x = false) (s : sgn x = false) : rung x < 9218868437227405312 := by
  have := notInf h'; unfold isn at h; rw [sgn_rung hx s] at *; omega
/-- One place on is the next float. -/
theorem up_place {x : Nat} (hx : x < 18446744073709551616) (h : ¬ isn x) (h' : infW x = false) (h0 : rung x ≠ 0) : atF (place x + 1) = upF x := by
  cases s : sgn x
  · have hf := fin_not hx h h' s
    rw [up_pos h h' h0 s, place_pos h s, atF_high (by omega) (by omega)]
    have := sgn_rung hx s; omega
  · rw [up_neg h h' h0 s, place_neg h s, atF_low (by unfold isn at h; omega), topped_eq]
    have := sgn_rung' hx s; rw [topped_eq] at this; unfold isn at h; omega

@[irreducible] def negW (x : Nat) : Nat := x ^^^ 9223372036854775808
theorem run_neg (x : Nat) (w : World) : (Op.unary .neg (.float .f64 x)).run Tryd.prog w = .ok (.float .f64 (negW x)) w := by
  unfold negW Op.unary Op.negFloat; rfl
theorem xor_top {r : Nat} (h : r < 9223372036854775808) : r ^^^ 9223372036854775808 = 9223372036854775808 + r ∧ (9223372036854775808 + r) ^^^ 9223372036854775808 = r := by
  have e : r ^^^ 9223372036854775808 = 9223372036854775808 + r := by
    have h2 : r ^^^ 9223372036854775808 = r ||| 9223372036854775808 := by
      apply Nat.eq_of_testBit_eq; intro i
      rw [Nat.testBit_xor, Nat.testBit_or, show 9223372036854775808 = 2 ^ 63 by rfl, Nat.testBit_two_pow]
      by_cases c : 63 = i
      · subst c
        have : r.testBit 63 = false := Nat.testBit_lt_two_pow h
        simp [this]
      · simp [c]
    rw [h2, Nat.or_comm, nat_join 63 _ _ (by decide) h]
  exact ⟨e, by rw [← e, Nat.xor_assoc, Nat.xor_self, Nat.xor_zero]⟩
theorem neg_pos {x : Nat} (hx : x < 18446744073709551616) (s : sgn x = false) : negW x = topped (rung x) := by
  have h := sgn_rung hx s
  have := rung_lt x
  unfold negW; rw [topped_eq, h]; rw [h] at this; exact (xor_top this).1
theorem neg_neg {x : Nat} (hx : x < 18446744073709551616) (s : sgn x = true) : negW x = rung x := by
  have h := sgn_rung' hx s
  have hr := rung_lt x
  rw [topped_eq] at h
  unfold negW
  generalize rung x = r at h hr
  subst h
  exact (xor_top hr).2
theorem rung_top {r : Nat} (h : r < 9223372036854775808) : rung (topped r) = r ∧ sgn (topped r) = true := by
  rw [topped_eq]; unfold rung sgn; refine ⟨by omega, by rw [beq_iff_eq]; omega⟩
theorem rung_low {r : Nat} (h : r < 9223372036854775808) : rung r = r ∧ sgn r = false := by
  unfold rung sgn; refine ⟨by omega, by rw [beq_eq_false_iff_ne]; omega⟩
theorem negW_lt {x : Nat} (hx : x < 18446744073709551616) : negW x < 18446744073709551616 := by
  have := rung_lt x
  cases s : sgn x
  · rw [neg_pos hx s, topped_eq]; omega
  · rw [neg_neg hx s]; omega
theorem negW_rung {x : Nat} (hx : x < 18446744073709551616) : rung (negW x) = rung x ∧ sgn (negW x) = !sgn x := by
  cases s : sgn x
  · rw [neg_pos hx s]; exact rung_top (rung_lt x)
  · rw [neg_neg hx s]; exact rung_low (rung_lt x)
theorem negW_isn {x : Nat} (hx : x < 18446744073709551616) : isn (negW x) ↔ isn x := by unfold isn; rw [(negW_rung hx).1]
theorem negW_negW {x : Nat} (hx : x < 18446744073709551616) : negW (negW x) = x := by
  unfold negW; rw [Nat.xor_assoc, Nat.xor_self, Nat.xor_zero]
theorem up_lt {x : Nat} (hx : x < 18446744073709551616) : upF x < 18446744073709551616 := by
  by_cases hi : isn x
  · rw [up_nan hi]; exact hx
  · cases hf : infW x
    · by_cases h0 : rung x = 0
      · rw [up_zero hi hf h0]; omega
      · cases hs : sgn x
        · rw [up_pos hi hf h0 hs]; have := sgn_rung hx hs; have := rung_lt x; omega
        · rw [up_neg hi hf h0 hs]; omega
    · rw [up_inf hf]; exact hx
@[irreducible] def downF (x : Nat) : Nat := negW (upF (negW x))
theorem Down_c (x : Nat) (hx : x < 18446744073709551616) (w : World) :
    Calls Tryd.prog 26 #[.float .f64 x] w fun e w' => e = .returned (.float .f64 (downF x)) ∧ w = w' := by
  have hl := negW_lt hx
  have H : Hid (downF x = negW (upF (negW x))) := Lib.hid (by unfold downF; rfl)
  have hn := run_neg
  go_enter Tryd.func26, Tryd.ntmps26
  go_wp2_with (go_at_call 25; refine (Up_c _ hl _).mono ?_; rintro e w' ⟨rfl, rfl⟩)
  all_goals go_ret
  all_goals exact ⟨ret_f H.out.symm, rfl⟩

theorem min_lt {x : Nat} (hx : x < 18446744073709551616) : fltB x 18442240474082181119 = infW (negW x) := by
  unfold fltB infW
  rw [Bool.eq_iff_iff, decide_eq_true_iff, decide_eq_true_iff]
  have e : srung 18442240474082181119 = -9218868437227405311 := by decide
  rw [e]
  cases s : sgn x
  · rw [neg_pos hx s, topped_eq]
    unfold srung isn; rw [s]
    constructor
    · rintro ⟨_, h2, h3⟩; simp only [Bool.false_eq_true, if_false] at h3; omega
    · intro h; omega
  · rw [neg_neg hx s]
    unfold srung isn; rw [s]
    constructor
    · rintro ⟨h1, h2, h3⟩; simp only [if_true] at h3; omega
    · intro h; refine ⟨by omega, by decide, ?_⟩; simp only [if_true]; omega
theorem down_nan {x : Nat} (hx : x < 18446744073709551616) (h : isn x) : downF x = x := by
  unfold downF; rw [up_nan ((negW_isn hx).2 h), negW_negW hx]
theorem down_inf {x : Nat} (hx : x < 18446744073709551616) (h : infW (negW x) = true) : downF x = x := by
  unfold downF; rw [up_inf h, negW_negW hx]
theorem negW_one : negW 1 = topped 1 := neg_pos (by decide) (by decide)
theorem down_zero {x : Nat} (hx : x < 18446744073709551616) (h : ¬ isn x) (h' : infW (negW x) = false) (h0 : rung x = 0) : downF x = topped 1 := by
  unfold downF; rw [up_zero (fun c => h ((negW_isn hx).1 c)) h' (by rw [(negW_rung hx).1]; exact h0), negW_one]
theorem down_place {x : Nat} (hx : x < 18446744073709551616) (h : ¬ isn x) (h' : infW (negW x) = false) (h0 : rung x ≠ 0) : 1 ≤ place x ∧ atF (place x - 1) = downF x := by
  have h1 : ¬ isn (negW x) := fun c => h ((negW_isn hx).1 c)
  have h2 : rung (negW x) ≠ 0 := by rw [(negW_rung hx).1]; exact h0
  unfold downF
  cases s : sgn x
  · rw [up_neg h1 h' h2 (by rw [(negW_rung hx).2, s]; rfl), place_pos h s]
    refine ⟨by omega, ?_⟩
    have e := sgn_rung hx s
    have hr := rung_lt x
    rw [neg_pos hx s, topped_eq, show 9223372036854775808 + rung x - 1 = topped (rung x - 1) by rw [topped_eq]; omega, atF_high (by unfold isn at h; omega) (by omega)]
    have q := rung_top (r := rung x - 1) (by omega)
    rw [neg_neg (by rw [topped_eq]; omega) q.2, q.1]; omega
  · have hb : rung x < 9218868437227405312 := by
      have := notInf h'; rw [neg_neg hx s] at this; unfold isn at h; omega
    rw [up_pos h1 h' h2 (by rw [(negW_rung hx).2, s]; rfl), place_neg h s]
    refine ⟨by omega, ?_⟩
    have e := sgn_rung' hx s
    have q := rung_low (r := rung x + 1) (by omega)
    rw [neg_neg hx s, neg_pos (by omega) q.2, q.1, atF_low (by omega)]
    congr 1; omega
end Go.Proofs.YtbmfbmepgcbhfaaDoor
