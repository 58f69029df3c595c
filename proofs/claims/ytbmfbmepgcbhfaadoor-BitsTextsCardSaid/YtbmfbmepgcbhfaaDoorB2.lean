/- Contracts: Finite, Neg, Parts of package bits and of the document's answer. -/
import Derived.Test.YtbmfbmepgcbhfaaDoorB1
import Derived.Test.YtbmfbmepgcbhfaaDoorShelf
import Derived.Laws.FloatArith
import Derived.Deep.QuietTactic
import Derived.BigQuiet
set_option linter.unusedSimpArgs false
set_option linter.unusedVariables false
namespace Go.Proofs.YtbmfbmepgcbhfaaDoor
open Go Go.RowKit Ff

@[irreducible] def finB (x : Nat) : Bool := decide (rung x < 9218868437227405312)
theorem finB_true (x : Nat) : finB x = true ↔ rung x < 9218868437227405312 := by unfold finB; exact decide_eq_true_iff
theorem finB_false (x : Nat) : finB x = false ↔ ¬ rung x < 9218868437227405312 := by unfold finB; exact decide_eq_false_iff_not
theorem kind_lt (x : Nat) : decide ((kind x : Int) < 4) = finB x := by
  rw [Bool.eq_iff_iff, decide_eq_true_iff, finB_true]
  simp only [kind, isn_iff]
  repeat' split
  all_goals omega

theorem Finite_c (x : Nat) (hx : x < 18446744073709551616) (w : World) :
    Calls Tryd.prog 37 #[.float .f64 x] w fun e w' => e = .returned (.bool (finB x)) ∧ w = w' := by
  go_enter Tryd.func37, Tryd.ntmps37
  go_wp2_with (go_at_call 27; refine (KindOf_c _ hx _).mono ?_; rintro e w' ⟨rfl, rfl⟩)
  go_ret
  exact ⟨ret_bool (kind_lt x), rfl⟩

theorem isn_eq (x : Nat) : (FloatKind.f64.format.order x x == some Ordering.eq) = !decide (isn x) := by
  have := isn_ne x
  revert this
  cases h : (FloatKind.f64.format.order x x == some Ordering.eq) <;> simp [bne, h]
set_option maxRecDepth 100000 in
theorem rNeg_c (x : Nat) (hx : x < 18446744073709551616) (w : World) :
    Calls Tryd.prog 19 #[.float .f64 x] w fun e w' => e = .returned (.bool (!decide (isn x) && sgn x)) ∧ w = w' := by
  have h44 := ext_bits
  have hn := isn_ne x
  have hq : decide ((9223372036854775808 : Int) ≤ x) = sgn x := by
    unfold sgn
    rw [Bool.eq_iff_iff, decide_eq_true_iff, beq_iff_eq]; omega
  by_cases hi : isn x
  all_goals
    go_enter Tryd.func19, Tryd.ntmps19
    go_wp2
    all_goals go_ret
    all_goals refine ⟨ret_bool ?_, rfl⟩
    all_goals simp [hi]
@[irreducible] def topped (b : Nat) : Nat := 9223372036854775808 + b
theorem topped_eq (b : Nat) : topped b = 9223372036854775808 + b := by unfold topped; rfl
@[irreducible] def wf (neg : Bool) (r : Nat) : Nat := if neg then topped r else r
theorem wf_eq (neg : Bool) (r : Nat) : wf neg r = if neg then topped r else r := by unfold wf; rfl
theorem signed_b (neg : Bool) (b : Nat) (hb : b < 9223372036854775808) (w : World) :
    Calls Tryd.prog 32 #[.bool neg, .int .u64 b] w fun e w' => e = .returned (.float .f64 (wf neg b)) ∧ w = w' := by
  have h12 := ext_from
  have ho : bits BinOp.or IntKind.u64 (b : Int) 9223372036854775808 = ((topped b : Nat) : Int) := by
    rw [topped_eq, show (9223372036854775808 : Int) = ((9223372036854775808 : Nat) : Int) from rfl, u64_or_nat b _ (by omega) (by decide), Nat.or_comm]
    congr 1
    exact nat_join 63 _ _ (by decide) hb
  cases neg
  all_goals
    go_enter Tryd.func32, Tryd.ntmps32
    go_wp2
    all_goals go_ret
    all_goals exact ⟨by rw [wf_eq]; rfl, rfl⟩
theorem rsigned_c (neg : Bool) (b : Nat) (hb : b < 9223372036854775808) (w : World) :
    Calls Tryd.prog 13 #[.bool neg, .int .u64 b] w fun e w' => e = .returned (.float .f64 (wf neg b)) ∧ w = w' := by
  have h12 := ext_from
  have ho : IntKind.u64.wrap ((b : Int) + 9223372036854775808) = ((topped b : Nat) : Int) := by
    rw [topped_eq, IntKind.wrap_u64]; omega
  cases neg
  all_goals
    go_enter Tryd.func13, Tryd.ntmps13
    go_wp2
    all_goals go_ret
    all_goals exact ⟨by rw [wf_eq]; rfl, rfl⟩

theorem sub_self (x : Nat) (h : rung x < 9218868437227405312) : floatBits .sub .f64 x x = some 0 := by
  show Ieee.double.sub x x = some 0
  obtain ⟨m, i, hm, _⟩ := read_fin h
  unfold Ieee.Format.sub
  rw [hm]
  simp only [Ieee.Datum.opposite, Ieee.Datum.sum, Int.min_self, Int.sub_self]
  have e : Ieee.signed (sgn x) m (Int.toNat 0) + Ieee.signed (!sgn x) m (Int.toNat 0) = 0 := by
    rw [signed_eq, signed_eq]; cases sgn x <;> simp <;> omega
  rw [e]
  simp only [if_true, Bool.and_not_self]
  rfl
theorem sub_inf (x : Nat) (h : rung x = 9218868437227405312) : Ieee.double.sub x x = none := by
  unfold Ieee.Format.sub
  rw [read_inf h]
  cases sgn x <;> rfl
theorem order_zz : (FloatKind.f64.format.order 0 0 == some Ordering.eq) = true := by decide

@[irreducible] def nanAt (w : World) (x y : Nat) : Nat := (Question.nanBits .f64 x y).cut (w.tape w.drawn (.nanBits .f64 x y))
theorem nanAt_isn (w : World) (x y : Nat) : isn (nanAt w x y) := by
  unfold nanAt Question.cut isn rung
  simp only
  generalize w.tape w.drawn (.nanBits .f64 x y) = t
  have h2 : t / 2 % (2 ^ 52 - 1) < 4503599627370495 := Nat.mod_lt _ (by decide)
  generalize t / 2 % (2 ^ 52 - 1) = u at h2
  have h3 : t % 2 = 0 ∨ t % 2 = 1 := by omega
  rcases h3 with h3 | h3 <;> rw [h3] <;> omega
theorem run_sub_nan (t : TypeId) (x y : Nat) (h : Ieee.double.sub x y = none) (w : World) :
    (binOp .sub t (.float .f64 x) (.float .f64 y)).run Tryd.prog w = .ok (.float .f64 (nanAt w x y)) w.drew := by
  have h' : FloatKind.f64.format.sub x y = none := h
  simp [binOp, Op.floatArith, h', nanAt, Question.forced]

end Go.Proofs.YtbmfbmepgcbhfaaDoor
