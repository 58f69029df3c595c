/- Texts put together: Fft Mtt B1t B2t B3t. -/
import Ieee.Arith
import Derived.Lib.TrailingZeros
import Derived.Shelf.Strconv.Itoa0
import Derived.Test.YtjkonfopajihdaaDoorProg
import Derived.WalkKit
import Derived.WalkLawsBesides
import Derived.WalkSpells
import Derived.Outline
import Derived.Lib.Hide
import Derived.Deep.Light
import Derived.Laws.BitsAllLaws
import Derived.Test.YtjkonfopajihdaaDoorShelf
import Derived.Laws.FloatArith
import Derived.Deep.QuietTactic
import Derived.BigQuiet
import Derived.Laws.ShiftsVarLaws
import Derived.WalkSmall
namespace Go.Proofs.YtjkonfopajihdaaDoor.Bt.Ff
open Ieee

def rung (x : Nat) : Nat := x % 9223372036854775808
def sgn (x : Nat) : Bool := x / 9223372036854775808 % 2 == 1
def isn (x : Nat) : Prop := 9218868437227405312 < rung x
instance (x : Nat) : Decidable (isn x) := by unfold isn; exact inferInstance
def srung (x : Nat) : Int := if sgn x then -(rung x : Int) else (rung x : Int)
def mag (r : Nat) : Nat := if r < 4503599627370496 then r else (4503599627370496 + r % 4503599627370496) * 2 ^ (r / 4503599627370496 - 1)

theorem sw : double.signWeight = 9223372036854775808 := by decide
theorem bin : double.binade = 4503599627370496 := by decide
theorem infr : double.infRung = 9218868437227405312 := by decide
theorem lp : double.leastPlace = -1074 := by decide

theorem read_eq (x : Nat) : double.read x =
    if rung x < 4503599627370496 then .number (sgn x) (rung x) (-1074)
    else if rung x < 9218868437227405312 then .number (sgn x) (4503599627370496 + rung x % 4503599627370496) (-1074 + ((rung x / 4503599627370496 - 1 : Nat) : Int))
    else if rung x = 9218868437227405312 then .infinity (sgn x) else .nan (sgn x) (rung x - 9218868437227405312) := by
  unfold Format.read
  rw [sw, bin, infr, lp]
  rfl

theorem mag_small {r : Nat} (h : r < 4503599627370496) : mag r = r := by unfold mag; rw [if_pos h]
theorem mag_big {r : Nat} (h : ¬ r < 4503599627370496) : mag r = (4503599627370496 + r % 4503599627370496) * 2 ^ (r / 4503599627370496 - 1) := by unfold mag; rw [if_neg h]

theorem mag_step (r : Nat) : mag r < mag (r + 1) := by
  by_cases h : r < 4503599627370496
  · by_cases h2 : r + 1 < 4503599627370496
    · rw [mag_small h, mag_small h2]; omega
    · rw [mag_small h, mag_big h2]
      have e : r + 1 = 4503599627370496 := by omega
      have q : (4503599627370496 + 4503599627370496 % 4503599627370496) * 2 ^ (4503599627370496 / 4503599627370496 - 1) = 4503599627370496 := by simp
      rw [e, q]; omega
  · have h2 : ¬ r + 1 < 4503599627370496 := by omega
    rw [mag_big h, mag_big h2]
    by_cases hm : r % 4503599627370496 = 4503599627370495
    · have e1 : (r + 1) % 4503599627370496 = 0 := by omega
      have e2 : (r + 1) / 4503599627370496 - 1 = (r / 4503599627370496 - 1) + 1 := by omega
      rw [e1, e2, hm, Nat.pow_succ]
      have hp : 0 < 2 ^ (r / 4503599627370496 - 1) := Nat.two_pow_pos _
      generalize 2 ^ (r / 4503599627370496 - 1) = p at hp
      omega
    · have e1 : (r + 1) % 4503599627370496 = r % 4503599627370496 + 1 := by omega
      have e2 : (r + 1) / 4503599627370496 = r / 4503599627370496 := by omega
      rw [e1, e2]
      exact Nat.mul_lt_mul_of_pos_right (by omega) (Nat.two_pow_pos _)

theorem mag_lt {r s : Nat} (h : r < s) : mag r < mag s := by
  obtain ⟨k, rfl⟩ : ∃ k, s = r + 1 + k := ⟨s - (r + 1), by omega⟩
  clear h
  induction k with
  | zero => exact mag_step r
  | succ k ih => exact Nat.lt_trans ih (mag_step _)
theorem mag_lt_iff {r s : Nat} : mag r < mag s ↔ r < s := by
  constructor
  · intro h
    by_cases c : r < s
    · exact c
    · rcases Nat.lt_or_eq_of_le (Nat.le_of_not_lt c) with c | c
      · have := mag_lt c; omega
      · subst c; omega
  · exact mag_lt
theorem mag_zero : mag 0 = 0 := rfl
theorem mag_pos {r : Nat} (h : 0 < r) : 0 < mag r := by have := mag_lt h; rw [mag_zero] at this; exact this

/-- The signed size of a word, over 2 to the power -1074. -/
def sv (x : Nat) : Int := if sgn x then -(mag (rung x) : Int) else (mag (rung x) : Int)
theorem sv_lt {x y : Nat} : sv x < sv y ↔ srung x < srung y := by
  have h1 : mag (rung x) < mag (rung y) ↔ rung x < rung y := mag_lt_iff
  have h2 : mag (rung y) < mag (rung x) ↔ rung y < rung x := mag_lt_iff
  have h3 : 0 < mag (rung x) ↔ 0 < rung x := by have := @mag_lt_iff 0 (rung x); rwa [mag_zero] at this
  have h4 : 0 < mag (rung y) ↔ 0 < rung y := by have := @mag_lt_iff 0 (rung y); rwa [mag_zero] at this
  unfold sv srung
  split <;> split <;> omega

theorem compare_congr {a b c d : Int} (h : a < b ↔ c < d) (h' : b < a ↔ d < c) : compare a b = compare c d := by
  simp only [compare, compareOfLessAndEq]
  by_cases e : a < b
  · rw [if_pos e, if_pos (h.1 e)]
  · rw [if_neg e, if_neg (fun x => e (h.2 x))]
    by_cases f : a = b
    · rw [if_pos f, if_pos (by omega)]
    · rw [if_neg f, if_neg (by omega)]

theorem signed_eq (s : Bool) (m u : Nat) : signed s m u = if s then -((m * 2 ^ u : Nat) : Int) else ((m * 2 ^ u : Nat) : Int) := by
  unfold signed; rw [Nat.shiftLeft_eq]
theorem signed_scale (s : Bool) (m u k : Nat) : signed s m u * ((2 ^ k : Nat) : Int) = signed s m (u + k) := by
  rw [signed_eq, signed_eq, Nat.pow_add]
  have : (m * (2 ^ u * 2 ^ k)) = (m * 2 ^ u) * 2 ^ k := by rw [Nat.mul_assoc]
  rw [this]
  split
  · rw [Int.neg_mul]; rfl
  · rfl

theorem order_num (s t : Bool) (m n : Nat) (i j : Nat) :
    Datum.order (.number s m (-1074 + (i : Int))) (.number t n (-1074 + (j : Int))) = some (compare (signed s m i) (signed t n j)) := by
  simp only [Datum.order]
  congr 1
  obtain ⟨b, hb, h1, h2⟩ : ∃ b : Nat, min (-1074 + (i : Int)) (-1074 + (j : Int)) = -1074 + (b : Int) ∧ b ≤ i ∧ b ≤ j := by
    by_cases h : i ≤ j
    · exact ⟨i, by omega, by omega, h⟩
    · exact ⟨j, by omega, by omega, by omega⟩
  rw [hb]
  have e1 : (-1074 + (i : Int) - (-1074 + (b : Int))).toNat = i - b := by omega
  have e2 : (-1074 + (j : Int) - (-1074 + (b : Int))).toNat = j - b := by omega
  rw [e1, e2]
  have f1 := signed_scale s m (i - b) b
  have f2 := signed_scale t n (j - b) b
  rw [Nat.sub_add_cancel h1] at f1
  rw [Nat.sub_add_cancel h2] at f2
  rw [← f1, ← f2]
  have hp : (0 : Int) < ((2 ^ b : Nat) : Int) := by have := Nat.two_pow_pos b; omega
  apply compare_congr
  · exact (Int.mul_lt_mul_right hp).symm
  · exact (Int.mul_lt_mul_right hp).symm

/-- A finite word read. -/
theorem read_fin {x : Nat} (h : rung x < 9218868437227405312) : ∃ m i : Nat, double.read x = .number (sgn x) m (-1074 + (i : Int)) ∧ m * 2 ^ i = mag (rung x) := by
  rw [read_eq]
  by_cases c : rung x < 4503599627370496
  · rw [if_pos c]; exact ⟨rung x, 0, rfl, by rw [mag_small c]; simp⟩
  · rw [if_neg c, if_pos h]; exact ⟨_, _, rfl, by rw [mag_big c]⟩
theorem read_inf {x : Nat} (h : rung x = 9218868437227405312) : double.read x = .infinity (sgn x) := by
  rw [read_eq, if_neg (by omega), if_neg (by omega), if_pos h]
theorem read_nan {x : Nat} (h : isn x) : double.read x = .nan (sgn x) (rung x - 9218868437227405312) := by
  unfold isn at h
  rw [read_eq, if_neg (by omega), if_neg (by omega), if_neg (by omega)]

theorem rung_lt (x : Nat) : rung x < 9223372036854775808 := Nat.mod_lt _ (by decide)

theorem signed_sv {x m i : Nat} (h : m * 2 ^ i = mag (rung x)) : signed (sgn x) m i = sv x := by
  rw [signed_eq, h]; rfl

/-- THE ORDER OF TWO WORDS. -/
theorem order_eq (x y : Nat) : double.order x y = if isn x ∨ isn y then none else some (compare (srung x) (srung y)) := by
  unfold Format.order
  by_cases hx : isn x
  · rw [if_pos (Or.inl hx), read_nan hx]; rfl
  · by_cases hy : isn y
    · rw [if_pos (Or.inr hy), read_nan hy]; cases double.read x <;> rfl
    · rw [if_neg (fun h => h.elim hx hy)]
      have lx : rung x ≤ 9218868437227405312 := by unfold isn at hx; omega
      have ly : rung y ≤ 9218868437227405312 := by unfold isn at hy; omega
      rcases Nat.lt_or_eq_of_le lx with lx | lx <;> rcases Nat.lt_or_eq_of_le ly with ly | ly
      · obtain ⟨m, i, hm, em⟩ := read_fin lx
        obtain ⟨n, j, hn, en⟩ := read_fin ly
        rw [hm, hn, order_num, signed_sv em, signed_sv en]
        exact congrArg some (compare_congr sv_lt sv_lt)
      · obtain ⟨m, i, hm, em⟩ := read_fin lx
        rw [hm, read_inf ly]
        simp only [Datum.order, srung, ly]
        cases sgn y <;> simp only [if_true, if_false, Bool.false_eq_true] <;> congr 1 <;> symm
        · rw [show compare (if sgn x = true then -(rung x : Int) else (rung x : Int)) ((9218868437227405312 : Nat) : Int) = compare (0 : Int) 1 from compare_congr (by split <;> omega) (by split <;> omega)]; rfl
        · rw [show compare (if sgn x = true then -(rung x : Int) else (rung x : Int)) (-((9218868437227405312 : Nat) : Int)) = compare (1 : Int) 0 from compare_congr (by split <;> omega) (by split <;> omega)]; rfl
      · obtain ⟨n, j, hn, en⟩ := read_fin ly
        rw [hn, read_inf lx]
        simp only [Datum.order, srung, lx]
        cases sgn x <;> simp only [if_true, if_false, Bool.false_eq_true] <;> congr 1 <;> symm
        · rw [show compare ((9218868437227405312 : Nat) : Int) (if sgn y = true then -(rung y : Int) else (rung y : Int)) = compare (1 : Int) 0 from compare_congr (by split <;> omega) (by split <;> omega)]; rfl
        · rw [show compare (-((9218868437227405312 : Nat) : Int)) (if sgn y = true then -(rung y : Int) else (rung y : Int)) = compare (0 : Int) 1 from compare_congr (by split <;> omega) (by split <;> omega)]; rfl
      · rw [read_inf lx, read_inf ly]
        simp only [Datum.order, srung, lx, ly]
        cases sgn x <;> cases sgn y <;> decide

end Go.Proofs.YtjkonfopajihdaaDoor.Bt.Ff
set_option linter.unusedSimpArgs false
set_option linter.unusedVariables false
namespace Go.Proofs.YtjkonfopajihdaaDoor.Bt
open Go

theorem ctzFrom_more : ∀ (f x : Nat), 0 < x → x < 2 ^ f → Lib.ctzFrom (f + 1) x = Lib.ctzFrom f x
  | 0, x, h0, h => by simp at h; omega
  | f + 1, x, h0, h => by
    have hp := Nat.pow_succ (n := 2) (m := f)
    by_cases c : x % 2 = 1
    · simp only [Lib.ctzFrom, if_pos c]
    · have ih := ctzFrom_more f (x / 2) (by omega) (by omega)
      rw [Lib.ctzFrom, if_neg c, ih, Lib.ctzFrom, if_neg c]

def tz (m : Nat) : Nat := Lib.ctz 64 m
def od (m : Nat) : Nat := m / 2 ^ tz m
theorem tz_odd {m : Nat} (h : m % 2 = 1) : tz m = 0 := by
  unfold tz Lib.ctz
  rw [if_neg (by omega), Lib.ctzFrom, if_pos h]
theorem tz_even {m : Nat} (h0 : 0 < m) (hm : m < 18446744073709551616) (h : m % 2 = 0) : tz m = tz (m / 2) + 1 := by
  unfold tz Lib.ctz
  rw [if_neg (by omega), if_neg (by omega), show (64 : Nat) = 63 + 1 from rfl, Lib.ctzFrom, if_neg (by omega), ctzFrom_more 63 (m / 2) (by omega) (by omega)]
  omega
theorem od_odd {m : Nat} (h : m % 2 = 1) : od m = m := by unfold od; rw [tz_odd h]; simp
theorem od_even {m : Nat} (h0 : 0 < m) (hm : m < 18446744073709551616) (h : m % 2 = 0) : od m = od (m / 2) := by
  unfold od
  rw [tz_even h0 hm h, Nat.pow_succ, Nat.mul_comm, Nat.div_div_eq_div_mul]
theorem tz_spec {m : Nat} (h0 : 0 < m) (hm : m < 18446744073709551616) : od m * 2 ^ tz m = m ∧ od m % 2 = 1 ∧ tz m < 64 := by
  obtain ⟨q, hq, hk⟩ := Lib.ctzFrom_spec 64 m h0 (by omega)
  have e : tz m = Lib.ctzFrom 64 m := by unfold tz Lib.ctz; rw [if_neg (by omega)]
  have e2 : od m = 2 * q + 1 := by
    unfold od; rw [e]
    have hp := Nat.two_pow_pos (Lib.ctzFrom 64 m)
    generalize Lib.ctzFrom 64 m = k at hq hp ⊢
    rw [hq, Nat.mul_comm, Nat.mul_div_cancel _ hp]
  refine ⟨?_, by omega, by omega⟩
  rw [e2, e, Nat.mul_comm]; exact hq.symm
theorem od_pos {m : Nat} (h0 : 0 < m) (hm : m < 18446744073709551616) : 0 < od m := by have := (tz_spec h0 hm).2.1; omega
theorem od_le {m : Nat} : od m ≤ m := Nat.div_le_self _ _

theorem bl_spec : ∀ (f m : Nat), m < 2 ^ f → m < 2 ^ Lib.bitLenAux f m ∧ (0 < m → 2 ^ Lib.bitLenAux f m ≤ 2 * m) ∧ Lib.bitLenAux f m ≤ f
  | 0, m, h => by simp at h; subst h; simp [Lib.bitLenAux]
  | f + 1, m, h => by
    rw [Lib.bitLenAux]
    by_cases c : m = 0
    · rw [if_pos c]; subst c; simp
    · rw [if_neg c]
      have hp := Nat.pow_succ (n := 2) (m := f)
      obtain ⟨h1, h2, h3⟩ := bl_spec f (m / 2) (by omega)
      rw [Nat.add_comm 1, Nat.pow_succ]
      refine ⟨by omega, fun _ => ?_, by omega⟩
      by_cases c2 : m / 2 = 0
      · have : m = 1 := by omega
        subst this
        have e : Lib.bitLenAux f (1 / 2) = 0 := by cases f <;> simp [Lib.bitLenAux]
        rw [e]; decide
      · have := h2 (by omega); omega
theorem bl_zero : Lib.bitLen 0 = 0 := by decide
theorem bl_lt {m : Nat} (h : m < 18446744073709551616) : m < 2 ^ Lib.bitLen m := (bl_spec 64 m h).1
theorem bl_ge {m : Nat} (h : m < 18446744073709551616) (h0 : 0 < m) : 2 ^ Lib.bitLen m ≤ 2 * m := (bl_spec 64 m h).2.1 h0
theorem bl_le {m : Nat} (h : m < 18446744073709551616) : Lib.bitLen m ≤ 64 := (bl_spec 64 m h).2.2
theorem bl_pos {m : Nat} (h0 : 0 < m) : 0 < Lib.bitLen m := by
  unfold Lib.bitLen Lib.bitLenAux; rw [if_neg (by omega)]; omega
/-- m has at most k digits just if it is below 2^k. -/
theorem bl_le_iff {m k : Nat} (h : m < 18446744073709551616) : Lib.bitLen m ≤ k ↔ m < 2 ^ k := by
  constructor
  · intro c; exact Nat.lt_of_lt_of_le (bl_lt h) (Nat.pow_le_pow_right (by decide) c)
  · intro c
    by_cases h0 : 0 < m
    · have g := bl_ge h h0
      apply Nat.le_of_not_lt
      intro d
      have e : 2 ^ (k + 1) ≤ 2 ^ Lib.bitLen m := Nat.pow_le_pow_right (by decide) d
      rw [Nat.pow_succ] at e
      omega
    · have : m = 0 := by omega
      subst this; exact Nat.zero_le _
end Go.Proofs.YtjkonfopajihdaaDoor.Bt
set_option linter.unusedSimpArgs false
set_option linter.unusedVariables false
namespace Go.Proofs.YtjkonfopajihdaaDoor.Bt
open Go Ff

theorem ext_bits (b : Nat) (w : World) : (callFunc 68 #[.float .f64 b]).run Tryd.prog w = .ok (.value (.int .u64 b)) w := by kernel_rfl
theorem ext_from (b : Nat) (w : World) : (callFunc 95 #[.int .u64 b]).run Tryd.prog w = .ok (.value (.float .f64 b)) w := by kernel_rfl

theorem isn_iff (x : Nat) : isn x ↔ 9218868437227405312 < rung x := Iff.rfl
theorem isn_ne (x : Nat) : (FloatKind.f64.format.order x x != some Ordering.eq) = decide (isn x) := by
  rw [show FloatKind.f64.format.order x x = _ from order_eq x x]
  by_cases h : isn x
  · simp [h]
  · simp [h, compare, compareOfLessAndEq]
theorem and_not_top (x : Nat) (hx : x < 18446744073709551616) : bits BinOp.andNot IntKind.u64 (x : Int) 9223372036854775808 = ((rung x : Nat) : Int) := by
  rw [show (9223372036854775808 : Int) = ((9223372036854775808 : Nat) : Int) from rfl, u64_andNot_nat x _ hx (by decide)]
  congr 1
  exact Nat.and_two_pow_sub_one_eq_mod x 63
theorem and_top (x : Nat) (hx : x < 18446744073709551616) : bits BinOp.and IntKind.u64 (x : Int) 9223372036854775808 = if sgn x then 9223372036854775808 else 0 := by
  rw [show (9223372036854775808 : Int) = ((9223372036854775808 : Nat) : Int) from rfl, u64_and_nat x _ hx (by decide), nat_bit 63 x]
  unfold sgn
  by_cases h : x / 2 ^ 63 % 2 = 1
  · rw [h]; simp
  · have : x / 2 ^ 63 % 2 = 0 := by omega
    rw [this]; simp

def kind (x : Nat) : Nat := if isn x then 5 else if rung x = 9218868437227405312 then 4 else if rung x = 0 then 1 else if rung x < 4503599627370496 then 2 else 3

theorem ret_int {k : IntKind} {a b : Int} (h : a = b) : Ending.returned (.int k a) = .returned (.int k b) := by rw [h]
theorem ret_bool {a b : Bool} (h : a = b) : Ending.returned (.bool a) = .returned (.bool b) := by rw [h]
theorem mod_top (x : Nat) : (x : Int) % 9223372036854775808 = ((rung x : Nat) : Int) := by unfold rung; omega

@[irreducible] def infB (x : Nat) : Bool := rung x == 9218868437227405312
theorem infB_true (x : Nat) : infB x = true ↔ rung x = 9218868437227405312 := by unfold infB; exact beq_iff_eq
theorem infB_false (x : Nat) : infB x = false ↔ ¬ rung x = 9218868437227405312 := by unfold infB; exact beq_eq_false_iff_ne
@[local go_sem] theorem eq_inf (x : Nat) : ((rung x : Int) == 9218868437227405312) = infB x := by
  rw [Bool.eq_iff_iff, beq_iff_eq, infB_true]; omega

@[irreducible] def subB (x : Nat) : Bool := decide (rung x < 4503599627370496)
theorem subB_true (x : Nat) : subB x = true ↔ rung x < 4503599627370496 := by unfold subB; exact decide_eq_true_iff
theorem subB_false (x : Nat) : subB x = false ↔ ¬ rung x < 4503599627370496 := by unfold subB; exact decide_eq_false_iff_not
@[local go_sem] theorem lt_sub (x : Nat) : decide ((rung x : Int) < 4503599627370496) = subB x := by
  rw [Bool.eq_iff_iff, decide_eq_true_iff, subB_true]; omega

set_option maxRecDepth 100000 in
theorem KindOf_c (x : Nat) (hx : x < 18446744073709551616) (w : World) :
    Calls Tryd.prog 127 #[.float .f64 x] w fun e w' => e = .returned (.int .u8 (kind x)) ∧ w = w' := by
  have h44 := ext_bits
  have hb := and_not_top x hx
  have hn := isn_ne x
  have hr := rung_lt x
  go_enter Tryd.func127, Tryd.ntmps127
  go_wp2
  all_goals go_ret
  all_goals refine ⟨ret_int ?_, rfl⟩
  all_goals go_light
  all_goals clear h44 hb hn
  all_goals simp only [kind, isn_iff, beq_iff_eq, beq_eq_false_iff_ne, bne_iff_ne, bne_eq_false_iff_eq, ne_eq] at *
  all_goals repeat' split
  all_goals omega

end Go.Proofs.YtjkonfopajihdaaDoor.Bt
set_option linter.unusedSimpArgs false
set_option linter.unusedVariables false
namespace Go.Proofs.YtjkonfopajihdaaDoor.Bt
open Go Go.RowKit Ff

@[irreducible] def finB (x : Nat) : Bool := decide (rung x < 9218868437227405312)
theorem finB_true (x : Nat) : finB x = true ↔ rung x < 9218868437227405312 := by unfold finB; exact decide_eq_true_iff
theorem finB_false (x : Nat) : finB x = false ↔ ¬ rung x < 9218868437227405312 := by unfold finB; exact decide_eq_false_iff_not
theorem kind_lt (x : Nat) : decide ((kind x : Int) < 4) = finB x := by
  rw [Bool.eq_iff_iff, decide_eq_true_iff, finB_true]
  simp only [kind, isn_iff]
  repeat' split
  all_goals omega

theorem Finite_c (x : Nat) (hx : x < 18446744073709551616) (w : World) :
    Calls Tryd.prog 104 #[.float .f64 x] w fun e w' => e = .returned (.bool (finB x)) ∧ w = w' := by
  go_enter Tryd.func104, Tryd.ntmps104
  go_wp2_with (go_at_call 127; refine (KindOf_c _ hx _).mono ?_; rintro e w' ⟨rfl, rfl⟩)
  go_ret
  exact ⟨ret_bool (kind_lt x), rfl⟩

theorem isn_eq (x : Nat) : (FloatKind.f64.format.order x x == some Ordering.eq) = !decide (isn x) := by
  have := isn_ne x
  revert this
  cases h : (FloatKind.f64.format.order x x == some Ordering.eq) <;> simp [bne, h]
@[irreducible] def topped (b : Nat) : Nat := 9223372036854775808 + b
theorem topped_eq (b : Nat) : topped b = 9223372036854775808 + b := by unfold topped; rfl
@[irreducible] def wf (neg : Bool) (r : Nat) : Nat := if neg then topped r else r
theorem wf_eq (neg : Bool) (r : Nat) : wf neg r = if neg then topped r else r := by unfold wf; rfl
theorem signed_b (neg : Bool) (b : Nat) (hb : b < 9223372036854775808) (w : World) :
    Calls Tryd.prog 134 #[.bool neg, .int .u64 b] w fun e w' => e = .returned (.float .f64 (wf neg b)) ∧ w = w' := by
  have h12 := ext_from
  have ho : bits BinOp.or IntKind.u64 (b : Int) 9223372036854775808 = ((topped b : Nat) : Int) := by
    rw [topped_eq, show (9223372036854775808 : Int) = ((9223372036854775808 : Nat) : Int) from rfl, u64_or_nat b _ (by omega) (by decide), Nat.or_comm]
    congr 1
    exact nat_join 63 _ _ (by decide) hb
  cases neg
  all_goals
    go_enter Tryd.func134, Tryd.ntmps134
    go_wp2
    all_goals go_ret
    all_goals exact ⟨by rw [wf_eq]; rfl, rfl⟩
theorem sub_self (x : Nat) (h : rung x < 9218868437227405312) : floatBits .sub .f64 x x = some 0 := by
  show Ieee.double.sub x x = some 0
  obtain ⟨m, i, hm, _⟩ := read_fin h
  unfold Ieee.Format.sub
  rw [hm]
  simp only [Ieee.Datum.opposite, Ieee.Datum.sum, Int.min_self, Int.sub_self]
  have e : Ieee.signed (sgn x) m (Int.toNat 0) + Ieee.signed (!sgn x) m (Int.toNat 0) = 0 := by
    rw [signed_eq, signed_eq]; cases sgn x <;> simp <;> omega
  rw [e]
  simp only [if_true, Bool.and_not_self]
  rfl
theorem sub_inf (x : Nat) (h : rung x = 9218868437227405312) : Ieee.double.sub x x = none := by
  unfold Ieee.Format.sub
  rw [read_inf h]
  cases sgn x <;> rfl
theorem order_zz : (FloatKind.f64.format.order 0 0 == some Ordering.eq) = true := by decide

@[irreducible] def nanAt (w : World) (x y : Nat) : Nat := (Question.nanBits .f64 x y).cut (w.tape w.drawn (.nanBits .f64 x y))
theorem nanAt_isn (w : World) (x y : Nat) : isn (nanAt w x y) := by
  unfold nanAt Question.cut isn rung
  simp only
  generalize w.tape w.drawn (.nanBits .f64 x y) = t
  have h2 : t / 2 % (2 ^ 52 - 1) < 4503599627370495 := Nat.mod_lt _ (by decide)
  generalize t / 2 % (2 ^ 52 - 1) = u at h2
  have h3 : t % 2 = 0 ∨ t % 2 = 1 := by omega
  rcases h3 with h3 | h3 <;> rw [h3] <;> omega
theorem run_sub_nan (t : TypeId) (x y : Nat) (h : Ieee.double.sub x y = none) (w : World) :
    (binOp .sub t (.float .f64 x) (.float .f64 y)).run Tryd.prog w = .ok (.float .f64 (nanAt w x y)) w.drew := by
  have h' : FloatKind.f64.format.sub x y = none := h
  simp [binOp, Op.floatArith, h', nanAt, Question.forced]

end Go.Proofs.YtjkonfopajihdaaDoor.Bt
set_option linter.unusedSimpArgs false
set_option linter.unusedVariables false
namespace Go.Proofs.YtjkonfopajihdaaDoor.Bt
open Go Go.RowKit Ff

/-- What stands in the worlds of these calls: the table of the library's. -/
def Tabs (w : World) : Prop := TabAt 1 Lib.deBruijn64tab w ∧ 1 < w.heap.size
theorem Tabs.below {w w' : World} (h : Tabs w) (hb : Below w.heap.size w w') : Tabs w' :=
  ⟨fun j hj => by rw [hb.cell (p := ⟨1, j, none⟩) h.2]; exact h.1 j hj, Nat.lt_of_lt_of_le h.2 hb.size⟩

@[irreducible] def frac (x : Nat) : Nat := rung x % 4503599627370496
@[irreducible] def pm (x : Nat) : Nat := if rung x < 4503599627370496 then rung x else 4503599627370496 + rung x % 4503599627370496
@[irreducible] def pex (x : Nat) : Int := if rung x < 4503599627370496 then -1074 else -1074 + ((rung x / 4503599627370496 - 1 : Nat) : Int)
def partM (x : Nat) : Nat := if rung x = 0 then 0 else od (pm x)
def partE (x : Nat) : Int := if rung x = 0 then 0 else pex x + tz (pm x)
theorem frac_eq (x : Nat) : frac x = rung x % 4503599627370496 := by unfold frac; rfl
theorem pm_sub {x : Nat} (h : rung x < 4503599627370496) : pm x = rung x := by unfold pm; rw [if_pos h]
theorem pm_nor {x : Nat} (h : ¬ rung x < 4503599627370496) : pm x = 4503599627370496 + frac x := by unfold pm; rw [if_neg h, frac_eq]
theorem pex_sub {x : Nat} (h : rung x < 4503599627370496) : pex x = -1074 := by unfold pex; rw [if_pos h]
theorem pex_nor {x : Nat} (h : ¬ rung x < 4503599627370496) : pex x = -1074 + ((rung x / 4503599627370496 - 1 : Nat) : Int) := by unfold pex; rw [if_neg h]
theorem pm_pos {x : Nat} (h : rung x ≠ 0) : 0 < pm x := by unfold pm; split <;> omega
theorem pm_lt (x : Nat) : pm x < 9007199254740992 := by unfold pm; split <;> omega

theorem frac_and (x : Nat) : bits BinOp.and IntKind.u64 (rung x : Int) 4503599627370495 = (frac x : Int) := by
  have := rung_lt x
  rw [show (4503599627370495 : Int) = ((4503599627370495 : Nat) : Int) from rfl, u64_and_nat (rung x) _ (by omega) (by decide), frac_eq]
  congr 1
  exact Nat.and_two_pow_sub_one_eq_mod (rung x) 52
theorem frac_or (x : Nat) (h : ¬ rung x < 4503599627370496) : bits BinOp.or IntKind.u64 (frac x : Int) 4503599627370496 = (pm x : Int) := by
  have := rung_lt x
  have hf : frac x < 4503599627370496 := by rw [frac_eq]; omega
  rw [show (4503599627370496 : Int) = ((4503599627370496 : Nat) : Int) from rfl, u64_or_nat (frac x) _ (by omega) (by decide), pm_nor h, Nat.or_comm]
  congr 1
  exact nat_join 52 _ _ (by decide) hf
theorem frac_sub {x : Nat} (h : rung x < 4503599627370496) : (frac x : Int) = (pm x : Int) := by rw [frac_eq, pm_sub h, Nat.mod_eq_of_lt h]

@[irreducible] def topB (x : Nat) : Nat := if sgn x then 9223372036854775808 else 0
theorem top_and (x : Nat) (hx : x < 18446744073709551616) : bits BinOp.and IntKind.u64 (x : Int) 9223372036854775808 = (topB x : Int) := by
  rw [and_top x hx]; unfold topB; split <;> rfl
theorem top_ne (x : Nat) : ((topB x : Int) != 0) = sgn x := by
  unfold topB; cases sgn x <;> rfl

theorem partM_shift {x : Nat} (h0 : rung x ≠ 0) : (pm x : Int) / 2 ^ min (Lib.ctz 64 (pm x)) 64 = partM x := by
  have h := tz_spec (pm_pos h0) (by have := pm_lt x; omega)
  have e : min (Lib.ctz 64 (pm x)) 64 = tz (pm x) := by have := h.2.2; unfold tz at this ⊢; omega
  rw [e]; unfold partM od; rw [if_neg h0]; norm_cast
theorem partM_od {x : Nat} (h0 : rung x ≠ 0) : partM x = od (pm x) := by unfold partM; rw [if_neg h0]
theorem partE_eq {x : Nat} (h0 : rung x ≠ 0) : partE x = pex x + Lib.ctz 64 (pm x) := by unfold partE tz; rw [if_neg h0]
theorem ctz_le {x : Nat} (h0 : rung x ≠ 0) : Lib.ctz 64 (pm x) < 64 := (tz_spec (pm_pos h0) (by have := pm_lt x; omega)).2.2
theorem Parts_no (x : Nat) (hx : x < 18446744073709551616) (hf : finB x = false) (w : World) :
    Calls Tryd.prog 67 #[.float .f64 x] w fun e w' => e = .returned (.tuple #[.bool false, .int .u64 0, .int .i64 0, .bool false]) ∧ w = w' := by
  go_enter Tryd.func67, Tryd.ntmps67
  go_wp2_with (go_at_call 104; refine (Finite_c _ hx _).mono ?_; rintro e w' ⟨rfl, rfl⟩)
  exact bodyPost_ret (by simp [results, Tryd.results67, go_sem]) rfl ⟨rfl, rfl⟩
theorem Parts_yes (x : Nat) (hx : x < 18446744073709551616) (hf : finB x = true) (w : World) (ht : Tabs w) :
    Calls Tryd.prog 67 #[.float .f64 x] w fun e w' => e = .returned (.tuple #[.bool (sgn x), .int .u64 (partM x), .int .i64 (partE x), .bool true]) ∧ w = w' := by
  have h44 := ext_bits
  have hb := and_not_top x hx
  have ha := top_and x hx
  have hs := top_ne x
  have h1 := frac_and x
  have hr := (finB_true x).1 hf
  by_cases h0 : rung x = 0
  · have hz : ((rung x : Int) == 0) = true := by rw [h0]; rfl
    have em : partM x = 0 := by unfold partM; rw [if_pos h0]
    have ee : partE x = 0 := by unfold partE; rw [if_pos h0]
    go_enter Tryd.func67, Tryd.ntmps67
    go_wp2_with (go_at_call 104; refine (Finite_c _ hx _).mono ?_; rintro e w' ⟨rfl, rfl⟩)
    exact bodyPost_ret (v := .tuple #[.bool (sgn x), .int .u64 (partM x), .int .i64 (partE x), .bool true]) (by simp [results, Tryd.results67, go_sem, em, ee]) rfl ⟨rfl, rfl⟩
  · have hz : ((rung x : Int) == 0) = false := by rw [beq_eq_false_iff_ne]; omega
    have hq := pm_lt x
    by_cases hn : rung x < 4503599627370496
    · have hd : ((rung x : Int) / 4503599627370496 != 0) = false := by rw [bne_eq_false_iff_eq]; omega
      have h2 := frac_sub hn
      go_enter Tryd.func67, Tryd.ntmps67
      go_wp2_with (first | (go_at_call 104; refine (Finite_c _ hx _).mono ?_; rintro e w' ⟨rfl, rfl⟩) | (go_at_call 105; refine (Tryd.bits_TrailingZeros64 _ (by omega) _ (fun _ => ht.1)).mono ?_; rintro e w' ⟨rfl, rfl⟩))
      refine bodyPost_ret (v := .tuple #[.bool (sgn x), .int .u64 (partM x), .int .i64 (partE x), .bool true]) ?_ rfl ⟨rfl, rfl⟩
      simp [results, Tryd.results67, go_sem]
      refine ⟨partM_shift h0, ?_⟩
      rw [partE_eq h0, pex_sub hn, IntWalk.wrap64_in]
      have := ctz_le h0; omega
    · have hd : ((rung x : Int) / 4503599627370496 != 0) = true := by rw [bne_iff_ne]; omega
      have h2 := frac_or x hn
      go_enter Tryd.func67, Tryd.ntmps67
      go_wp2_with (first | (go_at_call 104; refine (Finite_c _ hx _).mono ?_; rintro e w' ⟨rfl, rfl⟩) | (go_at_call 105; refine (Tryd.bits_TrailingZeros64 _ (by omega) _ (fun _ => ht.1)).mono ?_; rintro e w' ⟨rfl, rfl⟩))
      refine bodyPost_ret (v := .tuple #[.bool (sgn x), .int .u64 (partM x), .int .i64 (partE x), .bool true]) ?_ rfl ⟨rfl, rfl⟩
      simp [results, Tryd.results67, go_sem]
      refine ⟨partM_shift h0, ?_⟩
      rw [partE_eq h0, pex_nor hn, IntWalk.wrap64_in]
      · omega
      · have := ctz_le h0; omega

theorem pm_rem (x : Nat) : (rung x : Int).tmod 4503599627370496 = (frac x : Int) := by
  rw [frac_eq]; exact Int.ofNat_tmod (rung x) 4503599627370496
theorem pm_mod (x : Nat) : (rung x : Int) % 4503599627370496 = (frac x : Int) := by rw [frac_eq]; omega
theorem pm_add {x : Nat} (h : ¬ rung x < 4503599627370496) : (frac x : Int) + 4503599627370496 = (pm x : Int) := by rw [pm_nor h]; omega
@[irreducible] def norB (x : Nat) : Bool := decide (4503599627370496 ≤ rung x)
theorem nor_geq (x : Nat) : decide ((4503599627370496 : Int) ≤ (rung x : Int)) = norB x := by
  unfold norB; rw [Bool.eq_iff_iff, decide_eq_true_iff, decide_eq_true_iff]; omega

end Go.Proofs.YtjkonfopajihdaaDoor.Bt
