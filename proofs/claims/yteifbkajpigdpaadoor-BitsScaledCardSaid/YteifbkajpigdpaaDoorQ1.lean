/- Texts put together: Ff B1 Shelf B2 Mt B3 B4 B5 B6 B7 B8 B9 B10 B11 B12 L1 TabsS R1 R2 Fr BS1 BS2 Post. -/
import Ieee.Arith
import Derived.Test.YteifbkajpigdpaaDoorProg
import Derived.WalkKit
import Derived.WalkLawsBesides
import Derived.WalkSpells
import Derived.Outline
import Derived.Lib.Hide
import Derived.Deep.Light
import Derived.Laws.BitsAllLaws
import Derived.Shelf.Small.Wraps
import Derived.Shelf.Strconv.Atoi
import Derived.Shelf.Strconv.Itoa0
import Derived.Shelf.Strconv.Itoa1
import Derived.Shelf.LaysM
import Derived.Shelf.Strconv.Itoa2
import Derived.Shelf.Strconv.Itoa3
import Derived.Shelf.Strconv.AtoiErrFast
import Derived.Shelf.Strconv.ParseIntEmpty
import Derived.Shelf.Strconv.AtoiFail
import Derived.Shelf.Strconv.Clone
import Derived.Shelf.Strconv.SyntaxError
import Derived.Shelf.LaysC
import Derived.Shelf.Strconv.ToError
import Derived.Shelf.Strconv.Lower
import Derived.Shelf.Strconv.ParseUint10
import Derived.Shelf.Strconv.ParseUint10Empty
import Derived.Shelf.Strconv.ParseUint10Any
import Derived.Shelf.Strconv.ParseInt10
import Derived.Shelf.Strconv.AtoiLong
import Derived.Shelf.Strconv.AtoiInnerAll
import Derived.Shelf.Strconv.RangeError
import Derived.Shelf.Strconv.ToErrorRange
import Derived.Shelf.Strconv.AtoiAll
import Derived.Shelf.Strconv.ErrVarAll
import Derived.Shelf.Strconv.ParseUintEmpty
import Derived.Shelf.Strconv.ParseUint10b64
import Derived.Shelf.Strconv.ParseUint10b32
import Derived.Shelf.Strconv.ParseUint10b16
import Derived.Shelf.Strconv.ParseUint10b8
import Derived.Shelf.Strconv.ParseUint10At
import Derived.Shelf.Strconv.ParseInt10At64
import Derived.Shelf.Strconv.ParseInt10At32
import Derived.Shelf.Strconv.ParseInt10At16
import Derived.Shelf.Strconv.ParseInt10At8
import Derived.Shelf.Strconv.ParseInt10All
import Derived.Ground.MpProg
import Derived.Shelf.Pu.ParseUintPublic10
import Derived.Shelf.Pu.ErrVarParseUint
import Derived.Shelf.Strings.Search1
import Derived.Shelf.Strings.Search2
import Derived.Shelf.Strings.Cut
import Derived.Shelf.Strings.Shaped
import Derived.Shelf.Strings.Prefix
import Derived.Shelf.Spec.TrailingZeros
import Derived.Laws.FloatArith
import Derived.Deep.QuietTactic
import Derived.BigQuiet
import Derived.Lib.TrailingZeros
import Derived.Laws.ShiftsVarLaws
import Derived.WalkSmall
import Derived.Lib.ItoaMem
import Derived.Lib.Walk
import Derived.BigCall
import Derived.Lib.AtoiErrMem
import Derived.DataShut
import Derived.Test.YteifbkajpigdpaaDoorRows
import Derived.LaidSub
import Derived.Lib.LaidTab
import Derived.Lib.AtoiAll
import Derived.Lib.ParseIntBCases
import Derived.Lib.IndexMore
import Derived.Below
import Derived.ChangeSame
namespace Go.Proofs.YteifbkajpigdpaaDoor.Ff
open Ieee

def rung (x : Nat) : Nat := x % 9223372036854775808
def sgn (x : Nat) : Bool := x / 9223372036854775808 % 2 == 1
def isn (x : Nat) : Prop := 9218868437227405312 < rung x
instance (x : Nat) : Decidable (isn x) := by unfold isn; exact inferInstance
def srung (x : Nat) : Int := if sgn x then -(rung x : Int) else (rung x : Int)
def mag (r : Nat) : Nat := if r < 4503599627370496 then r else (4503599627370496 + r % 4503599627370496) * 2 ^ (r / 4503599627370496 - 1)

theorem sw : double.signWeight = 9223372036854775808 := by decide
theorem bin : double.binade = 4503599627370496 := by decide
theorem infr : double.infRung = 9218868437227405312 := by decide
theorem lp : double.leastPlace = -1074 := by decide

theorem read_eq (x : Nat) : double.read x =
    if rung x < 4503599627370496 then .number (sgn x) (rung x) (-1074)
    else if rung x < 9218868437227405312 then .number (sgn x) (4503599627370496 + rung x % 4503599627370496) (-1074 + ((rung x / 4503599627370496 - 1 : Nat) : Int))
    else if rung x = 9218868437227405312 then .infinity (sgn x) else .nan (sgn x) (rung x - 9218868437227405312) := by
  unfold Format.read
  rw [sw, bin, infr, lp]
  rfl

theorem mag_small {r : Nat} (h : r < 4503599627370496) : mag r = r := by unfold mag; rw [if_pos h]
theorem mag_big {r : Nat} (h : ¬ r < 4503599627370496) : mag r = (4503599627370496 + r % 4503599627370496) * 2 ^ (r / 4503599627370496 - 1) := by unfold mag; rw [if_neg h]

theorem mag_step (r : Nat) : mag r < mag (r + 1) := by
  by_cases h : r < 4503599627370496
  · by_cases h2 : r + 1 < 4503599627370496
    · rw [mag_small h, mag_small h2]; omega
    · rw [mag_small h, mag_big h2]
      have e : r + 1 = 4503599627370496 := by omega
      have q : (4503599627370496 + 4503599627370496 % 4503599627370496) * 2 ^ (4503599627370496 / 4503599627370496 - 1) = 4503599627370496 := by simp
      rw [e, q]; omega
  · have h2 : ¬ r + 1 < 4503599627370496 := by omega
    rw [mag_big h, mag_big h2]
    by_cases hm : r % 4503599627370496 = 4503599627370495
    · have e1 : (r + 1) % 4503599627370496 = 0 := by omega
      have e2 : (r + 1) / 4503599627370496 - 1 = (r / 4503599627370496 - 1) + 1 := by omega
      rw [e1, e2, hm, Nat.pow_succ]
      have hp : 0 < 2 ^ (r / 4503599627370496 - 1) := Nat.two_pow_pos _
      generalize 2 ^ (r / 4503599627370496 - 1) = p at hp
      omega
    · have e1 : (r + 1) % 4503599627370496 = r % 4503599627370496 + 1 := by omega
      have e2 : (r + 1) / 4503599627370496 = r / 4503599627370496 := by omega
      rw [e1, e2]
      exact Nat.mul_lt_mul_of_pos_right (by omega) (Nat.two_pow_pos _)

theorem mag_lt {r s : Nat} (h : r < s) : mag r < mag s := by
  obtain ⟨k, rfl⟩ : ∃ k, s = r + 1 + k := ⟨s - (r + 1), by omega⟩
  clear h
  induction k with
  | zero => exact mag_step r
  | succ k ih => exact Nat.lt_trans ih (mag_step _)
theorem mag_lt_iff {r s : Nat} : mag r < mag s ↔ r < s := by
  constructor
  · intro h
    by_cases c : r < s
    · exact c
    · rcases Nat.lt_or_eq_of_le (Nat.le_of_not_lt c) with c | c
      · have := mag_lt c; omega
      · subst c; omega
  · exact mag_lt
theorem mag_zero : mag 0 = 0 := rfl
theorem mag_pos {r : Nat} (h : 0 < r) : 0 < mag r := by have := mag_lt h; rw [mag_zero] at this; exact this

/-- The signed size of a word, over 2 to the power -1074. -/
def sv (x : Nat) : Int := if sgn x then -(mag (rung x) : Int) else (mag (rung x) : Int)
theorem sv_lt {x y : Nat} : sv x < sv y ↔ srung x < srung y := by
  have h1 : mag (rung x) < mag (rung y) ↔ rung x < rung y := mag_lt_iff
  have h2 : mag (rung y) < mag (rung x) ↔ rung y < rung x := mag_lt_iff
  have h3 : 0 < mag (rung x) ↔ 0 < rung x := by have := @mag_lt_iff 0 (rung x); rwa [mag_zero] at this
  have h4 : 0 < mag (rung y) ↔ 0 < rung y := by have := @mag_lt_iff 0 (rung y); rwa [mag_zero] at this
  unfold sv srung
  split <;> split <;> omega

theorem compare_congr {a b c d : Int} (h : a < b ↔ c < d) (h' : b < a ↔ d < c) : compare a b = compare c d := by
  simp only [compare, compareOfLessAndEq]
  by_cases e : a < b
  · rw [if_pos e, if_pos (h.1 e)]
  · rw [if_neg e, if_neg (fun x => e (h.2 x))]
    by_cases f : a = b
    · rw [if_pos f, if_pos (by omega)]
    · rw [if_neg f, if_neg (by omega)]

theorem signed_eq (s : Bool) (m u : Nat) : signed s m u = if s then -((m * 2 ^ u : Nat) : Int) else ((m * 2 ^ u : Nat) : Int) := by
  unfold signed; rw [Nat.shiftLeft_eq]
theorem signed_scale (s : Bool) (m u k : Nat) : signed s m u * ((2 ^ k : Nat) : Int) = signed s m (u + k) := by
  rw [signed_eq, signed_eq, Nat.pow_add]
  have : (m * (2 ^ u * 2 ^ k)) = (m * 2 ^ u) * 2 ^ k := by rw [Nat.mul_assoc]
  rw [this]
  split
  · rw [Int.neg_mul]; rfl
  · rfl

theorem order_num (s t : Bool) (m n : Nat) (i j : Nat) :
    Datum.order (.number s m (-1074 + (i : Int))) (.number t n (-1074 + (j : Int))) = some (compare (signed s m i) (signed t n j)) := by
  simp only [Datum.order]
  congr 1
  obtain ⟨b, hb, h1, h2⟩ : ∃ b : Nat, min (-1074 + (i : Int)) (-1074 + (j : Int)) = -1074 + (b : Int) ∧ b ≤ i ∧ b ≤ j := by
    by_cases h : i ≤ j
    · exact ⟨i, by omega, by omega, h⟩
    · exact ⟨j, by omega, by omega, by omega⟩
  rw [hb]
  have e1 : (-1074 + (i : Int) - (-1074 + (b : Int))).toNat = i - b := by omega
  have e2 : (-1074 + (j : Int) - (-1074 + (b : Int))).toNat = j - b := by omega
  rw [e1, e2]
  have f1 := signed_scale s m (i - b) b
  have f2 := signed_scale t n (j - b) b
  rw [Nat.sub_add_cancel h1] at f1
  rw [Nat.sub_add_cancel h2] at f2
  rw [← f1, ← f2]
  have hp : (0 : Int) < ((2 ^ b : Nat) : Int) := by have := Nat.two_pow_pos b; omega
  apply compare_congr
  · exact (Int.mul_lt_mul_right hp).symm
  · exact (Int.mul_lt_mul_right hp).symm

/-- A finite word read. -/
theorem read_fin {x : Nat} (h : rung x < 9218868437227405312) : ∃ m i : Nat, double.read x = .number (sgn x) m (-1074 + (i : Int)) ∧ m * 2 ^ i = mag (rung x) := by
  rw [read_eq]
  by_cases c : rung x < 4503599627370496
  · rw [if_pos c]; exact ⟨rung x, 0, rfl, by rw [mag_small c]; simp⟩
  · rw [if_neg c, if_pos h]; exact ⟨_, _, rfl, by rw [mag_big c]⟩
theorem read_inf {x : Nat} (h : rung x = 9218868437227405312) : double.read x = .infinity (sgn x) := by
  rw [read_eq, if_neg (by omega), if_neg (by omega), if_pos h]
theorem read_nan {x : Nat} (h : isn x) : double.read x = .nan (sgn x) (rung x - 9218868437227405312) := by
  unfold isn at h
  rw [read_eq, if_neg (by omega), if_neg (by omega), if_neg (by omega)]

theorem rung_lt (x : Nat) : rung x < 9223372036854775808 := Nat.mod_lt _ (by decide)

theorem signed_sv {x m i : Nat} (h : m * 2 ^ i = mag (rung x)) : signed (sgn x) m i = sv x := by
  rw [signed_eq, h]; rfl

/-- THE ORDER OF TWO WORDS. -/
theorem order_eq (x y : Nat) : double.order x y = if isn x ∨ isn y then none else some (compare (srung x) (srung y)) := by
  unfold Format.order
  by_cases hx : isn x
  · rw [if_pos (Or.inl hx), read_nan hx]; rfl
  · by_cases hy : isn y
    · rw [if_pos (Or.inr hy), read_nan hy]; cases double.read x <;> rfl
    · rw [if_neg (fun h => h.elim hx hy)]
      have lx : rung x ≤ 9218868437227405312 := by unfold isn at hx; omega
      have ly : rung y ≤ 9218868437227405312 := by unfold isn at hy; omega
      rcases Nat.lt_or_eq_of_le lx with lx | lx <;> rcases Nat.lt_or_eq_of_le ly with ly | ly
      · obtain ⟨m, i, hm, em⟩ := read_fin lx
        obtain ⟨n, j, hn, en⟩ := read_fin ly
        rw [hm, hn, order_num, signed_sv em, signed_sv en]
        exact congrArg some (compare_congr sv_lt sv_lt)
      · obtain ⟨m, i, hm, em⟩ := read_fin lx
        rw [hm, read_inf ly]
        simp only [Datum.order, srung, ly]
        cases sgn y <;> simp only [if_true, if_false, Bool.false_eq_true] <;> congr 1 <;> symm
        · rw [show compare (if sgn x = true then -(rung x : Int) else (rung x : Int)) ((9218868437227405312 : Nat) : Int) = compare (0 : Int) 1 from compare_congr (by split <;> omega) (by split <;> omega)]; rfl
        · rw [show compare (if sgn x = true then -(rung x : Int) else (rung x : Int)) (-((9218868437227405312 : Nat) : Int)) = compare (1 : Int) 0 from compare_congr (by split <;> omega) (by split <;> omega)]; rfl
      · obtain ⟨n, j, hn, en⟩ := read_fin ly
        rw [hn, read_inf lx]
        simp only [Datum.order, srung, lx]
        cases sgn x <;> simp only [if_true, if_false, Bool.false_eq_true] <;> congr 1 <;> symm
        · rw [show compare ((9218868437227405312 : Nat) : Int) (if sgn y = true then -(rung y : Int) else (rung y : Int)) = compare (1 : Int) 0 from compare_congr (by split <;> omega) (by split <;> omega)]; rfl
        · rw [show compare (-((9218868437227405312 : Nat) : Int)) (if sgn y = true then -(rung y : Int) else (rung y : Int)) = compare (0 : Int) 1 from compare_congr (by split <;> omega) (by split <;> omega)]; rfl
      · rw [read_inf lx, read_inf ly]
        simp only [Datum.order, srung, lx, ly]
        cases sgn x <;> cases sgn y <;> decide

end Go.Proofs.YteifbkajpigdpaaDoor.Ff
set_option linter.unusedSimpArgs false
set_option linter.unusedVariables false
namespace Go.Proofs.YteifbkajpigdpaaDoor
open Go Ff

theorem ext_bits (b : Nat) (w : World) : (callFunc 16 #[.float .f64 b]).run Tryd.prog w = .ok (.value (.int .u64 b)) w := by kernel_rfl
theorem ext_from (b : Nat) (w : World) : (callFunc 4 #[.int .u64 b]).run Tryd.prog w = .ok (.value (.float .f64 b)) w := by kernel_rfl

theorem isn_iff (x : Nat) : isn x ↔ 9218868437227405312 < rung x := Iff.rfl
theorem isn_ne (x : Nat) : (FloatKind.f64.format.order x x != some Ordering.eq) = decide (isn x) := by
  rw [show FloatKind.f64.format.order x x = _ from order_eq x x]
  by_cases h : isn x
  · simp [h]
  · simp [h, compare, compareOfLessAndEq]
theorem and_not_top (x : Nat) (hx : x < 18446744073709551616) : bits BinOp.andNot IntKind.u64 (x : Int) 9223372036854775808 = ((rung x : Nat) : Int) := by
  rw [show (9223372036854775808 : Int) = ((9223372036854775808 : Nat) : Int) from rfl, u64_andNot_nat x _ hx (by decide)]
  congr 1
  exact Nat.and_two_pow_sub_one_eq_mod x 63
theorem and_top (x : Nat) (hx : x < 18446744073709551616) : bits BinOp.and IntKind.u64 (x : Int) 9223372036854775808 = if sgn x then 9223372036854775808 else 0 := by
  rw [show (9223372036854775808 : Int) = ((9223372036854775808 : Nat) : Int) from rfl, u64_and_nat x _ hx (by decide), nat_bit 63 x]
  unfold sgn
  by_cases h : x / 2 ^ 63 % 2 = 1
  · rw [h]; simp
  · have : x / 2 ^ 63 % 2 = 0 := by omega
    rw [this]; simp

def kind (x : Nat) : Nat := if isn x then 5 else if rung x = 9218868437227405312 then 4 else if rung x = 0 then 1 else if rung x < 4503599627370496 then 2 else 3

theorem ret_int {k : IntKind} {a b : Int} (h : a = b) : Ending.returned (.int k a) = .returned (.int k b) := by rw [h]
theorem ret_bool {a b : Bool} (h : a = b) : Ending.returned (.bool a) = .returned (.bool b) := by rw [h]
theorem mod_top (x : Nat) : (x : Int) % 9223372036854775808 = ((rung x : Nat) : Int) := by unfold rung; omega

@[irreducible] def infB (x : Nat) : Bool := rung x == 9218868437227405312
theorem infB_true (x : Nat) : infB x = true ↔ rung x = 9218868437227405312 := by unfold infB; exact beq_iff_eq
theorem infB_false (x : Nat) : infB x = false ↔ ¬ rung x = 9218868437227405312 := by unfold infB; exact beq_eq_false_iff_ne
@[local go_sem] theorem eq_inf (x : Nat) : ((rung x : Int) == 9218868437227405312) = infB x := by
  rw [Bool.eq_iff_iff, beq_iff_eq, infB_true]; omega

@[irreducible] def subB (x : Nat) : Bool := decide (rung x < 4503599627370496)
theorem subB_true (x : Nat) : subB x = true ↔ rung x < 4503599627370496 := by unfold subB; exact decide_eq_true_iff
theorem subB_false (x : Nat) : subB x = false ↔ ¬ rung x < 4503599627370496 := by unfold subB; exact decide_eq_false_iff_not
@[local go_sem] theorem lt_sub (x : Nat) : decide ((rung x : Int) < 4503599627370496) = subB x := by
  rw [Bool.eq_iff_iff, decide_eq_true_iff, subB_true]; omega

set_option maxRecDepth 100000 in
theorem KindOf_c (x : Nat) (hx : x < 18446744073709551616) (w : World) :
    Calls Tryd.prog 14 #[.float .f64 x] w fun e w' => e = .returned (.int .u8 (kind x)) ∧ w = w' := by
  have h44 := ext_bits
  have hb := and_not_top x hx
  have hn := isn_ne x
  have hr := rung_lt x
  go_enter Tryd.func14, Tryd.ntmps14
  go_wp2
  all_goals go_ret
  all_goals refine ⟨ret_int ?_, rfl⟩
  all_goals go_light
  all_goals clear h44 hb hn
  all_goals simp only [kind, isn_iff, beq_iff_eq, beq_eq_false_iff_ne, bne_iff_ne, bne_eq_false_iff_eq, ne_eq] at *
  all_goals repeat' split
  all_goals omega

end Go.Proofs.YteifbkajpigdpaaDoor
namespace Go.Proofs
open Go.Shelf
def Tryd.lays129_ren : Go.Shelf.Ren := ⟨fun | 129 => 20 | n => n, fun | 53 => 22 | 3 => 3 | 4 => 4 | 46 => 43 | 5 => 5 | 9 => 9 | n => n, fun | n => n⟩
theorem Tryd.lays129 : Go.Proofs.Lays.n129 Tryd.prog Tryd.lays129_ren := {
  mixed := by kernel_rfl
  f129 := Tryd.func20.trans (congrArg some (by kernel_rfl))
  t3 := Tryd.underlying3
  a3 := Tryd.isAgg3
  z3 := Tryd.sizeOf3
  v3 := Tryd.zeroValue3
  t4 := Tryd.underlying4
  a4 := Tryd.isAgg4
  z4 := Tryd.sizeOf4
  v4 := Tryd.zeroValue4
  t5 := Tryd.underlying5
  a5 := Tryd.isAgg5
  z5 := Tryd.sizeOf5
  v5 := Tryd.zeroValue5
  t9 := Tryd.underlying9
  a9 := Tryd.isAgg9
  z9 := Tryd.sizeOf9
  v9 := Tryd.zeroValue9
  t46 := Tryd.underlying43
  a46 := Tryd.isAgg43
  z46 := Tryd.sizeOf43
  v46 := Tryd.zeroValue43
  t53 := Tryd.underlying22
  a53 := Tryd.isAgg22
  z53 := Tryd.sizeOf22
  v53 := Tryd.zeroValue22 }
/-- bits.Len64: "Len64 returns the minimum number of bits required to represent x; the result is 0 for x == 0.": IT RETURNS 'Lib.bitLen x'; the world is as it was. ('h0', 'h1': x is a uint64.) (LAID: no walk: one application.) -/
theorem Tryd.bits_Len64 (x : Int) (w : World) (h0 : 0 ≤ x) (h1 : x ≤ 18446744073709551615) :
    Calls Tryd.prog 20 #[.int .u64 x] w fun e w' => e = .returned (.int .i64 (Lib.bitLen x.toNat)) ∧ w' = w := Any.bits_Len64 Tryd.lays129 x w h0 h1
def Tryd.lays283_ren : Go.Shelf.Ren := ⟨fun | 283 => 39 | n => n, fun | 3 => 3 | 9 => 9 | 4 => 4 | n => n, fun | n => n⟩
theorem Tryd.lays283 : Go.Proofs.Lays.n283 Tryd.prog Tryd.lays283_ren := {
  mixed := by kernel_rfl
  f283 := Tryd.func39.trans (congrArg some (by kernel_rfl))
  t3 := Tryd.underlying3
  a3 := Tryd.isAgg3
  z3 := Tryd.sizeOf3
  v3 := Tryd.zeroValue3
  t4 := Tryd.underlying4
  a4 := Tryd.isAgg4
  z4 := Tryd.sizeOf4
  v4 := Tryd.zeroValue4
  t9 := Tryd.underlying9
  a9 := Tryd.isAgg9
  z9 := Tryd.sizeOf9
  v9 := Tryd.zeroValue9 }
open Go.Lib in
/-- internal/strconv.small: "small returns the string for an i with 0 <= i < nSmalls.": i's decimal numeral. The world is as it was. (LAID: no walk: one application.) -/
theorem Tryd.internal_strconv_small (i : Nat) (h : i < 100) (w : World) :
    Calls Tryd.prog 39 #[.int .i64 i] w fun e w' => e = .returned (.string ⟨(Lib.decDigits i).toArray⟩) ∧ w' = w := Any.internal_strconv_small Tryd.lays283 i h w
def Tryd.laysM284_ren : Go.Shelf.Ren := ⟨fun | 284 => 40 | 129 => 20 | 317 => 53 | 318 => 54 | n => n, fun | 53 => 22 | 3 => 3 | 212 => 81 | 0 => 0 | 4 => 4 | 46 => 43 | 5 => 5 | 9 => 9 | n => n, fun | 17 => 2 | n => n⟩
theorem Tryd.laysM284 : Go.Proofs.LaysM.n284 Tryd.prog Tryd.laysM284_ren := {
  mixed := by kernel_rfl
  f129 := Tryd.func20.trans (congrArg some (by kernel_rfl))
  f284 := Tryd.func40.trans (congrArg some (by kernel_rfl))
  f317 := Tryd.func53.trans (congrArg some (by kernel_rfl))
  f318 := Tryd.func54.trans (congrArg some (by kernel_rfl))
  t0 := Tryd.underlying0
  a0 := Tryd.isAgg0
  z0 := Tryd.sizeOf0
  v0 := Tryd.zeroValue0
  t3 := Tryd.underlying3
  a3 := Tryd.isAgg3
  z3 := Tryd.sizeOf3
  v3 := Tryd.zeroValue3
  t4 := Tryd.underlying4
  a4 := Tryd.isAgg4
  z4 := Tryd.sizeOf4
  v4 := Tryd.zeroValue4
  t5 := Tryd.underlying5
  a5 := Tryd.isAgg5
  z5 := Tryd.sizeOf5
  v5 := Tryd.zeroValue5
  t9 := Tryd.underlying9
  a9 := Tryd.isAgg9
  z9 := Tryd.sizeOf9
  v9 := Tryd.zeroValue9
  t46 := Tryd.underlying43
  a46 := Tryd.isAgg43
  z46 := Tryd.sizeOf43
  v46 := Tryd.zeroValue43
  t53 := Tryd.underlying22
  a53 := Tryd.isAgg22
  z53 := Tryd.sizeOf22
  v53 := Tryd.zeroValue22
  t212 := Tryd.underlying81
  a212 := Tryd.isAgg81
  z212 := Tryd.sizeOf81
  v212 := Tryd.zeroValue81
  g17 := by kernel_rfl
  i0 := by kernel_rfl
  i3 := by kernel_rfl
  i4 := by kernel_rfl
  i5 := by kernel_rfl
  i9 := by kernel_rfl
  i46 := by kernel_rfl
  i53 := by kernel_rfl
  i212 := by kernel_rfl
  m17 := by kernel_rfl }
open Go.Lib in
/-- internal/strconv.numDigits, at a d that is not 0: THE NUMBER OF d's DECIMAL DIGITS. The world is as it was. (LAID: no walk: one application.) -/
theorem Tryd.internal_strconv_numDigits (u : Nat) (h1 : 1 ≤ u) (h2 : u < 18446744073709551616) (w : World) (htab : Lib.TabIs Tryd.prog w "internal/strconv.uint64pow10" .u64 Lib.pow10Tab) :
    Calls Tryd.prog 40 #[.int .u64 u] w fun e w' => e = .returned (.int .i64 (Lib.nDigits u)) ∧ w' = w := Any.internal_strconv_numDigits Tryd.laysM284 u h1 h2 w htab
def Tryd.lays285_ren : Go.Shelf.Ren := ⟨fun | 285 => 41 | n => n, fun | 37 => 66 | 53 => 22 | 3 => 3 | 4 => 4 | 51 => 82 | 9 => 9 | 5 => 5 | 0 => 0 | n => n, fun | n => n⟩
theorem Tryd.lays285 : Go.Proofs.Lays.n285 Tryd.prog Tryd.lays285_ren := {
  mixed := by kernel_rfl
  f285 := Tryd.func41.trans (congrArg some (by kernel_rfl))
  t0 := Tryd.underlying0
  a0 := Tryd.isAgg0
  z0 := Tryd.sizeOf0
  v0 := Tryd.zeroValue0
  t3 := Tryd.underlying3
  a3 := Tryd.isAgg3
  z3 := Tryd.sizeOf3
  v3 := Tryd.zeroValue3
  t4 := Tryd.underlying4
  a4 := Tryd.isAgg4
  z4 := Tryd.sizeOf4
  v4 := Tryd.zeroValue4
  t5 := Tryd.underlying5
  a5 := Tryd.isAgg5
  z5 := Tryd.sizeOf5
  v5 := Tryd.zeroValue5
  t9 := Tryd.underlying9
  a9 := Tryd.isAgg9
  z9 := Tryd.sizeOf9
  v9 := Tryd.zeroValue9
  t37 := Tryd.underlying66
  a37 := Tryd.isAgg66
  z37 := Tryd.sizeOf66
  v37 := Tryd.zeroValue66
  t51 := Tryd.underlying82
  a51 := Tryd.isAgg82
  z51 := Tryd.sizeOf82
  v51 := Tryd.zeroValue82
  t53 := Tryd.underlying22
  a53 := Tryd.isAgg22
  z53 := Tryd.sizeOf22
  v53 := Tryd.zeroValue22 }
open Go.RowKit Go.Sort Go.Lib in
/-- internal/strconv.formatBase10: "formatBase10 formats the decimal representation of u into a. The caller is responsible for ensuring that a is big enough to hold u. If a is too big, leading zeros will be filled in as needed.": THE ROW HOLDS u's DIGITS ('FmtInv .. 0 ..': every place t holds 'dg u (len - 1 - t)'); all else is as it was but for the count of draws. (LAID: no walk: one application.) -/
theorem Tryd.internal_strconv_formatBase10 (blk off cap : Nat) (u : Nat) (d : Array UInt8) (w : World) (hH : Holds (fun (b : UInt8) => Value.int .u8 (b.toNat : Int)) w blk off d) (hu : u < 10 ^ d.size) (hu64 : u < 18446744073709551616) (hsz : d.size < 4611686018427387904) :
    Calls Tryd.prog 41 #[.slice (some ⟨blk, off, none⟩) d.size cap, .int .u64 u] w fun e w' =>
      e = .returned (.tuple #[]) ∧ ∃ (n v' : Nat) (dk : Array UInt8), w' = (putRow (fun (b : UInt8) => Value.int .u8 (b.toNat : Int)) w blk off dk).drewN n ∧ FmtInv d.size u 0 v' dk := Any.internal_strconv_formatBase10 Tryd.lays285 blk off cap u d w hH hu hu64 hsz
def Tryd.laysM171_ren : Go.Shelf.Ren := ⟨fun | 171 => 23 | 243 => 33 | 246 => 43 | 283 => 39 | 284 => 40 | 285 => 41 | 286 => 42 | 129 => 20 | 317 => 53 | 318 => 54 | 319 => 55 | 320 => 56 | 337 => 63 | 338 => 18 | n => n, fun | 3 => 3 | 9 => 9 | 2 => 2 | 4 => 4 | 171 => 64 | 0 => 0 | 53 => 22 | 37 => 66 | 5 => 5 | 173 => 67 | 212 => 81 | 51 => 82 | 20 => 20 | 213 => 83 | 46 => 43 | 232 => 98 | 233 => 49 | n => n, fun | 17 => 2 | 18 => 6 | 19 => 1 | n => n⟩
theorem Tryd.laysM171 : Go.Proofs.LaysM.n171 Tryd.prog Tryd.laysM171_ren := {
  mixed := by kernel_rfl
  f129 := Tryd.func20.trans (congrArg some (by kernel_rfl))
  f171 := Tryd.func23.trans (congrArg some (by kernel_rfl))
  f243 := Tryd.func33.trans (congrArg some (by kernel_rfl))
  f246 := Tryd.func43.trans (congrArg some (by kernel_rfl))
  f283 := Tryd.func39.trans (congrArg some (by kernel_rfl))
  f284 := Tryd.func40.trans (congrArg some (by kernel_rfl))
  f285 := Tryd.func41.trans (congrArg some (by kernel_rfl))
  f286 := Tryd.func42.trans (congrArg some (by kernel_rfl))
  f317 := Tryd.func53.trans (congrArg some (by kernel_rfl))
  f318 := Tryd.func54.trans (congrArg some (by kernel_rfl))
  f319 := Tryd.func55.trans (congrArg some (by kernel_rfl))
  f320 := Tryd.func56.trans (congrArg some (by kernel_rfl))
  f337 := Tryd.func63.trans (congrArg some (by kernel_rfl))
  f338 := Tryd.func18.trans (congrArg some (by kernel_rfl))
  t0 := Tryd.underlying0
  a0 := Tryd.isAgg0
  z0 := Tryd.sizeOf0
  v0 := Tryd.zeroValue0
  t2 := Tryd.underlying2
  a2 := Tryd.isAgg2
  z2 := Tryd.sizeOf2
  v2 := Tryd.zeroValue2
  t3 := Tryd.underlying3
  a3 := Tryd.isAgg3
  z3 := Tryd.sizeOf3
  v3 := Tryd.zeroValue3
  t4 := Tryd.underlying4
  a4 := Tryd.isAgg4
  z4 := Tryd.sizeOf4
  v4 := Tryd.zeroValue4
  t5 := Tryd.underlying5
  a5 := Tryd.isAgg5
  z5 := Tryd.sizeOf5
  v5 := Tryd.zeroValue5
  t9 := Tryd.underlying9
  a9 := Tryd.isAgg9
  z9 := Tryd.sizeOf9
  v9 := Tryd.zeroValue9
  t20 := Tryd.underlying20
  a20 := Tryd.isAgg20
  z20 := Tryd.sizeOf20
  v20 := Tryd.zeroValue20
  t37 := Tryd.underlying66
  a37 := Tryd.isAgg66
  z37 := Tryd.sizeOf66
  v37 := Tryd.zeroValue66
  t46 := Tryd.underlying43
  a46 := Tryd.isAgg43
  z46 := Tryd.sizeOf43
  v46 := Tryd.zeroValue43
  t51 := Tryd.underlying82
  a51 := Tryd.isAgg82
  z51 := Tryd.sizeOf82
  v51 := Tryd.zeroValue82
  t53 := Tryd.underlying22
  a53 := Tryd.isAgg22
  z53 := Tryd.sizeOf22
  v53 := Tryd.zeroValue22
  t171 := Tryd.underlying64
  a171 := Tryd.isAgg64
  z171 := Tryd.sizeOf64
  v171 := Tryd.zeroValue64
  t173 := Tryd.underlying67
  a173 := Tryd.isAgg67
  z173 := Tryd.sizeOf67
  v173 := Tryd.zeroValue67
  t212 := Tryd.underlying81
  a212 := Tryd.isAgg81
  z212 := Tryd.sizeOf81
  v212 := Tryd.zeroValue81
  t213 := Tryd.underlying83
  a213 := Tryd.isAgg83
  z213 := Tryd.sizeOf83
  t232 := Tryd.underlying98
  a232 := Tryd.isAgg98
  z232 := Tryd.sizeOf98
  v232 := Tryd.zeroValue98
  t233 := Tryd.underlying49
  a233 := Tryd.isAgg49
  z233 := Tryd.sizeOf49
  v233 := Tryd.zeroValue49
  g17 := by kernel_rfl
  g18 := by kernel_rfl
  g19 := by kernel_rfl
  i0 := by kernel_rfl
  i2 := by kernel_rfl
  i3 := by kernel_rfl
  i4 := by kernel_rfl
  i5 := by kernel_rfl
  i9 := by kernel_rfl
  i20 := by kernel_rfl
  i37 := by kernel_rfl
  i46 := by kernel_rfl
  i51 := by kernel_rfl
  i53 := by kernel_rfl
  i171 := by kernel_rfl
  i173 := by kernel_rfl
  i212 := by kernel_rfl
  i232 := by kernel_rfl
  i233 := by kernel_rfl
  m17 := by kernel_rfl
  m18 := by kernel_rfl
  m19 := by kernel_rfl }
open Go.RowKit Go.Sort Go.Lib in
/-- strconv.Itoa: "Itoa is equivalent to FormatInt(int64(i), 10).": i's DECIMAL NUMERAL ('Lib.itoa': a '-' where i is negative, then the digits), FOR EVERY int. The world behind the call: the world before it, new blocks behind the heap (the library's 'var a [24]byte'), draws. (LAID: no walk: one application.) -/
theorem Tryd.strconv_Itoa (n : Int) (h0 : -9223372036854775808 ≤ n) (h1 : n ≤ 9223372036854775807) (w : World) (htab : Lib.TabIs Tryd.prog w "internal/strconv.uint64pow10" .u64 Lib.pow10Tab) :
    Calls Tryd.prog 23 #[.int .i64 n] w fun e w' => e = .returned (.string ⟨(Lib.itoa n).toArray⟩) ∧ ∃ k os, w' = grow (w.drewN k) os := Any.strconv_Itoa Tryd.laysM171 n h0 h1 w htab
def Tryd.lays171_ren : Go.Shelf.Ren := ⟨fun | 171 => 23 | 243 => 33 | 246 => 43 | 283 => 39 | 284 => 40 | 285 => 41 | 286 => 42 | 129 => 20 | 317 => 53 | 318 => 54 | 319 => 55 | 320 => 56 | 337 => 63 | 338 => 18 | n => n, fun | 3 => 3 | 9 => 9 | 2 => 2 | 4 => 4 | 171 => 64 | 0 => 0 | 53 => 22 | 37 => 66 | 5 => 5 | 173 => 67 | 212 => 81 | 51 => 82 | 20 => 20 | 213 => 83 | 46 => 43 | 232 => 98 | 233 => 49 | n => n, fun | 17 => 2 | 18 => 6 | 19 => 1 | n => n⟩
theorem Tryd.lays171 : Go.Proofs.Lays.n171 Tryd.prog Tryd.lays171_ren := {
  mixed := by kernel_rfl
  f129 := Tryd.func20.trans (congrArg some (by kernel_rfl))
  f171 := Tryd.func23.trans (congrArg some (by kernel_rfl))
  f243 := Tryd.func33.trans (congrArg some (by kernel_rfl))
  f246 := Tryd.func43.trans (congrArg some (by kernel_rfl))
  f283 := Tryd.func39.trans (congrArg some (by kernel_rfl))
  f284 := Tryd.func40.trans (congrArg some (by kernel_rfl))
  f285 := Tryd.func41.trans (congrArg some (by kernel_rfl))
  f286 := Tryd.func42.trans (congrArg some (by kernel_rfl))
  f317 := Tryd.func53.trans (congrArg some (by kernel_rfl))
  f318 := Tryd.func54.trans (congrArg some (by kernel_rfl))
  f319 := Tryd.func55.trans (congrArg some (by kernel_rfl))
  f320 := Tryd.func56.trans (congrArg some (by kernel_rfl))
  f337 := Tryd.func63.trans (congrArg some (by kernel_rfl))
  f338 := Tryd.func18.trans (congrArg some (by kernel_rfl))
  t0 := Tryd.underlying0
  a0 := Tryd.isAgg0
  z0 := Tryd.sizeOf0
  v0 := Tryd.zeroValue0
  t2 := Tryd.underlying2
  a2 := Tryd.isAgg2
  z2 := Tryd.sizeOf2
  v2 := Tryd.zeroValue2
  t3 := Tryd.underlying3
  a3 := Tryd.isAgg3
  z3 := Tryd.sizeOf3
  v3 := Tryd.zeroValue3
  t4 := Tryd.underlying4
  a4 := Tryd.isAgg4
  z4 := Tryd.sizeOf4
  v4 := Tryd.zeroValue4
  t5 := Tryd.underlying5
  a5 := Tryd.isAgg5
  z5 := Tryd.sizeOf5
  v5 := Tryd.zeroValue5
  t9 := Tryd.underlying9
  a9 := Tryd.isAgg9
  z9 := Tryd.sizeOf9
  v9 := Tryd.zeroValue9
  t20 := Tryd.underlying20
  a20 := Tryd.isAgg20
  z20 := Tryd.sizeOf20
  v20 := Tryd.zeroValue20
  t37 := Tryd.underlying66
  a37 := Tryd.isAgg66
  z37 := Tryd.sizeOf66
  v37 := Tryd.zeroValue66
  t46 := Tryd.underlying43
  a46 := Tryd.isAgg43
  z46 := Tryd.sizeOf43
  v46 := Tryd.zeroValue43
  t51 := Tryd.underlying82
  a51 := Tryd.isAgg82
  z51 := Tryd.sizeOf82
  v51 := Tryd.zeroValue82
  t53 := Tryd.underlying22
  a53 := Tryd.isAgg22
  z53 := Tryd.sizeOf22
  v53 := Tryd.zeroValue22
  t171 := Tryd.underlying64
  a171 := Tryd.isAgg64
  z171 := Tryd.sizeOf64
  v171 := Tryd.zeroValue64
  t173 := Tryd.underlying67
  a173 := Tryd.isAgg67
  z173 := Tryd.sizeOf67
  v173 := Tryd.zeroValue67
  t212 := Tryd.underlying81
  a212 := Tryd.isAgg81
  z212 := Tryd.sizeOf81
  v212 := Tryd.zeroValue81
  t213 := Tryd.underlying83
  a213 := Tryd.isAgg83
  z213 := Tryd.sizeOf83
  t232 := Tryd.underlying98
  a232 := Tryd.isAgg98
  z232 := Tryd.sizeOf98
  v232 := Tryd.zeroValue98
  t233 := Tryd.underlying49
  a233 := Tryd.isAgg49
  z233 := Tryd.sizeOf49
  v233 := Tryd.zeroValue49
  g17 := by kernel_rfl
  g18 := by kernel_rfl
  g19 := by kernel_rfl }
open Go.RowKit Go.Sort Go.Lib in
/-- THE ROAD WITHOUT THE TABLE: 0 <= i < 100: NO PREMISE ON THE WORLD, AND THE WORLD IS AS IT WAS: a row that keeps its argument in that range need list no table ('laid = []'). (LAID: no walk: one application.) -/
theorem Tryd.strconv_Itoa_small (i : Nat) (hi : i < 100) (w : World) :
    Calls Tryd.prog 23 #[.int .i64 i] w fun e w' => e = .returned (.string ⟨(Lib.decDigits i).toArray⟩) ∧ w' = w := Any.strconv_Itoa_small Tryd.lays171 i hi w
def Tryd.lays103_ren : Go.Shelf.Ren := ⟨fun | 103 => 25 | 210 => 34 | 206 => 44 | n => n, fun | 9 => 9 | 4 => 4 | 24 => 50 | 3 => 3 | n => n, fun | n => n⟩
theorem Tryd.lays103 : Go.Proofs.Lays.n103 Tryd.prog Tryd.lays103_ren := {
  mixed := by kernel_rfl
  f103 := Tryd.func25.trans (congrArg some (by kernel_rfl))
  f206 := Tryd.func44.trans (congrArg some (by kernel_rfl))
  f210 := Tryd.func34.trans (congrArg some (by kernel_rfl))
  t3 := Tryd.underlying3
  a3 := Tryd.isAgg3
  z3 := Tryd.sizeOf3
  v3 := Tryd.zeroValue3
  t4 := Tryd.underlying4
  a4 := Tryd.isAgg4
  z4 := Tryd.sizeOf4
  v4 := Tryd.zeroValue4
  t9 := Tryd.underlying9
  a9 := Tryd.isAgg9
  z9 := Tryd.sizeOf9
  v9 := Tryd.zeroValue9
  t24 := Tryd.underlying50
  a24 := Tryd.isAgg50
  z24 := Tryd.sizeOf50
  v24 := Tryd.zeroValue50 }
open Go.RowKit in
/-- strings.CutPrefix: "CutPrefix returns s without the provided leading prefix string and reports whether it found the prefix. If s doesn't start with prefix, CutPrefix returns s, false. If prefix is the empty string, CutPrefix returns s, true.": IT RETURNS '(Lib.trimPrefix s p, Lib.hasPrefix s p)'; the world is as it was. (LAID: no walk: one application.) -/
theorem Tryd.strings_CutPrefix (s p : ByteArray) (w : World) :
    Calls Tryd.prog 25 #[.string s, .string p] w fun e w' => e = .returned (.tuple #[.string ⟨(Lib.trimPrefix s.data.toList p.data.toList).toArray⟩, .bool (Lib.hasPrefix s.data.toList p.data.toList)]) ∧ w' = w := Any.strings_CutPrefix Tryd.lays103 s p w
def Tryd.lays145_ren : Go.Shelf.Ren := ⟨fun | 145 => 29 | 220 => 35 | 219 => 45 | 217 => 57 | 225 => 58 | 224 => 59 | 267 => 60 | 266 => 64 | 314 => 65 | n => n, fun | 9 => 9 | 4 => 4 | 59 => 55 | 3 => 3 | 5 => 5 | 46 => 43 | 146 => 92 | 51 => 82 | n => n, fun | 1 => 3 | n => n⟩
theorem Tryd.lays145 : Go.Proofs.Lays.n145 Tryd.prog Tryd.lays145_ren := {
  mixed := by kernel_rfl
  f145 := Tryd.func29.trans (congrArg some (by kernel_rfl))
  f217 := Tryd.func57.trans (congrArg some (by kernel_rfl))
  f219 := Tryd.func45.trans (congrArg some (by kernel_rfl))
  f220 := Tryd.func35.trans (congrArg some (by kernel_rfl))
  f224 := Tryd.func59.trans (congrArg some (by kernel_rfl))
  f225 := Tryd.func58.trans (congrArg some (by kernel_rfl))
  f266 := Tryd.func64.trans (congrArg some (by kernel_rfl))
  f267 := Tryd.func60.trans (congrArg some (by kernel_rfl))
  f314 := Tryd.func65.trans (congrArg some (by kernel_rfl))
  t3 := Tryd.underlying3
  a3 := Tryd.isAgg3
  z3 := Tryd.sizeOf3
  v3 := Tryd.zeroValue3
  t4 := Tryd.underlying4
  a4 := Tryd.isAgg4
  z4 := Tryd.sizeOf4
  v4 := Tryd.zeroValue4
  t5 := Tryd.underlying5
  a5 := Tryd.isAgg5
  z5 := Tryd.sizeOf5
  v5 := Tryd.zeroValue5
  t9 := Tryd.underlying9
  a9 := Tryd.isAgg9
  z9 := Tryd.sizeOf9
  v9 := Tryd.zeroValue9
  t46 := Tryd.underlying43
  a46 := Tryd.isAgg43
  z46 := Tryd.sizeOf43
  v46 := Tryd.zeroValue43
  t51 := Tryd.underlying82
  a51 := Tryd.isAgg82
  z51 := Tryd.sizeOf82
  v51 := Tryd.zeroValue82
  t59 := Tryd.underlying55
  a59 := Tryd.isAgg55
  z59 := Tryd.sizeOf55
  v59 := Tryd.zeroValue55
  t146 := Tryd.underlying92
  a146 := Tryd.isAgg92
  z146 := Tryd.sizeOf92
  v146 := Tryd.zeroValue92
  g1 := by kernel_rfl }
open Go.RowKit Go.Lib in
/-- strings.Cut: "Cut slices s around the first instance of sep, returning the text before and after sep. The found result reports whether sep appears in s. If sep does not appear in s, cut returns s, "", false.": IT RETURNS 'Lib.cut s sep'; the world is as it was but for the count of draws. (LAID: no walk: one application.) -/
theorem Tryd.strings_Cut (s sep : ByteArray) (m : Int) (w : World) (hs : s.size < 4294967281) (hm : w.cell? ⟨3, 0, none⟩ = some (.int .i64 m)) :
    Calls Tryd.prog 29 #[.string s, .string sep] w fun e w' => e = .returned (.tuple #[.string ⟨(Lib.cut s.data.toList sep.data.toList).1.toArray⟩, .string ⟨(Lib.cut s.data.toList sep.data.toList).2.1.toArray⟩, .bool (Lib.cut s.data.toList sep.data.toList).2.2]) ∧ ∃ n, w' = w.drewN n := Any.strings_Cut Tryd.lays145 s sep m w hs hm
def Tryd.laysM145_ren : Go.Shelf.Ren := ⟨fun | 145 => 29 | 220 => 35 | 219 => 45 | 217 => 57 | 225 => 58 | 224 => 59 | 267 => 60 | 266 => 64 | 314 => 65 | n => n, fun | 9 => 9 | 4 => 4 | 59 => 55 | 3 => 3 | 5 => 5 | 46 => 43 | 146 => 92 | 51 => 82 | n => n, fun | 1 => 3 | n => n⟩
theorem Tryd.laysM145 : Go.Proofs.LaysM.n145 Tryd.prog Tryd.laysM145_ren := {
  mixed := by kernel_rfl
  f145 := Tryd.func29.trans (congrArg some (by kernel_rfl))
  f217 := Tryd.func57.trans (congrArg some (by kernel_rfl))
  f219 := Tryd.func45.trans (congrArg some (by kernel_rfl))
  f220 := Tryd.func35.trans (congrArg some (by kernel_rfl))
  f224 := Tryd.func59.trans (congrArg some (by kernel_rfl))
  f225 := Tryd.func58.trans (congrArg some (by kernel_rfl))
  f266 := Tryd.func64.trans (congrArg some (by kernel_rfl))
  f267 := Tryd.func60.trans (congrArg some (by kernel_rfl))
  f314 := Tryd.func65.trans (congrArg some (by kernel_rfl))
  t3 := Tryd.underlying3
  a3 := Tryd.isAgg3
  z3 := Tryd.sizeOf3
  v3 := Tryd.zeroValue3
  t4 := Tryd.underlying4
  a4 := Tryd.isAgg4
  z4 := Tryd.sizeOf4
  v4 := Tryd.zeroValue4
  t5 := Tryd.underlying5
  a5 := Tryd.isAgg5
  z5 := Tryd.sizeOf5
  v5 := Tryd.zeroValue5
  t9 := Tryd.underlying9
  a9 := Tryd.isAgg9
  z9 := Tryd.sizeOf9
  v9 := Tryd.zeroValue9
  t46 := Tryd.underlying43
  a46 := Tryd.isAgg43
  z46 := Tryd.sizeOf43
  v46 := Tryd.zeroValue43
  t51 := Tryd.underlying82
  a51 := Tryd.isAgg82
  z51 := Tryd.sizeOf82
  v51 := Tryd.zeroValue82
  t59 := Tryd.underlying55
  a59 := Tryd.isAgg55
  z59 := Tryd.sizeOf55
  v59 := Tryd.zeroValue55
  t146 := Tryd.underlying92
  a146 := Tryd.isAgg92
  z146 := Tryd.sizeOf92
  v146 := Tryd.zeroValue92
  g1 := by kernel_rfl
  i3 := by kernel_rfl
  i4 := by kernel_rfl
  i5 := by kernel_rfl
  i9 := by kernel_rfl
  i46 := by kernel_rfl
  i51 := by kernel_rfl
  i59 := by kernel_rfl
  i146 := by kernel_rfl
  m1 := by kernel_rfl
  s1_3 := fun w h => Go.Proofs.cell_of_shapedOpen_int (zero := #[.int .i64 0]) (t := 3) h (of_decide_eq_true (by kernel_rfl)) (by kernel_rfl) rfl (by kernel_rfl) (by kernel_rfl) Tryd.underlying3 }
open Go.RowKit Go.Lib in
theorem Tryd.strings_Cut_shaped (s sep : ByteArray) (w : World) (h : w.ShapedOpen Tryd.prog) (hs : s.size < 4294967281) :
    Calls Tryd.prog 29 #[.string s, .string sep] w fun e w' => e = .returned (.tuple #[.string ⟨(Lib.cut s.data.toList sep.data.toList).1.toArray⟩, .string ⟨(Lib.cut s.data.toList sep.data.toList).2.1.toArray⟩, .bool (Lib.cut s.data.toList sep.data.toList).2.2]) ∧ ∃ n, w' = w.drewN n := Any.strings_Cut_shaped Tryd.laysM145 s sep w h hs
def Tryd.laysC172_ren : Go.Shelf.Ren := ⟨fun | 172 => 31 | 244 => 38 | 245 => 37 | 247 => 52 | 279 => 48 | 280 => 49 | 281 => 50 | 282 => 51 | 287 => 36 | 316 => 61 | 171 => 23 | 205 => 62 | 321 => 46 | 322 => 47 | 243 => 33 | 246 => 43 | 283 => 39 | 284 => 40 | 285 => 41 | 286 => 42 | 129 => 20 | 317 => 53 | 318 => 54 | 319 => 55 | 320 => 56 | 337 => 63 | 338 => 18 | n => n, fun | 9 => 9 | 3 => 3 | 75 => 58 | 76 => 61 | 4 => 4 | 5 => 5 | 167 => 72 | 37 => 66 | 0 => 0 | 85 => 78 | 2 => 2 | 168 => 75 | 53 => 22 | 175 => 59 | 46 => 43 | 210 => 89 | 127 => 94 | 145 => 97 | 143 => 95 | 21 => 21 | 171 => 64 | 173 => 67 | 212 => 81 | 51 => 82 | 20 => 20 | 213 => 83 | 232 => 98 | 233 => 49 | 80 => 99 | n => n, fun | 15 => 4 | 16 => 5 | 17 => 2 | 18 => 6 | 19 => 1 | n => n⟩
theorem Tryd.laysC172 : Go.Proofs.LaysC.n172 Tryd.prog Tryd.laysC172_ren := {
  mixed := by kernel_rfl
  f129 := Tryd.func20.trans (congrArg some (by kernel_rfl))
  f171 := Tryd.func23.trans (congrArg some (by kernel_rfl))
  f172 := Tryd.func31.trans (congrArg some (by kernel_rfl))
  f205 := Tryd.func62.trans (congrArg some (by kernel_rfl))
  f243 := Tryd.func33.trans (congrArg some (by kernel_rfl))
  f244 := Tryd.func38.trans (congrArg some (by kernel_rfl))
  f245 := Tryd.func37.trans (congrArg some (by kernel_rfl))
  f246 := Tryd.func43.trans (congrArg some (by kernel_rfl))
  f247 := Tryd.func52.trans (congrArg some (by kernel_rfl))
  f279 := Tryd.func48.trans (congrArg some (by kernel_rfl))
  f280 := Tryd.func49.trans (congrArg some (by kernel_rfl))
  f281 := Tryd.func50.trans (congrArg some (by kernel_rfl))
  f282 := Tryd.func51.trans (congrArg some (by kernel_rfl))
  f283 := Tryd.func39.trans (congrArg some (by kernel_rfl))
  f284 := Tryd.func40.trans (congrArg some (by kernel_rfl))
  f285 := Tryd.func41.trans (congrArg some (by kernel_rfl))
  f286 := Tryd.func42.trans (congrArg some (by kernel_rfl))
  f287 := Tryd.func36.trans (congrArg some (by kernel_rfl))
  f316 := Tryd.func61.trans (congrArg some (by kernel_rfl))
  f317 := Tryd.func53.trans (congrArg some (by kernel_rfl))
  f318 := Tryd.func54.trans (congrArg some (by kernel_rfl))
  f319 := Tryd.func55.trans (congrArg some (by kernel_rfl))
  f320 := Tryd.func56.trans (congrArg some (by kernel_rfl))
  f321 := Tryd.func46.trans (congrArg some (by kernel_rfl))
  f322 := Tryd.func47.trans (congrArg some (by kernel_rfl))
  f337 := Tryd.func63.trans (congrArg some (by kernel_rfl))
  f338 := Tryd.func18.trans (congrArg some (by kernel_rfl))
  t0 := Tryd.underlying0
  a0 := Tryd.isAgg0
  z0 := Tryd.sizeOf0
  v0 := Tryd.zeroValue0
  t2 := Tryd.underlying2
  a2 := Tryd.isAgg2
  z2 := Tryd.sizeOf2
  v2 := Tryd.zeroValue2
  t3 := Tryd.underlying3
  a3 := Tryd.isAgg3
  z3 := Tryd.sizeOf3
  v3 := Tryd.zeroValue3
  t4 := Tryd.underlying4
  a4 := Tryd.isAgg4
  z4 := Tryd.sizeOf4
  v4 := Tryd.zeroValue4
  t5 := Tryd.underlying5
  a5 := Tryd.isAgg5
  z5 := Tryd.sizeOf5
  v5 := Tryd.zeroValue5
  t9 := Tryd.underlying9
  a9 := Tryd.isAgg9
  z9 := Tryd.sizeOf9
  v9 := Tryd.zeroValue9
  t20 := Tryd.underlying20
  a20 := Tryd.isAgg20
  z20 := Tryd.sizeOf20
  v20 := Tryd.zeroValue20
  t21 := Tryd.underlying21
  a21 := Tryd.isAgg21
  z21 := Tryd.sizeOf21
  v21 := Tryd.zeroValue21
  t37 := Tryd.underlying66
  a37 := Tryd.isAgg66
  z37 := Tryd.sizeOf66
  v37 := Tryd.zeroValue66
  t46 := Tryd.underlying43
  a46 := Tryd.isAgg43
  z46 := Tryd.sizeOf43
  v46 := Tryd.zeroValue43
  t51 := Tryd.underlying82
  a51 := Tryd.isAgg82
  z51 := Tryd.sizeOf82
  v51 := Tryd.zeroValue82
  t53 := Tryd.underlying22
  a53 := Tryd.isAgg22
  z53 := Tryd.sizeOf22
  v53 := Tryd.zeroValue22
  t75 := Tryd.underlying58
  a75 := Tryd.isAgg58
  z75 := Tryd.sizeOf58
  v75 := Tryd.zeroValue58
  t76 := Tryd.underlying61
  a76 := Tryd.isAgg61
  z76 := Tryd.sizeOf61
  v76 := Tryd.zeroValue61
  t85 := Tryd.underlying78
  a85 := Tryd.isAgg78
  z85 := Tryd.sizeOf78
  v85 := Tryd.zeroValue78
  t127 := Tryd.underlying94
  a127 := Tryd.isAgg94
  z127 := Tryd.sizeOf94
  v127 := Tryd.zeroValue94
  t143 := Tryd.underlying95
  a143 := Tryd.isAgg95
  z143 := Tryd.sizeOf95
  v143 := Tryd.zeroValue95
  t145 := Tryd.underlying97
  a145 := Tryd.isAgg97
  z145 := Tryd.sizeOf97
  v145 := Tryd.zeroValue97
  t167 := Tryd.underlying72
  a167 := Tryd.isAgg72
  z167 := Tryd.sizeOf72
  v167 := Tryd.zeroValue72
  t168 := Tryd.underlying75
  a168 := Tryd.isAgg75
  z168 := Tryd.sizeOf75
  v168 := Tryd.zeroValue75
  t171 := Tryd.underlying64
  a171 := Tryd.isAgg64
  z171 := Tryd.sizeOf64
  v171 := Tryd.zeroValue64
  t173 := Tryd.underlying67
  a173 := Tryd.isAgg67
  z173 := Tryd.sizeOf67
  v173 := Tryd.zeroValue67
  t175 := Tryd.underlying59
  a175 := Tryd.isAgg59
  z175 := Tryd.sizeOf59
  v175 := Tryd.zeroValue59
  t210 := Tryd.underlying89
  a210 := Tryd.isAgg89
  z210 := Tryd.sizeOf89
  v210 := Tryd.zeroValue89
  t212 := Tryd.underlying81
  a212 := Tryd.isAgg81
  z212 := Tryd.sizeOf81
  v212 := Tryd.zeroValue81
  t213 := Tryd.underlying83
  a213 := Tryd.isAgg83
  z213 := Tryd.sizeOf83
  t232 := Tryd.underlying98
  a232 := Tryd.isAgg98
  z232 := Tryd.sizeOf98
  v232 := Tryd.zeroValue98
  t233 := Tryd.underlying49
  a233 := Tryd.isAgg49
  z233 := Tryd.sizeOf49
  v233 := Tryd.zeroValue49
  g15 := by kernel_rfl
  g16 := by kernel_rfl
  g17 := by kernel_rfl
  g18 := by kernel_rfl
  g19 := by kernel_rfl
  t80 := Tryd.underlying99
  a80 := Tryd.isAgg99
  z80 := Tryd.sizeOf99
  v80 := Tryd.zeroValue99
  i0 := by kernel_rfl
  i2 := by kernel_rfl
  i3 := by kernel_rfl
  i4 := by kernel_rfl
  i5 := by kernel_rfl
  i9 := by kernel_rfl
  i20 := by kernel_rfl
  i21 := by kernel_rfl
  i37 := by kernel_rfl
  i46 := by kernel_rfl
  i51 := by kernel_rfl
  i53 := by kernel_rfl
  i75 := by kernel_rfl
  i76 := by kernel_rfl
  i80 := by kernel_rfl
  i85 := by kernel_rfl
  i127 := by kernel_rfl
  i143 := by kernel_rfl
  i145 := by kernel_rfl
  i167 := by kernel_rfl
  i168 := by kernel_rfl
  i171 := by kernel_rfl
  i173 := by kernel_rfl
  i175 := by kernel_rfl
  i210 := by kernel_rfl
  i212 := by kernel_rfl
  i232 := by kernel_rfl
  i233 := by kernel_rfl
  m15 := by kernel_rfl
  m16 := by kernel_rfl
  m17 := by kernel_rfl
  m18 := by kernel_rfl
  m19 := by kernel_rfl
  c0 := by kernel_rfl
  c2 := by kernel_rfl
  c3 := by kernel_rfl
  c4 := by kernel_rfl
  c5 := by kernel_rfl
  c9 := by kernel_rfl
  c20 := by kernel_rfl
  c21 := by kernel_rfl
  c37 := by kernel_rfl
  c46 := by kernel_rfl
  c51 := by kernel_rfl
  c53 := by kernel_rfl
  c75 := by kernel_rfl
  c76 := by kernel_rfl
  c80 := by kernel_rfl
  c85 := by kernel_rfl
  c127 := by kernel_rfl
  c143 := by kernel_rfl
  c145 := by kernel_rfl
  c167 := by kernel_rfl
  c168 := by kernel_rfl
  c171 := by kernel_rfl
  c173 := by kernel_rfl
  c175 := by kernel_rfl
  c210 := by kernel_rfl
  c212 := by kernel_rfl
  c213 := by kernel_rfl
  c232 := by kernel_rfl
  c233 := by kernel_rfl }
open Go.RowKit in
/-- strconv.Atoi, AT EVERY STRING THAT SPELLS AN int ('Lib.atoiAll .. = .ok v'; of whatever length: leading zeros count): v, AND NO ERROR. The world: as it was, or with the one new row that '[]byte(..)' lays. (LAID: no walk: one application.) -/
theorem Tryd.strconv_Atoi_ok (s : ByteArray) (hmax : s.size ≤ 9223372036854775806) (v : Int) (h : Lib.atoiAll s.data.toList = .ok v) (w : World) :
    Calls Tryd.prog 31 #[.string s] w fun e w' => e = .returned (.tuple #[.int .i64 v, .nilIface]) ∧ (w' = w ∨ ∃ t, w' = Lib.bytesWorld w 5 t) := Any.strconv_Atoi_ok Tryd.laysC172 s hmax v h w
def Tryd.laysPu14_ren : Go.Shelf.Ren := ⟨fun | 14 => 30 | 16 => 36 | 17 => 37 | 19 => 46 | 20 => 47 | 21 => 48 | 22 => 49 | 23 => 50 | 24 => 51 | 25 => 61 | 27 => 23 | 26 => 62 | 28 => 33 | 29 => 43 | 30 => 39 | 31 => 40 | 32 => 41 | 33 => 42 | 35 => 20 | 34 => 53 | 36 => 54 | 37 => 55 | 38 => 56 | 39 => 63 | 40 => 18 | n => n, fun | 9 => 9 | 3 => 3 | 22 => 22 | 24 => 58 | 25 => 59 | 4 => 4 | 34 => 72 | 5 => 5 | 36 => 43 | 37 => 66 | 0 => 0 | 39 => 75 | 21 => 21 | 44 => 89 | 47 => 94 | 50 => 97 | 48 => 95 | 2 => 2 | 52 => 64 | 55 => 67 | 59 => 81 | 60 => 82 | 20 => 20 | 61 => 83 | 65 => 98 | 66 => 49 | 67 => 99 | n => n, fun | 0 => 4 | 1 => 5 | 2 => 2 | 3 => 6 | 4 => 1 | n => n⟩
theorem Tryd.laysPu14 : Go.Proofs.LaysPu.n14 Tryd.prog Tryd.laysPu14_ren := {
  mixed := by kernel_rfl
  f14 := Tryd.func30.trans (congrArg some (by kernel_rfl))
  f16 := Tryd.func36.trans (congrArg some (by kernel_rfl))
  f17 := Tryd.func37.trans (congrArg some (by kernel_rfl))
  f19 := Tryd.func46.trans (congrArg some (by kernel_rfl))
  f20 := Tryd.func47.trans (congrArg some (by kernel_rfl))
  f21 := Tryd.func48.trans (congrArg some (by kernel_rfl))
  f22 := Tryd.func49.trans (congrArg some (by kernel_rfl))
  f23 := Tryd.func50.trans (congrArg some (by kernel_rfl))
  f24 := Tryd.func51.trans (congrArg some (by kernel_rfl))
  f25 := Tryd.func61.trans (congrArg some (by kernel_rfl))
  f26 := Tryd.func62.trans (congrArg some (by kernel_rfl))
  f27 := Tryd.func23.trans (congrArg some (by kernel_rfl))
  f28 := Tryd.func33.trans (congrArg some (by kernel_rfl))
  f29 := Tryd.func43.trans (congrArg some (by kernel_rfl))
  f30 := Tryd.func39.trans (congrArg some (by kernel_rfl))
  f31 := Tryd.func40.trans (congrArg some (by kernel_rfl))
  f32 := Tryd.func41.trans (congrArg some (by kernel_rfl))
  f33 := Tryd.func42.trans (congrArg some (by kernel_rfl))
  f34 := Tryd.func53.trans (congrArg some (by kernel_rfl))
  f35 := Tryd.func20.trans (congrArg some (by kernel_rfl))
  f36 := Tryd.func54.trans (congrArg some (by kernel_rfl))
  f37 := Tryd.func55.trans (congrArg some (by kernel_rfl))
  f38 := Tryd.func56.trans (congrArg some (by kernel_rfl))
  f39 := Tryd.func63.trans (congrArg some (by kernel_rfl))
  f40 := Tryd.func18.trans (congrArg some (by kernel_rfl))
  t0 := Tryd.underlying0
  a0 := Tryd.isAgg0
  z0 := Tryd.sizeOf0
  v0 := Tryd.zeroValue0
  i0 := by kernel_rfl
  t2 := Tryd.underlying2
  a2 := Tryd.isAgg2
  z2 := Tryd.sizeOf2
  v2 := Tryd.zeroValue2
  i2 := by kernel_rfl
  t3 := Tryd.underlying3
  a3 := Tryd.isAgg3
  z3 := Tryd.sizeOf3
  v3 := Tryd.zeroValue3
  i3 := by kernel_rfl
  t4 := Tryd.underlying4
  a4 := Tryd.isAgg4
  z4 := Tryd.sizeOf4
  v4 := Tryd.zeroValue4
  i4 := by kernel_rfl
  t5 := Tryd.underlying5
  a5 := Tryd.isAgg5
  z5 := Tryd.sizeOf5
  v5 := Tryd.zeroValue5
  i5 := by kernel_rfl
  t9 := Tryd.underlying9
  a9 := Tryd.isAgg9
  z9 := Tryd.sizeOf9
  v9 := Tryd.zeroValue9
  i9 := by kernel_rfl
  t20 := Tryd.underlying20
  a20 := Tryd.isAgg20
  z20 := Tryd.sizeOf20
  v20 := Tryd.zeroValue20
  i20 := by kernel_rfl
  t21 := Tryd.underlying21
  a21 := Tryd.isAgg21
  z21 := Tryd.sizeOf21
  v21 := Tryd.zeroValue21
  i21 := by kernel_rfl
  t22 := Tryd.underlying22
  a22 := Tryd.isAgg22
  z22 := Tryd.sizeOf22
  v22 := Tryd.zeroValue22
  i22 := by kernel_rfl
  t24 := Tryd.underlying58
  a24 := Tryd.isAgg58
  z24 := Tryd.sizeOf58
  v24 := Tryd.zeroValue58
  i24 := by kernel_rfl
  t25 := Tryd.underlying59
  a25 := Tryd.isAgg59
  z25 := Tryd.sizeOf59
  v25 := Tryd.zeroValue59
  i25 := by kernel_rfl
  t34 := Tryd.underlying72
  a34 := Tryd.isAgg72
  z34 := Tryd.sizeOf72
  v34 := Tryd.zeroValue72
  i34 := by kernel_rfl
  c34 := by kernel_rfl
  t36 := Tryd.underlying43
  a36 := Tryd.isAgg43
  z36 := Tryd.sizeOf43
  v36 := Tryd.zeroValue43
  i36 := by kernel_rfl
  t37 := Tryd.underlying66
  a37 := Tryd.isAgg66
  z37 := Tryd.sizeOf66
  v37 := Tryd.zeroValue66
  i37 := by kernel_rfl
  t39 := Tryd.underlying75
  a39 := Tryd.isAgg75
  z39 := Tryd.sizeOf75
  v39 := Tryd.zeroValue75
  i39 := by kernel_rfl
  t44 := Tryd.underlying89
  a44 := Tryd.isAgg89
  z44 := Tryd.sizeOf89
  v44 := Tryd.zeroValue89
  i44 := by kernel_rfl
  t47 := Tryd.underlying94
  a47 := Tryd.isAgg94
  z47 := Tryd.sizeOf94
  v47 := Tryd.zeroValue94
  i47 := by kernel_rfl
  t48 := Tryd.underlying95
  a48 := Tryd.isAgg95
  z48 := Tryd.sizeOf95
  v48 := Tryd.zeroValue95
  i48 := by kernel_rfl
  t50 := Tryd.underlying97
  a50 := Tryd.isAgg97
  z50 := Tryd.sizeOf97
  v50 := Tryd.zeroValue97
  i50 := by kernel_rfl
  t52 := Tryd.underlying64
  a52 := Tryd.isAgg64
  z52 := Tryd.sizeOf64
  v52 := Tryd.zeroValue64
  i52 := by kernel_rfl
  t55 := Tryd.underlying67
  a55 := Tryd.isAgg67
  z55 := Tryd.sizeOf67
  v55 := Tryd.zeroValue67
  i55 := by kernel_rfl
  t59 := Tryd.underlying81
  a59 := Tryd.isAgg81
  z59 := Tryd.sizeOf81
  v59 := Tryd.zeroValue81
  i59 := by kernel_rfl
  t60 := Tryd.underlying82
  a60 := Tryd.isAgg82
  z60 := Tryd.sizeOf82
  v60 := Tryd.zeroValue82
  i60 := by kernel_rfl
  t61 := Tryd.underlying83
  a61 := Tryd.isAgg83
  z61 := Tryd.sizeOf83
  t65 := Tryd.underlying98
  a65 := Tryd.isAgg98
  z65 := Tryd.sizeOf98
  v65 := Tryd.zeroValue98
  i65 := by kernel_rfl
  t66 := Tryd.underlying49
  a66 := Tryd.isAgg49
  z66 := Tryd.sizeOf49
  v66 := Tryd.zeroValue49
  i66 := by kernel_rfl
  t67 := Tryd.underlying99
  a67 := Tryd.isAgg99
  z67 := Tryd.sizeOf99
  v67 := Tryd.zeroValue99
  i67 := by kernel_rfl
  g0 := by kernel_rfl
  m0 := by kernel_rfl
  g1 := by kernel_rfl
  m1 := by kernel_rfl
  g2 := by kernel_rfl
  m2 := by kernel_rfl
  g3 := by kernel_rfl
  m3 := by kernel_rfl
  g4 := by kernel_rfl
  m4 := by kernel_rfl }
open Go.RowKit in
/-- strconv.ParseUint(s, 10, 64), AT EVERY STRING THAT SPELLS A uint64 ('Lib.parseUintB 64 s.data.toList = .ok u'): u, AND NO ERROR. (LAID: no walk: one application.) -/
theorem Tryd.strconv_ParseUint_10_at64_ok (s : ByteArray) (hmax : s.size ≤ 9223372036854775806) (u : Nat) (h : Lib.parseUintB 64 s.data.toList = .ok u) (w : World) :
    Calls Tryd.prog 30 #[.string s, .int .i64 10, .int .i64 64] w fun e w' => e = .returned (.tuple #[.int .u64 u, .nilIface]) ∧ (w' = w ∨ w' = Lib.bytesWorld w 5 s) := Any.strconv_ParseUint_10_at64_ok Tryd.laysPu14 s hmax u h w
def Tryd.lays7n29_ren : Go.Shelf.Ren := ⟨fun | 29 => 18 | n => n, fun | 22 => 22 | 3 => 3 | 4 => 4 | 25 => 43 | 54 => 49 | 0 => 0 | 5 => 5 | n => n, fun | 1 => 1 | n => n⟩
theorem Tryd.lays7n29 : Go.Proofs.Lays7.n29 Tryd.prog Tryd.lays7n29_ren := {
  mixed := by kernel_rfl
  f29 := Tryd.func18.trans (congrArg some (by kernel_rfl))
  t0 := Tryd.underlying0
  a0 := Tryd.isAgg0
  z0 := Tryd.sizeOf0
  v0 := Tryd.zeroValue0
  i0 := by kernel_rfl
  t3 := Tryd.underlying3
  a3 := Tryd.isAgg3
  z3 := Tryd.sizeOf3
  v3 := Tryd.zeroValue3
  i3 := by kernel_rfl
  t4 := Tryd.underlying4
  a4 := Tryd.isAgg4
  z4 := Tryd.sizeOf4
  v4 := Tryd.zeroValue4
  i4 := by kernel_rfl
  t5 := Tryd.underlying5
  a5 := Tryd.isAgg5
  z5 := Tryd.sizeOf5
  v5 := Tryd.zeroValue5
  i5 := by kernel_rfl
  t22 := Tryd.underlying22
  a22 := Tryd.isAgg22
  z22 := Tryd.sizeOf22
  v22 := Tryd.zeroValue22
  i22 := by kernel_rfl
  t25 := Tryd.underlying43
  a25 := Tryd.isAgg43
  z25 := Tryd.sizeOf43
  v25 := Tryd.zeroValue43
  i25 := by kernel_rfl
  t54 := Tryd.underlying49
  a54 := Tryd.isAgg49
  z54 := Tryd.sizeOf49
  g1 := by kernel_rfl }
theorem Tryd.bits_TrailingZeros64 (x : Nat) (hx : x < 18446744073709551616) (w : World) (hT : x ≠ 0 → TabAt 1 Lib.deBruijn64tab w) :
    Calls Tryd.prog 18 #[.int .u64 x] w fun e w' => e = .returned (.int .i64 (Lib.ctz 64 x)) ∧ w' = w := Any7.bits_TrailingZeros64 Tryd.lays7n29 x hx w hT
end Go.Proofs
set_option linter.unusedSimpArgs false
set_option linter.unusedVariables false
namespace Go.Proofs.YteifbkajpigdpaaDoor
open Go Go.RowKit Ff

@[irreducible] def finB (x : Nat) : Bool := decide (rung x < 9218868437227405312)
theorem finB_true (x : Nat) : finB x = true ↔ rung x < 9218868437227405312 := by unfold finB; exact decide_eq_true_iff
theorem finB_false (x : Nat) : finB x = false ↔ ¬ rung x < 9218868437227405312 := by unfold finB; exact decide_eq_false_iff_not
theorem kind_lt (x : Nat) : decide ((kind x : Int) < 4) = finB x := by
  rw [Bool.eq_iff_iff, decide_eq_true_iff, finB_true]
  simp only [kind, isn_iff]
  repeat' split
  all_goals omega

theorem Finite_c (x : Nat) (hx : x < 18446744073709551616) (w : World) :
    Calls Tryd.prog 17 #[.float .f64 x] w fun e w' => e = .returned (.bool (finB x)) ∧ w = w' := by
  go_enter Tryd.func17, Tryd.ntmps17
  go_wp2_with (go_at_call 14; refine (KindOf_c _ hx _).mono ?_; rintro e w' ⟨rfl, rfl⟩)
  go_ret
  exact ⟨ret_bool (kind_lt x), rfl⟩

theorem isn_eq (x : Nat) : (FloatKind.f64.format.order x x == some Ordering.eq) = !decide (isn x) := by
  have := isn_ne x
  revert this
  cases h : (FloatKind.f64.format.order x x == some Ordering.eq) <;> simp [bne, h]
@[irreducible] def topped (b : Nat) : Nat := 9223372036854775808 + b
theorem topped_eq (b : Nat) : topped b = 9223372036854775808 + b := by unfold topped; rfl
@[irreducible] def wf (neg : Bool) (r : Nat) : Nat := if neg then topped r else r
theorem wf_eq (neg : Bool) (r : Nat) : wf neg r = if neg then topped r else r := by unfold wf; rfl
theorem signed_b (neg : Bool) (b : Nat) (hb : b < 9223372036854775808) (w : World) :
    Calls Tryd.prog 19 #[.bool neg, .int .u64 b] w fun e w' => e = .returned (.float .f64 (wf neg b)) ∧ w = w' := by
  have h12 := ext_from
  have ho : bits BinOp.or IntKind.u64 (b : Int) 9223372036854775808 = ((topped b : Nat) : Int) := by
    rw [topped_eq, show (9223372036854775808 : Int) = ((9223372036854775808 : Nat) : Int) from rfl, u64_or_nat b _ (by omega) (by decide), Nat.or_comm]
    congr 1
    exact nat_join 63 _ _ (by decide) hb
  cases neg
  all_goals
    go_enter Tryd.func19, Tryd.ntmps19
    go_wp2
    all_goals go_ret
    all_goals exact ⟨by rw [wf_eq]; rfl, rfl⟩
theorem sub_self (x : Nat) (h : rung x < 9218868437227405312) : floatBits .sub .f64 x x = some 0 := by
  show Ieee.double.sub x x = some 0
  obtain ⟨m, i, hm, _⟩ := read_fin h
  unfold Ieee.Format.sub
  rw [hm]
  simp only [Ieee.Datum.opposite, Ieee.Datum.sum, Int.min_self, Int.sub_self]
  have e : Ieee.signed (sgn x) m (Int.toNat 0) + Ieee.signed (!sgn x) m (Int.toNat 0) = 0 := by
    rw [signed_eq, signed_eq]; cases sgn x <;> simp <;> omega
  rw [e]
  simp only [if_true, Bool.and_not_self]
  rfl
theorem sub_inf (x : Nat) (h : rung x = 9218868437227405312) : Ieee.double.sub x x = none := by
  unfold Ieee.Format.sub
  rw [read_inf h]
  cases sgn x <;> rfl
theorem order_zz : (FloatKind.f64.format.order 0 0 == some Ordering.eq) = true := by decide

@[irreducible] def nanAt (w : World) (x y : Nat) : Nat := (Question.nanBits .f64 x y).cut (w.tape w.drawn (.nanBits .f64 x y))
theorem nanAt_isn (w : World) (x y : Nat) : isn (nanAt w x y) := by
  unfold nanAt Question.cut isn rung
  simp only
  generalize w.tape w.drawn (.nanBits .f64 x y) = t
  have h2 : t / 2 % (2 ^ 52 - 1) < 4503599627370495 := Nat.mod_lt _ (by decide)
  generalize t / 2 % (2 ^ 52 - 1) = u at h2
  have h3 : t % 2 = 0 ∨ t % 2 = 1 := by omega
  rcases h3 with h3 | h3 <;> rw [h3] <;> omega
theorem run_sub_nan (t : TypeId) (x y : Nat) (h : Ieee.double.sub x y = none) (w : World) :
    (binOp .sub t (.float .f64 x) (.float .f64 y)).run Tryd.prog w = .ok (.float .f64 (nanAt w x y)) w.drew := by
  have h' : FloatKind.f64.format.sub x y = none := h
  simp [binOp, Op.floatArith, h', nanAt, Question.forced]

end Go.Proofs.YteifbkajpigdpaaDoor
set_option linter.unusedSimpArgs false
set_option linter.unusedVariables false
namespace Go.Proofs.YteifbkajpigdpaaDoor
open Go

theorem ctzFrom_more : ∀ (f x : Nat), 0 < x → x < 2 ^ f → Lib.ctzFrom (f + 1) x = Lib.ctzFrom f x
  | 0, x, h0, h => by simp at h; omega
  | f + 1, x, h0, h => by
    have hp := Nat.pow_succ (n := 2) (m := f)
    by_cases c : x % 2 = 1
    · simp only [Lib.ctzFrom, if_pos c]
    · have ih := ctzFrom_more f (x / 2) (by omega) (by omega)
      rw [Lib.ctzFrom, if_neg c, ih, Lib.ctzFrom, if_neg c]

def tz (m : Nat) : Nat := Lib.ctz 64 m
def od (m : Nat) : Nat := m / 2 ^ tz m
theorem tz_odd {m : Nat} (h : m % 2 = 1) : tz m = 0 := by
  unfold tz Lib.ctz
  rw [if_neg (by omega), Lib.ctzFrom, if_pos h]
theorem tz_even {m : Nat} (h0 : 0 < m) (hm : m < 18446744073709551616) (h : m % 2 = 0) : tz m = tz (m / 2) + 1 := by
  unfold tz Lib.ctz
  rw [if_neg (by omega), if_neg (by omega), show (64 : Nat) = 63 + 1 from rfl, Lib.ctzFrom, if_neg (by omega), ctzFrom_more 63 (m / 2) (by omega) (by omega)]
  omega
theorem od_odd {m : Nat} (h : m % 2 = 1) : od m = m := by unfold od; rw [tz_odd h]; simp
theorem od_even {m : Nat} (h0 : 0 < m) (hm : m < 18446744073709551616) (h : m % 2 = 0) : od m = od (m / 2) := by
  unfold od
  rw [tz_even h0 hm h, Nat.pow_succ, Nat.mul_comm, Nat.div_div_eq_div_mul]
theorem tz_spec {m : Nat} (h0 : 0 < m) (hm : m < 18446744073709551616) : od m * 2 ^ tz m = m ∧ od m % 2 = 1 ∧ tz m < 64 := by
  obtain ⟨q, hq, hk⟩ := Lib.ctzFrom_spec 64 m h0 (by omega)
  have e : tz m = Lib.ctzFrom 64 m := by unfold tz Lib.ctz; rw [if_neg (by omega)]
  have e2 : od m = 2 * q + 1 := by
    unfold od; rw [e]
    have hp := Nat.two_pow_pos (Lib.ctzFrom 64 m)
    generalize Lib.ctzFrom 64 m = k at hq hp ⊢
    rw [hq, Nat.mul_comm, Nat.mul_div_cancel _ hp]
  refine ⟨?_, by omega, by omega⟩
  rw [e2, e, Nat.mul_comm]; exact hq.symm
theorem od_pos {m : Nat} (h0 : 0 < m) (hm : m < 18446744073709551616) : 0 < od m := by have := (tz_spec h0 hm).2.1; omega
theorem od_le {m : Nat} : od m ≤ m := Nat.div_le_self _ _

theorem bl_spec : ∀ (f m : Nat), m < 2 ^ f → m < 2 ^ Lib.bitLenAux f m ∧ (0 < m → 2 ^ Lib.bitLenAux f m ≤ 2 * m) ∧ Lib.bitLenAux f m ≤ f
  | 0, m, h => by simp at h; subst h; simp [Lib.bitLenAux]
  | f + 1, m, h => by
    rw [Lib.bitLenAux]
    by_cases c : m = 0
    · rw [if_pos c]; subst c; simp
    · rw [if_neg c]
      have hp := Nat.pow_succ (n := 2) (m := f)
      obtain ⟨h1, h2, h3⟩ := bl_spec f (m / 2) (by omega)
      rw [Nat.add_comm 1, Nat.pow_succ]
      refine ⟨by omega, fun _ => ?_, by omega⟩
      by_cases c2 : m / 2 = 0
      · have : m = 1 := by omega
        subst this
        have e : Lib.bitLenAux f (1 / 2) = 0 := by cases f <;> simp [Lib.bitLenAux]
        rw [e]; decide
      · have := h2 (by omega); omega
theorem bl_zero : Lib.bitLen 0 = 0 := by decide
theorem bl_lt {m : Nat} (h : m < 18446744073709551616) : m < 2 ^ Lib.bitLen m := (bl_spec 64 m h).1
theorem bl_ge {m : Nat} (h : m < 18446744073709551616) (h0 : 0 < m) : 2 ^ Lib.bitLen m ≤ 2 * m := (bl_spec 64 m h).2.1 h0
theorem bl_le {m : Nat} (h : m < 18446744073709551616) : Lib.bitLen m ≤ 64 := (bl_spec 64 m h).2.2
theorem bl_pos {m : Nat} (h0 : 0 < m) : 0 < Lib.bitLen m := by
  unfold Lib.bitLen Lib.bitLenAux; rw [if_neg (by omega)]; omega
/-- m has at most k digits just if it is below 2^k. -/
theorem bl_le_iff {m k : Nat} (h : m < 18446744073709551616) : Lib.bitLen m ≤ k ↔ m < 2 ^ k := by
  constructor
  · intro c; exact Nat.lt_of_lt_of_le (bl_lt h) (Nat.pow_le_pow_right (by decide) c)
  · intro c
    by_cases h0 : 0 < m
    · have g := bl_ge h h0
      apply Nat.le_of_not_lt
      intro d
      have e : 2 ^ (k + 1) ≤ 2 ^ Lib.bitLen m := Nat.pow_le_pow_right (by decide) d
      rw [Nat.pow_succ] at e
      omega
    · have : m = 0 := by omega
      subst this; exact Nat.zero_le _
end Go.Proofs.YteifbkajpigdpaaDoor
set_option linter.unusedSimpArgs false
set_option linter.unusedVariables false
namespace Go.Proofs.YteifbkajpigdpaaDoor
open Go Go.RowKit Ff

/-- What stands in the worlds of these calls: the table of the library's. -/
def Tabs (w : World) : Prop := TabAt 1 Lib.deBruijn64tab w ∧ 1 < w.heap.size
theorem Tabs.below {w w' : World} (h : Tabs w) (hb : Below w.heap.size w w') : Tabs w' :=
  ⟨fun j hj => by rw [hb.cell (p := ⟨1, j, none⟩) h.2]; exact h.1 j hj, Nat.lt_of_lt_of_le h.2 hb.size⟩

@[irreducible] def frac (x : Nat) : Nat := rung x % 4503599627370496
@[irreducible] def pm (x : Nat) : Nat := if rung x < 4503599627370496 then rung x else 4503599627370496 + rung x % 4503599627370496
@[irreducible] def pex (x : Nat) : Int := if rung x < 4503599627370496 then -1074 else -1074 + ((rung x / 4503599627370496 - 1 : Nat) : Int)
def partM (x : Nat) : Nat := if rung x = 0 then 0 else od (pm x)
def partE (x : Nat) : Int := if rung x = 0 then 0 else pex x + tz (pm x)
theorem frac_eq (x : Nat) : frac x = rung x % 4503599627370496 := by unfold frac; rfl
theorem pm_sub {x : Nat} (h : rung x < 4503599627370496) : pm x = rung x := by unfold pm; rw [if_pos h]
theorem pm_nor {x : Nat} (h : ¬ rung x < 4503599627370496) : pm x = 4503599627370496 + frac x := by unfold pm; rw [if_neg h, frac_eq]
theorem pex_sub {x : Nat} (h : rung x < 4503599627370496) : pex x = -1074 := by unfold pex; rw [if_pos h]
theorem pex_nor {x : Nat} (h : ¬ rung x < 4503599627370496) : pex x = -1074 + ((rung x / 4503599627370496 - 1 : Nat) : Int) := by unfold pex; rw [if_neg h]
theorem pm_pos {x : Nat} (h : rung x ≠ 0) : 0 < pm x := by unfold pm; split <;> omega
theorem pm_lt (x : Nat) : pm x < 9007199254740992 := by unfold pm; split <;> omega

theorem frac_and (x : Nat) : bits BinOp.and IntKind.u64 (rung x : Int) 4503599627370495 = (frac x : Int) := by
  have := rung_lt x
  rw [show (4503599627370495 : Int) = ((4503599627370495 : Nat) : Int) from rfl, u64_and_nat (rung x) _ (by omega) (by decide), frac_eq]
  congr 1
  exact Nat.and_two_pow_sub_one_eq_mod (rung x) 52
theorem frac_or (x : Nat) (h : ¬ rung x < 4503599627370496) : bits BinOp.or IntKind.u64 (frac x : Int) 4503599627370496 = (pm x : Int) := by
  have := rung_lt x
  have hf : frac x < 4503599627370496 := by rw [frac_eq]; omega
  rw [show (4503599627370496 : Int) = ((4503599627370496 : Nat) : Int) from rfl, u64_or_nat (frac x) _ (by omega) (by decide), pm_nor h, Nat.or_comm]
  congr 1
  exact nat_join 52 _ _ (by decide) hf
theorem frac_sub {x : Nat} (h : rung x < 4503599627370496) : (frac x : Int) = (pm x : Int) := by rw [frac_eq, pm_sub h, Nat.mod_eq_of_lt h]

@[irreducible] def topB (x : Nat) : Nat := if sgn x then 9223372036854775808 else 0
theorem top_and (x : Nat) (hx : x < 18446744073709551616) : bits BinOp.and IntKind.u64 (x : Int) 9223372036854775808 = (topB x : Int) := by
  rw [and_top x hx]; unfold topB; split <;> rfl
theorem top_ne (x : Nat) : ((topB x : Int) != 0) = sgn x := by
  unfold topB; cases sgn x <;> rfl

theorem partM_shift {x : Nat} (h0 : rung x ≠ 0) : (pm x : Int) / 2 ^ min (Lib.ctz 64 (pm x)) 64 = partM x := by
  have h := tz_spec (pm_pos h0) (by have := pm_lt x; omega)
  have e : min (Lib.ctz 64 (pm x)) 64 = tz (pm x) := by have := h.2.2; unfold tz at this ⊢; omega
  rw [e]; unfold partM od; rw [if_neg h0]; norm_cast
theorem partM_od {x : Nat} (h0 : rung x ≠ 0) : partM x = od (pm x) := by unfold partM; rw [if_neg h0]
theorem partE_eq {x : Nat} (h0 : rung x ≠ 0) : partE x = pex x + Lib.ctz 64 (pm x) := by unfold partE tz; rw [if_neg h0]
theorem ctz_le {x : Nat} (h0 : rung x ≠ 0) : Lib.ctz 64 (pm x) < 64 := (tz_spec (pm_pos h0) (by have := pm_lt x; omega)).2.2
theorem Parts_no (x : Nat) (hx : x < 18446744073709551616) (hf : finB x = false) (w : World) :
    Calls Tryd.prog 8 #[.float .f64 x] w fun e w' => e = .returned (.tuple #[.bool false, .int .u64 0, .int .i64 0, .bool false]) ∧ w = w' := by
  go_enter Tryd.func8, Tryd.ntmps8
  go_wp2_with (go_at_call 17; refine (Finite_c _ hx _).mono ?_; rintro e w' ⟨rfl, rfl⟩)
  exact bodyPost_ret (by simp [results, Tryd.results8, go_sem]) rfl ⟨rfl, rfl⟩
theorem Parts_yes (x : Nat) (hx : x < 18446744073709551616) (hf : finB x = true) (w : World) (ht : Tabs w) :
    Calls Tryd.prog 8 #[.float .f64 x] w fun e w' => e = .returned (.tuple #[.bool (sgn x), .int .u64 (partM x), .int .i64 (partE x), .bool true]) ∧ w = w' := by
  have h44 := ext_bits
  have hb := and_not_top x hx
  have ha := top_and x hx
  have hs := top_ne x
  have h1 := frac_and x
  have hr := (finB_true x).1 hf
  by_cases h0 : rung x = 0
  · have hz : ((rung x : Int) == 0) = true := by rw [h0]; rfl
    have em : partM x = 0 := by unfold partM; rw [if_pos h0]
    have ee : partE x = 0 := by unfold partE; rw [if_pos h0]
    go_enter Tryd.func8, Tryd.ntmps8
    go_wp2_with (go_at_call 17; refine (Finite_c _ hx _).mono ?_; rintro e w' ⟨rfl, rfl⟩)
    exact bodyPost_ret (v := .tuple #[.bool (sgn x), .int .u64 (partM x), .int .i64 (partE x), .bool true]) (by simp [results, Tryd.results8, go_sem, em, ee]) rfl ⟨rfl, rfl⟩
  · have hz : ((rung x : Int) == 0) = false := by rw [beq_eq_false_iff_ne]; omega
    have hq := pm_lt x
    by_cases hn : rung x < 4503599627370496
    · have hd : ((rung x : Int) / 4503599627370496 != 0) = false := by rw [bne_eq_false_iff_eq]; omega
      have h2 := frac_sub hn
      go_enter Tryd.func8, Tryd.ntmps8
      go_wp2_with (first | (go_at_call 17; refine (Finite_c _ hx _).mono ?_; rintro e w' ⟨rfl, rfl⟩) | (go_at_call 18; refine (Tryd.bits_TrailingZeros64 _ (by omega) _ (fun _ => ht.1)).mono ?_; rintro e w' ⟨rfl, rfl⟩))
      refine bodyPost_ret (v := .tuple #[.bool (sgn x), .int .u64 (partM x), .int .i64 (partE x), .bool true]) ?_ rfl ⟨rfl, rfl⟩
      simp [results, Tryd.results8, go_sem]
      refine ⟨partM_shift h0, ?_⟩
      rw [partE_eq h0, pex_sub hn, IntWalk.wrap64_in]
      have := ctz_le h0; omega
    · have hd : ((rung x : Int) / 4503599627370496 != 0) = true := by rw [bne_iff_ne]; omega
      have h2 := frac_or x hn
      go_enter Tryd.func8, Tryd.ntmps8
      go_wp2_with (first | (go_at_call 17; refine (Finite_c _ hx _).mono ?_; rintro e w' ⟨rfl, rfl⟩) | (go_at_call 18; refine (Tryd.bits_TrailingZeros64 _ (by omega) _ (fun _ => ht.1)).mono ?_; rintro e w' ⟨rfl, rfl⟩))
      refine bodyPost_ret (v := .tuple #[.bool (sgn x), .int .u64 (partM x), .int .i64 (partE x), .bool true]) ?_ rfl ⟨rfl, rfl⟩
      simp [results, Tryd.results8, go_sem]
      refine ⟨partM_shift h0, ?_⟩
      rw [partE_eq h0, pex_nor hn, IntWalk.wrap64_in]
      · omega
      · have := ctz_le h0; omega

theorem pm_rem (x : Nat) : (rung x : Int).tmod 4503599627370496 = (frac x : Int) := by
  rw [frac_eq]; exact Int.ofNat_tmod (rung x) 4503599627370496
theorem pm_mod (x : Nat) : (rung x : Int) % 4503599627370496 = (frac x : Int) := by rw [frac_eq]; omega
theorem pm_add {x : Nat} (h : ¬ rung x < 4503599627370496) : (frac x : Int) + 4503599627370496 = (pm x : Int) := by rw [pm_nor h]; omega
@[irreducible] def norB (x : Nat) : Bool := decide (4503599627370496 ≤ rung x)
theorem nor_geq (x : Nat) : decide ((4503599627370496 : Int) ≤ (rung x : Int)) = norB x := by
  unfold norB; rw [Bool.eq_iff_iff, decide_eq_true_iff, decide_eq_true_iff]; omega

end Go.Proofs.YteifbkajpigdpaaDoor
set_option linter.unusedSimpArgs false
set_option linter.unusedVariables false
namespace Go.Proofs.YteifbkajpigdpaaDoor
open Go Go.RowKit Ff

/-- The float of odd q times 2 to the power e, by its rung; where it is one. -/
@[irreducible] def mkR (q : Nat) (e : Int) : Nat := if e + Lib.bitLen q > -1022 then q * 2 ^ (53 - Lib.bitLen q) - 4503599627370496 + (e + Lib.bitLen q + 1022).toNat * 4503599627370496 else q * 2 ^ (e + 1074).toNat
def mkOk (q : Nat) (e : Int) : Prop := Lib.bitLen q ≤ 53 ∧ -1074 ≤ e ∧ e + Lib.bitLen q - 1 ≤ 1023
instance (q : Nat) (e : Int) : Decidable (mkOk q e) := by unfold mkOk; exact inferInstance

theorem Make_zero (neg : Bool) (e : Int) (w : World) :
    Calls Tryd.prog 9 #[.bool neg, .int .u64 0, .int .i64 e] w fun r w' => r = .returned (.tuple #[.float .f64 (wf neg 0), .bool true]) ∧ w = w' := by
  go_enter Tryd.func9, Tryd.ntmps9
  go_wp2_with (go_at_call 19; refine (signed_b neg 0 (by decide) _).mono ?_; rintro e w' ⟨rfl, rfl⟩)
  go_ret2
  exact ⟨rfl, rfl⟩
theorem Make_far (neg : Bool) (m : Nat) (h0 : m ≠ 0) (e : Int) (he : 1023 < e ∨ e < -1137) (w : World) :
    Calls Tryd.prog 9 #[.bool neg, .int .u64 m, .int .i64 e] w fun r w' => r = .returned (.tuple #[.float .f64 0, .bool false]) ∧ w = w' := by
  have hz : ((m : Int) == 0) = false := by rw [beq_eq_false_iff_ne]; omega
  rcases he with he | he
  · go_enter Tryd.func9, Tryd.ntmps9
    go_wp2
    go_ret2
    exact ⟨rfl, rfl⟩
  · have he2 : ¬ 1023 < e := by omega
    go_enter Tryd.func9, Tryd.ntmps9
    go_wp2
    go_ret2
    exact ⟨rfl, rfl⟩
theorem shr_tz {m : Nat} (h0 : 0 < m) (hm : m < 18446744073709551616) : (m : Int) / 2 ^ Lib.ctz 64 m = (od m : Int) := by
  unfold od tz; norm_cast

theorem mkOk_bits {q : Nat} {e : Int} (h : mkOk q e) : Lib.bitLen q ≤ 53 ∧ -1074 ≤ e ∧ e + Lib.bitLen q - 1 ≤ 1023 := h
theorem Make_bad (neg : Bool) (m : Nat) (h0 : 0 < m) (hm : m < 18446744073709551616) (e : Int) (he1 : e ≤ 1023) (he2 : -1137 ≤ e) (hk : ¬ mkOk (od m) (e + tz m)) (w : World) (ht : Tabs w) :
    Calls Tryd.prog 9 #[.bool neg, .int .u64 m, .int .i64 e] w fun r w' => r = .returned (.tuple #[.float .f64 0, .bool false]) ∧ w = w' := by
  have hz : ((m : Int) == 0) = false := by rw [beq_eq_false_iff_ne]; omega
  have g1 : ¬ 1023 < e := by omega
  have g2 : ¬ e < -1137 := by omega
  have hs := shr_tz h0 hm
  have hk' : Lib.ctz 64 m < 64 := (tz_spec h0 hm).2.2
  have hq1 : od m < 18446744073709551616 := Nat.lt_of_le_of_lt od_le hm
  have hb := bl_le hq1
  unfold mkOk tz at hk
  by_cases c1 : 53 < (Lib.bitLen (od m) : Int)
  · clear hk
    go_enter Tryd.func9, Tryd.ntmps9
    go_wp2_with (first | (go_at_call 18; refine (Tryd.bits_TrailingZeros64 _ (by omega) _ (fun _ => ht.1)).mono ?_; rintro e w' ⟨rfl, rfl⟩) | (go_at_call 20; refine (Tryd.bits_Len64 _ _ (by omega) (by omega)).mono ?_; rintro e w' ⟨rfl, rfl⟩))
    go_ret2
    exact ⟨rfl, rfl⟩
  · by_cases c2 : e + (Lib.ctz 64 m : Int) < -1074
    · clear hk
      go_enter Tryd.func9, Tryd.ntmps9
      go_wp2_with (first | (go_at_call 18; refine (Tryd.bits_TrailingZeros64 _ (by omega) _ (fun _ => ht.1)).mono ?_; rintro e w' ⟨rfl, rfl⟩) | (go_at_call 20; refine (Tryd.bits_Len64 _ _ (by omega) (by omega)).mono ?_; rintro e w' ⟨rfl, rfl⟩))
      go_ret2
      exact ⟨rfl, rfl⟩
    · have c3 : 1023 < e + (Lib.ctz 64 m : Int) + (Lib.bitLen (od m) : Int) - 1 := by omega
      clear hk
      go_enter Tryd.func9, Tryd.ntmps9
      go_wp2_with (first | (go_at_call 18; refine (Tryd.bits_TrailingZeros64 _ (by omega) _ (fun _ => ht.1)).mono ?_; rintro e w' ⟨rfl, rfl⟩) | (go_at_call 20; refine (Tryd.bits_Len64 _ _ (by omega) (by omega)).mono ?_; rintro e w' ⟨rfl, rfl⟩))
      go_ret2
      exact ⟨rfl, rfl⟩
theorem mul_lt_pow {q B k : Nat} (h : q < 2 ^ B) : q * 2 ^ k < 2 ^ (B + k) := by
  rw [Nat.pow_add]; exact Nat.mul_lt_mul_of_pos_right h (Nat.two_pow_pos k)
theorem mkR_sub {q : Nat} {e : Int} (h : ¬ e + Lib.bitLen q > -1022) : mkR q e = q * 2 ^ (e + 1074).toNat := by unfold mkR; rw [if_neg h]
theorem mkR_nor {q : Nat} {e : Int} (h : e + Lib.bitLen q > -1022) : mkR q e = q * 2 ^ (53 - Lib.bitLen q) - 4503599627370496 + (e + Lib.bitLen q + 1022).toNat * 4503599627370496 := by unfold mkR; rw [if_pos h]
theorem sub_small {q : Nat} {e : Int} (hq : q < 18446744073709551616) (h : mkOk q e) (hs : ¬ e + Lib.bitLen q > -1022) : q * 2 ^ (e + 1074).toNat < 4503599627370496 := by
  obtain ⟨h1, h2, h3⟩ := mkOk_bits h
  refine Nat.lt_of_lt_of_le (mul_lt_pow (bl_lt hq)) ?_
  have p := Nat.pow_le_pow_right (n := 2) (by decide) (show Lib.bitLen q + (e + 1074).toNat ≤ 52 by omega)
  exact p
theorem nor_small {q : Nat} {e : Int} (hq0 : 0 < q) (hq : q < 18446744073709551616) (h : mkOk q e) : 4503599627370496 ≤ q * 2 ^ (53 - Lib.bitLen q) ∧ q * 2 ^ (53 - Lib.bitLen q) < 9007199254740992 := by
  obtain ⟨h1, h2, h3⟩ := mkOk_bits h
  constructor
  · have g := bl_ge hq hq0
    have p : 2 ^ Lib.bitLen q * 2 ^ (53 - Lib.bitLen q) = 9007199254740992 := by rw [← Nat.pow_add, show Lib.bitLen q + (53 - Lib.bitLen q) = 53 by omega]
    have := Nat.mul_le_mul_right (2 ^ (53 - Lib.bitLen q)) g
    rw [p, Nat.mul_assoc] at this
    omega
  · have := mul_lt_pow (k := 53 - Lib.bitLen q) (bl_lt hq)
    rw [show Lib.bitLen q + (53 - Lib.bitLen q) = 53 by omega] at this
    exact this
theorem mkR_lt {q : Nat} {e : Int} (hq0 : 0 < q) (hq : q < 18446744073709551616) (h : mkOk q e) : mkR q e < 9218868437227405312 := by
  obtain ⟨h1, h2, h3⟩ := mkOk_bits h
  by_cases c : e + Lib.bitLen q > -1022
  · rw [mkR_nor c]
    have := (nor_small hq0 hq h).2
    omega
  · rw [mkR_sub c]
    have := sub_small hq h c
    omega
theorem cast_mul_pow (a k : Nat) : (a : Int) * 2 ^ k = ((a * 2 ^ k : Nat) : Int) := by rw [Int.natCast_mul, Int.natCast_pow]; rfl
theorem mk_sub {m : Nat} {e : Int} (hq : od m < 18446744073709551616) (h : mkOk (od m) (e + tz m)) (c : ¬ -1023 < e + (Lib.ctz 64 m : Int) + (Lib.bitLen (od m) : Int) - 1) :
    IntKind.u64.wrap ((od m : Int) * 2 ^ (e + (Lib.ctz 64 m : Int) + 1074).toNat) = (mkR (od m) (e + tz m) : Int) := by
  have c' : ¬ e + (tz m : Int) + Lib.bitLen (od m) > -1022 := by unfold tz; omega
  rw [mkR_sub c', IntKind.wrap_u64]
  have := sub_small hq h c'
  unfold tz at this ⊢
  rw [cast_mul_pow]
  omega
theorem mk_nor {m : Nat} {e : Int} (hq0 : 0 < od m) (hq : od m < 18446744073709551616) (h : mkOk (od m) (e + tz m)) (c : -1023 < e + (Lib.ctz 64 m : Int) + (Lib.bitLen (od m) : Int) - 1) :
    bits BinOp.or IntKind.u64 (bits BinOp.and IntKind.u64 (IntKind.u64.wrap ((od m : Int) * 2 ^ (53 - Lib.bitLen (od m)))) 4503599627370495)
      ((e + (Lib.ctz 64 m : Int) + (Lib.bitLen (od m) : Int) - 1 + 1023) * 4503599627370496) = (mkR (od m) (e + tz m) : Int) := by
  have c' : e + (tz m : Int) + Lib.bitLen (od m) > -1022 := by unfold tz; omega
  obtain ⟨n1, n2⟩ := nor_small hq0 hq h
  obtain ⟨h1, h2, h3⟩ := mkOk_bits h
  rw [mkR_nor c']
  have e1 : IntKind.u64.wrap ((od m : Int) * 2 ^ (53 - Lib.bitLen (od m))) = ((od m * 2 ^ (53 - Lib.bitLen (od m)) : Nat) : Int) := by
    rw [IntKind.wrap_u64, cast_mul_pow]; omega
  rw [e1]
  generalize od m * 2 ^ (53 - Lib.bitLen (od m)) = z at n1 n2
  rw [show (4503599627370495 : Int) = ((4503599627370495 : Nat) : Int) from rfl, u64_and_nat z _ (by omega) (by decide)]
  have e2 : z &&& 4503599627370495 = z - 4503599627370496 := by
    rw [show z &&& 4503599627370495 = z % 4503599627370496 from Nat.and_two_pow_sub_one_eq_mod z 52]; omega
  rw [e2]
  obtain ⟨k, hk⟩ : ∃ k : Nat, e + (Lib.ctz 64 m : Int) + (Lib.bitLen (od m) : Int) - 1 + 1023 = (k : Int) := ⟨(e + (Lib.ctz 64 m : Int) + (Lib.bitLen (od m) : Int) - 1 + 1023).toNat, by omega⟩
  have hk2 : (e + (tz m : Int) + (Lib.bitLen (od m) : Int) + 1022).toNat = k := by unfold tz; omega
  have hk3 : k ≤ 2046 := by unfold tz at h3; omega
  rw [hk2, hk, show (k : Int) * 4503599627370496 = ((k * 4503599627370496 : Nat) : Int) by omega, u64_or_nat _ _ (by omega) (by omega), Nat.or_comm]
  congr 1
  rw [nat_join 52 _ _ (by omega) (by omega), Nat.add_comm]
theorem Make_ok (neg : Bool) (m : Nat) (h0 : 0 < m) (hm : m < 18446744073709551616) (e : Int) (he1 : e ≤ 1023) (he2 : -1137 ≤ e) (hk : mkOk (od m) (e + tz m)) (w : World) (ht : Tabs w) :
    Calls Tryd.prog 9 #[.bool neg, .int .u64 m, .int .i64 e] w fun r w' => r = .returned (.tuple #[.float .f64 (wf neg (mkR (od m) (e + tz m))), .bool true]) ∧ w = w' := by
  have hz : ((m : Int) == 0) = false := by rw [beq_eq_false_iff_ne]; omega
  have g1 : ¬ 1023 < e := by omega
  have g2 : ¬ e < -1137 := by omega
  have hs := shr_tz h0 hm
  have hk' : Lib.ctz 64 m < 64 := (tz_spec h0 hm).2.2
  have hq1 : od m < 18446744073709551616 := Nat.lt_of_le_of_lt od_le hm
  have hb := bl_le hq1
  obtain ⟨k1, k2, k3⟩ := mkOk_bits hk
  unfold tz at k2 k3
  have c1 : ¬ 53 < (Lib.bitLen (od m) : Int) := by omega
  have c2 : ¬ e + (Lib.ctz 64 m : Int) < -1074 := by omega
  have c3 : ¬ 1023 < e + (Lib.ctz 64 m : Int) + (Lib.bitLen (od m) : Int) - 1 := by omega
  have hq0 := od_pos h0 hm
  have hlt := mkR_lt hq0 hq1 hk
  by_cases c4 : -1023 < e + (Lib.ctz 64 m : Int) + (Lib.bitLen (od m) : Int) - 1
  case' pos => have hr := mk_nor hq0 hq1 hk c4
  case' neg => have hr := mk_sub hq1 hk c4
  all_goals
    go_enter Tryd.func9, Tryd.ntmps9
    go_wp2_with (first | (go_at_call 18; refine (Tryd.bits_TrailingZeros64 _ (by omega) _ (fun _ => ht.1)).mono ?_; rintro e w' ⟨rfl, rfl⟩) | (go_at_call 20; refine (Tryd.bits_Len64 _ _ (by omega) (by omega)).mono ?_; rintro e w' ⟨rfl, rfl⟩) | (go_at_call 19; refine (signed_b neg _ (by omega) _).mono ?_; rintro e w' ⟨rfl, rfl⟩))
    go_ret2
    exact ⟨rfl, rfl⟩
end Go.Proofs.YteifbkajpigdpaaDoor
set_option linter.unusedSimpArgs false
set_option linter.unusedVariables false
namespace Go.Proofs.YteifbkajpigdpaaDoor
open Go Go.RowKit Ff

@[irreducible] def shl (q k : Nat) : Nat := q * 2 ^ k
theorem shl_eq (q k : Nat) : shl q k = q * 2 ^ k := by unfold shl; rfl
theorem shl_zero (q : Nat) : shl q 0 = q := by rw [shl_eq]; simp
theorem shl_succ (q k : Nat) : shl q (k + 1) = 2 * shl q k := by rw [shl_eq, shl_eq, Nat.pow_succ, ← Nat.mul_assoc, Nat.mul_comm]
theorem shl_lt {q B k n : Nat} (h : q < 2 ^ B) (hk : B + k ≤ n) : shl q k < 2 ^ n := by
  rw [shl_eq]; exact Nat.lt_of_lt_of_le (mul_lt_pow h) (Nat.pow_le_pow_right (by decide) hk)

@[irreducible] def shlB (q k : Nat) : Bool := decide (shl q k < 4503599627370496)
theorem shlB_true (q k : Nat) : shlB q k = true ↔ shl q k < 4503599627370496 := by unfold shlB; exact decide_eq_true_iff
theorem shlB_false (q k : Nat) : shlB q k = false ↔ ¬ shl q k < 4503599627370496 := by unfold shlB; exact decide_eq_false_iff_not
@[local go_sem] theorem lt_shl (q k : Nat) : decide ((shl q k : Int) < 4503599627370496) = shlB q k := by
  rw [Bool.eq_iff_iff, decide_eq_true_iff, shlB_true]; omega

theorem ret_fb {neg t : Bool} {a b : Nat} (h : a = b) : Ending.returned (.tuple #[.float .f64 (wf neg a), .bool t]) = .returned (.tuple #[.float .f64 (wf neg b), .bool t]) := by rw [h]

end Go.Proofs.YteifbkajpigdpaaDoor
set_option linter.unusedSimpArgs false
set_option linter.unusedVariables false
namespace Go.Proofs.YteifbkajpigdpaaDoor
open Go Go.RowKit Ff

@[irreducible] def mkB (m : Nat) (e : Int) : Bool := decide (m = 0 ∨ mkOk (od m) (e + tz m))
@[irreducible] def mkF (neg : Bool) (m : Nat) (e : Int) : Nat := if m = 0 then wf neg 0 else if mkOk (od m) (e + tz m) then wf neg (mkR (od m) (e + tz m)) else 0
theorem mkB_zero (e : Int) : mkB 0 e = true := by unfold mkB; simp
theorem mkF_zero (neg : Bool) (e : Int) : mkF neg 0 e = wf neg 0 := by unfold mkF; simp
theorem mkB_ok {m : Nat} {e : Int} (h : mkOk (od m) (e + tz m)) : mkB m e = true := by unfold mkB; simp [h]
theorem mkF_ok {neg : Bool} {m : Nat} {e : Int} (h0 : 0 < m) (h : mkOk (od m) (e + tz m)) : mkF neg m e = wf neg (mkR (od m) (e + tz m)) := by
  unfold mkF; rw [if_neg (by omega), if_pos h]
theorem mkB_no {m : Nat} {e : Int} (h0 : 0 < m) (h : ¬ mkOk (od m) (e + tz m)) : mkB m e = false := by
  unfold mkB; rw [decide_eq_false_iff_not]; intro c; rcases c with c | c
  · omega
  · exact h c
theorem mkF_no {neg : Bool} {m : Nat} {e : Int} (h0 : 0 < m) (h : ¬ mkOk (od m) (e + tz m)) : mkF neg m e = 0 := by
  unfold mkF; rw [if_neg (by omega), if_neg h]
theorem far_no {m : Nat} {e : Int} (h0 : 0 < m) (hm : m < 18446744073709551616) (he : 1023 < e ∨ e < -1137) : ¬ mkOk (od m) (e + tz m) := by
  have h := tz_spec h0 hm
  have hp := bl_pos (od_pos h0 hm)
  intro c
  obtain ⟨c1, c2, c3⟩ := mkOk_bits c
  omega
theorem Make_c (neg : Bool) (m : Nat) (hm : m < 18446744073709551616) (e : Int) (w : World) (ht : Tabs w) :
    Calls Tryd.prog 9 #[.bool neg, .int .u64 m, .int .i64 e] w fun r w' => r = .returned (.tuple #[.float .f64 (mkF neg m e), .bool (mkB m e)]) ∧ w = w' := by
  by_cases h0 : m = 0
  · subst h0; rw [mkF_zero, mkB_zero]; exact Make_zero neg e w
  · by_cases hf : 1023 < e ∨ e < -1137
    · have hn := far_no (by omega) hm hf
      rw [mkF_no (by omega) hn, mkB_no (by omega) hn]; exact Make_far neg m h0 e hf w
    · by_cases hk : mkOk (od m) (e + tz m)
      · rw [mkF_ok (by omega) hk, mkB_ok hk]; exact Make_ok neg m (by omega) hm e (by omega) (by omega) hk w ht
      · rw [mkF_no (by omega) hk, mkB_no (by omega) hk]; exact Make_bad neg m (by omega) hm e (by omega) (by omega) hk w ht
@[irreducible] def scF (x : Nat) (k : Int) : Nat := if finB x = false then 0 else if rung x = 0 then x else mkF (sgn x) (partM x) (partE x + k)
@[irreducible] def scB (x : Nat) (k : Int) : Bool := if finB x = false then false else if rung x = 0 then true else mkB (partM x) (partE x + k)
theorem partM_odd {x : Nat} (h0 : rung x ≠ 0) : partM x % 2 = 1 := by
  rw [partM_od h0]; exact (tz_spec (pm_pos h0) (by have := pm_lt x; omega)).2.1
theorem partM_lt (x : Nat) : partM x < 9007199254740992 := by
  unfold partM; split
  · omega
  · exact Nat.lt_of_le_of_lt od_le (pm_lt x)
theorem partE_bd (x : Nat) (hf : finB x = true) : -1074 ≤ partE x ∧ partE x ≤ 1100 := by
  unfold partE; split
  · omega
  · rename_i h0
    have h1 := (finB_true x).1 hf
    have h2 := (tz_spec (pm_pos h0) (by have := pm_lt x; omega)).2.2
    by_cases c : rung x < 4503599627370496
    · rw [pex_sub c]; omega
    · rw [pex_nor c]; omega
theorem sc_far {x : Nat} {k : Int} (hf : finB x = true) (h0 : rung x ≠ 0) (hk : k < -4096 ∨ 4096 < k) : scF x k = 0 ∧ scB x k = false := by
  have ho := partM_odd h0
  have hl := partM_lt x
  have hb := partE_bd x hf
  have hn := far_no (m := partM x) (e := partE x + k) (by omega) (by omega) (by omega)
  unfold scF scB
  rw [if_neg (by simp [hf]), if_neg h0, if_neg (by simp [hf]), if_neg h0, mkF_no (by omega) hn, mkB_no (by omega) hn]
  exact ⟨rfl, rfl⟩
theorem sc_near {x : Nat} {k : Int} (hf : finB x = true) (h0 : rung x ≠ 0) : mkF (sgn x) (partM x) (partE x + k) = scF x k ∧ mkB (partM x) (partE x + k) = scB x k := by
  unfold scF scB
  rw [if_neg (by simp [hf]), if_neg h0, if_neg (by simp [hf]), if_neg h0]
  exact ⟨rfl, rfl⟩
theorem sc_zero {x : Nat} {k : Int} (hf : finB x = true) (h0 : rung x = 0) : scF x k = x ∧ scB x k = true := by
  unfold scF scB
  rw [if_neg (by simp [hf]), if_pos h0, if_neg (by simp [hf]), if_pos h0]
  exact ⟨rfl, rfl⟩
theorem sc_inf {x : Nat} {k : Int} (hf : finB x = false) : scF x k = 0 ∧ scB x k = false := by
  unfold scF scB
  rw [if_pos hf, if_pos hf]
  exact ⟨rfl, rfl⟩
theorem ret_fb' {s t : Bool} {a b : Nat} (h : a = b) (h' : s = t) : Ending.returned (.tuple #[.float .f64 a, .bool s]) = .returned (.tuple #[.float .f64 b, .bool t]) := by rw [h, h']

theorem Scale_c (x : Nat) (hx : x < 18446744073709551616) (k : Int) (w : World) (ht : Tabs w) :
    Calls Tryd.prog 5 #[.float .f64 x, .int .i64 k] w fun r w' => r = .returned (.tuple #[.float .f64 (scF x k), .bool (scB x k)]) ∧ w = w' := by
  by_cases hf : finB x = true
  · by_cases h0 : rung x = 0
    · have em : partM x = 0 := by unfold partM; rw [if_pos h0]
      have hs := Lib.hid (sc_zero (k := k) hf h0)
      go_enter Tryd.func5, Tryd.ntmps5
      go_wp2_with (go_at_call 8; refine (Parts_yes x hx hf _ ht).mono ?_; rintro e w' ⟨rfl, rfl⟩)
      go_ret2
      exact ⟨ret_fb' hs.out.1.symm hs.out.2.symm, rfl⟩
    · have em : ((partM x : Int) == 0) = false := by have := partM_odd h0; rw [beq_eq_false_iff_ne]; omega
      have hb := partE_bd x hf
      have hl := partM_lt x
      by_cases hk : k < -4096 ∨ 4096 < k
      · have hs := Lib.hid (sc_far (k := k) hf h0 hk)
        by_cases hk1 : k < -4096
        · clear hk
          go_enter Tryd.func5, Tryd.ntmps5
          go_wp2_with (go_at_call 8; refine (Parts_yes x hx hf _ ht).mono ?_; rintro e w' ⟨rfl, rfl⟩)
          go_ret2
          exact ⟨ret_fb' hs.out.1.symm hs.out.2.symm, rfl⟩
        · have hk2 : 4096 < k := by omega
          clear hk
          go_enter Tryd.func5, Tryd.ntmps5
          go_wp2_with (go_at_call 8; refine (Parts_yes x hx hf _ ht).mono ?_; rintro e w' ⟨rfl, rfl⟩)
          go_ret2
          exact ⟨ret_fb' hs.out.1.symm hs.out.2.symm, rfl⟩
      · have hs := Lib.hid (sc_near (k := k) hf h0)
        have hk1 : ¬ k < -4096 := by omega
        have hk2 : ¬ 4096 < k := by omega
        clear hk
        go_enter Tryd.func5, Tryd.ntmps5
        go_wp2_with (first | (go_at_call 8; refine (Parts_yes x hx hf _ ht).mono ?_; rintro e w' ⟨rfl, rfl⟩) | (go_at_call 9; refine (Make_c _ _ (by omega) _ _ ht).mono ?_; rintro e w' ⟨rfl, rfl⟩))
        go_ret2
        exact ⟨ret_fb' hs.out.1 hs.out.2, rfl⟩
  · have hf' : finB x = false := by simpa using hf
    have hs := Lib.hid (sc_inf (k := k) hf')
    go_enter Tryd.func5, Tryd.ntmps5
    go_wp2_with (go_at_call 8; refine (Parts_no x hx hf' _).mono ?_; rintro e w' ⟨rfl, rfl⟩)
    go_ret2
    exact ⟨ret_fb' hs.out.1.symm hs.out.2.symm, rfl⟩

end Go.Proofs.YteifbkajpigdpaaDoor
set_option linter.unusedSimpArgs false
set_option linter.unusedVariables false
namespace Go.Proofs.YteifbkajpigdpaaDoor
open Go Go.RowKit Ff

@[irreducible] def place (x : Nat) : Nat := if isn x then 18437736874454810626 else if sgn x then 9218868437227405312 - rung x else 9218868437227405313 + rung x
theorem place_nan {x : Nat} (h : isn x) : place x = 18437736874454810626 := by unfold place; rw [if_pos h]
theorem place_neg {x : Nat} (h : ¬ isn x) (s : sgn x = true) : place x = 9218868437227405312 - rung x := by unfold place; rw [if_neg h, if_pos s]
theorem place_pos {x : Nat} (h : ¬ isn x) (s : sgn x = false) : place x = 9218868437227405313 + rung x := by unfold place; rw [if_neg h, if_neg (by simp [s])]
theorem sgn_rung {x : Nat} (hx : x < 18446744073709551616) (s : sgn x = false) : rung x = x := by
  unfold sgn at s; rw [beq_eq_false_iff_ne] at s; unfold rung; omega
theorem sgn_rung' {x : Nat} (hx : x < 18446744073709551616) (s : sgn x = true) : x = topped (rung x) := by
  unfold sgn at s; rw [beq_iff_eq] at s; rw [topped_eq]; unfold rung; omega
theorem wrap_place_neg {x : Nat} (h : ¬ isn x) (s : sgn x = true) : IntKind.u64.wrap (9218868437227405312 - (rung x : Int)) = (place x : Int) := by
  rw [place_neg h s, IntKind.wrap_u64]; unfold isn at h; omega
theorem wrap_place_pos {x : Nat} (hx : x < 18446744073709551616) (h : ¬ isn x) (s : sgn x = false) : IntKind.u64.wrap (9218868437227405313 + (x : Int)) = (place x : Int) := by
  rw [place_pos h s, IntKind.wrap_u64, sgn_rung hx s]; unfold isn at h; rw [sgn_rung hx s] at h; omega
theorem wrap_place_pos' {x : Nat} (h : ¬ isn x) (s : sgn x = false) : IntKind.u64.wrap (9218868437227405313 + (rung x : Int)) = (place x : Int) := by
  rw [place_pos h s, IntKind.wrap_u64]; unfold isn at h; omega

theorem Place_c (x : Nat) (hx : x < 18446744073709551616) (w : World) :
    Calls Tryd.prog 24 #[.float .f64 x] w fun e w' => e = .returned (.int .u64 (place x)) ∧ w = w' := by
  have h44 := ext_bits
  have hb := and_not_top x hx
  have ha := top_and x hx
  have ht := top_ne x
  have hn := isn_ne x
  by_cases hi : isn x
  · have hp := Lib.hid (place_nan hi)
    go_enter Tryd.func24, Tryd.ntmps24
    go_wp2
    all_goals go_ret
    all_goals exact ⟨ret_int (by rw [hp.out]; rfl), rfl⟩
  · cases hs : sgn x
    · have hp := wrap_place_pos hx hi hs
      go_enter Tryd.func24, Tryd.ntmps24
      go_wp2
      all_goals go_ret
      all_goals exact ⟨rfl, rfl⟩
    · have hp := wrap_place_neg hi hs
      go_enter Tryd.func24, Tryd.ntmps24
      go_wp2
      all_goals go_ret
      all_goals exact ⟨rfl, rfl⟩

/-- The two orders. -/
def ordN (p q : Nat) : Int := if p < q then -1 else if q < p then 1 else 0
theorem Order_c (x y : Nat) (hx : x < 18446744073709551616) (hy : y < 18446744073709551616) (w : World) :
    Calls Tryd.prog 15 #[.float .f64 x, .float .f64 y] w fun e w' => e = .returned (.int .i64 (ordN (place x) (place y))) ∧ w = w' := by
  rcases Nat.lt_trichotomy (place x) (place y) with h | h | h
  · have e : ordN (place x) (place y) = -1 := by unfold ordN; rw [if_pos h]
    have H := Lib.hid e; clear e
    have h' : (place x : Int) < place y := by omega
    go_enter Tryd.func15, Tryd.ntmps15
    go_wp2_with (go_at_call 24; refine (Place_c _ (by assumption) _).mono ?_; rintro e w' ⟨rfl, rfl⟩)
    all_goals go_ret
    all_goals exact ⟨ret_int H.out.symm, rfl⟩
  · have e : ordN (place x) (place y) = 0 := by unfold ordN; rw [if_neg (by omega), if_neg (by omega)]
    have H := Lib.hid e; clear e
    go_enter Tryd.func15, Tryd.ntmps15
    go_wp2_with (go_at_call 24; refine (Place_c _ (by assumption) _).mono ?_; rintro e w' ⟨rfl, rfl⟩)
    all_goals go_ret
    all_goals exact ⟨ret_int H.out.symm, rfl⟩
  · have e : ordN (place x) (place y) = 1 := by unfold ordN; rw [if_neg (by omega), if_pos h]
    have H := Lib.hid e; clear e
    have h1 : ¬ (place x : Int) < place y := by omega
    have h2 : (place y : Int) < place x := by omega
    go_enter Tryd.func15, Tryd.ntmps15
    go_wp2_with (go_at_call 24; refine (Place_c _ (by assumption) _).mono ?_; rintro e w' ⟨rfl, rfl⟩)
    all_goals go_ret
    all_goals exact ⟨ret_int H.out.symm, rfl⟩
/-- Alike: two NaNs, or the same bits. -/
@[irreducible] def likeB (x y : Nat) : Bool := decide (isn x ∧ isn y ∨ x = y)
theorem like_nn {x y : Nat} (hi : isn x) (hj : isn y) : likeB x y = true := by unfold likeB; simp [hi, hj]
theorem like_eq {x y : Nat} (h : ¬ (isn x ∧ isn y)) : ((x : Int) == (y : Int)) = likeB x y := by
  unfold likeB; rw [Bool.eq_iff_iff, beq_iff_eq, decide_eq_true_iff]
  constructor
  · intro c; right; omega
  · intro c; rcases c with c | c
    · exact absurd c h
    · omega
end Go.Proofs.YteifbkajpigdpaaDoor
set_option linter.unusedSimpArgs false
set_option linter.unusedVariables false
namespace Go.Proofs.YteifbkajpigdpaaDoor
open Go Go.RowKit Ff

@[irreducible] def fltB (x y : Nat) : Bool := decide (¬ isn x ∧ ¬ isn y ∧ srung x < srung y)
@[irreducible] def feqB (x y : Nat) : Bool := decide (¬ isn x ∧ ¬ isn y ∧ srung x = srung y)
theorem ord_cmp (x y : Nat) : FloatKind.f64.format.order x y = if isn x ∨ isn y then none else some (compare (srung x) (srung y)) := order_eq x y
theorem cmp_lt (a b : Int) : compare a b = Ordering.lt ↔ a < b := by
  simp only [compare, compareOfLessAndEq]; by_cases h : a < b <;> by_cases h' : a = b <;> simp [h, h']
theorem cmp_eq (a b : Int) : compare a b = Ordering.eq ↔ a = b := by
  simp only [compare, compareOfLessAndEq]; by_cases h : a < b <;> by_cases h' : a = b <;> simp [h, h'] <;> omega
theorem cmp_gt (a b : Int) : compare a b = Ordering.gt ↔ b < a := by
  simp only [compare, compareOfLessAndEq]; by_cases h : a < b <;> by_cases h' : a = b <;> simp [h, h'] <;> omega
theorem some_beq (o p : Ordering) : (some o == some p) = decide (o = p) := by cases o <;> cases p <;> rfl
@[local go_sem] theorem f_lt (x y : Nat) : (FloatKind.f64.format.order x y == some Ordering.lt) = fltB x y := by
  rw [ord_cmp]; unfold fltB
  by_cases h : isn x ∨ isn y
  · rw [if_pos h]; symm; rw [show (none == some Ordering.lt) = false from rfl, decide_eq_false_iff_not]; rintro ⟨h1, h2, _⟩; exact h.elim h1 h2
  · rw [if_neg h, some_beq, Bool.eq_iff_iff, decide_eq_true_iff, decide_eq_true_iff, cmp_lt]
    exact ⟨fun c => ⟨fun a => h (Or.inl a), fun a => h (Or.inr a), c⟩, fun c => c.2.2⟩
@[local go_sem] theorem f_gt (x y : Nat) : (FloatKind.f64.format.order x y == some Ordering.gt) = fltB y x := by
  rw [ord_cmp]; unfold fltB
  by_cases h : isn x ∨ isn y
  · rw [if_pos h]; symm; rw [show (none == some Ordering.gt) = false from rfl, decide_eq_false_iff_not]; rintro ⟨h1, h2, _⟩; exact h.elim h2 h1
  · rw [if_neg h, some_beq, Bool.eq_iff_iff, decide_eq_true_iff, decide_eq_true_iff, cmp_gt]
    exact ⟨fun c => ⟨fun a => h (Or.inr a), fun a => h (Or.inl a), c⟩, fun c => c.2.2⟩
@[local go_sem] theorem f_eq (x y : Nat) : (FloatKind.f64.format.order x y == some Ordering.eq) = feqB x y := by
  rw [ord_cmp]; unfold feqB
  by_cases h : isn x ∨ isn y
  · rw [if_pos h]; symm; rw [show (none == some Ordering.eq) = false from rfl, decide_eq_false_iff_not]; rintro ⟨h1, h2, _⟩; exact h.elim h1 h2
  · rw [if_neg h, some_beq, Bool.eq_iff_iff, decide_eq_true_iff, decide_eq_true_iff, cmp_eq]
    exact ⟨fun c => ⟨fun a => h (Or.inl a), fun a => h (Or.inr a), c⟩, fun c => c.2.2⟩
@[local go_sem] theorem f_ne (x y : Nat) : (FloatKind.f64.format.order x y != some Ordering.eq) = !feqB x y := by
  rw [bne, f_eq]
theorem feq_self (x : Nat) : feqB x x = !decide (isn x) := by unfold feqB; simp
theorem feq_nn {x : Nat} (h : isn x) : feqB x x = false := by rw [feq_self]; simp [h]
theorem feq_ok {x : Nat} (h : ¬ isn x) : feqB x x = true := by rw [feq_self]; simp [h]
theorem isn_zero : ¬ isn 0 := by decide
theorem srung_zero : srung 0 = 0 := by decide
theorem srung_eq_zero (x : Nat) : srung x = 0 ↔ rung x = 0 := by unfold srung; split <;> omega
theorem feq_zero (x : Nat) : feqB x 0 = decide (rung x = 0) := by
  unfold feqB; rw [Bool.eq_iff_iff, decide_eq_true_iff, decide_eq_true_iff, srung_zero, srung_eq_zero]
  constructor
  · intro h; exact h.2.2
  · intro h; exact ⟨by unfold isn; omega, isn_zero, h⟩
theorem feq_z {x : Nat} (h : rung x = 0) : feqB x 0 = true := by rw [feq_zero]; simp [h]
theorem feq_nz {x : Nat} (h : rung x ≠ 0) : feqB x 0 = false := by rw [feq_zero]; simp [h]

theorem same_c (x y : Nat) (w : World) :
    Calls Tryd.prog 7 #[.float .f64 x, .float .f64 y] w fun e w' => e = .returned (.bool (likeB x y)) ∧ w = w' := by
  have h44 := ext_bits
  by_cases hi : isn x
  · have hi' := feq_nn hi
    by_cases hj : isn y
    · have hj' := feq_nn hj
      have he := Lib.hid (like_nn hi hj)
      go_enter Tryd.func7, Tryd.ntmps7
      go_wp2
      all_goals go_ret
      all_goals exact ⟨ret_bool he.out.symm, rfl⟩
    · have hj' := feq_ok hj
      have he := like_eq (fun c => hj c.2 : ¬ (isn x ∧ isn y))
      go_enter Tryd.func7, Tryd.ntmps7
      go_wp2
      all_goals go_ret
      all_goals exact ⟨rfl, rfl⟩
  · have hi' := feq_ok hi
    have he := like_eq (fun c => hi c.1 : ¬ (isn x ∧ isn y))
    go_enter Tryd.func7, Tryd.ntmps7
    go_wp2
    all_goals go_ret
    all_goals exact ⟨rfl, rfl⟩
end Go.Proofs.YteifbkajpigdpaaDoor
set_option linter.unusedSimpArgs false
set_option linter.unusedVariables false
namespace Go.Proofs.YteifbkajpigdpaaDoor
open Go Go.RowKit Ff
attribute [local go_sem] f_lt f_gt f_eq f_ne

@[irreducible] def nanW : Nat := 9221120237041090561
@[irreducible] def atF (p : Nat) : Nat := if 18437736874454810626 < p then 0 else if p = 18437736874454810626 then nanW else if p < 9218868437227405313 then topped (9218868437227405312 - p) else p - 9218868437227405313
@[irreducible] def atB (p : Nat) : Bool := decide (p ≤ 18437736874454810626)
@[irreducible] def bigP (p : Nat) : Bool := decide (18437736874454810626 < p)
@[irreducible] def nanP (p : Nat) : Bool := decide (p = 18437736874454810626)
@[irreducible] def lowP (p : Nat) : Bool := decide (p < 9218868437227405313)
theorem bigP_iff (p : Nat) : bigP p = true ↔ 18437736874454810626 < p := by unfold bigP; exact decide_eq_true_iff
theorem nanP_iff (p : Nat) : nanP p = true ↔ p = 18437736874454810626 := by unfold nanP; exact decide_eq_true_iff
theorem lowP_iff (p : Nat) : lowP p = true ↔ p < 9218868437227405313 := by unfold lowP; exact decide_eq_true_iff
@[local go_sem] theorem big_p1 (p : Nat) : decide ((18437736874454810626 : Int) < (p : Int)) = bigP p := by
  rw [Bool.eq_iff_iff, decide_eq_true_iff, bigP_iff]; omega
@[local go_sem] theorem big_p2 (p : Nat) : decide ((18437736874454810627 : Int) ≤ (p : Int)) = bigP p := by
  rw [Bool.eq_iff_iff, decide_eq_true_iff, bigP_iff]; omega
@[local go_sem] theorem nan_p (p : Nat) : ((p : Int) == 18437736874454810626) = nanP p := by
  rw [Bool.eq_iff_iff, beq_iff_eq, nanP_iff]; omega
@[local go_sem] theorem low_p1 (p : Nat) : decide ((p : Int) < 9218868437227405313) = lowP p := by
  rw [Bool.eq_iff_iff, decide_eq_true_iff, lowP_iff]; omega
@[local go_sem] theorem low_p2 (p : Nat) : decide ((p : Int) ≤ 9218868437227405312) = lowP p := by
  rw [Bool.eq_iff_iff, decide_eq_true_iff, lowP_iff]; omega
theorem at_big {p : Nat} (h : bigP p = true) : atF p = 0 ∧ atB p = false := by
  have h := (bigP_iff p).1 h
  unfold atF atB; rw [if_pos h, decide_eq_false_iff_not]; exact ⟨rfl, by omega⟩
theorem at_nan {p : Nat} (h : nanP p = true) : atF p = nanW ∧ atB p = true := by
  have h := (nanP_iff p).1 h
  unfold atF atB; rw [if_neg (by omega), if_pos h, decide_eq_true_iff]; exact ⟨rfl, by omega⟩
theorem at_low {p : Nat} (h : lowP p = true) : atF p = topped (9218868437227405312 - p) ∧ atB p = true := by
  have h := (lowP_iff p).1 h
  unfold atF atB; rw [if_neg (by omega), if_neg (by omega), if_pos h, decide_eq_true_iff]; exact ⟨rfl, by omega⟩
theorem at_high {p : Nat} (h1 : bigP p = false) (h2 : nanP p = false) (h3 : lowP p = false) : atF p = p - 9218868437227405313 ∧ atB p = true := by
  have h1 : ¬ 18437736874454810626 < p := fun c => by rw [(bigP_iff p).2 c] at h1; cases h1
  have h2 : ¬ p = 18437736874454810626 := fun c => by rw [(nanP_iff p).2 c] at h2; cases h2
  have h3 : ¬ p < 9218868437227405313 := fun c => by rw [(lowP_iff p).2 c] at h3; cases h3
  unfold atF atB; rw [if_neg h1, if_neg h2, if_neg h3, decide_eq_true_iff]; exact ⟨rfl, by omega⟩
theorem low_or {p : Nat} (h : lowP p = true) : bits BinOp.or IntKind.u64 9223372036854775808 (IntKind.u64.wrap (9218868437227405312 - (p : Int))) = (topped (9218868437227405312 - p) : Int) := by
  have h := (lowP_iff p).1 h
  have e : IntKind.u64.wrap (9218868437227405312 - (p : Int)) = ((9218868437227405312 - p : Nat) : Int) := by rw [IntKind.wrap_u64]; omega
  rw [e, show (9223372036854775808 : Int) = ((9223372036854775808 : Nat) : Int) from rfl, u64_or_nat _ _ (by decide) (by omega), topped_eq]
  congr 1
  exact nat_join 63 _ _ (by decide) (by omega)
theorem high_sub {p : Nat} (hp : p < 18446744073709551616) (h3 : lowP p = false) : IntKind.u64.wrap ((p : Int) - 9218868437227405313) = ((p - 9218868437227405313 : Nat) : Int) := by
  have h3 : ¬ p < 9218868437227405313 := fun c => by rw [(lowP_iff p).2 c] at h3; cases h3
  rw [IntKind.wrap_u64]; omega
theorem low_sub {p : Nat} (h : lowP p = true) : IntKind.u64.wrap (9218868437227405312 - (p : Int)) = ((9218868437227405312 - p : Nat) : Int) := by
  have h := (lowP_iff p).1 h
  rw [IntKind.wrap_u64]; omega
@[irreducible] def lowD (p : Nat) : Nat := 9218868437227405312 - p
@[irreducible] def highD (p : Nat) : Nat := p - 9218868437227405313
theorem high_sub2 {p : Nat} (hp : p < 18446744073709551616) (h3 : lowP p = false) : IntKind.u64.wrap (IntKind.u64.wrap ((p : Int) - 9218868437227405312) - 1) = ((highD p : Nat) : Int) := by
  have h3 : ¬ p < 9218868437227405313 := fun c => by rw [(lowP_iff p).2 c] at h3; cases h3
  obtain ⟨d, rfl⟩ : ∃ d, p = 9218868437227405313 + d := ⟨p - 9218868437227405313, by omega⟩
  have e1 : highD (9218868437227405313 + d) = d := by unfold highD; omega
  rw [e1, IntKind.wrap_u64, IntKind.wrap_u64]; omega
theorem at_tests {p : Nat} : (nanP p = true → bigP p = false) ∧ (lowP p = true → bigP p = false ∧ nanP p = false) := by
  refine ⟨fun h => ?_, fun h => ⟨?_, ?_⟩⟩
  · have h := (nanP_iff p).1 h; unfold bigP; rw [decide_eq_false_iff_not]; omega
  · have h := (lowP_iff p).1 h; unfold bigP; rw [decide_eq_false_iff_not]; omega
  · have h := (lowP_iff p).1 h; unfold nanP; rw [decide_eq_false_iff_not]; omega

theorem ext_nan (w : World) : (callFunc 4 #[.int .u64 9221120237041090561]).run Tryd.prog w = .ok (.value (.float .f64 nanW)) w := by
  unfold nanW; kernel_rfl
theorem NaN_c (w : World) : Calls Tryd.prog 26 #[] w fun e w' => e = .returned (.float .f64 nanW) ∧ w = w' := by
  have h12 : ∀ w, (callFunc 4 #[.int .u64 9221120237041090561]).run Tryd.prog w = .ok (.value (.float .f64 nanW)) w := ext_nan
  go_enter Tryd.func26, Tryd.ntmps26
  go_wp2
  go_ret
  exact ⟨rfl, rfl⟩
end Go.Proofs.YteifbkajpigdpaaDoor
set_option linter.unusedSimpArgs false
set_option linter.unusedVariables false
namespace Go.Proofs.YteifbkajpigdpaaDoor
open Go Go.RowKit Ff
attribute [local go_sem] f_lt f_gt f_eq f_ne

@[irreducible] def infW (x : Nat) : Bool := decide (x = 9218868437227405312)
theorem infW_iff (x : Nat) : infW x = true ↔ x = 9218868437227405312 := by unfold infW; exact decide_eq_true_iff
@[local go_sem] theorem inf_w (x : Nat) : ((x : Int) == 9218868437227405312) = infW x := by
  rw [Bool.eq_iff_iff, beq_iff_eq, infW_iff]; omega
@[irreducible] def upF (x : Nat) : Nat := if isn x then x else if x = 9218868437227405312 then x else if rung x = 0 then 1 else if sgn x then x - 1 else x + 1
theorem up_nan {x : Nat} (h : isn x) : upF x = x := by unfold upF; rw [if_pos h]
theorem up_inf {x : Nat} (h : infW x = true) : upF x = x := by unfold upF; rw [if_pos ((infW_iff x).1 h)]; split <;> rfl
theorem notInf {x : Nat} (h : infW x = false) : ¬ x = 9218868437227405312 := fun c => by rw [(infW_iff x).2 c] at h; cases h
theorem up_zero {x : Nat} (h : ¬ isn x) (h' : infW x = false) (h0 : rung x = 0) : upF x = 1 := by unfold upF; rw [if_neg h, if_neg (notInf h'), if_pos h0]
theorem up_neg {x : Nat} (h : ¬ isn x) (h' : infW x = false) (h0 : rung x ≠ 0) (s : sgn x = true) : upF x = x - 1 := by unfold upF; rw [if_neg h, if_neg (notInf h'), if_neg h0, if_pos s]
theorem up_pos {x : Nat} (h : ¬ isn x) (h' : infW x = false) (h0 : rung x ≠ 0) (s : sgn x = false) : upF x = x + 1 := by unfold upF; rw [if_neg h, if_neg (notInf h'), if_neg h0, if_neg (by simp [s])]
theorem ret_f {a b : Nat} (h : a = b) : Ending.returned (.float .f64 a) = .returned (.float .f64 b) := by rw [h]
theorem ext_one (w : World) : (callFunc 4 #[.int .u64 1]).run Tryd.prog w = .ok (.value (.float .f64 1)) w := by kernel_rfl
@[irreducible] def prevN (x : Nat) : Nat := x - 1
@[irreducible] def nextN (x : Nat) : Nat := x + 1
theorem prev_eq (x : Nat) : prevN x = x - 1 := by unfold prevN; rfl
theorem next_eq (x : Nat) : nextN x = x + 1 := by unfold nextN; rfl

theorem Up_c (x : Nat) (hx : x < 18446744073709551616) (w : World) :
    Calls Tryd.prog 12 #[.float .f64 x] w fun e w' => e = .returned (.float .f64 (upF x)) ∧ w = w' := by
  have h44 := ext_bits
  have h12 := ext_from
  have h1 := ext_one
  have ha := top_and x hx
  have ht := top_ne x
  by_cases hi : isn x
  · have H := Lib.hid (up_nan hi)
    have hn := feq_nn hi
    go_enter Tryd.func12, Tryd.ntmps12
    go_wp2
    all_goals go_ret
    all_goals exact ⟨ret_f H.out.symm, rfl⟩
  · have hn := feq_ok hi
    cases hf : infW x
    · by_cases h0 : rung x = 0
      · have H := Lib.hid (up_zero hi hf h0)
        have hz := feq_z h0
        go_enter Tryd.func12, Tryd.ntmps12
        go_wp2
        all_goals go_ret
        all_goals exact ⟨ret_f H.out.symm, rfl⟩
      · have hz := feq_nz h0
        cases hs : sgn x
        · have H := Lib.hid (up_pos hi hf h0 hs)
          have e : IntKind.u64.wrap ((x : Int) + 1) = (nextN x : Int) := by
            rw [IntKind.wrap_u64, next_eq]; have := sgn_rung hx hs; have := rung_lt x; omega
          go_enter Tryd.func12, Tryd.ntmps12
          go_wp2
          all_goals go_ret
          all_goals exact ⟨ret_f (by rw [H.out, next_eq]), rfl⟩
        · have H := Lib.hid (up_neg hi hf h0 hs)
          have e : IntKind.u64.wrap ((x : Int) - 1) = (prevN x : Int) := by
            rw [IntKind.wrap_u64, prev_eq]; have := sgn_rung' hx hs; rw [topped_eq] at this; omega
          go_enter Tryd.func12, Tryd.ntmps12
          go_wp2
          all_goals go_ret
          all_goals exact ⟨ret_f (by rw [H.out, prev_eq]), rfl⟩
    · have H := Lib.hid (up_inf hf)
      go_enter Tryd.func12, Tryd.ntmps12
      go_wp2
      all_goals go_ret
      all_goals exact ⟨ret_f H.out.symm, rfl⟩

theorem place_le (x : Nat) : place x ≤ 18437736874454810626 := by unfold place; have := rung_lt x; split; omega; split; omega; rename_i h _; unfold isn at h; omega

theorem atF_low {p : Nat} (h : p < 9218868437227405313) : atF p = topped (9218868437227405312 - p) := (at_low ((lowP_iff p).2 h)).1
theorem atF_high {p : Nat} (h1 : p < 18437736874454810626) (h3 : ¬ p < 9218868437227405313) : atF p = p - 9218868437227405313 := by
  unfold atF; rw [if_neg (by omega), if_neg (by omega), if_neg h3]
theorem max_gt {x : Nat} (hx : x < 18446744073709551616) : fltB 9218868437227405311 x = infW x := by
  unfold fltB infW
  rw [Bool.eq_iff_iff, decide_eq_true_iff, decide_eq_true_iff]
  have e : srung 9218868437227405311 = 9218868437227405311 := by decide
  rw [e]
  unfold srung isn rung sgn
  constructor
  · rintro ⟨_, h2, h3⟩; split at h3 <;> rename_i c <;> simp only [beq_iff_eq] at c <;> omega
  · intro h; subst h; decide
theorem fin_not {x : Nat} (hx : x < 18446744073709551616) (h : ¬ isn x) (h' : infW x = false) (s : sgn x = false) : rung x < 9218868437227405312 := by
  have := notInf h'; unfold isn at h; rw [sgn_rung hx s] at *; omega
/-- One place on is the next float. -/
theorem up_place {x : Nat} (hx : x < 18446744073709551616) (h : ¬ isn x) (h' : infW x = false) (h0 : rung x ≠ 0) : atF (place x + 1) = upF x := by
  cases s : sgn x
  · have hf := fin_not hx h h' s
    rw [up_pos h h' h0 s, place_pos h s, atF_high (by omega) (by omega)]
    have := sgn_rung hx s; omega
  · rw [up_neg h h' h0 s, place_neg h s, atF_low (by unfold isn at h; omega), topped_eq]
    have := sgn_rung' hx s; rw [topped_eq] at this; unfold isn at h; omega

@[irreducible] def negW (x : Nat) : Nat := x ^^^ 9223372036854775808
theorem run_neg (x : Nat) (w : World) : (Op.unary .neg (.float .f64 x)).run Tryd.prog w = .ok (.float .f64 (negW x)) w := by
  unfold negW Op.unary Op.negFloat; rfl
theorem xor_top {r : Nat} (h : r < 9223372036854775808) : r ^^^ 9223372036854775808 = 9223372036854775808 + r ∧ (9223372036854775808 + r) ^^^ 9223372036854775808 = r := by
  have e : r ^^^ 9223372036854775808 = 9223372036854775808 + r := by
    have h2 : r ^^^ 9223372036854775808 = r ||| 9223372036854775808 := by
      apply Nat.eq_of_testBit_eq; intro i
      rw [Nat.testBit_xor, Nat.testBit_or, show 9223372036854775808 = 2 ^ 63 by rfl, Nat.testBit_two_pow]
      by_cases c : 63 = i
      · subst c
        have : r.testBit 63 = false := Nat.testBit_lt_two_pow h
        simp [this]
      · simp [c]
    rw [h2, Nat.or_comm, nat_join 63 _ _ (by decide) h]
  exact ⟨e, by rw [← e, Nat.xor_assoc, Nat.xor_self, Nat.xor_zero]⟩
theorem neg_pos {x : Nat} (hx : x < 18446744073709551616) (s : sgn x = false) : negW x = topped (rung x) := by
  have h := sgn_rung hx s
  have := rung_lt x
  unfold negW; rw [topped_eq, h]; rw [h] at this; exact (xor_top this).1
theorem neg_neg {x : Nat} (hx : x < 18446744073709551616) (s : sgn x = true) : negW x = rung x := by
  have h := sgn_rung' hx s
  have hr := rung_lt x
  rw [topped_eq] at h
  unfold negW
  generalize rung x = r at h hr
  subst h
  exact (xor_top hr).2
theorem rung_top {r : Nat} (h : r < 9223372036854775808) : rung (topped r) = r ∧ sgn (topped r) = true := by
  rw [topped_eq]; unfold rung sgn; refine ⟨by omega, by rw [beq_iff_eq]; omega⟩
theorem rung_low {r : Nat} (h : r < 9223372036854775808) : rung r = r ∧ sgn r = false := by
  unfold rung sgn; refine ⟨by omega, by rw [beq_eq_false_iff_ne]; omega⟩
theorem negW_lt {x : Nat} (hx : x < 18446744073709551616) : negW x < 18446744073709551616 := by
  have := rung_lt x
  cases s : sgn x
  · rw [neg_pos hx s, topped_eq]; omega
  · rw [neg_neg hx s]; omega
theorem negW_rung {x : Nat} (hx : x < 18446744073709551616) : rung (negW x) = rung x ∧ sgn (negW x) = !sgn x := by
  cases s : sgn x
  · rw [neg_pos hx s]; exact rung_top (rung_lt x)
  · rw [neg_neg hx s]; exact rung_low (rung_lt x)
theorem negW_isn {x : Nat} (hx : x < 18446744073709551616) : isn (negW x) ↔ isn x := by unfold isn; rw [(negW_rung hx).1]
theorem negW_negW {x : Nat} (hx : x < 18446744073709551616) : negW (negW x) = x := by
  unfold negW; rw [Nat.xor_assoc, Nat.xor_self, Nat.xor_zero]
theorem up_lt {x : Nat} (hx : x < 18446744073709551616) : upF x < 18446744073709551616 := by
  by_cases hi : isn x
  · rw [up_nan hi]; exact hx
  · cases hf : infW x
    · by_cases h0 : rung x = 0
      · rw [up_zero hi hf h0]; omega
      · cases hs : sgn x
        · rw [up_pos hi hf h0 hs]; have := sgn_rung hx hs; have := rung_lt x; omega
        · rw [up_neg hi hf h0 hs]; omega
    · rw [up_inf hf]; exact hx
@[irreducible] def downF (x : Nat) : Nat := negW (upF (negW x))
theorem Down_c (x : Nat) (hx : x < 18446744073709551616) (w : World) :
    Calls Tryd.prog 13 #[.float .f64 x] w fun e w' => e = .returned (.float .f64 (downF x)) ∧ w = w' := by
  have hl := negW_lt hx
  have H : Hid (downF x = negW (upF (negW x))) := Lib.hid (by unfold downF; rfl)
  have hn := run_neg
  go_enter Tryd.func13, Tryd.ntmps13
  go_wp2_with (go_at_call 12; refine (Up_c _ hl _).mono ?_; rintro e w' ⟨rfl, rfl⟩)
  all_goals go_ret
  all_goals exact ⟨ret_f H.out.symm, rfl⟩

theorem min_lt {x : Nat} (hx : x < 18446744073709551616) : fltB x 18442240474082181119 = infW (negW x) := by
  unfold fltB infW
  rw [Bool.eq_iff_iff, decide_eq_true_iff, decide_eq_true_iff]
  have e : srung 18442240474082181119 = -9218868437227405311 := by decide
  rw [e]
  cases s : sgn x
  · rw [neg_pos hx s, topped_eq]
    unfold srung isn; rw [s]
    constructor
    · rintro ⟨_, h2, h3⟩; simp only [Bool.false_eq_true, if_false] at h3; omega
    · intro h; omega
  · rw [neg_neg hx s]
    unfold srung isn; rw [s]
    constructor
    · rintro ⟨h1, h2, h3⟩; simp only [if_true] at h3; omega
    · intro h; refine ⟨by omega, by decide, ?_⟩; simp only [if_true]; omega
theorem down_nan {x : Nat} (hx : x < 18446744073709551616) (h : isn x) : downF x = x := by
  unfold downF; rw [up_nan ((negW_isn hx).2 h), negW_negW hx]
theorem down_inf {x : Nat} (hx : x < 18446744073709551616) (h : infW (negW x) = true) : downF x = x := by
  unfold downF; rw [up_inf h, negW_negW hx]
theorem negW_one : negW 1 = topped 1 := neg_pos (by decide) (by decide)
theorem down_zero {x : Nat} (hx : x < 18446744073709551616) (h : ¬ isn x) (h' : infW (negW x) = false) (h0 : rung x = 0) : downF x = topped 1 := by
  unfold downF; rw [up_zero (fun c => h ((negW_isn hx).1 c)) h' (by rw [(negW_rung hx).1]; exact h0), negW_one]
theorem down_place {x : Nat} (hx : x < 18446744073709551616) (h : ¬ isn x) (h' : infW (negW x) = false) (h0 : rung x ≠ 0) : 1 ≤ place x ∧ atF (place x - 1) = downF x := by
  have h1 : ¬ isn (negW x) := fun c => h ((negW_isn hx).1 c)
  have h2 : rung (negW x) ≠ 0 := by rw [(negW_rung hx).1]; exact h0
  unfold downF
  cases s : sgn x
  · rw [up_neg h1 h' h2 (by rw [(negW_rung hx).2, s]; rfl), place_pos h s]
    refine ⟨by omega, ?_⟩
    have e := sgn_rung hx s
    have hr := rung_lt x
    rw [neg_pos hx s, topped_eq, show 9223372036854775808 + rung x - 1 = topped (rung x - 1) by rw [topped_eq]; omega, atF_high (by unfold isn at h; omega) (by omega)]
    have q := rung_top (r := rung x - 1) (by omega)
    rw [neg_neg (by rw [topped_eq]; omega) q.2, q.1]; omega
  · have hb : rung x < 9218868437227405312 := by
      have := notInf h'; rw [neg_neg hx s] at this; unfold isn at h; omega
    rw [up_pos h1 h' h2 (by rw [(negW_rung hx).2, s]; rfl), place_neg h s]
    refine ⟨by omega, ?_⟩
    have e := sgn_rung' hx s
    have q := rung_low (r := rung x + 1) (by omega)
    rw [neg_neg hx s, neg_pos (by omega) q.2, q.1, atF_low (by omega)]
    congr 1; omega
end Go.Proofs.YteifbkajpigdpaaDoor
set_option linter.unusedSimpArgs false
set_option linter.unusedVariables false
namespace Go.Proofs.YteifbkajpigdpaaDoor
open Go Go.RowKit Go.Sort Ff
attribute [local go_sem] f_lt f_gt f_eq f_ne

theorem holds_zero0 (w : World) (T : TypeId) (nd : Nat) (hs : nd ≤ 24) : Holds (fun (b : UInt8) => Value.int .u8 (b.toNat : Int)) (w.alloc (.cells Lib.zeros24 T)) w.heap.size 0 (Array.replicate nd (0 : UInt8)) := fun j hj => by
  have hj' : j < nd := by simpa using hj
  refine ⟨?_, World.frozen?_alloc_new _ _ _ _⟩
  rw [World.cell?_alloc_new, Lib.zeros24_at _ (by omega), getElem!_pos _ j hj]
  simp
theorem fin_at0 (w : World) (o : Obj) (dk : Array UInt8) (k : Nat) : ∃ os, (putRow (fun (b : UInt8) => Value.int .u8 (b.toNat : Int)) (w.alloc o) w.heap.size 0 dk).drewN k = grow (w.drewN k) os := by
  rw [alloc_eq_grow]
  obtain ⟨os', _, e⟩ := putRow_grow_new (fun (b : UInt8) => Value.int .u8 (b.toNat : Int)) w #[o] w.heap.size 0 dk (Nat.le_refl _)
  exact ⟨os', by rw [e]; rfl⟩
theorem below_grow (w : World) (k : Nat) (os : Array Obj) : Below w.heap.size w (grow (w.drewN k) os) :=
  ⟨rfl, rfl, rfl, by simp [grow], fun j hj => by simp [grow]; rw [Array.getElem?_append_left hj]⟩

set_option maxRecDepth 100000 in
theorem iFormatUint_big (u : Nat) (hu0 : 100 ≤ u) (hu64 : u < 18446744073709551616) (w : World) (htab : Lib.TabIs Tryd.prog w "internal/strconv.uint64pow10" .u64 Lib.pow10Tab) :
    Calls Tryd.prog 32 #[.int .u64 u, .int .i64 10] w fun e w' => e = .returned (.string ⟨(Lib.decDigits u).toArray⟩) ∧ Below w.heap.size w w' := by
  have hu1 : 1 ≤ u := by omega
  have hnd20 : Lib.nDigits u ≤ 20 := by have := Lib.numDigits_eq u hu1 hu64; split at this <;> omega
  have hal : Tryd.prog.arrayLen 64 = 24 := by kernel_rfl
  have hsl1 : ∀ W, (Instr.sliceAt 64 (.pointer (some ⟨w.heap.size, 0, none⟩)) none (some (.int .i64 (Lib.nDigits u : Int))) none).run Tryd.prog W = .ok (.slice (some ⟨w.heap.size, 0, none⟩) (Lib.nDigits u) 24) W := fun W => by
    rw [run_sliceAt_array_h W 64 ⟨w.heap.size, 0, none⟩ (by kernel_rfl) .i64 (Lib.nDigits u : Int) (by omega) (by rw [hal]; omega)]
    go_simp
  have hH0 := holds_zero0 w 64 (Lib.nDigits u) (by omega)
  have hfmt := Tryd.internal_strconv_formatBase10 w.heap.size 0 24 u (Array.replicate (Lib.nDigits u) 0) (w.alloc (.cells Lib.zeros24 64)) hH0 (by rw [Array.size_replicate]; exact Lib.lt_pow_nDigits u) hu64 (by rw [Array.size_replicate]; omega)
  rw [Array.size_replicate] at hfmt
  have HH0 := Lib.hid hH0
  clear hH0 hal
  have hbig : ¬ (u : Int) < 100 := by omega
  go_enter Tryd.func32, Tryd.ntmps32
  go_wp2_with (go_at_call 40; refine (Tryd.internal_strconv_numDigits u hu1 hu64 _ (Lib.tabIs_alloc htab _)).mono ?_; rintro e w' ⟨rfl, rfl⟩)
  go_at_call 41
  refine hfmt.mono ?_
  rintro e w' ⟨rfl, k, v', dk, rfl, hF⟩
  have hcv : (convert 66 9 (.slice (some ⟨w.heap.size, 0, none⟩) (Lib.nDigits u) 24)).run Tryd.prog ((putRow (fun (b : UInt8) => Value.int .u8 (b.toNat : Int)) (w.alloc (.cells Lib.zeros24 64)) w.heap.size 0 dk).drewN k) = .ok (.string ⟨(Lib.decDigits u).toArray⟩) ((putRow (fun (b : UInt8) => Value.int .u8 (b.toNat : Int)) (w.alloc (.cells Lib.zeros24 64)) w.heap.size 0 dk).drewN k) := by
    have h := run_convert_bytes_back (P := Tryd.prog) ((putRow (fun (b : UInt8) => Value.int .u8 (b.toNat : Int)) (w.alloc (.cells Lib.zeros24 64)) w.heap.size 0 dk).drewN k) 66 9 5 ⟨w.heap.size, 0, none⟩ 24 (Lib.decDigits u) Tryd.underlying66 Tryd.underlying5 Tryd.underlying9 (fun j hj => by
      rw [Lib.row_is_numeral hF j hj, Lib.add_plain, World.cell?_drewN]
      exact cell?_putRow (fun (b : UInt8) => Value.int .u8 (b.toNat : Int)) _ w.heap.size 0 _ dk HH0.out (by rw [hF.size, Array.size_replicate]) j (by rw [hF.size]; rw [Lib.decDigits_length] at hj; exact hj))
    rw [Lib.decDigits_length] at h
    exact h
  go_wp2
  go_ret
  obtain ⟨os, eo⟩ := fin_at0 w (.cells Lib.zeros24 64) dk k
  exact ⟨rfl, by rw [eo]; exact below_grow _ _ _⟩

theorem decDigits_small_eq (i : Nat) : True := trivial
theorem FormatUint_c (u : Nat) (hu64 : u < 18446744073709551616) (w : World) (htab : Lib.TabIs Tryd.prog w "internal/strconv.uint64pow10" .u64 Lib.pow10Tab) :
    Calls Tryd.prog 22 #[.int .u64 u, .int .i64 10] w fun e w' => e = .returned (.string ⟨(Lib.decDigits u).toArray⟩) ∧ Below w.heap.size w w' := by
  by_cases h : u < 100
  · have h' : (u : Int) < 100 := by omega
    go_enter Tryd.func22, Tryd.ntmps22
    go_wp2_with (first | (go_at_call 32; go_in) | (go_at_call 39; refine (Tryd.internal_strconv_small u h _).mono ?_; rintro e w' ⟨rfl, rfl⟩))
    all_goals go_ret
    all_goals exact ⟨rfl, Below.refl _ _⟩
  · go_enter Tryd.func22, Tryd.ntmps22
    go_wp2_with (go_at_call 32; refine (iFormatUint_big u (by omega) hu64 _ htab).mono ?_; rintro e w' ⟨rfl, hb⟩)
    go_ret
    exact ⟨rfl, hb⟩

/-- What stands in the worlds of texts. -/
def TabS (w : World) : Prop := Tabs w ∧ Lib.TabIs Tryd.prog w "internal/strconv.uint64pow10" .u64 Lib.pow10Tab ∧ 2 < w.heap.size
theorem gPow : Tryd.prog.globalNamed "internal/strconv.uint64pow10" = some 2 := by kernel_rfl
theorem tabIs_below {B : Nat} {w w' : World} {zs : List Int} (hb : Below B w w') (hB : 2 < B) (h : Lib.TabIs Tryd.prog w "internal/strconv.uint64pow10" .u64 zs) : Lib.TabIs Tryd.prog w' "internal/strconv.uint64pow10" .u64 zs :=
  var?_below hb gPow hB h
theorem TabS.below {w w' : World} (h : TabS w) (hb : Below w.heap.size w w') : TabS w' :=
  ⟨h.1.below hb, tabIs_below hb h.2.2 h.2.1, Nat.lt_of_lt_of_le h.2.2 hb.size⟩

/-- The text of a float. -/
@[irreducible] def textF (x : Nat) : List UInt8 :=
  if isn x then [110, 97, 110] else (if sgn x then [45] else []) ++
    (if finB x = false then [105, 110, 102] else if rung x = 0 then [48] else Lib.decDigits (partM x) ++ [112] ++ Lib.itoa (partE x))
theorem text_nan {x : Nat} (h : isn x) : textF x = [110, 97, 110] := by unfold textF; rw [if_pos h]
theorem text_inf {x : Nat} (h : ¬ isn x) (hf : finB x = false) : textF x = (if sgn x then [45] else []) ++ [105, 110, 102] := by unfold textF; rw [if_neg h, if_pos hf]
theorem text_zero {x : Nat} (h : ¬ isn x) (hf : finB x = true) (h0 : rung x = 0) : textF x = (if sgn x then [45] else []) ++ [48] := by unfold textF; simp [h, hf, h0]
theorem text_num {x : Nat} (h : ¬ isn x) (hf : finB x = true) (h0 : rung x ≠ 0) : textF x = (if sgn x then [45] else []) ++ (Lib.decDigits (partM x) ++ [112] ++ Lib.itoa (partE x)) := by unfold textF; simp [h, hf, h0]

theorem flt_zero {x : Nat} (h : ¬ isn x) (h0 : rung x ≠ 0) : fltB x 0 = sgn x := by
  unfold fltB; rw [Bool.eq_iff_iff, decide_eq_true_iff, srung_zero]
  unfold srung
  cases s : sgn x
  · simp
  · constructor
    · intro _; rfl
    · intro _; exact ⟨h, isn_zero, by rw [if_pos rfl]; omega⟩
theorem flt_zero0 {x : Nat} (h0 : rung x = 0) : fltB x 0 = false := by
  unfold fltB; rw [decide_eq_false_iff_not, srung_zero]; intro c
  have := (srung_eq_zero x).2 h0; omega
theorem ret_str {a b : List UInt8} (h : a = b) : Ending.returned (.string ⟨a.toArray⟩) = .returned (.string ⟨b.toArray⟩) := by rw [h]

theorem Text_nan (x : Nat) (hx : x < 18446744073709551616) (hi : isn x) (w : World) (ht : TabS w) :
    Calls Tryd.prog 11 #[.float .f64 x] w fun e w' => e = .returned (.string ⟨(textF x).toArray⟩) ∧ Below w.heap.size w w' := by
  have hf : finB x = false := by rw [finB_false]; unfold isn at hi; omega
  have hn := feq_nn hi
  have H := Lib.hid (text_nan hi)
  have hl : fltB x 0 = false := by unfold fltB; rw [decide_eq_false_iff_not]; intro c; exact c.1 hi
  go_enter Tryd.func11, Tryd.ntmps11
  go_wp2_with (go_at_call 8; refine (Parts_no x hx hf _).mono ?_; rintro e w' ⟨rfl, rfl⟩)
  go_ret
  exact ⟨ret_str (a := [110, 97, 110]) H.out.symm, Below.refl _ _⟩
theorem Text_inf (x : Nat) (hx : x < 18446744073709551616) (hi : ¬ isn x) (hf : finB x = false) (w : World) (ht : TabS w) :
    Calls Tryd.prog 11 #[.float .f64 x] w fun e w' => e = .returned (.string ⟨(textF x).toArray⟩) ∧ Below w.heap.size w w' := by
  have hn := feq_ok hi
  have H := Lib.hid (text_inf hi hf)
  have h0 : rung x ≠ 0 := by have := (finB_false x).1 hf; omega
  have hl := flt_zero hi h0
  cases hs : sgn x
  all_goals
    rw [hs] at H
    go_enter Tryd.func11, Tryd.ntmps11
    go_wp2_with (go_at_call 8; refine (Parts_no x hx hf _).mono ?_; rintro e w' ⟨rfl, rfl⟩)
    go_ret
  · exact ⟨ret_str (a := [105, 110, 102]) (by rw [H.out]; rfl), Below.refl _ _⟩
  · exact ⟨ret_str (a := [45, 105, 110, 102]) (by rw [H.out]; rfl), Below.refl _ _⟩
theorem Text_zero (x : Nat) (hx : x < 18446744073709551616) (hi : ¬ isn x) (hf : finB x = true) (h0 : rung x = 0) (w : World) (ht : TabS w) :
    Calls Tryd.prog 11 #[.float .f64 x] w fun e w' => e = .returned (.string ⟨(textF x).toArray⟩) ∧ Below w.heap.size w w' := by
  have hn := feq_ok hi
  have H := Lib.hid (text_zero hi hf h0)
  have hl := flt_zero0 h0
  have em : partM x = 0 := by unfold partM; rw [if_pos h0]
  cases hs : sgn x
  all_goals
    rw [hs] at H
    go_enter Tryd.func11, Tryd.ntmps11
    go_wp2_with (go_at_call 8; refine (Parts_yes x hx hf _ ht.1).mono ?_; rw [hs]; rintro e w' ⟨rfl, rfl⟩)
    go_ret
  · exact ⟨ret_str (a := [48]) (by rw [H.out]; rfl), Below.refl _ _⟩
  · exact ⟨ret_str (a := [45, 48]) (by rw [H.out]; rfl), Below.refl _ _⟩
theorem dec_len {u : Nat} (hu : u < 18446744073709551616) : (Lib.decDigits u).length ≤ 20 := by
  rw [Lib.decDigits_length]
  by_cases h : 1 ≤ u
  · have := Lib.numDigits_eq u h hu; split at this <;> omega
  · have : u = 0 := by omega
    subst this; rw [Lib.nDigits_small (by decide)]; decide
theorem itoa_len {e : Int} (he : -1000000 ≤ e ∧ e ≤ 1000000) : (Lib.itoa e).length ≤ 21 := by
  unfold Lib.itoa; split
  · have := dec_len (u := e.natAbs) (by omega); simp only [List.length_cons]; omega
  · have := dec_len (u := e.toNat) (by omega); omega
theorem ba_app (a b : List UInt8) : (⟨a.toArray⟩ ++ ⟨b.toArray⟩ : ByteArray) = ⟨(a ++ b).toArray⟩ := by
  apply ByteArray.ext; simp [ByteArray.data_append]
theorem ret_ba {a : ByteArray} {b : List UInt8} (h : a = ⟨b.toArray⟩) : Ending.returned (.string a) = .returned (.string ⟨b.toArray⟩) := by rw [h]
theorem below_step {w w1 : World} (h : Below w.heap.size w w1) (k : Nat) (os : Array Obj) : Below w.heap.size w (grow (w1.drewN k) os) :=
  h.trans ((below_grow w1 k os).mono h.size)
theorem Text_num (x : Nat) (hx : x < 18446744073709551616) (hi : ¬ isn x) (hf : finB x = true) (h0 : rung x ≠ 0) (w : World) (ht : TabS w) :
    Calls Tryd.prog 11 #[.float .f64 x] w fun e w' => e = .returned (.string ⟨(textF x).toArray⟩) ∧ Below w.heap.size w w' := by
  have hn := feq_ok hi
  have H := Lib.hid (text_num hi hf h0)
  have hl := flt_zero hi h0
  have hm := partM_lt x
  have he := partE_bd x hf
  have em : ((partM x : Int) == 0) = false := by have := partM_odd h0; rw [beq_eq_false_iff_ne]; omega
  have hd1 := dec_len (u := partM x) (by omega)
  have hd2 := itoa_len (e := partE x) (by omega)
  cases hs : sgn x
  all_goals
    rw [hs] at H
    go_enter Tryd.func11, Tryd.ntmps11
    go_wp2_with (go_at_call 8; refine (Parts_yes x hx hf _ ht.1).mono ?_; rw [hs]; rintro e w' ⟨rfl, rfl⟩)
    go_at_call 22
    refine (FormatUint_c _ (by omega) _ ht.2.1).mono ?_
    rintro e w1 ⟨rfl, hb1⟩
    go_wp2_with fail
    go_at_call 23
    refine (Tryd.strconv_Itoa _ (by omega) (by omega) _ (ht.below hb1).2.1).mono ?_
    rintro e w2 ⟨rfl, k, os, rfl⟩
    go_wp2
    go_ret
  · refine ⟨?_, below_step hb1 _ _⟩
    refine ret_ba (a := (⟨([] : List UInt8).toArray⟩ ++ ⟨(Lib.decDigits (partM x)).toArray⟩ ++ ⟨([112] : List UInt8).toArray⟩ ++ ⟨(Lib.itoa (partE x)).toArray⟩ : ByteArray)) (b := textF x) ?_
    apply ByteArray.ext; rw [H.out]; simp [ByteArray.data_append]
  · refine ⟨?_, below_step hb1 _ _⟩
    refine ret_ba (a := (⟨([45] : List UInt8).toArray⟩ ++ ⟨(Lib.decDigits (partM x)).toArray⟩ ++ ⟨([112] : List UInt8).toArray⟩ ++ ⟨(Lib.itoa (partE x)).toArray⟩ : ByteArray)) (b := textF x) ?_
    apply ByteArray.ext; rw [H.out]; simp [ByteArray.data_append]
theorem Text_c (x : Nat) (hx : x < 18446744073709551616) (w : World) (ht : TabS w) :
    Calls Tryd.prog 11 #[.float .f64 x] w fun e w' => e = .returned (.string ⟨(textF x).toArray⟩) ∧ Below w.heap.size w w' := by
  by_cases hi : isn x
  · exact Text_nan x hx hi w ht
  · cases hf : finB x
    · exact Text_inf x hx hi hf w ht
    · by_cases h0 : rung x = 0
      · exact Text_zero x hx hi hf h0 w ht
      · exact Text_num x hx hi hf h0 w ht
end Go.Proofs.YteifbkajpigdpaaDoor
set_option linter.unusedSimpArgs false
set_option linter.unusedVariables false
namespace Go.Proofs.YteifbkajpigdpaaDoor
open Go Go.RowKit Go.Sort Ff
attribute [local go_sem] f_lt f_gt f_eq f_ne

theorem six_fin : finB 4618441417868443648 = true := by unfold finB; decide +kernel
theorem six_m : partM 4618441417868443648 = 3 := by unfold partM od pm tz; decide +kernel
theorem six_e : partE 4618441417868443648 = 1 := by unfold partE pex pm tz; decide +kernel
theorem six_mk : mkF false 12 (-1) = 4618441417868443648 ∧ mkB 12 (-1) = true := by unfold mkF mkB mkOk mkR wf od tz; decide +kernel
theorem q_mk : mkF false 3 (-2) = 4604930618986332160 ∧ mkB 3 (-2) = true := by unfold mkF mkB mkOk mkR wf od tz; decide +kernel
theorem d3 : Lib.decDigits 3 = [51] := by rw [Lib.decDigits]; rfl
theorem i1 : Lib.itoa 1 = [49] := by unfold Lib.itoa; rw [if_neg (by decide)]; rw [Lib.decDigits]; rfl
theorem im2 : Lib.itoa (-2) = [45, 50] := by unfold Lib.itoa; rw [if_pos (by decide)]; rw [Lib.decDigits]; rfl
theorem msix_text : textF 13841813454723219456 = [45, 51, 112, 49] := by
  have hi : ¬ isn 13841813454723219456 := by decide
  have hf : finB 13841813454723219456 = true := by unfold finB; decide +kernel
  have hm : partM 13841813454723219456 = 3 := by unfold partM od pm tz; decide +kernel
  have he : partE 13841813454723219456 = 1 := by unfold partE pex pm tz; decide +kernel
  rw [text_num hi hf (by decide), hm, he, d3, i1]; rfl
theorem q_text : textF 4604930618986332160 = [51, 112, 45, 50] := by
  have hi : ¬ isn 4604930618986332160 := by decide
  have hf : finB 4604930618986332160 = true := by unfold finB; decide +kernel
  have hm : partM 4604930618986332160 = 3 := by unfold partM od pm tz; decide +kernel
  have he : partE 4604930618986332160 = -2 := by unfold partE pex pm tz; decide +kernel
  rw [text_num hi hf (by decide), hm, he, d3, im2]; rfl
theorem one_up : upF 4607182418800017408 = 4607182418800017409 := by unfold upF; decide +kernel
theorem one_down : downF 4607182418800017408 = 4607182418800017407 := by unfold downF upF negW; decide +kernel
theorem one_kind : kind 4607182418800017408 = 3 := by unfold kind; decide +kernel
theorem one_two : ordN (place 4607182418800017408) (place 4611686018427387904) = -1 := by unfold place ordN; decide +kernel

/-- What stands in the worlds of readings. -/
def TabR (w : World) : Prop := TabS w ∧ (∃ m : Int, w.cell? ⟨3, 0, none⟩ = some (.int .i64 m)) ∧ 3 < w.heap.size
theorem TabR.below {w w' : World} (h : TabR w) (hb : Below w.heap.size w w') : TabR w' :=
  ⟨h.1.below hb, by obtain ⟨m, hm⟩ := h.2.1; exact ⟨m, by rw [hb.cell (p := ⟨3, 0, none⟩) h.2.2]; exact hm⟩, Nat.lt_of_lt_of_le h.2.2 hb.size⟩
theorem below_bytes {w w' : World} {s : ByteArray} (h : w' = w ∨ w' = Lib.bytesWorld w 5 s) : Below w.heap.size w w' := by
  rcases h with rfl | rfl
  · exact Below.refl _ _
  · exact Lib.bytesWorld_below _ _ _
theorem guess_q (w : World) (ht : TabR w) :
    Calls Tryd.prog 21 #[.string ⟨[51, 112, 45, 50].toArray⟩] w fun e w' => e = .returned (.tuple #[.float .f64 4604930618986332160, .bool true]) ∧ Below w.heap.size w w' := by
  have hk := q_mk
  obtain ⟨m, hm⟩ := ht.2.1
  have t1 : Lib.trimPrefix [51, 112, 45, 50] [45] = [51, 112, 45, 50] := by decide +kernel
  have t2 : Lib.hasPrefix [51, 112, 45, 50] [45] = false := by decide +kernel
  have t3 : Lib.cut [51, 112, 45, 50] [112] = ([51], [45, 50], true) := by decide +kernel
  have t4 : Lib.parseUintB 64 [51] = .ok 3 := by decide +kernel
  have t5 : Lib.atoiAll [45, 50] = .ok (-2) := by decide +kernel
  go_enter Tryd.func21, Tryd.ntmps21
  go_wp2_with fail
  go_at_call 25
  refine (Tryd.strings_CutPrefix _ _ _).mono ?_
  rintro e w1 ⟨rfl, rfl⟩
  go_wp2_with fail
  go_at_call 29
  refine (Tryd.strings_Cut _ _ m _ (by decide) hm).mono ?_
  rintro e w1 ⟨rfl, n, rfl⟩
  go_wp2_with fail
  go_at_call 30
  refine (Tryd.strconv_ParseUint_10_at64_ok _ (by decide) 3 t4 _).mono ?_
  rintro e w2 ⟨rfl, hw2⟩
  have hb2 := below_bytes hw2
  clear hw2
  go_wp2_with fail
  go_at_call 31
  refine (Tryd.strconv_Atoi_ok _ (by decide) (-2) t5 _).mono ?_
  rintro e w3 ⟨rfl, hw3⟩
  have hb3 : Below w2.heap.size w2 w3 := by
    rcases hw3 with h | ⟨t, h⟩
    · exact below_bytes (s := ⟨#[]⟩) (Or.inl h)
    · exact below_bytes (Or.inr h)
  clear hw3
  have hb2' : Below w1.heap.size w1 w2 := below_drewN (Below.refl _ _) n |>.trans hb2
  have hb : Below w1.heap.size w1 w3 := hb2'.trans (hb3.mono hb2'.size)
  have htt : Tabs w3 := ((ht.below hb).1).1
  have hmk : Calls Tryd.prog 9 #[.bool false, .int .u64 3, .int .i64 (-2)] w3 fun r w' => r = .returned (.tuple #[.float .f64 4604930618986332160, .bool true]) ∧ w3 = w' := by
    have := Make_c false 3 (by decide) (-2) w3 htt
    rw [hk.1, hk.2] at this; exact this
  go_wp2_with fail
  refine hmk.mono ?_
  rintro e w4 ⟨rfl, rfl⟩
  go_wp2
  go_ret2
  exact ⟨rfl, hb⟩
theorem Read_q (w : World) (ht : TabR w) :
    Calls Tryd.prog 10 #[.string ⟨[51, 112, 45, 50].toArray⟩] w fun e w' => e = .returned (.tuple #[.float .f64 4604930618986332160, .int .i64 0]) ∧ Below w.heap.size w w' := by
  have hq := q_text
  go_enter Tryd.func10, Tryd.ntmps10
  go_wp2_with fail
  refine (guess_q _ ht).mono ?_
  rintro e w1 ⟨rfl, hb1⟩
  go_wp2_with fail
  go_at_call 11
  refine (Text_c _ (by decide) _ (ht.below hb1).1).mono ?_
  rintro e w2 ⟨rfl, hb2⟩
  go_wp2
  go_ret2
  exact ⟨rfl, hb1.trans (hb2.mono hb1.size)⟩

theorem l_parts (w : World) (ht : Tabs w) : Calls Tryd.prog 8 #[.float .f64 4618441417868443648] w fun e w' => e = .returned (.tuple #[.bool false, .int .u64 3, .int .i64 1, .bool true]) ∧ w = w' := by
  have := Parts_yes 4618441417868443648 (by decide) six_fin w ht
  rw [six_m, six_e, show sgn 4618441417868443648 = false by decide] at this; exact this
theorem l_make (w : World) (ht : Tabs w) : Calls Tryd.prog 9 #[.bool false, .int .u64 12, .int .i64 (-1)] w fun e w' => e = .returned (.tuple #[.float .f64 4618441417868443648, .bool true]) ∧ w = w' := by
  have := Make_c false 12 (by decide) (-1) w ht
  rw [six_mk.1, six_mk.2] at this; exact this
theorem l_text (w : World) (ht : TabS w) : Calls Tryd.prog 11 #[.float .f64 13841813454723219456] w fun e w' => e = .returned (.string ⟨#[45, 51, 112, 49]⟩) ∧ Below w.heap.size w w' := by
  have := Text_c 13841813454723219456 (by decide) w ht
  rw [msix_text] at this; exact this
theorem l_up (w : World) : Calls Tryd.prog 12 #[.float .f64 4607182418800017408] w fun e w' => e = .returned (.float .f64 4607182418800017409) ∧ w = w' := by
  have := Up_c 4607182418800017408 (by decide) w
  rw [one_up] at this; exact this
theorem l_down (w : World) : Calls Tryd.prog 13 #[.float .f64 4607182418800017408] w fun e w' => e = .returned (.float .f64 4607182418800017407) ∧ w = w' := by
  have := Down_c 4607182418800017408 (by decide) w
  rw [one_down] at this; exact this
theorem l_kind (w : World) : Calls Tryd.prog 14 #[.float .f64 4607182418800017408] w fun e w' => e = .returned (.int .u8 3) ∧ w = w' := by
  have := KindOf_c 4607182418800017408 (by decide) w
  rw [one_kind] at this; exact this
theorem l_order (w : World) : Calls Tryd.prog 15 #[.float .f64 4607182418800017408, .float .f64 4611686018427387904] w fun e w' => e = .returned (.int .i64 (-1)) ∧ w = w' := by
  have := Order_c 4607182418800017408 4611686018427387904 (by decide) (by decide) w
  rw [one_two] at this; exact this
theorem q1 : feqB 4618441417868443648 4618441417868443648 = true := feq_ok (by decide)
theorem q2 : feqB 4604930618986332160 4604930618986332160 = true := feq_ok (by decide)
theorem q3 : fltB 4607182418800017408 4607182418800017409 = true := by unfold fltB; decide +kernel
theorem q4 : fltB 4607182418800017407 4607182418800017408 = true := by unfold fltB; decide +kernel
theorem lives_c (w : World) (ht : TabR w) : Calls Tryd.prog 6 #[] w fun e w' => e = .returned (.bool true) ∧ Below w.heap.size w w' := by
  have h1 := q1
  have h2 := q2
  have h3 := q3
  have h4 := q4
  go_enter Tryd.func6, Tryd.ntmps6
  go_wp2_with fail
  refine (l_parts _ ht.1.1).mono ?_
  rintro e w1 ⟨rfl, rfl⟩
  go_wp2_with fail
  refine (l_make _ ht.1.1).mono ?_
  rintro e w1 ⟨rfl, rfl⟩
  go_wp2_with fail
  refine (Read_q _ ht).mono ?_
  rintro e w2 ⟨rfl, hb2⟩
  go_wp2_with fail
  refine (l_text _ (ht.below hb2).1).mono ?_
  rintro e w3 ⟨rfl, hb3⟩
  go_wp2_with fail
  refine (l_up _).mono ?_
  rintro e w4 ⟨rfl, rfl⟩
  go_wp2_with fail
  refine (l_down _).mono ?_
  rintro e w4 ⟨rfl, rfl⟩
  go_wp2_with fail
  refine (l_kind _).mono ?_
  rintro e w4 ⟨rfl, rfl⟩
  go_wp2_with fail
  refine (l_order _).mono ?_
  rintro e w4 ⟨rfl, rfl⟩
  go_wp2
  go_ret
  exact ⟨rfl, hb2.trans (hb3.mono hb2.size)⟩
end Go.Proofs.YteifbkajpigdpaaDoor
set_option linter.unusedSimpArgs false
set_option linter.unusedVariables false
namespace Go.Proofs.YteifbkajpigdpaaDoor
open Go Go.WideShapes Go.ChangeShapes Go.RowKit Go.Sort Ff
attribute [local go_sem] f_lt f_gt f_eq f_ne

theorem u64_nat {x : Int} (h : (Lit.int .u64 x).wf = true) : ∃ n : Nat, n < 18446744073709551616 ∧ x = n := by
  have h' := (Lit.wf_int_iff .u64 x).1 h
  rw [show IntKind.min .u64 = 0 from rfl, show IntKind.max .u64 = 18446744073709551615 from rfl] at h'
  exact ⟨x.toNat, by omega, by omega⟩
theorem i64_bd {x : Int} (h : (Lit.int .i64 x).wf = true) : -9223372036854775808 ≤ x ∧ x ≤ 9223372036854775807 := by
  have h' := (Lit.wf_int_iff .i64 x).1 h
  rw [show IntKind.min .i64 = -9223372036854775808 from rfl, show IntKind.max .i64 = 9223372036854775807 from rfl] at h'
  omega
theorem kind_le (x : Nat) : kind x ≤ 5 := by unfold kind; (repeat' split) <;> omega

theorem like_refl (x : Nat) : likeB x x = true := by unfold likeB; simp
end Go.Proofs.YteifbkajpigdpaaDoor
set_option linter.unusedSimpArgs false
set_option linter.unusedVariables false
namespace Go.Proofs.YteifbkajpigdpaaDoor
open Go Go.RowKit

theorem size_of_cell {w : World} {b o : Nat} {v : Value} (h : w.cell? ⟨b, o, none⟩ = some v) : b < w.heap.size := by
  unfold World.cell? at h
  cases hb : w.heap[b]? with
  | none => simp [hb] at h
  | some x => exact (Array.getElem?_eq_some_iff.1 hb).1
theorem gDe : Tryd.prog.globalNamed "math/bits.deBruijn64tab" = some 1 := by kernel_rfl
theorem gDeType : (Tryd.prog.globals[1]?).map (·.type) = some 49 := by kernel_rfl
theorem gPowType : (Tryd.prog.globals[2]?).map (·.type) = some 81 := by kernel_rfl
theorem cDe : Tryd.prog.cellsOf 49 = 64 := by kernel_rfl
theorem cU8 : Tryd.prog.cellsOf 5 = 1 := by kernel_rfl
theorem cPow : Tryd.prog.cellsOf 81 = 20 := by kernel_rfl
theorem cU64 : Tryd.prog.cellsOf 22 = 1 := by kernel_rfl
theorem tabDe {W : World} {laid : List (String × DataW Unit)} (hl : laid.filter (fun x => x.1 == "math/bits.deBruijn64tab") = [("math/bits.deBruijn64tab", Rows.laid_math_bits_deBruijn64tab)]) (hL : laidMetH Tryd.prog laid W) : Lib.TabIs Tryd.prog W "math/bits.deBruijn64tab" .u8 (Lib.deBruijn64tab.map Int.ofNat) := by
  have h := hL.filter (fun x => x.1 == "math/bits.deBruijn64tab")
  rw [hl] at h
  exact Lib.tabIs_of_head (rest := []) gDe gDeType Tryd.underlying49 Tryd.underlying5 cU8 cDe h
theorem tabPow {W : World} {laid : List (String × DataW Unit)} (hl : laid.filter (fun x => x.1 == "internal/strconv.uint64pow10") = [("internal/strconv.uint64pow10", Rows.laid_internal_strconv_uint64pow10)]) (hL : laidMetH Tryd.prog laid W) : Lib.TabIs Tryd.prog W "internal/strconv.uint64pow10" .u64 Lib.pow10Tab := by
  have h := hL.filter (fun x => x.1 == "internal/strconv.uint64pow10")
  rw [hl] at h
  exact Lib.tabIs_of_head (rest := []) gPow gPowType Tryd.underlying81 Tryd.underlying22 cU64 cPow h
theorem tabR_of {W : World} {laid : List (String × DataW Unit)} (hl : laid = Rows.bitsScaledRow.laid) (hL : laidMetH Tryd.prog laid W) (hS : W.ShapedOpen Tryd.prog) : TabR W := by
  subst hl
  have h1 := tabDe (by kernel_rfl) hL
  have h2 := tabPow (by kernel_rfl) hL
  obtain ⟨m, hm⟩ := Tryd.laysM145.s1_3 W hS
  have c1 : TabAt 1 Lib.deBruijn64tab W := fun j hj => by
    have := h1.cell gDe j (by simpa using hj)
    rw [this]; simp [List.getD]
    cases Lib.deBruijn64tab[j]? <;> rfl
  have c2 := h2.cell gPow 0 (by decide)
  exact ⟨⟨⟨c1, size_of_cell (c1 0 (by decide))⟩, h2, size_of_cell c2⟩, ⟨m, hm⟩, size_of_cell hm⟩
end Go.Proofs.YteifbkajpigdpaaDoor
set_option linter.unusedSimpArgs false
set_option linter.unusedVariables false
namespace Go.Proofs.YteifbkajpigdpaaDoor
open Go Ff

theorem dec_step {u : Nat} (h : ¬ u < 10) : Lib.decDigits u = Lib.decDigits (u / 10) ++ [UInt8.ofNat (48 + u % 10)] := by rw [Lib.decDigits, dif_neg h]
theorem dec_one {u : Nat} (h : u < 10) : Lib.decDigits u = [UInt8.ofNat (48 + u)] := by rw [Lib.decDigits, dif_pos h]
theorem dig_nat {d : Nat} (h : d < 10) : (UInt8.ofNat (48 + d)).toNat = 48 + d := by rw [UInt8.toNat_ofNat']; omega
theorem parse_app : ∀ (a b : List UInt8) (acc : Nat), Lib.parseUint10 acc (a ++ b) = match Lib.parseUint10 acc a with | .ok v => Lib.parseUint10 v b | .syntax => .syntax | .range => .range
  | [], b, acc => rfl
  | c :: r, b, acc => by
    rw [List.cons_append, Lib.parseUint10, Lib.parseUint10]
    by_cases h1 : 48 ≤ c.toNat ∧ c.toNat ≤ 57
    · rw [if_pos h1, if_pos h1]
      by_cases h2 : 1844674407370955162 ≤ acc
      · rw [if_pos h2, if_pos h2]
      · rw [if_neg h2, if_neg h2]
        by_cases h3 : 18446744073709551616 ≤ acc * 10 + (c.toNat - 48)
        · rw [if_pos h3, if_pos h3]
        · rw [if_neg h3, if_neg h3]; exact parse_app r b _
    · rw [if_neg h1, if_neg h1]
theorem parse_digit {acc d : Nat} (hd : d < 10) (h : acc * 10 + d < 18446744073709551616) : Lib.parseUint10 acc [UInt8.ofNat (48 + d)] = .ok (acc * 10 + d) := by
  rw [Lib.parseUint10, dig_nat hd, if_pos (by omega), if_neg (by omega), if_neg (by omega), Lib.parseUint10]
  congr 1; omega
theorem parse_dec (u : Nat) (hu : u < 18446744073709551616) : Lib.parseUint10 0 (Lib.decDigits u) = .ok u := by
  induction u using Nat.strongRecOn with
  | _ u ih =>
    by_cases h : u < 10
    · rw [dec_one h, parse_digit h (by omega)]; congr 1; omega
    · rw [dec_step h, parse_app, ih (u / 10) (by omega) (by omega)]
      simp only
      rw [parse_digit (by omega) (by omega)]; congr 1; omega
theorem dec_ne (u : Nat) : Lib.decDigits u ≠ [] := by
  intro h
  have := Lib.decDigits_length u
  rw [h] at this
  have := Lib.nDigits_pos u
  simp at *; omega
theorem parseMag_dec (u : Nat) (hu : u < 18446744073709551616) : Lib.parseMag (Lib.decDigits u) = .ok u := by
  unfold Lib.parseMag; rw [if_neg (dec_ne u), parse_dec u hu]
theorem parseB_dec (u : Nat) (hu : u < 18446744073709551616) : Lib.parseUintB 64 (Lib.decDigits u) = .ok u := by
  rw [Lib.parseUintB_64, parseMag_dec u hu]
theorem dec_mem (u : Nat) : ∀ c ∈ Lib.decDigits u, 48 ≤ c.toNat ∧ c.toNat ≤ 57 := by
  induction u using Nat.strongRecOn with
  | _ u ih =>
    by_cases h : u < 10
    · rw [dec_one h]; intro c hc; rw [List.mem_singleton] at hc; subst hc; rw [dig_nat h]; omega
    · rw [dec_step h]; intro c hc
      rcases List.mem_append.1 hc with hc | hc
      · exact ih (u / 10) (by omega) c hc
      · rw [List.mem_singleton] at hc; subst hc; rw [dig_nat (by omega)]; omega
theorem atoi_itoa (e : Int) (h : -1000000 ≤ e ∧ e ≤ 1000000) : Lib.atoiAll (Lib.itoa e) = .ok e := by
  unfold Lib.itoa
  by_cases hn : e < 0
  · rw [if_pos hn]
    unfold Lib.atoiAll
    simp only [show (45 : UInt8).toNat = 45 from rfl, or_true, if_true, parseMag_dec e.natAbs (by omega), not_true, false_and, if_false, true_and]
    rw [if_neg (by omega)]
    congr 1; omega
  · rw [if_neg hn]
    cases hd : Lib.decDigits e.toNat with
    | nil => exact absurd hd (dec_ne _)
    | cons c r =>
      have hc := dec_mem e.toNat c (by rw [hd]; exact List.mem_cons_self)
      unfold Lib.atoiAll
      simp only
      rw [if_neg (by omega), ← hd, parseMag_dec e.toNat (by omega)]
      simp only
      rw [if_neg (by omega), if_neg (by omega), if_neg (by omega)]
      congr 1; omega
theorem index_p : ∀ (a b : List UInt8), (∀ c ∈ a, c ≠ 112) → Lib.index (a ++ 112 :: b) [112] = a.length
  | [], b, _ => by rw [List.nil_append, Lib.index]; simp [List.isPrefixOf]
  | c :: a, b, h => by
    have h1 : c ≠ 112 := h c List.mem_cons_self
    have ih := index_p a b (fun x hx => h x (List.mem_cons_of_mem _ hx))
    rw [List.cons_append, Lib.index, ih]
    have e : List.isPrefixOf [112] (c :: (a ++ 112 :: b)) = false := by simp [List.isPrefixOf]; intro x; exact h1 x.symm
    rw [e]
    have e2 : ((a.length : Int) == -1) = false := by rw [beq_eq_false_iff_ne]; omega
    rw [e2]
    simp
theorem cut_p (a b : List UInt8) (h : ∀ c ∈ a, c ≠ 112) : Lib.cut (a ++ 112 :: b) [112] = (a, b, true) := by
  unfold Lib.cut
  rw [index_p a b h, if_pos (by omega)]
  simp
end Go.Proofs.YteifbkajpigdpaaDoor
set_option linter.unusedSimpArgs false
set_option linter.unusedVariables false
namespace Go.Proofs.YteifbkajpigdpaaDoor
open Go Ff

theorem od_tz_mul {q : Nat} (hq : q % 2 = 1) : ∀ k : Nat, q * 2 ^ k < 18446744073709551616 → od (q * 2 ^ k) = q ∧ tz (q * 2 ^ k) = k
  | 0, h => by rw [Nat.pow_zero, Nat.mul_one]; exact ⟨od_odd hq, tz_odd hq⟩
  | k + 1, h => by
    have e : q * 2 ^ (k + 1) = 2 * (q * 2 ^ k) := by rw [Nat.pow_succ, ← Nat.mul_assoc, Nat.mul_comm]
    rw [e] at h ⊢
    have hp : 0 < q * 2 ^ k := Nat.mul_pos (by omega) (Nat.two_pow_pos k)
    have ih := od_tz_mul hq k (by omega)
    rw [od_even (by omega) h (by omega), tz_even (by omega) h (by omega), show 2 * (q * 2 ^ k) / 2 = q * 2 ^ k by omega]
    exact ⟨ih.1, by rw [ih.2]⟩
theorem bl_mul {q : Nat} (hq : 0 < q) : ∀ k : Nat, q * 2 ^ k < 18446744073709551616 → Lib.bitLen (q * 2 ^ k) = Lib.bitLen q + k
  | 0, h => by rw [Nat.pow_zero, Nat.mul_one]; rfl
  | k + 1, h => by
    have e : q * 2 ^ (k + 1) = 2 * (q * 2 ^ k) := by rw [Nat.pow_succ, ← Nat.mul_assoc, Nat.mul_comm]
    rw [e] at h ⊢
    have hp : 0 < q * 2 ^ k := Nat.mul_pos (by omega) (Nat.two_pow_pos k)
    rw [Lib.bitLen_half _ (by omega) (by omega), show 2 * (q * 2 ^ k) / 2 = q * 2 ^ k by omega, bl_mul hq k (by omega)]; omega
theorem bl_eq {m k : Nat} (h : m < 18446744073709551616) (h1 : m < 2 ^ k) (h2 : 2 ^ k ≤ 2 * m) : Lib.bitLen m = k := by
  have a := (bl_le_iff (k := k) h).2 h1
  apply Nat.le_antisymm a
  apply Nat.le_of_not_lt
  intro c
  obtain ⟨j, rfl⟩ : ∃ j, k = j + 1 := ⟨k - 1, by omega⟩
  have := (bl_le_iff (k := j) h).1 (by omega)
  rw [Nat.pow_succ] at h2; omega

theorem zero_word {x : Nat} (hx : x < 18446744073709551616) (h0 : rung x = 0) : wf (sgn x) 0 = x := by
  cases s : sgn x
  · rw [wf_eq]; have := sgn_rung hx s; simp only [Bool.false_eq_true, if_false]; omega
  · rw [wf_eq, if_pos rfl]; have := sgn_rung' hx s; rw [this, h0]
theorem word_rung {x : Nat} (hx : x < 18446744073709551616) : wf (sgn x) (rung x) = x := by
  cases s : sgn x
  · rw [wf_eq]; have := sgn_rung hx s; simp only [Bool.false_eq_true, if_false]; omega
  · rw [wf_eq, if_pos rfl]; exact (sgn_rung' hx s).symm

/-- What is made of a finite float's parts is the float. -/
theorem mk_parts {x : Nat} (hx : x < 18446744073709551616) (hf : finB x = true) : mkB (partM x) (partE x) = true ∧ mkF (sgn x) (partM x) (partE x) = x := by
  by_cases h0 : rung x = 0
  · have em : partM x = 0 := by unfold partM; rw [if_pos h0]
    rw [em, mkB_zero, mkF_zero]; exact ⟨rfl, zero_word hx h0⟩
  · have hr := (finB_true x).1 hf
    have hp := pm_pos h0
    have hl := pm_lt x
    obtain ⟨t1, t2, t3⟩ := tz_spec hp (by omega)
    have eM := partM_od h0
    have eE := partE_eq h0
    have hq0 : 0 < od (pm x) := by omega
    have e2 : od (partM x) = od (pm x) := by rw [eM, od_odd t2]
    have e3 : tz (partM x) = 0 := by rw [eM, tz_odd t2]
    have hbl : Lib.bitLen (pm x) = Lib.bitLen (od (pm x)) + tz (pm x) := by
      have := bl_mul hq0 (tz (pm x)) (by rw [t1]; omega)
      rw [t1] at this; exact this
    have hct : (Lib.ctz 64 (pm x) : Int) = tz (pm x) := rfl
    have hb := (bl_le_iff (m := pm x) (k := 53) (by omega)).2 hl
    by_cases hn : rung x < 4503599627370496
    · have hb2 := (bl_le_iff (m := pm x) (k := 52) (by omega)).2 (by rw [pm_sub hn]; exact hn)
      have ok : mkOk (od (partM x)) (partE x + tz (partM x)) := by
        rw [e2, e3, eE, hct, pex_sub hn]; unfold mkOk; omega
      rw [mkB_ok ok, mkF_ok (by omega) ok, e2, e3, eE, hct, pex_sub hn, mkR_sub (by omega)]
      have e4 : ((-1074 : Int) + (tz (pm x) : Int) + ((0 : Nat) : Int) + 1074).toNat = tz (pm x) := by omega
      rw [e4, t1, pm_sub hn]
      exact ⟨rfl, word_rung hx⟩
    · have hg : Lib.bitLen (pm x) = 53 := bl_eq (by omega) hl (by rw [pm_nor hn]; omega)
      have ok : mkOk (od (partM x)) (partE x + tz (partM x)) := by
        rw [e2, e3, eE, hct, pex_nor hn]; unfold mkOk; omega
      rw [mkB_ok ok, mkF_ok (by omega) ok, e2, e3, eE, hct, pex_nor hn, mkR_nor (by omega)]
      have e4 : 53 - Lib.bitLen (od (pm x)) = tz (pm x) := by omega
      rw [e4, t1]
      refine ⟨rfl, ?_⟩
      have e6 : pm x = 4503599627370496 + rung x % 4503599627370496 := by rw [pm_nor hn, frac_eq]
      have e5 : pm x - 4503599627370496 + ((-1074 : Int) + ((rung x / 4503599627370496 - 1 : Nat) : Int) + (tz (pm x) : Int) + ((0 : Nat) : Int) + (Lib.bitLen (od (pm x)) : Int) + 1022).toNat * 4503599627370496 = rung x := by
        have : ((-1074 : Int) + ((rung x / 4503599627370496 - 1 : Nat) : Int) + (tz (pm x) : Int) + ((0 : Nat) : Int) + (Lib.bitLen (od (pm x)) : Int) + 1022).toNat = rung x / 4503599627370496 := by omega
        rw [this]; omega
      rw [e5]; exact word_rung hx

theorem wf_rung {neg : Bool} {r : Nat} (h : r < 9223372036854775808) : rung (wf neg r) = r ∧ sgn (wf neg r) = neg := by
  rw [wf_eq]; cases neg
  · simp only [Bool.false_eq_true, if_false]; exact rung_low h
  · rw [if_pos rfl]; exact rung_top h
theorem wf_lt {neg : Bool} {r : Nat} (h : r < 9223372036854775808) : wf neg r < 18446744073709551616 := by
  rw [wf_eq]; cases neg
  · simp only [Bool.false_eq_true, if_false]; omega
  · rw [if_pos rfl, topped_eq]; omega
theorem mkF_lt (neg : Bool) (m : Nat) (hm : m < 18446744073709551616) (e : Int) : mkF neg m e < 18446744073709551616 := by
  by_cases h0 : m = 0
  · subst h0; rw [mkF_zero]; exact wf_lt (by omega)
  · by_cases ok : mkOk (od m) (e + tz m)
    · rw [mkF_ok (by omega) ok]
      have := mkR_lt (od_pos (by omega) hm) (Nat.lt_of_le_of_lt od_le hm) ok
      exact wf_lt (by omega)
    · rw [mkF_no (by omega) ok]; omega

/-- What is made has the parts that it was made of. -/
theorem parts_mk {neg : Bool} {m : Nat} {e : Int} (h0 : 0 < m) (hm : m < 18446744073709551616) (ok : mkOk (od m) (e + tz m)) :
    finB (mkF neg m e) = true ∧ sgn (mkF neg m e) = neg ∧ rung (mkF neg m e) ≠ 0 ∧ partM (mkF neg m e) = od m ∧ partE (mkF neg m e) = e + tz m := by
  have hq0 := od_pos h0 hm
  have hq1 : od m < 18446744073709551616 := Nat.lt_of_le_of_lt od_le hm
  have hodd := (tz_spec h0 hm).2.1
  have hlt := mkR_lt hq0 hq1 ok
  obtain ⟨w1, w2⟩ := wf_rung (neg := neg) (r := mkR (od m) (e + tz m)) (by omega)
  rw [mkF_ok h0 ok]
  generalize wf neg (mkR (od m) (e + tz m)) = y at w1 w2
  have hfin : finB y = true := by rw [finB_true, w1]; exact hlt
  obtain ⟨k1, k2, k3⟩ := mkOk_bits ok
  generalize hE : e + (tz m : Int) = E at *
  by_cases c : E + Lib.bitLen (od m) > -1022
  · have n := nor_small hq0 hq1 ok
    rw [mkR_nor c] at w1
    have hz := od_tz_mul hodd (53 - Lib.bitLen (od m)) (by omega)
    generalize od m * 2 ^ (53 - Lib.bitLen (od m)) = z at *
    have hn : ¬ rung y < 4503599627370496 := by rw [w1]; omega
    have hpm : pm y = z := by rw [pm_nor hn, frac_eq, w1]; omega
    have h0' : rung y ≠ 0 := by omega
    refine ⟨hfin, w2, h0', ?_, ?_⟩
    · rw [partM_od h0', hpm, hz.1]
    · rw [partE_eq h0', show (Lib.ctz 64 (pm y) : Int) = tz (pm y) from rfl, hpm, hz.2, pex_nor hn, w1]; omega
  · have n := sub_small hq1 ok c
    rw [mkR_sub c] at w1
    have hz := od_tz_mul hodd (E + 1074).toNat (by omega)
    have hpos : 0 < od m * 2 ^ (E + 1074).toNat := Nat.mul_pos hq0 (Nat.two_pow_pos _)
    generalize od m * 2 ^ (E + 1074).toNat = z at *
    have hn : rung y < 4503599627370496 := by rw [w1]; exact n
    have hpm : pm y = z := by rw [pm_sub hn, w1]
    have h0' : rung y ≠ 0 := by omega
    refine ⟨hfin, w2, h0', ?_, ?_⟩
    · rw [partM_od h0', hpm, hz.1]
    · rw [partE_eq h0', show (Lib.ctz 64 (pm y) : Int) = tz (pm y) from rfl, hpm, hz.2, pex_sub hn]; omega
end Go.Proofs.YteifbkajpigdpaaDoor
namespace Go.Proofs.YteifbkajpigdpaaDoor.Ff
open Ieee

theorem cut_exact (s : Bool) (n : Nat) : Toward.even.cut s n 0 = n := by
  unfold Toward.cut
  simp [Nat.mod_one]
theorem nearest_mid (f : Format) (s : Bool) (m : Nat) (p : Int) (h0 : m ≠ 0) (hl : max (p + m.log2 - f.fractionBits) f.leastPlace = p) :
    f.nearest s m p = f.word s (min ((p - f.leastPlace).toNat * f.binade + m) f.infRung) := by
  unfold Format.nearest
  rw [if_neg h0]
  simp only [hl, Int.sub_self, Int.toNat_zero, Nat.shiftLeft_zero, cut_exact]
/-- A finite word, read and written, is itself. -/
theorem write_read (f : Format) (hf : f.binade = 2 ^ f.fractionBits) (x : Nat) (hx : x / f.signWeight < 2) (hfin : x % f.signWeight < f.infRung) : f.write (f.read x) = x := by
  have hbp : 0 < f.binade := by rw [hf]; exact Nat.two_pow_pos _
  have hw : x = f.word (x / f.signWeight % 2 == 1) (x % f.signWeight) := by
    unfold Format.word
    have hd := Nat.div_add_mod x f.signWeight
    by_cases h : x / f.signWeight = 1
    · rw [h]; simp; rw [h] at hd; omega
    · have h0 : x / f.signWeight = 0 := by
        clear hd; generalize x / f.signWeight = q at hx h; omega
      rw [h0] at hd ⊢; simp; rw [Nat.mul_zero] at hd; omega
  unfold Format.read
  simp only
  by_cases h : x % f.signWeight < f.binade
  · rw [if_pos h]
    show f.nearest _ _ _ = x
    by_cases z : x % f.signWeight = 0
    · unfold Format.nearest; rw [if_pos z]; conv => rhs; rw [hw]
      rw [z]
    · have hl : (x % f.signWeight).log2 < f.fractionBits := (Nat.log2_lt z).2 (by rw [← hf]; exact h)
      rw [nearest_mid f _ _ _ z (by omega)]
      conv => rhs; rw [hw]
      congr 1
      rw [Int.sub_self]; simp; omega
  · rw [if_neg h, if_pos hfin]
    show f.nearest _ _ _ = x
    have hm := Nat.mod_lt (x % f.signWeight) hbp
    have z : f.binade + x % f.signWeight % f.binade ≠ 0 := by omega
    have hl1 : (f.binade + x % f.signWeight % f.binade).log2 = f.fractionBits := by
      rw [Nat.log2_eq_iff z, ← hf]
      refine ⟨by omega, ?_⟩
      rw [Nat.pow_succ, ← hf]; omega
    rw [nearest_mid f _ _ _ z (by rw [hl1]; omega)]
    conv => rhs; rw [hw]
    congr 1
    have hd := Nat.div_add_mod (x % f.signWeight) f.binade
    have hq : 1 ≤ x % f.signWeight / f.binade := (Nat.one_le_div_iff hbp).2 (by omega)
    have e : (f.leastPlace + ((x % f.signWeight / f.binade - 1 : Nat) : Int) - f.leastPlace).toNat = x % f.signWeight / f.binade - 1 := by omega
    rw [e]
    have e2 : (x % f.signWeight / f.binade - 1) * f.binade + (f.binade + x % f.signWeight % f.binade) = x % f.signWeight := by
      have : (x % f.signWeight / f.binade - 1) * f.binade + f.binade = x % f.signWeight / f.binade * f.binade := by
        rw [← Nat.succ_mul]; congr 1; omega
      rw [Nat.mul_comm] at hd
      omega
    rw [e2]; omega
theorem log2_shl {m : Nat} (h : m ≠ 0) (k : Nat) : (m <<< k).log2 = m.log2 + k := by
  have hp := Nat.two_pow_pos k
  rw [Nat.shiftLeft_eq, Nat.log2_eq_iff (by intro c; rcases Nat.mul_eq_zero.1 c with c | c <;> omega)]
  have h1 := (Nat.log2_eq_iff h).1 rfl
  refine ⟨?_, ?_⟩
  · rw [Nat.pow_add]; exact Nat.mul_le_mul_right _ h1.1
  · rw [show m.log2 + k + 1 = m.log2 + 1 + k by omega, Nat.pow_add]; exact Nat.mul_lt_mul_of_pos_right h1.2 hp
theorem cut_scale (s : Bool) {n : Nat} (h : n ≠ 0) (d k : Nat) : Toward.even.cut s (n <<< k) (d + k) = Toward.even.cut s n d := by
  have hp := Nat.two_pow_pos k
  unfold Toward.cut
  simp only [log2_shl h]
  rw [show min (d + k) (n.log2 + k + 2) = min d (n.log2 + 2) + k by omega]
  generalize min d (n.log2 + 2) = g
  simp only [Nat.shiftLeft_eq, Nat.one_mul, Nat.pow_add]
  have hg := Nat.two_pow_pos g
  rw [Nat.mul_div_mul_right _ _ hp, Nat.mul_mod_mul_right]
  have e1 : decide (2 ^ g * 2 ^ k < 2 * (n % 2 ^ g * 2 ^ k)) = decide (2 ^ g < 2 * (n % 2 ^ g)) := by
    rw [← Nat.mul_assoc, decide_eq_decide]; exact Nat.mul_lt_mul_right hp
  have e2 : (2 ^ g * 2 ^ k == 2 * (n % 2 ^ g * 2 ^ k)) = (2 ^ g == 2 * (n % 2 ^ g)) := by
    rw [← Nat.mul_assoc, Bool.eq_iff_iff, beq_iff_eq, beq_iff_eq]; exact Nat.mul_left_inj (by omega)
  rw [e1, e2]
/-- The same number by another place. -/
theorem nearest_shift (f : Format) (s : Bool) (m k : Nat) (e : Int) : f.nearest s (m <<< k) (e - k) = f.nearest s m e := by
  by_cases h : m = 0
  · subst h; unfold Format.nearest; rw [if_pos (by simp), if_pos rfl]
  · have h' : m <<< k ≠ 0 := by rw [Nat.shiftLeft_eq]; have := Nat.two_pow_pos k; intro c; rcases Nat.mul_eq_zero.1 c with c | c <;> omega
    unfold Format.nearest
    rw [if_neg h, if_neg h']
    simp only [log2_shl h]
    rw [show e - (k : Int) + ((m.log2 + k : Nat) : Int) - (f.fractionBits : Int) = e + (m.log2 : Int) - (f.fractionBits : Int) by omega]
    generalize max (e + (m.log2 : Int) - (f.fractionBits : Int)) f.leastPlace = last
    have key : Toward.even.cut s (m <<< k <<< (e - k - last).toNat) (last - (e - k)).toNat = Toward.even.cut s (m <<< (e - last).toNat) (last - e).toNat := by
      by_cases c1 : last ≤ e - k
      · rw [show (last - (e - k)).toNat = 0 by omega, show (last - e).toNat = 0 by omega, cut_exact, cut_exact, ← Nat.shiftLeft_add]
        congr 1; omega
      · by_cases c2 : last ≤ e
        · rw [show (e - k - last).toNat = 0 by omega, show (last - e).toNat = 0 by omega, cut_exact, Nat.shiftLeft_zero]
          have e3 : k = (e - last).toNat + (last - (e - k)).toNat := by omega
          have hm : m <<< (e - last).toNat ≠ 0 := by rw [Nat.shiftLeft_eq]; have := Nat.two_pow_pos (e - last).toNat; intro c; rcases Nat.mul_eq_zero.1 c with c | c <;> omega
          have q := cut_scale s hm 0 (last - (e - k)).toNat
          rw [Nat.zero_add, cut_exact, ← Nat.shiftLeft_add, ← e3] at q
          exact q
        · rw [show (e - k - last).toNat = 0 by omega, show (e - last).toNat = 0 by omega, Nat.shiftLeft_zero, Nat.shiftLeft_zero]
          rw [show (last - (e - k)).toNat = (last - e).toNat + k by omega]
          exact cut_scale s h _ k
    rw [key]
theorem shl_bd {m : Nat} (h : m ≠ 0) (hl : m.log2 ≤ 52) : 4503599627370496 ≤ m <<< (52 - m.log2) ∧ m <<< (52 - m.log2) < 9007199254740992 := by
  have h1 := (Nat.log2_eq_iff h).1 rfl
  have hp := Nat.two_pow_pos (52 - m.log2)
  rw [Nat.shiftLeft_eq]
  have e1 : 2 ^ m.log2 * 2 ^ (52 - m.log2) = 4503599627370496 := by rw [← Nat.pow_add, show m.log2 + (52 - m.log2) = 52 by omega]
  have e2 : 2 ^ (m.log2 + 1) * 2 ^ (52 - m.log2) = 9007199254740992 := by rw [← Nat.pow_add, show m.log2 + 1 + (52 - m.log2) = 53 by omega]
  refine ⟨?_, ?_⟩
  · rw [← e1]; exact Nat.mul_le_mul_right _ h1.1
  · rw [← e2]; exact Nat.mul_lt_mul_of_pos_right h1.2 hp
theorem word_rs (s : Bool) {r : Nat} (h : r < 9223372036854775808) : rung (double.word s r) = r ∧ sgn (double.word s r) = s := by
  unfold Format.word rung sgn; rw [sw]
  cases s
  · rw [if_neg (by decide)]; exact ⟨by omega, by rw [beq_eq_false_iff_ne]; omega⟩
  · rw [if_pos rfl]; exact ⟨by omega, by rw [beq_iff_eq]; omega⟩
/-- A number that double has, written and read. -/
theorem double_exact (s : Bool) {m : Nat} {e : Int} (h : m ≠ 0) (hl : m.log2 ≤ 52) (h1 : -1022 ≤ e + m.log2) (h2 : e + m.log2 ≤ 1023) :
    double.read (double.nearest s m e) = .number s (m <<< (52 - m.log2)) (e - ((52 - m.log2 : Nat) : Int)) := by
  obtain ⟨b1, b2⟩ := shl_bd h hl
  have hne : m <<< (52 - m.log2) ≠ 0 := by omega
  have hlog : (m <<< (52 - m.log2)).log2 = 52 := by rw [log2_shl h]; omega
  rw [← nearest_shift double s m (52 - m.log2) e]
  rw [nearest_mid double s _ _ hne (by rw [hlog, lp, show double.fractionBits = 52 from rfl]; omega)]
  rw [lp, bin, infr]
  generalize m <<< (52 - m.log2) = M at *
  obtain ⟨q, hq⟩ : ∃ q : Nat, e - ((52 - m.log2 : Nat) : Int) = -1074 + (q : Int) := ⟨(e - ((52 - m.log2 : Nat) : Int) + 1074).toNat, by omega⟩
  have hq2 : q ≤ 2045 := by omega
  rw [hq, show (-1074 + (q : Int) - -1074).toNat = q by omega]
  have hmin : min (q * 4503599627370496 + M) 9218868437227405312 = q * 4503599627370496 + M := by omega
  rw [hmin]
  obtain ⟨r1, r2⟩ := word_rs s (r := q * 4503599627370496 + M) (by omega)
  rw [read_eq, r1, r2, if_neg (by omega), if_pos (by omega)]
  congr 1
  · omega
  · omega
theorem single_facts : single.signWeight = 2147483648 ∧ single.infRung = 2139095040 ∧ single.binade = 8388608 ∧ single.leastPlace = -149 ∧ single.fractionBits = 23 := by decide
/-- A finite word of single, widened and narrowed. -/
theorem widen_fin {y : Nat} (hy : y < 4294967296) (hf : y % 2147483648 < 2139095040) :
    ∃ s m e, single.read y = .number s m e ∧ ∃ M p, double.read (double.write (.number s m e)) = .number s M p ∧ single.write (.number s M p) = y := by
  obtain ⟨f1, f2, f3, f4, f5⟩ := single_facts
  have hwr := write_read single rfl y (by rw [f1]; omega) (by rw [f1, f2]; exact hf)
  have hread : single.read y = if y % 2147483648 < 8388608 then .number (y / 2147483648 % 2 == 1) (y % 2147483648) (-149)
      else .number (y / 2147483648 % 2 == 1) (8388608 + y % 2147483648 % 8388608) (-149 + ((y % 2147483648 / 8388608 - 1 : Nat) : Int)) := by
    unfold Format.read; rw [f1, f2, f3, f4]; simp only
    by_cases h : y % 2147483648 < 8388608
    · rw [if_pos h, if_pos h]
    · rw [if_neg h, if_neg h, if_pos hf]
  rw [hread] at hwr ⊢
  obtain ⟨s, m, e, hn, hm, he1, he2⟩ : ∃ s m e, (if y % 2147483648 < 8388608 then Datum.number (y / 2147483648 % 2 == 1) (y % 2147483648) (-149)
      else .number (y / 2147483648 % 2 == 1) (8388608 + y % 2147483648 % 8388608) (-149 + ((y % 2147483648 / 8388608 - 1 : Nat) : Int))) = .number s m e ∧ m < 16777216 ∧ -149 ≤ e ∧ e ≤ 106 := by
    by_cases h : y % 2147483648 < 8388608
    · rw [if_pos h]; exact ⟨_, _, _, rfl, by omega, by omega, by omega⟩
    · rw [if_neg h]; exact ⟨_, _, _, rfl, by omega, by omega, by omega⟩
  rw [hn] at hwr ⊢
  refine ⟨s, m, e, rfl, ?_⟩
  by_cases z : m = 0
  · subst z
    refine ⟨0, -1074, ?_, ?_⟩
    · show double.read (double.nearest s 0 e) = _
      unfold Format.nearest; rw [if_pos rfl]
      obtain ⟨r1, r2⟩ := word_rs s (r := 0) (by decide)
      rw [read_eq, r1, r2, if_pos (by decide)]
    · rw [← hwr]; show single.nearest s 0 _ = single.nearest s 0 _
      unfold Format.nearest; rw [if_pos rfl, if_pos rfl]
  · have hlog : m.log2 ≤ 23 := by have := (Nat.log2_lt z (k := 24)).2 (by omega); omega
    refine ⟨_, _, double_exact s z (by omega) (by omega) (by omega), ?_⟩
    rw [← hwr]; exact nearest_shift single s m _ e
end Go.Proofs.YteifbkajpigdpaaDoor.Ff
set_option linter.unusedSimpArgs false
set_option linter.unusedVariables false
namespace Go.Proofs.YteifbkajpigdpaaDoor
open Go Go.RowKit Ff

open Ieee in
theorem dblB : double.signWeight = 9223372036854775808 ∧ double.infRung = 9218868437227405312 ∧ double.binade = 4503599627370496 ∧ double.leastPlace = -1074 ∧ double.fractionBits = 52 := by decide
open Ieee in
theorem word_wf (g : Bool) (r : Nat) : double.word g r = wf g r := by
  rw [wf_eq, topped_eq]; unfold Format.word; rw [dblB.1]
theorem log2_bl {q : Nat} (h0 : 0 < q) (h : q < 18446744073709551616) : q.log2 + 1 = Lib.bitLen q := by
  have h1 : 2 ^ q.log2 ≤ q := Nat.log2_self_le (by omega)
  have h2 : q < 2 ^ (q.log2 + 1) := Nat.lt_log2_self
  have h3 := bl_lt h
  have h4 := bl_ge h h0
  have a1 : q.log2 < Lib.bitLen q := (Nat.pow_lt_pow_iff_right (a := 2) (by omega)).1 (by omega)
  have a2 : Lib.bitLen q < q.log2 + 2 := (Nat.pow_lt_pow_iff_right (a := 2) (by omega)).1 (by rw [Nat.pow_succ 2 (q.log2 + 1)]; omega)
  omega
open Ieee in
theorem near_mk (s : Bool) {q : Nat} {e : Int} (h0 : 0 < q) (h : q < 18446744073709551616) (hk : mkOk q e) : double.nearest s q e = wf s (mkR q e) := by
  have hb := log2_bl h0 h
  have hr := mkR_lt h0 h hk
  obtain ⟨k1, k2, k3⟩ := mkOk_bits hk
  have Z := @mkR_nor q e
  have Y := @mkR_sub q e
  have hn := @nor_small q e h0 h hk
  unfold Format.nearest
  rw [if_neg (by omega), dblB.2.2.2.2, dblB.2.2.2.1, dblB.2.2.1, dblB.2.1]
  simp only []
  rw [word_wf]
  congr 1
  generalize hl : max (e + (q.log2 : Int) - (52 : Nat)) (-1074) = last
  rw [show (last - e).toNat = 0 by omega, cut_exact, Nat.shiftLeft_eq]
  by_cases hs : e + Lib.bitLen q > -1022
  · have hr2 := Z hs
    rw [hr2] at hr ⊢
    rw [show (e - last).toNat = 53 - Lib.bitLen q by omega]
    generalize q * 2 ^ (53 - Lib.bitLen q) = P at *
    rw [Nat.min_eq_left (by omega)]
    omega
  · have hr2 := Y hs
    rw [hr2] at hr ⊢
    rw [show last = -1074 by omega, show (e - -1074).toNat = (e + 1074).toNat by omega, show (-1074 - -1074 : Int).toNat = 0 by rfl, Nat.zero_mul, Nat.zero_add]
    exact Nat.min_eq_left (by omega)
open Ieee in
theorem read_word (s : Bool) {q : Nat} {e : Int} (h0 : 0 < q) (h : q < 18446744073709551616) (hk : mkOk q e) : ∃ j : Nat, double.read (wf s (mkR q e)) = .number s (q * 2 ^ j) (e - j) := by
  have hr := mkR_lt h0 h hk
  obtain ⟨k1, k2, k3⟩ := mkOk_bits hk
  have w := word_rs s (r := mkR q e) (by omega)
  rw [word_wf] at w
  rw [read_eq, w.1, w.2]
  by_cases hs : e + Lib.bitLen q > -1022
  · have hr2 := mkR_nor hs
    have hn := nor_small h0 h hk
    refine ⟨53 - Lib.bitLen q, ?_⟩
    rw [hr2] at hr ⊢
    generalize q * 2 ^ (53 - Lib.bitLen q) = P at *
    obtain ⟨E, hE⟩ : ∃ E, E = (e + Lib.bitLen q + 1022).toNat := ⟨_, rfl⟩
    rw [← hE] at hr ⊢
    have hE1 : 1 ≤ E := by omega
    rw [if_neg (by omega), if_pos hr]
    congr 1
    · omega
    · rw [show (P - 4503599627370496 + E * 4503599627370496) / 4503599627370496 = E by omega]; omega
  · have hr2 := mkR_sub hs
    have hn := sub_small h hk hs
    refine ⟨(e + 1074).toNat, ?_⟩
    rw [hr2]
    rw [if_pos hn]
    congr 1
    omega
theorem two_word : Ieee.double.read 4611686018427387904 = .number false 4503599627370496 (-51) := by decide +kernel
open Ieee in
theorem dbl_step (s : Bool) {q : Nat} {e : Int} (h0 : 0 < q) (h : q < 18446744073709551616) (hk : mkOk q e) (hk2 : mkOk q (e + 1)) : floatBits .mul .f64 (wf s (mkR q e)) 4611686018427387904 = some (wf s (mkR q (e + 1))) := by
  show double.mul _ _ = _
  obtain ⟨j, hj⟩ := read_word s h0 h hk
  unfold Format.mul
  rw [hj, two_word, ← near_mk s h0 h hk2]
  show some (double.nearest (s ^^ false) (q * 2 ^ j * 4503599627370496) (e - j + -51)) = _
  rw [show (s ^^ false) = s by cases s <;> rfl, show q * 2 ^ j * 4503599627370496 = q <<< (j + 52) by rw [Nat.shiftLeft_eq, Nat.pow_add, ← Nat.mul_assoc], show e - (j : Int) + -51 = e + 1 - ((j + 52 : Nat) : Int) by omega, nearest_shift]
open Ieee in
theorem dbl_zero {x : Nat} (hx : x < 18446744073709551616) (hz : rung x = 0) : floatBits .mul .f64 x 4611686018427387904 = some x := by
  show double.mul _ _ = _
  unfold Format.mul
  rw [read_eq, hz, if_pos (by omega), two_word]
  show some (double.nearest (sgn x ^^ false) (0 * 4503599627370496) (-1074 + -51)) = _
  rw [Nat.zero_mul]
  unfold Format.nearest
  rw [if_pos rfl, word_wf, show (sgn x ^^ false) = sgn x by cases sgn x <;> rfl, zero_word hx hz]
/-- The j-th of the doublings. -/
@[irreducible] def dbl (x : Nat) (j : Nat) : Nat := scF x j
theorem dbl_all {x k : Nat} (hx : x < 18446744073709551616) (hk : k ≤ 1000) (hs : scB x k = true) : dbl x 0 = x ∧ dbl x k = scF x k ∧ ∀ j, j < k → floatBits .mul .f64 (dbl x j) 4611686018427387904 = some (dbl x (j + 1)) := by
  have hf : finB x = true := by
    cases c : finB x
    · rw [(sc_inf c).2] at hs; cases hs
    · rfl
  unfold dbl
  by_cases h0 : rung x = 0
  · have e : ∀ j : Int, scF x j = x := fun j => (sc_zero hf h0).1
    refine ⟨e _, rfl, fun j _ => ?_⟩
    rw [e, e]
    exact dbl_zero hx h0
  · have hq := partM_odd h0
    have hl := partM_lt x
    have hp : 0 < partM x := by omega
    have h64 : partM x < 18446744073709551616 := by omega
    have hok : mkOk (partM x) (partE x + k) := by
      have h1 := (sc_near (k := (k : Int)) hf h0).2
      rw [hs] at h1
      unfold mkB at h1
      have h2 := of_decide_eq_true h1
      rw [od_odd hq, tz_odd hq] at h2
      rcases h2 with c | c
      · omega
      · simpa using c
    have hb := partE_bd x hf
    have okj : ∀ j : Nat, j ≤ k → mkOk (partM x) (partE x + j) := fun j hj => by
      obtain ⟨a, b, c⟩ := mkOk_bits hok
      exact ⟨a, by omega, by omega⟩
    have ej : ∀ j : Nat, j ≤ k → scF x j = wf (sgn x) (mkR (partM x) (partE x + j)) := fun j hj => by
      rw [← (sc_near (k := (j : Int)) hf h0).1]
      have := okj j hj
      rw [mkF_ok hp (by rw [od_odd hq, tz_odd hq]; simpa using this), od_odd hq, tz_odd hq]
      simp
    refine ⟨?_, rfl, fun j hj => ?_⟩
    · rw [ej 0 (by omega)]
      have := (mk_parts hx hf).2
      rw [mkF_ok hp (by rw [od_odd hq, tz_odd hq]; simpa using okj 0 (by omega)), od_odd hq, tz_odd hq] at this
      simpa using this
    · rw [ej j (by omega), ej (j + 1) (by omega)]
      have := dbl_step (sgn x) hp h64 (okj j (by omega)) (by have := okj (j + 1) (by omega); rwa [show partE x + ((j + 1 : Nat) : Int) = partE x + j + 1 by omega] at this)
      rw [this, show partE x + ((j + 1 : Nat) : Int) = partE x + j + 1 by omega]
/-- And back. -/
theorem sc_back {x : Nat} {k : Int} (hx : x < 18446744073709551616) (hk : -1099511627776 < k) (hk2 : k ≤ 9223372036854775807) (hs : scB x k = true) : scB (scF x k) (-k) = true ∧ scF (scF x k) (-k) = x := by
  have hf : finB x = true := by
    cases c : finB x
    · rw [(sc_inf c).2] at hs; cases hs
    · rfl
  by_cases h0 : rung x = 0
  · rw [(sc_zero hf h0).1]
    exact ⟨(sc_zero hf h0).2, (sc_zero hf h0).1⟩
  · have hq := partM_odd h0
    have hl := partM_lt x
    have hp : 0 < partM x := by omega
    have hok : mkOk (od (partM x)) (partE x + k + tz (partM x)) := by
      have h1 := (sc_near (k := k) hf h0).2
      rw [hs] at h1
      unfold mkB at h1
      rcases of_decide_eq_true h1 with c | c
      · omega
      · exact c
    obtain ⟨p1, p2, p3, p4, p5⟩ := parts_mk (neg := sgn x) hp (by omega) hok
    rw [(sc_near (k := k) hf h0).1] at p1 p2 p3 p4 p5
    rw [od_odd hq] at p4
    rw [tz_odd hq] at p5
    have h2 := sc_near (k := -k) p1 p3
    rw [p2, p4, p5, show partE x + k + ((0 : Nat) : Int) + -k = partE x by omega] at h2
    obtain ⟨m1, m2⟩ := mk_parts hx hf
    exact ⟨h2.2.symm.trans m1, h2.1.symm.trans m2⟩
theorem sc_null {x : Nat} {k : Int} (hx : x < 18446744073709551616) (hs : scB x k = true) : rung (scF x k) = 0 ↔ rung x = 0 := by
  have hf : finB x = true := by
    cases c : finB x
    · rw [(sc_inf c).2] at hs; cases hs
    · rfl
  by_cases h0 : rung x = 0
  · rw [(sc_zero hf h0).1]
  · have hq := partM_odd h0
    have hl := partM_lt x
    have hok : mkOk (od (partM x)) (partE x + k + tz (partM x)) := by
      have h1 := (sc_near (k := k) hf h0).2
      rw [hs] at h1
      unfold mkB at h1
      rcases of_decide_eq_true h1 with c | c
      · omega
      · exact c
    obtain ⟨p1, p2, p3, p4, p5⟩ := parts_mk (neg := sgn x) (by omega) (by omega) hok
    rw [(sc_near (k := k) hf h0).1] at p3
    exact ⟨fun c => absurd c p3, fun c => absurd c h0⟩
theorem sc_none {x : Nat} {k : Int} (hs : scB x k = false) : scF x k = 0 ∧ (finB x = true → rung x ≠ 0) := by
  cases hf : finB x
  · exact ⟨(sc_inf hf).1, fun c => by cases c⟩
  · by_cases h0 : rung x = 0
    · rw [(sc_zero hf h0).2] at hs; cases hs
    · refine ⟨?_, fun _ => h0⟩
      have h1 := sc_near (k := k) hf h0
      rw [hs] at h1
      rw [← h1.1]
      have hq := partM_odd h0
      refine mkF_no (by omega) (fun c => ?_)
      rw [mkB_ok c] at h1
      cases h1.2
end Go.Proofs.YteifbkajpigdpaaDoor
set_option linter.unusedSimpArgs false
set_option linter.unusedVariables false
namespace Go.Proofs.YteifbkajpigdpaaDoor
open Go Go.RowKit Ff

theorem sub_none {x : Nat} (hf : finB x = false) : Ieee.double.sub x x = none := by
  by_cases hi : isn x
  · unfold Ieee.Format.sub; rw [read_nan hi]; rfl
  · have h1 : ¬ rung x < 9218868437227405312 := fun h => by rw [(finB_true x).2 h] at hf; cases hf
    exact sub_inf x (by unfold isn at hi; omega)
theorem ord_z {y : Nat} (h : rung y = 0) : (FloatKind.f64.format.order y 0 == some Ordering.eq) = true := by rw [f_eq, feq_z h]
theorem ord_nz {y : Nat} (h : rung y ≠ 0) : (FloatKind.f64.format.order y 0 == some Ordering.eq) = false := by rw [f_eq, feq_nz h]
theorem neq_z {y : Nat} (h : rung y = 0) : (FloatKind.f64.format.order y 0 != some Ordering.eq) = false := by rw [bne, ord_z h]; rfl
theorem neq_nz {y : Nat} (h : rung y ≠ 0) : (FloatKind.f64.format.order y 0 != some Ordering.eq) = true := by rw [bne, ord_nz h]; rfl
theorem rung0 : rung 0 = 0 := by decide
theorem like_rf (x : Nat) : likeB x x = true := by unfold likeB; simp
theorem scF_lt {x : Nat} {k : Int} (hx : x < 18446744073709551616) : scF x k < 18446744073709551616 := by
  cases hf : finB x
  · rw [(sc_inf hf).1]; omega
  · by_cases h0 : rung x = 0
    · rw [(sc_zero hf h0).1]; exact hx
    · rw [← (sc_near hf h0).1]
      have hq := partM_odd h0
      have hl := partM_lt x
      by_cases hk : mkOk (od (partM x)) (partE x + k + tz (partM x))
      · rw [mkF_ok (by omega) hk]
        have := mkR_lt (od_pos (by omega) (by omega)) (Nat.lt_of_le_of_lt od_le (by omega)) hk
        rw [wf_eq]; cases sgn x
        · rw [if_neg (by decide)]; omega
        · rw [if_pos rfl, topped_eq]; omega
      · rw [mkF_no (by omega) hk]; omega
set_option maxRecDepth 100000 in
theorem BitsScaled_no_inf (x : Nat) (hx : x < 18446744073709551616) (k : Int) (w : World) (ht : TabR w) (hs : scB x k = false) (hf : finB x = false) :
    Calls Tryd.prog 3 #[.int .u64 x, .int .i64 k] w fun e w' => e = .returned (.bool true) ∧ Below w.heap.size w w' := by
  have h12 := ext_from
  have K := Lib.hid (fun w (h : Tabs w) => Scale_c x hx k w h)
  rw [hs, (sc_none hs).1] at K
  have hsub := run_sub_nan 23 x x (sub_none hf)
  have hn := neq_nz (y := nanAt w x x) (by have := nanAt_isn w x x; unfold isn at this; omega)
  have hz := ord_z rung0
  have HT := Lib.hid ht
  clear hs hf hx
  go_enter Tryd.func3, Tryd.ntmps3
  go_wp2_with fail
  go_at_call 5
  refine (K.out _ HT.out.1.1).mono ?_
  rintro e w1 ⟨rfl, rfl⟩
  go_wp2_with fail
  go_at_call 6
  refine (lives_c _ (HT.out.below (Below.refl _ _).drew)).mono ?_
  rintro e w5 ⟨rfl, hb5⟩
  go_wp2
  go_ret
  exact ⟨rfl, (Below.refl _ _).drew.trans hb5⟩
set_option maxRecDepth 100000 in
theorem BitsScaled_no_fin (x : Nat) (hx : x < 18446744073709551616) (k : Int) (w : World) (ht : TabR w) (hs : scB x k = false) (hf : finB x = true) :
    Calls Tryd.prog 3 #[.int .u64 x, .int .i64 k] w fun e w' => e = .returned (.bool true) ∧ Below w.heap.size w w' := by
  have h12 := ext_from
  have K := Lib.hid (fun w (h : Tabs w) => Scale_c x hx k w h)
  rw [hs, (sc_none hs).1] at K
  have hsub := fun w => run_float_arith (P := Tryd.prog) w .sub 23 .f64 x x 0 (sub_self x ((finB_true x).1 hf))
  have hn := neq_nz ((sc_none hs).2 hf)
  have hz0 := neq_z rung0
  have hz := ord_z rung0
  have HT := Lib.hid ht
  clear hs hf hx
  go_enter Tryd.func3, Tryd.ntmps3
  go_wp2_with fail
  go_at_call 5
  refine (K.out _ HT.out.1.1).mono ?_
  rintro e w1 ⟨rfl, rfl⟩
  go_wp2_with fail
  go_at_call 6
  refine (lives_c _ HT.out).mono ?_
  rintro e w5 ⟨rfl, hb5⟩
  go_wp2
  go_ret
  exact ⟨rfl, hb5⟩
set_option maxRecDepth 100000 in
set_option maxHeartbeats 1000000 in
theorem BitsScaled_yes (x : Nat) (hx : x < 18446744073709551616) (k : Int) (w : World) (ht : TabR w) (hs : scB x k = true) (hk1 : -9223372036854775808 ≤ k) (hk2 : k ≤ 9223372036854775807) :
    Calls Tryd.prog 3 #[.int .u64 x, .int .i64 k] w fun e w' => e = .returned (.bool true) ∧ Below w.heap.size w w' := by
  have h12 := ext_from
  have hl := like_rf
  have K := Lib.hid (fun w (h : Tabs w) => Scale_c x hx k w h)
  rw [hs] at K
  obtain ⟨b, hb⟩ : ∃ b, b = scF x k := ⟨_, rfl⟩
  have hbx : b < 18446744073709551616 := by rw [hb]; exact scF_lt hx
  obtain ⟨nk, hnk⟩ : ∃ nk, nk = wrap64 (-k) := ⟨_, rfl⟩
  have K2 := Lib.hid (fun w (h : Tabs w) => Scale_c b hbx nk w h)
  have hback : -1099511627776 < k → scB b nk = true ∧ scF b nk = x := fun c => by
    have := sc_back hx c hk2 hs
    rw [hnk, hb, IntWalk.wrap64_in _ (by omega)]
    exact this
  have hnull : rung b = 0 ↔ rung x = 0 := by rw [hb]; exact sc_null hx hs
  have HT := Lib.hid ht
  have hnk2 := hnk.symm
  rw [← hb] at K
  have HB := Lib.hid hb
  have HS := Lib.hid hs
  by_cases hfar : -1099511627776 < k
  case' pos =>
    obtain ⟨q1, q2⟩ := hback hfar
    rw [q1, q2] at K2
    obtain rfl : nk = -k := by rw [hnk]; exact IntWalk.wrap64_in _ (by omega)
    have hlx := hl x
    by_cases hr : 0 ≤ k ∧ k ≤ 1000
    case' pos =>
      obtain ⟨m, rfl⟩ : ∃ m : Nat, k = m := ⟨k.toNat, by omega⟩
      obtain ⟨d0, dk, dj⟩ := dbl_all hx (k := m) (by omega) hs
      have hm : m ≤ 1000 := by omega
      rw [← hb] at dk
      have DJ : Hid (∀ j, j < m → ∀ w, (binOp .mul 23 (.float .f64 (dbl x j)) (.float .f64 4611686018427387904)).run Tryd.prog w = .ok (.float .f64 (dbl x (j + 1))) w) := Lib.hid fun j hj w => run_float_arith (P := Tryd.prog) w .mul 23 .f64 _ _ _ (dj j hj)
      have D0 := Lib.hid d0
      have DK := Lib.hid dk
      clear hs hx hback hnull d0 dk dj hb hbx hnk hr
      go_enter Tryd.func3, Tryd.ntmps3
      go_wp2_with fail
      go_at_call 5
      refine (K.out _ HT.out.1.1).mono ?_
      rintro e w1 ⟨rfl, rfl⟩
      go_wp2_with fail
      refine (K2.out _ HT.out.1.1).mono ?_
      rintro e w1 ⟨rfl, rfl⟩
      go_wp2_with (go_at_call 7; refine (same_c _ _ _).mono ?_; rintro e w' ⟨rfl, rfl⟩)
      go_loop [10, 11] (fun a i => ∃ (j : Nat) (d : Nat), j ≤ m ∧ Hid (d = dbl x j) ∧ a = .float .f64 d ∧ i = .int .i64 j) (fun _ i => m - (intOf i).toNat)
      case atStart => exact ⟨0, x, by omega, Lib.hid D0.out.symm, rfl, rfl⟩
      case round =>
        obtain ⟨j, d, hj, hd, rfl, rfl⟩ := hrel
        by_cases hjm : j = m
        · subst hjm
          obtain rfl : d = b := by rw [hd.out, DK.out]
          clear DJ
          have hlb := hl d
          have hlt : ¬ (j : Int) < (j : Int) := by omega
          go_wp2_with (go_at_call 7; refine (same_c _ _ _).mono ?_; rintro e w' ⟨rfl, rfl⟩)
          go_at_call 6
          refine (lives_c _ HT.out).mono ?_
          rintro e w5 ⟨rfl, hb5⟩
          go_wp2
          go_ret
          exact ⟨rfl, hb5⟩
        · have hmul := DJ.out j (by omega)
          rw [← hd.out] at hmul
          have hjl : (j : Int) < (m : Int) := by omega
          obtain ⟨d2, hd2⟩ : ∃ d2, d2 = dbl x (j + 1) := ⟨_, rfl⟩
          rw [← hd2] at hmul
          have HD2 := Lib.hid hd2
          clear DJ hd2
          go_wp2_with fail
          go_round
          case rel => exact ⟨j + 1, d2, by omega, HD2, rfl, by go_num⟩
          case measure => simp [intOf]; omega
    case' neg =>
      have HR := Lib.hid hr
      rcases (show (rung b = 0 ∧ rung x = 0) ∨ (rung b ≠ 0 ∧ rung x ≠ 0) from by
        by_cases c : rung x = 0
        · exact Or.inl ⟨hnull.2 c, c⟩
        · exact Or.inr ⟨fun d => c (hnull.1 d), c⟩) with ⟨c1, c2⟩ | ⟨c1, c2⟩
      case' inl => (have o1 := ord_z c1; have o2 := ord_z c2)
      case' inr => (have o1 := ord_nz c1; have o2 := ord_nz c2)
      all_goals
        clear hs hx hback hnull hb hbx hnk c1 c2 hr
        by_cases hp : 0 ≤ k
        case' pos => have hp2 : ¬ k ≤ 1000 := fun c => HR.out ⟨hp, c⟩
        all_goals
          go_enter Tryd.func3, Tryd.ntmps3
          go_wp2_with fail
          go_at_call 5
          refine (K.out _ HT.out.1.1).mono ?_
          rintro e w1 ⟨rfl, rfl⟩
          go_wp2_with fail
          refine (K2.out _ HT.out.1.1).mono ?_
          rintro e w1 ⟨rfl, rfl⟩
          go_wp2_with (go_at_call 7; refine (same_c _ _ _).mono ?_; rintro e w' ⟨rfl, rfl⟩)
          go_at_call 6
          refine (lives_c _ HT.out).mono ?_
          rintro e w5 ⟨rfl, hb5⟩
          go_wp2
          go_ret
          exact ⟨rfl, hb5⟩
  case' neg =>
    have hp : ¬ 0 ≤ k := by omega
    rcases (show (rung b = 0 ∧ rung x = 0) ∨ (rung b ≠ 0 ∧ rung x ≠ 0) from by
      by_cases c : rung x = 0
      · exact Or.inl ⟨hnull.2 c, c⟩
      · exact Or.inr ⟨fun d => c (hnull.1 d), c⟩) with ⟨c1, c2⟩ | ⟨c1, c2⟩
    case' inl => (have o1 := ord_z c1; have o2 := ord_z c2)
    case' inr => (have o1 := ord_nz c1; have o2 := ord_nz c2)
    all_goals
      clear hs hx hback hnull hb hbx hnk c1 c2
      go_enter Tryd.func3, Tryd.ntmps3
      go_wp2_with fail
      go_at_call 5
      refine (K.out _ HT.out.1.1).mono ?_
      rintro e w1 ⟨rfl, rfl⟩
      go_wp2_with fail
      refine (K2.out _ HT.out.1.1).mono ?_
      rintro e w1 ⟨rfl, rfl⟩
      go_wp2_with (go_at_call 7; refine (same_c _ _ _).mono ?_; rintro e w' ⟨rfl, rfl⟩)
      go_at_call 6
      refine (lives_c _ HT.out).mono ?_
      rintro e w5 ⟨rfl, hb5⟩
      go_wp2
      go_ret
      exact ⟨rfl, hb5⟩
theorem int64_bounds {x : Int} (h : (Lit.int .i64 x).wf = true) : -9223372036854775808 ≤ x ∧ x ≤ 9223372036854775807 := by
  unfold Lit.wf at h
  rw [Bool.and_eq_true, decide_eq_true_iff, decide_eq_true_iff] at h
  exact h
theorem BitsScaled_law (x : Nat) (hx : x < 18446744073709551616) (k : Int) (hk1 : -9223372036854775808 ≤ k) (hk2 : k ≤ 9223372036854775807) (w : World) (ht : TabR w) :
    Calls Tryd.prog 3 #[.int .u64 x, .int .i64 k] w fun e w' => e = .returned (.bool true) ∧ Below w.heap.size w w' := by
  cases hs : scB x k
  · cases hf : finB x
    · exact BitsScaled_no_inf x hx k w ht hs hf
    · exact BitsScaled_no_fin x hx k w ht hs hf
  · exact BitsScaled_yes x hx k w ht hs hk1 hk2
end Go.Proofs.YteifbkajpigdpaaDoor
namespace Go.Proofs.YteifbkajpigdpaaDoor
open Go Go.RowKit Go.WideShapes Go.ChangeShapes
variable {H : Type} {enc : TypeId × Value → H} {P : Program}

theorem postBelow {f : Func} {s : ChangeSpec} {apart fresh handsOn again : Bool} {W W' : World} {args : Array Value} {v : Value} {ds gs : List (DataW H)} {places pa pv : List MemPlace}
    (whole : DataW.Whole enc P f.params.toList s.vars apart W args.toList ds gs places)
    (res : ∀ (b : Nat) (sp : Nat → Bool) (hd : Bool), DataW.TrodAll enc P W' b sp hd f.resultTypes.toList (v.resultList f.resultTypes.size) (s.fn H (ds ++ gs)).results [])
    (left : ∀ sp : Nat → Bool, (∀ p ∈ places, sp p.block = true) → DataW.TrodAll enc P W' 0 sp true f.params.toList args.toList (s.fn H (ds ++ gs)).args pa)
    (vars : ∀ sp : Nat → Bool, (∀ p ∈ places, sp p.block = true) → DataW.TrodVars enc P W' sp s.vars (s.fn H (ds ++ gs)).vars pv)
    (split : places = pa ++ pv) (below : Below W.heap.size W W')
    (ok : ∀ (j : Nat) (t : TypeId) (r : Value), f.resultTypes[j]? = some t → (v.resultList f.resultTypes.size)[j]? = some r → Value.okWide P W' .any 0 t r) :
    s.post enc P f apart fresh handsOn again W args v W' := by
  have old : ∀ p ∈ places, p.block < W.heap.size := fun p hp => whole.lt p hp
  have same : ∀ p ∈ places, (fun b => decide (b < W.heap.size)) p.block = true := fun p hp => decide_eq_true (old p hp)
  have kept : W.keptBut W' (fun p => p ∈ places ∧ p ∈ pa ++ pv) :=
    World.keptBut_mono (fun p hp => ⟨hp, split ▸ hp⟩) (below.frame (· ∈ places))
  have free : ∀ b off, MemPlace.cell b off ∈ pa ++ pv → W'.frozen? ⟨b, off, none⟩ = false := fun b off hp => by
    have hin : MemPlace.cell b off ∈ places := split ▸ hp
    rw [below.frozen (p := ⟨b, off, none⟩) (old _ hin)]
    obtain ⟨_, _, _, _, _, hz, _⟩ := whole
    exact hz b off hin
  have apartNow : apart = true → (pa ++ pv).Nodup := fun ha => by
    obtain ⟨_, _, _, _, _, _, hn⟩ := whole
    exact split ▸ hn ha
  refine ⟨ds, gs, places, [], pa, pv, whole, res _ _ _, left _ same, vars _ same, ?_, fun _ => ⟨ok, _, _, ([] ++ pa) ++ pv, ⟨[] ++ pa, pv, trodAll_append (left _ (fun _ _ => rfl)) (res _ _ _), vars _ (fun _ _ => rfl), rfl, ?_, ?_⟩, ?_⟩⟩
  · exact World.keptBut_mono (fun p hp => ⟨hp.1, Or.inr (List.mem_append.1 hp.2)⟩) kept
  · intro b off hp; exact free b off (by simpa using hp)
  · intro ha; simpa using apartNow ha
  · intro p hp _; rw [split]; simpa using hp
end Go.Proofs.YteifbkajpigdpaaDoor
