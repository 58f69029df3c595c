/- Texts put together: Fft B1t B2t Mtt B3t D20 B4t B5t B6t D60 D61 D23 D7 D24 D25 D35 D40 D42 D62 SyD D63 P33 P32 P34 P35 P36 P37 P38 N40 P40 B7t B8t B9t B10t P43 P44 P42 Shelf2 P47 N29 N30 N79 N80 P48 P49. -/
import Ieee.Arith
import Derived.Test.YtajcapliokblfaaDoorProg
import Derived.WalkKit
import Derived.WalkLawsBesides
import Derived.WalkSpells
import Derived.Outline
import Derived.Lib.Hide
import Derived.Deep.Light
import Derived.Laws.BitsAllLaws
import Derived.Test.YtajcapliokblfaaDoorB1
import Derived.Laws.FloatArith
import Derived.Deep.QuietTactic
import Derived.BigQuiet
import Derived.Lib.TrailingZeros
import Derived.Shelf.Strconv.Itoa0
import Derived.Laws.ShiftsVarLaws
import Derived.WalkSmall
import Derived.Test.YtajcapliokblfaaDoorB4
import Derived.Deep.RegionLaw
import Derived.Test.YtajcapliokblfaaDoorB2
import Derived.Deep.RegionHeld3
import Derived.Shelf.Small.Bits
import Derived.Shelf.Small.Wraps
import Derived.Shelf.Strings.Search1
import Derived.Shelf.Strings.Search2
import Derived.Shelf.Strings.Cut
import Derived.Shelf.LaysM
import Derived.Shelf.Strings.Shaped
import Derived.Shelf.Strings.Prefix
import Derived.Shelf.Bits.Mul64
namespace Go.Proofs.YtajcapliokblfaaDoor.Bt.Ff
open Ieee
def rung (x : Nat) : Nat := x % 9223372036854775808
def sgn (x : Nat) : Bool := x / 9223372036854775808 % 2 == 1
def isn (x : Nat) : Prop := 9218868437227405312 < rung x
instance (x : Nat) : Decidable (isn x) := by unfold isn; exact inferInstance
def srung (x : Nat) : Int := if sgn x then -(rung x : Int) else (rung x : Int)
def mag (r : Nat) : Nat := if r < 4503599627370496 then r else (4503599627370496 + r % 4503599627370496) * 2 ^ (r / 4503599627370496 - 1)
theorem sw : double.signWeight = 9223372036854775808 := by decide
theorem bin : double.binade = 4503599627370496 := by decide
theorem infr : double.infRung = 9218868437227405312 := by decide
theorem lp : double.leastPlace = -1074 := by decide
theorem read_eq (x : Nat) : double.read x =
    if rung x < 4503599627370496 then .number (sgn x) (rung x) (-1074)
    else if rung x < 9218868437227405312 then .number (sgn x) (4503599627370496 + rung x % 4503599627370496) (-1074 + ((rung x / 4503599627370496 - 1 : Nat) : Int))
    else if rung x = 9218868437227405312 then .infinity (sgn x) else .nan (sgn x) (rung x - 9218868437227405312) := by
  unfold Format.read
  rw [sw, bin, infr, lp]
  rfl
theorem mag_small {r : Nat} (h : r < 4503599627370496) : mag r = r := by unfold mag; rw [if_pos h]
theorem mag_big {r : Nat} (h : ¬ r < 4503599627370496) : mag r = (4503599627370496 + r % 4503599627370496) * 2 ^ (r / 4503599627370496 - 1) := by unfold mag; rw [if_neg h]
theorem mag_step (r : Nat) : mag r < mag (r + 1) := by
  by_cases h : r < 4503599627370496
  · by_cases h2 : r + 1 < 4503599627370496
    · rw [mag_small h, mag_small h2]; omega
    · rw [mag_small h, mag_big h2]
      have e : r + 1 = 4503599627370496 := by omega
      have q : (4503599627370496 + 4503599627370496 % 4503599627370496) * 2 ^ (4503599627370496 / 4503599627370496 - 1) = 4503599627370496 := by simp
      rw [e, q]; omega
  · have h2 : ¬ r + 1 < 4503599627370496 := by omega
    rw [mag_big h, mag_big h2]
    by_cases hm : r % 4503599627370496 = 4503599627370495
    · have e1 : (r + 1) % 4503599627370496 = 0 := by omega
      have e2 : (r + 1) / 4503599627370496 - 1 = (r / 4503599627370496 - 1) + 1 := by omega
      rw [e1, e2, hm, Nat.pow_succ]
      have hp : 0 < 2 ^ (r / 4503599627370496 - 1) := Nat.two_pow_pos _
      generalize 2 ^ (r / 4503599627370496 - 1) = p at hp
      omega
    · have e1 : (r + 1) % 4503599627370496 = r % 4503599627370496 + 1 := by omega
      have e2 : (r + 1) / 4503599627370496 = r / 4503599627370496 := by omega
      rw [e1, e2]
      exact Nat.mul_lt_mul_of_pos_right (by omega) (Nat.two_pow_pos _)
theorem mag_lt {r s : Nat} (h : r < s) : mag r < mag s := by
  obtain ⟨k, rfl⟩ : ∃ k, s = r + 1 + k := ⟨s - (r + 1), by omega⟩
  clear h
  induction k with
  | zero => exact mag_step r
  | succ k ih => exact Nat.lt_trans ih (mag_step _)
theorem mag_lt_iff {r s : Nat} : mag r < mag s ↔ r < s := by
  constructor
  · intro h
    by_cases c : r < s
    · exact c
    · rcases Nat.lt_or_eq_of_le (Nat.le_of_not_lt c) with c | c
      · have := mag_lt c; omega
      · subst c; omega
  · exact mag_lt
theorem mag_zero : mag 0 = 0 := rfl
def sv (x : Nat) : Int := if sgn x then -(mag (rung x) : Int) else (mag (rung x) : Int)
theorem sv_lt {x y : Nat} : sv x < sv y ↔ srung x < srung y := by
  have h1 : mag (rung x) < mag (rung y) ↔ rung x < rung y := mag_lt_iff
  have h2 : mag (rung y) < mag (rung x) ↔ rung y < rung x := mag_lt_iff
  have h3 : 0 < mag (rung x) ↔ 0 < rung x := by have := @mag_lt_iff 0 (rung x); rwa [mag_zero] at this
  have h4 : 0 < mag (rung y) ↔ 0 < rung y := by have := @mag_lt_iff 0 (rung y); rwa [mag_zero] at this
  unfold sv srung
  split <;> split <;> omega
theorem compare_congr {a b c d : Int} (h : a < b ↔ c < d) (h' : b < a ↔ d < c) : compare a b = compare c d := by
  simp only [compare, compareOfLessAndEq]
  by_cases e : a < b
  · rw [if_pos e, if_pos (h.1 e)]
  · rw [if_neg e, if_neg (fun x => e (h.2 x))]
    by_cases f : a = b
    · rw [if_pos f, if_pos (by omega)]
    · rw [if_neg f, if_neg (by omega)]
theorem signed_eq (s : Bool) (m u : Nat) : signed s m u = if s then -((m * 2 ^ u : Nat) : Int) else ((m * 2 ^ u : Nat) : Int) := by
  unfold signed; rw [Nat.shiftLeft_eq]
theorem signed_scale (s : Bool) (m u k : Nat) : signed s m u * ((2 ^ k : Nat) : Int) = signed s m (u + k) := by
  rw [signed_eq, signed_eq, Nat.pow_add]
  have : (m * (2 ^ u * 2 ^ k)) = (m * 2 ^ u) * 2 ^ k := by rw [Nat.mul_assoc]
  rw [this]
  split
  · rw [Int.neg_mul]; rfl
  · rfl
theorem order_num (s t : Bool) (m n : Nat) (i j : Nat) :
    Datum.order (.number s m (-1074 + (i : Int))) (.number t n (-1074 + (j : Int))) = some (compare (signed s m i) (signed t n j)) := by
  simp only [Datum.order]
  congr 1
  obtain ⟨b, hb, h1, h2⟩ : ∃ b : Nat, min (-1074 + (i : Int)) (-1074 + (j : Int)) = -1074 + (b : Int) ∧ b ≤ i ∧ b ≤ j := by
    by_cases h : i ≤ j
    · exact ⟨i, by omega, by omega, h⟩
    · exact ⟨j, by omega, by omega, by omega⟩
  rw [hb]
  have e1 : (-1074 + (i : Int) - (-1074 + (b : Int))).toNat = i - b := by omega
  have e2 : (-1074 + (j : Int) - (-1074 + (b : Int))).toNat = j - b := by omega
  rw [e1, e2]
  have f1 := signed_scale s m (i - b) b
  have f2 := signed_scale t n (j - b) b
  rw [Nat.sub_add_cancel h1] at f1
  rw [Nat.sub_add_cancel h2] at f2
  rw [← f1, ← f2]
  have hp : (0 : Int) < ((2 ^ b : Nat) : Int) := by have := Nat.two_pow_pos b; omega
  apply compare_congr
  · exact (Int.mul_lt_mul_right hp).symm
  · exact (Int.mul_lt_mul_right hp).symm
theorem read_fin {x : Nat} (h : rung x < 9218868437227405312) : ∃ m i : Nat, double.read x = .number (sgn x) m (-1074 + (i : Int)) ∧ m * 2 ^ i = mag (rung x) := by
  rw [read_eq]
  by_cases c : rung x < 4503599627370496
  · rw [if_pos c]; exact ⟨rung x, 0, rfl, by rw [mag_small c]; simp⟩
  · rw [if_neg c, if_pos h]; exact ⟨_, _, rfl, by rw [mag_big c]⟩
theorem read_inf {x : Nat} (h : rung x = 9218868437227405312) : double.read x = .infinity (sgn x) := by
  rw [read_eq, if_neg (by omega), if_neg (by omega), if_pos h]
theorem read_nan {x : Nat} (h : isn x) : double.read x = .nan (sgn x) (rung x - 9218868437227405312) := by
  unfold isn at h
  rw [read_eq, if_neg (by omega), if_neg (by omega), if_neg (by omega)]
theorem signed_sv {x m i : Nat} (h : m * 2 ^ i = mag (rung x)) : signed (sgn x) m i = sv x := by
  rw [signed_eq, h]; rfl
theorem order_eq (x y : Nat) : double.order x y = if isn x ∨ isn y then none else some (compare (srung x) (srung y)) := by
  unfold Format.order
  by_cases hx : isn x
  · rw [if_pos (Or.inl hx), read_nan hx]; rfl
  · by_cases hy : isn y
    · rw [if_pos (Or.inr hy), read_nan hy]; cases double.read x <;> rfl
    · rw [if_neg (fun h => h.elim hx hy)]
      have lx : rung x ≤ 9218868437227405312 := by unfold isn at hx; omega
      have ly : rung y ≤ 9218868437227405312 := by unfold isn at hy; omega
      rcases Nat.lt_or_eq_of_le lx with lx | lx <;> rcases Nat.lt_or_eq_of_le ly with ly | ly
      · obtain ⟨m, i, hm, em⟩ := read_fin lx
        obtain ⟨n, j, hn, en⟩ := read_fin ly
        rw [hm, hn, order_num, signed_sv em, signed_sv en]
        exact congrArg some (compare_congr sv_lt sv_lt)
      · obtain ⟨m, i, hm, em⟩ := read_fin lx
        rw [hm, read_inf ly]
        simp only [Datum.order, srung, ly]
        cases sgn y <;> simp only [if_true, if_false, Bool.false_eq_true] <;> congr 1 <;> symm
        · rw [show compare (if sgn x = true then -(rung x : Int) else (rung x : Int)) ((9218868437227405312 : Nat) : Int) = compare (0 : Int) 1 from compare_congr (by split <;> omega) (by split <;> omega)]; rfl
        · rw [show compare (if sgn x = true then -(rung x : Int) else (rung x : Int)) (-((9218868437227405312 : Nat) : Int)) = compare (1 : Int) 0 from compare_congr (by split <;> omega) (by split <;> omega)]; rfl
      · obtain ⟨n, j, hn, en⟩ := read_fin ly
        rw [hn, read_inf lx]
        simp only [Datum.order, srung, lx]
        cases sgn x <;> simp only [if_true, if_false, Bool.false_eq_true] <;> congr 1 <;> symm
        · rw [show compare ((9218868437227405312 : Nat) : Int) (if sgn y = true then -(rung y : Int) else (rung y : Int)) = compare (1 : Int) 0 from compare_congr (by split <;> omega) (by split <;> omega)]; rfl
        · rw [show compare (-((9218868437227405312 : Nat) : Int)) (if sgn y = true then -(rung y : Int) else (rung y : Int)) = compare (0 : Int) 1 from compare_congr (by split <;> omega) (by split <;> omega)]; rfl
      · rw [read_inf lx, read_inf ly]
        simp only [Datum.order, srung, lx, ly]
        cases sgn x <;> cases sgn y <;> decide
end Go.Proofs.YtajcapliokblfaaDoor.Bt.Ff
set_option linter.unusedSimpArgs false
set_option linter.unusedVariables false
namespace Go.Proofs.YtajcapliokblfaaDoor.Bt
open Go Ff
theorem ext_bits (b : Nat) (w : World) : (callFunc 39 #[.float .f64 b]).run Tryd.prog w = .ok (.value (.int .u64 b)) w := by kernel_rfl
theorem ext_from (b : Nat) (w : World) : (callFunc 60 #[.int .u64 b]).run Tryd.prog w = .ok (.value (.float .f64 b)) w := by kernel_rfl
theorem isn_iff (x : Nat) : isn x ↔ 9218868437227405312 < rung x := Iff.rfl
theorem isn_ne (x : Nat) : (FloatKind.f64.format.order x x != some Ordering.eq) = decide (isn x) := by
  rw [show FloatKind.f64.format.order x x = _ from order_eq x x]
  by_cases h : isn x
  · simp [h]
  · simp [h, compare, compareOfLessAndEq]
theorem and_not_top (x : Nat) (hx : x < 18446744073709551616) : bits BinOp.andNot IntKind.u64 (x : Int) 9223372036854775808 = ((rung x : Nat) : Int) := by
  rw [show (9223372036854775808 : Int) = ((9223372036854775808 : Nat) : Int) from rfl, u64_andNot_nat x _ hx (by decide)]
  congr 1
  exact Nat.and_two_pow_sub_one_eq_mod x 63
theorem ret_int {k : IntKind} {a b : Int} (h : a = b) : Ending.returned (.int k a) = .returned (.int k b) := by rw [h]
@[irreducible] def infB (x : Nat) : Bool := rung x == 9218868437227405312
theorem infB_true (x : Nat) : infB x = true ↔ rung x = 9218868437227405312 := by unfold infB; exact beq_iff_eq
@[local go_sem] theorem eq_inf (x : Nat) : ((rung x : Int) == 9218868437227405312) = infB x := by
  rw [Bool.eq_iff_iff, beq_iff_eq, infB_true]; omega
@[irreducible] def subB (x : Nat) : Bool := decide (rung x < 4503599627370496)
theorem subB_true (x : Nat) : subB x = true ↔ rung x < 4503599627370496 := by unfold subB; exact decide_eq_true_iff
@[local go_sem] theorem lt_sub (x : Nat) : decide ((rung x : Int) < 4503599627370496) = subB x := by
  rw [Bool.eq_iff_iff, decide_eq_true_iff, subB_true]; omega
end Go.Proofs.YtajcapliokblfaaDoor.Bt
namespace Go.Proofs.YtajcapliokblfaaDoor.Bt
open Go Go.RowKit Ff
@[irreducible] def finB (x : Nat) : Bool := decide (rung x < 9218868437227405312)
@[irreducible] def topped (b : Nat) : Nat := 9223372036854775808 + b
theorem topped_eq (b : Nat) : topped b = 9223372036854775808 + b := by unfold topped; rfl
@[irreducible] def wf (neg : Bool) (r : Nat) : Nat := if neg then topped r else r
theorem wf_eq (neg : Bool) (r : Nat) : wf neg r = if neg then topped r else r := by unfold wf; rfl
theorem signed_b (neg : Bool) (b : Nat) (hb : b < 9223372036854775808) (w : World) :
    Calls Tryd.prog 105 #[.bool neg, .int .u64 b] w fun e w' => e = .returned (.float .f64 (wf neg b)) ∧ w = w' := by
  have h12 := ext_from
  have ho : bits BinOp.or IntKind.u64 (b : Int) 9223372036854775808 = ((topped b : Nat) : Int) := by
    rw [topped_eq, show (9223372036854775808 : Int) = ((9223372036854775808 : Nat) : Int) from rfl, u64_or_nat b _ (by omega) (by decide), Nat.or_comm]
    congr 1
    exact nat_join 63 _ _ (by decide) hb
  cases neg
  all_goals
    go_enter Tryd.func105, Tryd.ntmps105
    go_wp2
    all_goals go_ret
    all_goals exact ⟨by rw [wf_eq]; rfl, rfl⟩
theorem sub_self (x : Nat) (h : rung x < 9218868437227405312) : floatBits .sub .f64 x x = some 0 := by
  show Ieee.double.sub x x = some 0
  obtain ⟨m, i, hm, _⟩ := read_fin h
  unfold Ieee.Format.sub
  rw [hm]
  simp only [Ieee.Datum.opposite, Ieee.Datum.sum, Int.min_self, Int.sub_self]
  have e : Ieee.signed (sgn x) m (Int.toNat 0) + Ieee.signed (!sgn x) m (Int.toNat 0) = 0 := by
    rw [signed_eq, signed_eq]; cases sgn x <;> simp <;> omega
  rw [e]
  simp only [if_true, Bool.and_not_self]
  rfl
end Go.Proofs.YtajcapliokblfaaDoor.Bt
namespace Go.Proofs.YtajcapliokblfaaDoor.Bt
open Go
def tz (m : Nat) : Nat := Lib.ctz 64 m
def od (m : Nat) : Nat := m / 2 ^ tz m
theorem tz_spec {m : Nat} (h0 : 0 < m) (hm : m < 18446744073709551616) : od m * 2 ^ tz m = m ∧ od m % 2 = 1 ∧ tz m < 64 := by
  obtain ⟨q, hq, hk⟩ := Lib.ctzFrom_spec 64 m h0 (by omega)
  have e : tz m = Lib.ctzFrom 64 m := by unfold tz Lib.ctz; rw [if_neg (by omega)]
  have e2 : od m = 2 * q + 1 := by
    unfold od; rw [e]
    have hp := Nat.two_pow_pos (Lib.ctzFrom 64 m)
    generalize Lib.ctzFrom 64 m = k at hq hp ⊢
    rw [hq, Nat.mul_comm, Nat.mul_div_cancel _ hp]
  refine ⟨?_, by omega, by omega⟩
  rw [e2, e, Nat.mul_comm]; exact hq.symm
theorem od_pos {m : Nat} (h0 : 0 < m) (hm : m < 18446744073709551616) : 0 < od m := by have := (tz_spec h0 hm).2.1; omega
theorem od_le {m : Nat} : od m ≤ m := Nat.div_le_self _ _
theorem bl_spec : ∀ (f m : Nat), m < 2 ^ f → m < 2 ^ Lib.bitLenAux f m ∧ (0 < m → 2 ^ Lib.bitLenAux f m ≤ 2 * m) ∧ Lib.bitLenAux f m ≤ f
  | 0, m, h => by simp at h; subst h; simp [Lib.bitLenAux]
  | f + 1, m, h => by
    rw [Lib.bitLenAux]
    by_cases c : m = 0
    · rw [if_pos c]; subst c; simp
    · rw [if_neg c]
      have hp := Nat.pow_succ (n := 2) (m := f)
      obtain ⟨h1, h2, h3⟩ := bl_spec f (m / 2) (by omega)
      rw [Nat.add_comm 1, Nat.pow_succ]
      refine ⟨by omega, fun _ => ?_, by omega⟩
      by_cases c2 : m / 2 = 0
      · have : m = 1 := by omega
        subst this
        have e : Lib.bitLenAux f (1 / 2) = 0 := by cases f <;> simp [Lib.bitLenAux]
        rw [e]; decide
      · have := h2 (by omega); omega
theorem bl_lt {m : Nat} (h : m < 18446744073709551616) : m < 2 ^ Lib.bitLen m := (bl_spec 64 m h).1
theorem bl_ge {m : Nat} (h : m < 18446744073709551616) (h0 : 0 < m) : 2 ^ Lib.bitLen m ≤ 2 * m := (bl_spec 64 m h).2.1 h0
theorem bl_le {m : Nat} (h : m < 18446744073709551616) : Lib.bitLen m ≤ 64 := (bl_spec 64 m h).2.2
theorem bl_pos {m : Nat} (h0 : 0 < m) : 0 < Lib.bitLen m := by
  unfold Lib.bitLen Lib.bitLenAux; rw [if_neg (by omega)]; omega
end Go.Proofs.YtajcapliokblfaaDoor.Bt
namespace Go.Proofs.YtajcapliokblfaaDoor.Bt
open Go Go.RowKit Ff
def Tabs (w : World) : Prop := TabAt 4 Lib.deBruijn64tab w ∧ 4 < w.heap.size
theorem Tabs.below {w w' : World} (h : Tabs w) (hb : Below w.heap.size w w') : Tabs w' :=
  ⟨fun j hj => by rw [hb.cell (p := ⟨4, j, none⟩) h.2]; exact h.1 j hj, Nat.lt_of_lt_of_le h.2 hb.size⟩
@[irreducible] def pm (x : Nat) : Nat := if rung x < 4503599627370496 then rung x else 4503599627370496 + rung x % 4503599627370496
@[irreducible] def pex (x : Nat) : Int := if rung x < 4503599627370496 then -1074 else -1074 + ((rung x / 4503599627370496 - 1 : Nat) : Int)
end Go.Proofs.YtajcapliokblfaaDoor.Bt
namespace Go.Proofs.YtajcapliokblfaaDoor
open Go Go.RowKit Nt
theorem tabs_of {w : World} (h : Globs glT w) : Bt.Tabs w := by
  have hlk : look 4 glT = some (Lib.deBruijn64tab.map fun (x : Nat) => AV.lit (.int .u8 (x : Nat))) := by
    unfold glT; rw [look_cons, if_pos rfl]
  obtain ⟨h1, h2⟩ := h _ _ hlk
  refine ⟨fun j hj => ?_, h1⟩
  obtain ⟨u, e, c⟩ := h2 j (AV.lit (.int .u8 ((Lib.deBruijn64tab[j]'hj : Nat) : Int))) (by rw [List.getElem?_map, List.getElem?_eq_getElem hj]; rfl)
  injection e with e
  rw [c, ← e]
  simp [List.getD, List.getElem?_eq_getElem hj]
end Go.Proofs.YtajcapliokblfaaDoor
namespace Go.Proofs.YtajcapliokblfaaDoor.Bt
open Go Go.RowKit Ff
@[irreducible] def mkR (q : Nat) (e : Int) : Nat := if e + Lib.bitLen q > -1022 then q * 2 ^ (53 - Lib.bitLen q) - 4503599627370496 + (e + Lib.bitLen q + 1022).toNat * 4503599627370496 else q * 2 ^ (e + 1074).toNat
def mkOk (q : Nat) (e : Int) : Prop := Lib.bitLen q ≤ 53 ∧ -1074 ≤ e ∧ e + Lib.bitLen q - 1 ≤ 1023
instance (q : Nat) (e : Int) : Decidable (mkOk q e) := by unfold mkOk; exact inferInstance
theorem Make_zero (neg : Bool) (e : Int) (w : World) :
    Calls Tryd.prog 99 #[.bool neg, .int .u64 0, .int .i64 e] w fun r w' => r = .returned (.tuple #[.float .f64 (wf neg 0), .bool true]) ∧ w = w' := by
  go_enter Tryd.func99, Tryd.ntmps99
  go_wp2_with (go_at_call 105; refine (signed_b neg 0 (by decide) _).mono ?_; rintro e w' ⟨rfl, rfl⟩)
  go_ret2
  exact ⟨rfl, rfl⟩
theorem Make_far (neg : Bool) (m : Nat) (h0 : m ≠ 0) (e : Int) (he : 1023 < e ∨ e < -1137) (w : World) :
    Calls Tryd.prog 99 #[.bool neg, .int .u64 m, .int .i64 e] w fun r w' => r = .returned (.tuple #[.float .f64 0, .bool false]) ∧ w = w' := by
  have hz : ((m : Int) == 0) = false := by rw [beq_eq_false_iff_ne]; omega
  rcases he with he | he
  · go_enter Tryd.func99, Tryd.ntmps99
    go_wp2
    go_ret2
    exact ⟨rfl, rfl⟩
  · have he2 : ¬ 1023 < e := by omega
    go_enter Tryd.func99, Tryd.ntmps99
    go_wp2
    go_ret2
    exact ⟨rfl, rfl⟩
theorem shr_tz {m : Nat} (h0 : 0 < m) (hm : m < 18446744073709551616) : (m : Int) / 2 ^ Lib.ctz 64 m = (od m : Int) := by
  unfold od tz; norm_cast
theorem mkOk_bits {q : Nat} {e : Int} (h : mkOk q e) : Lib.bitLen q ≤ 53 ∧ -1074 ≤ e ∧ e + Lib.bitLen q - 1 ≤ 1023 := h
theorem Make_bad (neg : Bool) (m : Nat) (h0 : 0 < m) (hm : m < 18446744073709551616) (e : Int) (he1 : e ≤ 1023) (he2 : -1137 ≤ e) (hk : ¬ mkOk (od m) (e + tz m)) (w : World) (ht : Tabs w) :
    Calls Tryd.prog 99 #[.bool neg, .int .u64 m, .int .i64 e] w fun r w' => r = .returned (.tuple #[.float .f64 0, .bool false]) ∧ w = w' := by
  have hz : ((m : Int) == 0) = false := by rw [beq_eq_false_iff_ne]; omega
  have g1 : ¬ 1023 < e := by omega
  have g2 : ¬ e < -1137 := by omega
  have hs := shr_tz h0 hm
  have hk' : Lib.ctz 64 m < 64 := (tz_spec h0 hm).2.2
  have hq1 : od m < 18446744073709551616 := Nat.lt_of_le_of_lt od_le hm
  have hb := bl_le hq1
  unfold mkOk tz at hk
  by_cases c1 : 53 < (Lib.bitLen (od m) : Int)
  · clear hk
    go_enter Tryd.func99, Tryd.ntmps99
    go_wp2_with (first | (go_at_call 106; refine (Tryd.bits_TrailingZeros64 _ (by omega) _ (fun _ => ht.1)).mono ?_; rintro e w' ⟨rfl, rfl⟩) | (go_at_call 91; refine (Tryd.bits_Len64 _ _ (by omega) (by omega)).mono ?_; rintro e w' ⟨rfl, rfl⟩))
    go_ret2
    exact ⟨rfl, rfl⟩
  · by_cases c2 : e + (Lib.ctz 64 m : Int) < -1074
    · clear hk
      go_enter Tryd.func99, Tryd.ntmps99
      go_wp2_with (first | (go_at_call 106; refine (Tryd.bits_TrailingZeros64 _ (by omega) _ (fun _ => ht.1)).mono ?_; rintro e w' ⟨rfl, rfl⟩) | (go_at_call 91; refine (Tryd.bits_Len64 _ _ (by omega) (by omega)).mono ?_; rintro e w' ⟨rfl, rfl⟩))
      go_ret2
      exact ⟨rfl, rfl⟩
    · have c3 : 1023 < e + (Lib.ctz 64 m : Int) + (Lib.bitLen (od m) : Int) - 1 := by omega
      clear hk
      go_enter Tryd.func99, Tryd.ntmps99
      go_wp2_with (first | (go_at_call 106; refine (Tryd.bits_TrailingZeros64 _ (by omega) _ (fun _ => ht.1)).mono ?_; rintro e w' ⟨rfl, rfl⟩) | (go_at_call 91; refine (Tryd.bits_Len64 _ _ (by omega) (by omega)).mono ?_; rintro e w' ⟨rfl, rfl⟩))
      go_ret2
      exact ⟨rfl, rfl⟩
theorem mul_lt_pow {q B k : Nat} (h : q < 2 ^ B) : q * 2 ^ k < 2 ^ (B + k) := by
  rw [Nat.pow_add]; exact Nat.mul_lt_mul_of_pos_right h (Nat.two_pow_pos k)
theorem mkR_sub {q : Nat} {e : Int} (h : ¬ e + Lib.bitLen q > -1022) : mkR q e = q * 2 ^ (e + 1074).toNat := by unfold mkR; rw [if_neg h]
theorem mkR_nor {q : Nat} {e : Int} (h : e + Lib.bitLen q > -1022) : mkR q e = q * 2 ^ (53 - Lib.bitLen q) - 4503599627370496 + (e + Lib.bitLen q + 1022).toNat * 4503599627370496 := by unfold mkR; rw [if_pos h]
theorem sub_small {q : Nat} {e : Int} (hq : q < 18446744073709551616) (h : mkOk q e) (hs : ¬ e + Lib.bitLen q > -1022) : q * 2 ^ (e + 1074).toNat < 4503599627370496 := by
  obtain ⟨h1, h2, h3⟩ := mkOk_bits h
  refine Nat.lt_of_lt_of_le (mul_lt_pow (bl_lt hq)) ?_
  have p := Nat.pow_le_pow_right (n := 2) (by decide) (show Lib.bitLen q + (e + 1074).toNat ≤ 52 by omega)
  exact p
theorem nor_small {q : Nat} {e : Int} (hq0 : 0 < q) (hq : q < 18446744073709551616) (h : mkOk q e) : 4503599627370496 ≤ q * 2 ^ (53 - Lib.bitLen q) ∧ q * 2 ^ (53 - Lib.bitLen q) < 9007199254740992 := by
  obtain ⟨h1, h2, h3⟩ := mkOk_bits h
  constructor
  · have g := bl_ge hq hq0
    have p : 2 ^ Lib.bitLen q * 2 ^ (53 - Lib.bitLen q) = 9007199254740992 := by rw [← Nat.pow_add, show Lib.bitLen q + (53 - Lib.bitLen q) = 53 by omega]
    have := Nat.mul_le_mul_right (2 ^ (53 - Lib.bitLen q)) g
    rw [p, Nat.mul_assoc] at this
    omega
  · have := mul_lt_pow (k := 53 - Lib.bitLen q) (bl_lt hq)
    rw [show Lib.bitLen q + (53 - Lib.bitLen q) = 53 by omega] at this
    exact this
theorem mkR_lt {q : Nat} {e : Int} (hq0 : 0 < q) (hq : q < 18446744073709551616) (h : mkOk q e) : mkR q e < 9218868437227405312 := by
  obtain ⟨h1, h2, h3⟩ := mkOk_bits h
  by_cases c : e + Lib.bitLen q > -1022
  · rw [mkR_nor c]
    have := (nor_small hq0 hq h).2
    omega
  · rw [mkR_sub c]
    have := sub_small hq h c
    omega
theorem cast_mul_pow (a k : Nat) : (a : Int) * 2 ^ k = ((a * 2 ^ k : Nat) : Int) := by rw [Int.natCast_mul, Int.natCast_pow]; rfl
theorem mk_sub {m : Nat} {e : Int} (hq : od m < 18446744073709551616) (h : mkOk (od m) (e + tz m)) (c : ¬ -1023 < e + (Lib.ctz 64 m : Int) + (Lib.bitLen (od m) : Int) - 1) :
    IntKind.u64.wrap ((od m : Int) * 2 ^ (e + (Lib.ctz 64 m : Int) + 1074).toNat) = (mkR (od m) (e + tz m) : Int) := by
  have c' : ¬ e + (tz m : Int) + Lib.bitLen (od m) > -1022 := by unfold tz; omega
  rw [mkR_sub c', IntKind.wrap_u64]
  have := sub_small hq h c'
  unfold tz at this ⊢
  rw [cast_mul_pow]
  omega
theorem mk_nor {m : Nat} {e : Int} (hq0 : 0 < od m) (hq : od m < 18446744073709551616) (h : mkOk (od m) (e + tz m)) (c : -1023 < e + (Lib.ctz 64 m : Int) + (Lib.bitLen (od m) : Int) - 1) :
    bits BinOp.or IntKind.u64 (bits BinOp.and IntKind.u64 (IntKind.u64.wrap ((od m : Int) * 2 ^ (53 - Lib.bitLen (od m)))) 4503599627370495)
      ((e + (Lib.ctz 64 m : Int) + (Lib.bitLen (od m) : Int) - 1 + 1023) * 4503599627370496) = (mkR (od m) (e + tz m) : Int) := by
  have c' : e + (tz m : Int) + Lib.bitLen (od m) > -1022 := by unfold tz; omega
  obtain ⟨n1, n2⟩ := nor_small hq0 hq h
  obtain ⟨h1, h2, h3⟩ := mkOk_bits h
  rw [mkR_nor c']
  have e1 : IntKind.u64.wrap ((od m : Int) * 2 ^ (53 - Lib.bitLen (od m))) = ((od m * 2 ^ (53 - Lib.bitLen (od m)) : Nat) : Int) := by
    rw [IntKind.wrap_u64, cast_mul_pow]; omega
  rw [e1]
  generalize od m * 2 ^ (53 - Lib.bitLen (od m)) = z at n1 n2
  rw [show (4503599627370495 : Int) = ((4503599627370495 : Nat) : Int) from rfl, u64_and_nat z _ (by omega) (by decide)]
  have e2 : z &&& 4503599627370495 = z - 4503599627370496 := by
    rw [show z &&& 4503599627370495 = z % 4503599627370496 from Nat.and_two_pow_sub_one_eq_mod z 52]; omega
  rw [e2]
  obtain ⟨k, hk⟩ : ∃ k : Nat, e + (Lib.ctz 64 m : Int) + (Lib.bitLen (od m) : Int) - 1 + 1023 = (k : Int) := ⟨(e + (Lib.ctz 64 m : Int) + (Lib.bitLen (od m) : Int) - 1 + 1023).toNat, by omega⟩
  have hk2 : (e + (tz m : Int) + (Lib.bitLen (od m) : Int) + 1022).toNat = k := by unfold tz; omega
  have hk3 : k ≤ 2046 := by unfold tz at h3; omega
  rw [hk2, hk, show (k : Int) * 4503599627370496 = ((k * 4503599627370496 : Nat) : Int) by omega, u64_or_nat _ _ (by omega) (by omega), Nat.or_comm]
  congr 1
  rw [nat_join 52 _ _ (by omega) (by omega), Nat.add_comm]
theorem Make_ok (neg : Bool) (m : Nat) (h0 : 0 < m) (hm : m < 18446744073709551616) (e : Int) (he1 : e ≤ 1023) (he2 : -1137 ≤ e) (hk : mkOk (od m) (e + tz m)) (w : World) (ht : Tabs w) :
    Calls Tryd.prog 99 #[.bool neg, .int .u64 m, .int .i64 e] w fun r w' => r = .returned (.tuple #[.float .f64 (wf neg (mkR (od m) (e + tz m))), .bool true]) ∧ w = w' := by
  have hz : ((m : Int) == 0) = false := by rw [beq_eq_false_iff_ne]; omega
  have g1 : ¬ 1023 < e := by omega
  have g2 : ¬ e < -1137 := by omega
  have hs := shr_tz h0 hm
  have hk' : Lib.ctz 64 m < 64 := (tz_spec h0 hm).2.2
  have hq1 : od m < 18446744073709551616 := Nat.lt_of_le_of_lt od_le hm
  have hb := bl_le hq1
  obtain ⟨k1, k2, k3⟩ := mkOk_bits hk
  unfold tz at k2 k3
  have c1 : ¬ 53 < (Lib.bitLen (od m) : Int) := by omega
  have c2 : ¬ e + (Lib.ctz 64 m : Int) < -1074 := by omega
  have c3 : ¬ 1023 < e + (Lib.ctz 64 m : Int) + (Lib.bitLen (od m) : Int) - 1 := by omega
  have hq0 := od_pos h0 hm
  have hlt := mkR_lt hq0 hq1 hk
  by_cases c4 : -1023 < e + (Lib.ctz 64 m : Int) + (Lib.bitLen (od m) : Int) - 1
  case' pos => have hr := mk_nor hq0 hq1 hk c4
  case' neg => have hr := mk_sub hq1 hk c4
  all_goals
    go_enter Tryd.func99, Tryd.ntmps99
    go_wp2_with (first | (go_at_call 106; refine (Tryd.bits_TrailingZeros64 _ (by omega) _ (fun _ => ht.1)).mono ?_; rintro e w' ⟨rfl, rfl⟩) | (go_at_call 91; refine (Tryd.bits_Len64 _ _ (by omega) (by omega)).mono ?_; rintro e w' ⟨rfl, rfl⟩) | (go_at_call 105; refine (signed_b neg _ (by omega) _).mono ?_; rintro e w' ⟨rfl, rfl⟩))
    go_ret2
    exact ⟨rfl, rfl⟩
end Go.Proofs.YtajcapliokblfaaDoor.Bt
namespace Go.Proofs.YtajcapliokblfaaDoor.Bt
open Go Go.RowKit Ff
@[irreducible] def shl (q k : Nat) : Nat := q * 2 ^ k
@[irreducible] def shlB (q k : Nat) : Bool := decide (shl q k < 4503599627370496)
theorem shlB_true (q k : Nat) : shlB q k = true ↔ shl q k < 4503599627370496 := by unfold shlB; exact decide_eq_true_iff
@[local go_sem] theorem lt_shl (q k : Nat) : decide ((shl q k : Int) < 4503599627370496) = shlB q k := by
  rw [Bool.eq_iff_iff, decide_eq_true_iff, shlB_true]; omega
end Go.Proofs.YtajcapliokblfaaDoor.Bt
namespace Go.Proofs.YtajcapliokblfaaDoor.Bt
open Go Go.RowKit Ff
@[irreducible] def mkB (m : Nat) (e : Int) : Bool := decide (m = 0 ∨ mkOk (od m) (e + tz m))
@[irreducible] def mkF (neg : Bool) (m : Nat) (e : Int) : Nat := if m = 0 then wf neg 0 else if mkOk (od m) (e + tz m) then wf neg (mkR (od m) (e + tz m)) else 0
theorem mkB_zero (e : Int) : mkB 0 e = true := by unfold mkB; simp
theorem mkF_zero (neg : Bool) (e : Int) : mkF neg 0 e = wf neg 0 := by unfold mkF; simp
theorem mkB_ok {m : Nat} {e : Int} (h : mkOk (od m) (e + tz m)) : mkB m e = true := by unfold mkB; simp [h]
theorem mkF_ok {neg : Bool} {m : Nat} {e : Int} (h0 : 0 < m) (h : mkOk (od m) (e + tz m)) : mkF neg m e = wf neg (mkR (od m) (e + tz m)) := by
  unfold mkF; rw [if_neg (by omega), if_pos h]
theorem mkB_no {m : Nat} {e : Int} (h0 : 0 < m) (h : ¬ mkOk (od m) (e + tz m)) : mkB m e = false := by
  unfold mkB; rw [decide_eq_false_iff_not]; intro c; rcases c with c | c
  · omega
  · exact h c
theorem mkF_no {neg : Bool} {m : Nat} {e : Int} (h0 : 0 < m) (h : ¬ mkOk (od m) (e + tz m)) : mkF neg m e = 0 := by
  unfold mkF; rw [if_neg (by omega), if_neg h]
theorem far_no {m : Nat} {e : Int} (h0 : 0 < m) (hm : m < 18446744073709551616) (he : 1023 < e ∨ e < -1137) : ¬ mkOk (od m) (e + tz m) := by
  have h := tz_spec h0 hm
  have hp := bl_pos (od_pos h0 hm)
  intro c
  obtain ⟨c1, c2, c3⟩ := mkOk_bits c
  omega
theorem Make_c (neg : Bool) (m : Nat) (hm : m < 18446744073709551616) (e : Int) (w : World) (ht : Tabs w) :
    Calls Tryd.prog 99 #[.bool neg, .int .u64 m, .int .i64 e] w fun r w' => r = .returned (.tuple #[.float .f64 (mkF neg m e), .bool (mkB m e)]) ∧ w = w' := by
  by_cases h0 : m = 0
  · subst h0; rw [mkF_zero, mkB_zero]; exact Make_zero neg e w
  · by_cases hf : 1023 < e ∨ e < -1137
    · have hn := far_no (by omega) hm hf
      rw [mkF_no (by omega) hn, mkB_no (by omega) hn]; exact Make_far neg m h0 e hf w
    · by_cases hk : mkOk (od m) (e + tz m)
      · rw [mkF_ok (by omega) hk, mkB_ok hk]; exact Make_ok neg m (by omega) hm e (by omega) (by omega) hk w ht
      · rw [mkF_no (by omega) hk, mkB_no (by omega) hk]; exact Make_bad neg m (by omega) hm e (by omega) (by omega) hk w ht
end Go.Proofs.YtajcapliokblfaaDoor.Bt
namespace Go.Proofs.YtajcapliokblfaaDoor
open Go Go.RowKit Nt
@[irreducible] def pk (m : Nat) (q : Int) : Nat := (q + 1074).toNat * 4503599627370496 + m
theorem pk_eq (m : Nat) (q : Int) : pk m q = (q + 1074).toNat * 4503599627370496 + m := by unfold pk; rfl
theorem pk_lt {m : Nat} {q : Int} (h1 : m ≤ 9007199254740992) (h2 : q ≤ 971) : pk m q ≤ 9218868437227405312 := by rw [pk_eq]; omega
theorem pow_lt_of {a b : Nat} (h : 2 ^ a < 2 ^ b) : a < b := (Nat.pow_lt_pow_iff_right (by omega)).1 h
theorem mk_pk {m : Nat} {q : Int} (h0 : 0 < m) (h1 : m ≤ 9007199254740992) (hq : -1074 ≤ q) (hq2 : q ≤ 971) (hm : 4503599627370496 ≤ m ∨ q = -1074) (hn : ¬ (m = 9007199254740992 ∧ q = 971)) :
    Bt.mkOk (Bt.od m) (q + Bt.tz m) ∧ Bt.mkR (Bt.od m) (q + Bt.tz m) = pk m q := by
  have h64 : m < 18446744073709551616 := by omega
  obtain ⟨e1, e2, _⟩ := Bt.tz_spec h0 h64
  have ho := Bt.od_pos h0 h64
  have ho64 : Bt.od m < 18446744073709551616 := Nat.lt_of_le_of_lt Bt.od_le h64
  have b1 := Bt.bl_lt ho64
  have b2 := Bt.bl_ge ho64 ho
  rw [pk_eq]
  revert e1 e2 ho b1 b2
  generalize Bt.tz m = z
  unfold Bt.mkOk
  generalize Bt.od m = o
  have Z := @Bt.mkR_nor o (q + z)
  have Y := @Bt.mkR_sub o (q + z)
  revert Z Y
  generalize Lib.bitLen o = B
  intro Z Y e1 e2 ho b1 b2
  have zp := Nat.two_pow_pos z
  have c1 : m < 2 ^ (B + z) := by rw [← e1, Nat.pow_add]; exact Nat.mul_lt_mul_of_pos_right b1 zp
  have c2 : 2 ^ (B + z) ≤ 2 * m := by rw [← e1, Nat.pow_add, ← Nat.mul_assoc]; exact Nat.mul_le_mul_right _ b2
  have p52 : (2 : Nat) ^ 52 = 4503599627370496 := by decide
  have p53 : (2 : Nat) ^ 53 = 9007199254740992 := by decide
  have p54 : (2 : Nat) ^ 54 = 18014398509481984 := by decide
  by_cases hb : m = 9007199254740992
  · have k1 : B + z < 55 := pow_lt_of (by rw [show (2:Nat)^55 = 36028797018963968 by decide]; omega)
    have k2 : 53 < B + z := pow_lt_of (by omega)
    have kz : z ≠ 0 := by rintro rfl; rw [Nat.pow_zero, Nat.mul_one] at e1; omega
    refine ⟨⟨by omega, by omega, by omega⟩, ?_⟩
    rw [Z (by omega), show 53 - B = z - 1 by omega]
    have e3 : o * 2 ^ (z - 1) * 2 = m := by rw [Nat.mul_assoc, ← Nat.pow_succ, show (z - 1).succ = z by omega, e1]
    omega
  · have k1 : B + z < 54 := pow_lt_of (by omega)
    by_cases hs : 4503599627370496 ≤ m
    · have k2 : 52 < B + z := pow_lt_of (by omega)
      refine ⟨⟨by omega, by omega, by omega⟩, ?_⟩
      rw [Z (by omega), show 53 - B = z by omega, e1]
      omega
    · have k2 : B + z < 53 := pow_lt_of (by omega)
      obtain rfl : q = -1074 := by omega
      refine ⟨⟨by omega, by omega, by omega⟩, ?_⟩
      rw [Y (by omega), show (-1074 + (z : Int) + 1074).toNat = z by omega, e1]
      omega
end Go.Proofs.YtajcapliokblfaaDoor
namespace Go.Proofs.YtajcapliokblfaaDoor
open Go Go.RowKit Nt
end Go.Proofs.YtajcapliokblfaaDoor
namespace Go.Proofs.YtajcapliokblfaaDoor
open Go Go.RowKit Nt
structure Dt where
  g : Bool
  s : ByteArray
  x : Int
def Dt.v (t : Dt) : Value := .agg #[.bool t.g, .string t.s, .int .i64 t.x]
def Dt.Ok (t : Dt) : Prop := DOk t.g t.s t.x
theorem Dt.small {t : Dt} (h : t.Ok) : t.s.size ≤ 16384 := by
  rcases h with ⟨h, _⟩ | ⟨n, hf, _, h, _⟩
  · rw [h]; decide
  · rw [h, natS_size]; exact hf
def Dts (w : World) (A : Option Addr) (l : List Dt) : Prop := 0 < l.length → ∃ ad, A = some ad ∧ ad.block < w.heap.size ∧ ∀ j (h : j < l.length), w.cell? (ad.add (j * 3)) = some (.bool l[j].g) ∧ w.cell? ⟨(ad.add (j * 3)).block, (ad.add (j * 3)).off + 1, none⟩ = some (.string l[j].s) ∧ w.cell? ⟨(ad.add (j * 3)).block, (ad.add (j * 3)).off + 2, none⟩ = some (.int .i64 l[j].x)
theorem Dts.below {w w' : World} {A : Option Addr} {l : List Dt} (h : Dts w A l) (hb : Below w.heap.size w w') : Dts w' A l := fun h0 => by
  obtain ⟨ad, e, hl, hc⟩ := h h0
  refine ⟨ad, e, Nat.lt_of_lt_of_le hl hb.size, fun j hj => ?_⟩
  obtain ⟨c1, c2, c3⟩ := hc j hj
  exact ⟨(hb.cell (p := ad.add (j * 3)) (by rw [block_of_add']; exact hl)).trans c1, (hb.cell (p := ⟨(ad.add (j * 3)).block, (ad.add (j * 3)).off + 1, none⟩) (by show (ad.add (j * 3)).block < _; rw [block_of_add']; exact hl)).trans c2, (hb.cell (p := ⟨(ad.add (j * 3)).block, (ad.add (j * 3)).off + 2, none⟩) (by show (ad.add (j * 3)).block < _; rw [block_of_add']; exact hl)).trans c3⟩
end Go.Proofs.YtajcapliokblfaaDoor
namespace Go.Proofs.YtajcapliokblfaaDoor
open Go Go.RowKit Nt
def BoxAt (w : World) (B : Nat) (g : Bool) (s : ByteArray) (x : Int) : Prop := B < w.heap.size ∧ w.cell? ⟨B, 0, none⟩ = some (.bool g) ∧ w.cell? ⟨B, 1, none⟩ = some (.string s) ∧ w.cell? ⟨B, 2, none⟩ = some (.int .i64 x)
theorem BoxAt.step {w w' : World} {B : Nat} {g : Bool} {s : ByteArray} {x : Int} (h : BoxAt w B g s x) (hb : Below w.heap.size w w') : BoxAt w' B g s x := by
  obtain ⟨h0, h1, h2, h3⟩ := h
  exact ⟨Nat.lt_of_lt_of_le h0 hb.size, (hb.cell (p := ⟨B, 0, none⟩) h0).trans h1, (hb.cell (p := ⟨B, 1, none⟩) h0).trans h2, (hb.cell (p := ⟨B, 2, none⟩) h0).trans h3⟩
theorem BoxAt.new (w : World) (g : Bool) (s : ByteArray) (x : Int) (T : TypeId) : BoxAt (w.alloc (.cells #[.bool g, .string s, .int .i64 x] T)) w.heap.size g s x :=
  ⟨by simp, (World.cell?_alloc_at _ _ _ _ rfl).trans rfl, (World.cell?_alloc_at _ _ _ _ rfl).trans rfl, (World.cell?_alloc_at _ _ _ _ rfl).trans rfl⟩
def On1 (w : World) (g : Bool) (s : ByteArray) (x : Int) (wc : World) : Prop := Below w.heap.size w wc ∧ BoxAt wc w.heap.size g s x
theorem On1.step {w : World} {g : Bool} {s : ByteArray} {x : Int} {wc w' : World} (h : On1 w g s x wc) (hb : Below wc.heap.size wc w') : On1 w g s x w' := ⟨below_chain h.1 hb, h.2.step hb⟩
theorem On1.new (w : World) (g : Bool) (s : ByteArray) (x : Int) (T : TypeId) : On1 w g s x (w.alloc (.cells #[.bool g, .string s, .int .i64 x] T)) := ⟨(Below.refl _ _).alloc (Nat.le_refl _) _, BoxAt.new w g s x T⟩
def On2 (w : World) (g : Bool) (s : ByteArray) (x : Int) (B : Nat) (wc : World) : Prop := On1 w g s x wc ∧ BoxAt wc B false s x
theorem On2.step {w : World} {g : Bool} {s : ByteArray} {x : Int} {B : Nat} {wc w' : World} (h : On2 w g s x B wc) (hb : Below wc.heap.size wc w') : On2 w g s x B w' := ⟨h.1.step hb, h.2.step hb⟩
theorem On2.start {w : World} {g : Bool} {s : ByteArray} {x : Int} {w1 : World} {T : TypeId} (h : On1 w g s x w1) : On2 w g s x w1.heap.size ((w1.alloc (.cells #[.bool false, .string s, .int .i64 x] T)).drew) := by
  have e : Below w1.heap.size w1 (w1.alloc (.cells #[.bool false, .string s, .int .i64 x] T)) := (Below.refl _ _).alloc (Nat.le_refl _) _
  exact ⟨h.step e.drew, (BoxAt.new w1 false s x T).step (Below.refl _ _).drew⟩
end Go.Proofs.YtajcapliokblfaaDoor
namespace Go.Proofs.YtajcapliokblfaaDoor
open Go Go.RowKit Nt
def Dy.t (d : Dy) : Dt := ⟨d.g, natS d.n, d.x⟩
theorem Dy.t_ok {d : Dy} (h : d.Num) : d.t.Ok := Or.inr ⟨d.n, h.1, h.2.1, rfl, h.2.2.1, h.2.2.2⟩
end Go.Proofs.YtajcapliokblfaaDoor
namespace Go.Proofs.YtajcapliokblfaaDoor
open Go Go.RowKit Nt
theorem Dy.ok_t {d : Dy} (h : d.Ok) : d.t.Ok := by
  rcases h with rfl | h
  · exact Or.inl ⟨natS_zero, rfl, rfl⟩
  · exact Dy.t_ok h
theorem Dy.small {d : Dy} (h : d.Ok) : (natS d.n).size ≤ 16384 := Dt.small (Dy.ok_t h)
end Go.Proofs.YtajcapliokblfaaDoor
namespace Go.Proofs.YtajcapliokblfaaDoor
open Go Go.RowKit Nt
end Go.Proofs.YtajcapliokblfaaDoor
namespace Go.Proofs.YtajcapliokblfaaDoor
open Go Go.RowKit Nt
end Go.Proofs.YtajcapliokblfaaDoor
namespace Go.Proofs.YtajcapliokblfaaDoor
open Go Go.RowKit Nt
end Go.Proofs.YtajcapliokblfaaDoor
namespace Go.Proofs.YtajcapliokblfaaDoor
open Go Go.RowKit Nt
theorem DRow.below {w w' : World} {A : Option Addr} {n L : Nat} (h : DRow w A n L) (hb : Below w.heap.size w w') : DRow w' A n L := fun j hj => by
  obtain ⟨g, e, hg, hc⟩ := h j hj
  exact ⟨g, e, Nat.lt_of_lt_of_le hg hb.size, (hb.cell (p := ⟨g, j, none⟩) hg).trans hc⟩
end Go.Proofs.YtajcapliokblfaaDoor
set_option linter.unusedSectionVars false
namespace Go.Proofs.YtajcapliokblfaaDoor
open Go Go.RowKit Nt
theorem natS_inj {m n : Nat} : natS m = natS n ↔ m = n := by
  constructor
  · intro h
    have : (natS m).toList = (natS n).toList := by rw [h]
    exact (natS_list_eq m n).1 this
  · rintro rfl; rfl
section
variable [Env]
end
def Dy.one : Dy := ⟨false, 1, 0⟩
end Go.Proofs.YtajcapliokblfaaDoor
namespace Go.Proofs.YtajcapliokblfaaDoor
open Go Go.RowKit Nt
@[irreducible] def okP (m : Nat) (q : Int) : Bool := decide (¬ (m = 9007199254740992 ∧ q = 971))
theorem okP_iff {m : Nat} {q : Int} : okP m q = true ↔ ¬ (m = 9007199254740992 ∧ q = 971) := by unfold okP; exact decide_eq_true_iff
theorem okP_lt {m : Nat} {q : Int} (h : m < 9007199254740992) : okP m q = true := okP_iff.2 (fun c => by omega)
@[irreducible] def mkW (g : Bool) (m : Nat) (q : Int) : Nat := if okP m q = true then Bt.wf g (pk m q) else 0
theorem mkW_ok {g : Bool} {m : Nat} {q : Int} (h : okP m q = true) : mkW g m q = Bt.wf g (pk m q) := by unfold mkW; rw [if_pos h]
theorem wf_f (x : Nat) : Bt.wf false x = x := by rw [Bt.wf_eq]; rfl
theorem inf_f {m : Nat} {q : Int} (h : ¬ okP m q = true) : Bt.wf false (pk m q) = 9218868437227405312 := by
  have h := Classical.not_not.1 (fun c => h (okP_iff.2 c))
  rw [h.1, h.2, wf_f, pk_eq]; rfl
theorem inf_t {m : Nat} {q : Int} (h : ¬ okP m q = true) : Bt.wf true (pk m q) = 18442240474082181120 := by
  have h := Classical.not_not.1 (fun c => h (okP_iff.2 c))
  rw [h.1, h.2, Bt.wf_eq, if_pos rfl, Bt.topped_eq, pk_eq]; rfl
theorem pk_zero : pk 0 (-1074) = 0 := by rw [pk_eq]; rfl
theorem bMake_i (g : Bool) (m : Nat) (q : Int) (w : World) (h1 : m ≤ 9007199254740992) (hq : -1074 ≤ q) (hq2 : q ≤ 971) (hm : 4503599627370496 ≤ m ∨ q = -1074) {b : Bool} (hb : b = true ↔ okP m q = true) (hG : Globs glT w) :
    Calls Tryd.prog 99 #[.bool g, .int .u64 m, .int .i64 q] w fun e w' => e = .returned (.tuple #[.float .f64 (mkW g m q), .bool b]) ∧ Below w.heap.size w w' := by
  refine (Bt.Make_c g m (by omega) q w (tabs_of hG)).mono ?_
  rintro e w' ⟨rfl, rfl⟩
  refine ⟨?_, Below.refl _ _⟩
  rw [Bool.eq_iff_iff.2 hb]
  by_cases h0 : m = 0
  · subst h0
    obtain rfl : q = -1074 := by omega
    rw [Bt.mkF_zero, Bt.mkB_zero, mkW_ok (okP_lt (by omega)), okP_lt (by omega), pk_zero]
  · by_cases hk : m = 9007199254740992 ∧ q = 971
    · obtain ⟨rfl, rfl⟩ := hk
      have e1 : ¬ okP 9007199254740992 971 = true := fun c => okP_iff.1 c ⟨rfl, rfl⟩
      have e2 : ¬ Bt.mkOk (Bt.od 9007199254740992) ((971 : Int) + Bt.tz 9007199254740992) := by
        rintro ⟨_, _, c⟩
        have h3 := Bt.tz_spec (m := 9007199254740992) (by omega) (by omega)
        have h4 := Bt.bl_lt (m := Bt.od 9007199254740992) (Nat.lt_of_le_of_lt Bt.od_le (by omega))
        revert h3 h4 c
        generalize Bt.tz 9007199254740992 = z
        generalize Bt.od 9007199254740992 = o
        generalize Lib.bitLen o = B
        intro c h3 h4
        have h5 : 9007199254740992 < 2 ^ (B + z) := by rw [← h3.1, Nat.pow_add]; exact Nat.mul_lt_mul_of_pos_right h4 (Nat.two_pow_pos z)
        have h6 : 53 < B + z := pow_lt_of (by rw [show (2 : Nat) ^ 53 = 9007199254740992 by decide]; exact h5)
        omega
      rw [Bt.mkF_no (by omega) e2, Bt.mkB_no (by omega) e2, Bool.eq_false_iff.2 e1]
      unfold mkW; rw [if_neg e1]
    · obtain ⟨e1, e2⟩ := mk_pk (by omega) h1 hq hq2 hm hk
      have e3 : okP m q = true := okP_iff.2 hk
      rw [Bt.mkF_ok (by omega) e1, Bt.mkB_ok e1, e2, mkW_ok e3, e3]
section
variable [Env]
theorem opt_add64 {P : Program} {t : TypeId} {a b r : AV} {x y z : Nat} (ha : gval a = .int .u64 x) (hb : gval b = .int .u64 y) (hr : ground r = true) (hv : gval r = .int .u64 z) (h : x + y = z) (h1 : z < 18446744073709551616) : OpT P [0, 0, t] [a, b] r :=
  opt_int (op := .add) ha hb hr hv fun w => by
    have : IntKind.u64.wrap ((x : Int) + (y : Int)) = z := by rw [IntKind.wrap_u64]; omega
    simp [binOp, Op.intArith, this]
theorem opt_odd {P : Program} {t : TypeId} {a b r : AV} {x : Nat} (ha : gval a = .int .u64 x) (hb : gval b = .int .u64 1) (hr : ground r = true) (hv : gval r = .int .u64 (x % 2 : Nat)) (h1 : x < 18446744073709551616) : OpT P [0, 5, t] [a, b] r :=
  opt_int (op := .and) ha hb hr hv fun w => by
    have : bits BinOp.and IntKind.u64 (x : Int) 1 = ((x % 2 : Nat) : Int) := by
      have e1 : (BitVec.ofInt 64 (x : Int)).toNat = x := by
        rw [BitVec.ofInt_natCast, BitVec.toNat_ofNat]; exact Nat.mod_eq_of_lt (by omega)
      have e2 : (BitVec.ofInt 64 (1 : Int)).toNat = 1 := by decide
      show IntKind.u64.wrap ((BitVec.ofInt 64 (x : Int) &&& BitVec.ofInt 64 (1 : Int)).toNat : Int) = _
      rw [BitVec.toNat_and, e1, e2, Nat.and_one_is_mod, IntKind.wrap_u64]
      omega
    go_simp
end
end Go.Proofs.YtajcapliokblfaaDoor
namespace Go.Proofs.YtajcapliokblfaaDoor
open Go Go.RowKit Nt
@[reducible] def RF_Near_f0_f : FuncId := 81
@[reducible] def RF_Near_f0_a : List AV := [.lit (.bool false), .sym 0, .sym 1, .lit (.int .u8 0), .lit (.func (.func 62) #[] #[])]
@[reducible] noncomputable def RF_Near_f0_k : Know := ⟨[],
  [(99, [.lit (.bool false), .sym 0, .sym 1], .tup [.sym 2, .lit (.bool true)])]⟩
theorem RF_Near_f0_r1 : @comes RF_Near_f0_k Tryd.prog glT 3000 RF_Near_f0_f RF_Near_f0_a = some (.sym 2) := by kernel_rfl
set_option maxRecDepth 100000 in
set_option maxHeartbeats 4000000 in
theorem RF_Near_f0 (m : Nat) (q : Int) (w : World) (hG : Globs glT w) (hm : m < 9007199254740992) (hq1 : -1074 ≤ q) (hq2 : q ≤ 971) (hmn : 4503599627370496 ≤ m ∨ q = -1074) : Calls Tryd.prog 81 #[.bool false, .int .u64 (((m : Nat) : Int)), .int .i64 q, .int .u8 0, .func (.func 62) #[] #[]] w fun e w' => e = .returned (.float .f64 (Bt.wf false (pk (m) q))) ∧ Below w.heap.size w w' := by
  have h1 : okP m q = true := okP_lt hm
  have i1 : true = true ↔ (okP m q = true) := ⟨fun _ => h1, fun _ => rfl⟩
  letI : Env := mkEnv glT [.int .u64 (((m : Nat) : Int)), .int .i64 q, .float .f64 (mkW false m q)] rfl
  have hops : OpsT Tryd.prog (@Know.ops RF_Near_f0_k) := trivial
  have hcalls : CallsT Tryd.prog (@Know.calls RF_Near_f0_k) := ⟨callt rfl rfl fun w hG => bMake_i false m q w (by omega) hq1 hq2 hmn i1 hG,
    trivial⟩
  have fin : ∀ v, @comes RF_Near_f0_k Tryd.prog glT 3000 RF_Near_f0_f RF_Near_f0_a = some v → ground v = true → Ending.returned (gval v) = .returned (.float .f64 (Bt.wf false (pk (m) q))) → Calls Tryd.prog 81 #[.bool false, .int .u64 (((m : Nat) : Int)), .int .i64 q, .int .u8 0, .func (.func 62) #[] #[]] w fun e w' => e = .returned (.float .f64 (Bt.wf false (pk (m) q))) ∧ Below w.heap.size w w' := fun v h1 h2 h3 => (@sym_ok _ RF_Near_f0_k _ (@KnowOk.of _ RF_Near_f0_k _ hops hcalls) (by kernel_rfl) _ _ _ _ h1 rfl h2 _ hG).mono fun e w' h => ⟨h.1.trans h3, h.2⟩
  clear hops hcalls
  exact fin _ (RF_Near_f0_r1) rfl (show Ending.returned (.float .f64 (mkW false m q)) = .returned (.float .f64 (Bt.wf false (pk (m) q))) from by rw [mkW_ok h1])
@[reducible] def RF_Near_f1_f : FuncId := 81
@[reducible] def RF_Near_f1_a : List AV := [.lit (.bool false), .sym 0, .sym 1, .lit (.int .u8 1), .lit (.func (.func 62) #[] #[])]
@[reducible] noncomputable def RF_Near_f1_k (b2 : Bool) : Know := ⟨[([0, 5, 67], [.sym 0, .lit (.int .u64 1)], .sym 3),
  ([0, 11, 67], [.sym 3, .lit (.int .u64 1)], .lit (.bool b2))],
  [(99, [.lit (.bool false), .sym 0, .sym 1], .tup [.sym 2, .lit (.bool true)])]⟩
theorem RF_Near_f1_r1 : @comes (RF_Near_f1_k true) Tryd.prog glT 3000 RF_Near_f1_f RF_Near_f1_a = some (.sym 2) := by kernel_rfl
theorem RF_Near_f1_r2 : @comes (RF_Near_f1_k false) Tryd.prog glT 3000 RF_Near_f1_f RF_Near_f1_a = some (.sym 2) := by kernel_rfl
set_option maxRecDepth 100000 in
set_option maxHeartbeats 4000000 in
theorem RF_Near_f1 (m : Nat) (q : Int) (w : World) (hG : Globs glT w) (hm : m < 9007199254740992) (hq1 : -1074 ≤ q) (hq2 : q ≤ 971) (hmn : 4503599627370496 ≤ m ∨ q = -1074) : Calls Tryd.prog 81 #[.bool false, .int .u64 (((m : Nat) : Int)), .int .i64 q, .int .u8 1, .func (.func 62) #[] #[]] w fun e w' => e = .returned (.float .f64 (Bt.wf false (pk (m) q))) ∧ Below w.heap.size w w' := by
  have h1 : okP m q = true := okP_lt hm
  have i1 : true = true ↔ (okP m q = true) := ⟨fun _ => h1, fun _ => rfl⟩
  obtain ⟨b2, i2⟩ := bex (((m % 2 : Nat) : Int) = 1)
  letI : Env := mkEnv glT [.int .u64 (((m : Nat) : Int)), .int .i64 q, .float .f64 (mkW false m q), .int .u64 (((m % 2 : Nat) : Int))] rfl
  have hops : OpsT Tryd.prog (@Know.ops (RF_Near_f1_k b2)) := ⟨opt_odd rfl rfl rfl rfl (by omega),
    opt_eql_i rfl rfl i2,
    trivial⟩
  have hcalls : CallsT Tryd.prog (@Know.calls (RF_Near_f1_k b2)) := ⟨callt rfl rfl fun w hG => bMake_i false m q w (by omega) hq1 hq2 hmn i1 hG,
    trivial⟩
  have fin : ∀ v, @comes (RF_Near_f1_k b2) Tryd.prog glT 3000 RF_Near_f1_f RF_Near_f1_a = some v → ground v = true → Ending.returned (gval v) = .returned (.float .f64 (Bt.wf false (pk (m) q))) → Calls Tryd.prog 81 #[.bool false, .int .u64 (((m : Nat) : Int)), .int .i64 q, .int .u8 1, .func (.func 62) #[] #[]] w fun e w' => e = .returned (.float .f64 (Bt.wf false (pk (m) q))) ∧ Below w.heap.size w w' := fun v h1 h2 h3 => (@sym_ok _ (RF_Near_f1_k b2) _ (@KnowOk.of _ (RF_Near_f1_k b2) _ hops hcalls) (by kernel_rfl) _ _ _ _ h1 rfl h2 _ hG).mono fun e w' h => ⟨h.1.trans h3, h.2⟩
  clear hops hcalls
  cases b2 with
  | true =>
    have h2 : ((m % 2 : Nat) : Int) = 1 := i2.1 rfl
    exact fin _ (RF_Near_f1_r1) rfl (show Ending.returned (.float .f64 (mkW false m q)) = .returned (.float .f64 (Bt.wf false (pk (m) q))) from by rw [mkW_ok h1])
  | false =>
    have h2 : ¬ (((m % 2 : Nat) : Int) = 1) := fun c => Bool.false_ne_true (i2.2 c)
    exact fin _ (RF_Near_f1_r2) rfl (show Ending.returned (.float .f64 (mkW false m q)) = .returned (.float .f64 (Bt.wf false (pk (m) q))) from by rw [mkW_ok h1])
@[reducible] def RF_Near_f2o_f : FuncId := 81
@[reducible] def RF_Near_f2o_a : List AV := [.lit (.bool false), .sym 0, .sym 1, .lit (.int .u8 2), .lit (.func (.func 62) #[] #[])]
@[reducible] noncomputable def RF_Near_f2o_k (b1 b2 b3 : Bool) : Know := ⟨[([0, 5, 67], [.sym 0, .lit (.int .u64 1)], .sym 2),
  ([0, 11, 67], [.sym 2, .lit (.int .u64 1)], .lit (.bool b1)),
  ([0, 0, 67], [.sym 0, .lit (.int .u64 1)], .sym 3)],
  [(99, [.lit (.bool false), .sym 3, .sym 1], .tup [.sym 4, .lit (.bool b2)]),
  (99, [.lit (.bool false), .sym 0, .sym 1], .tup [.sym 5, .lit (.bool b3)])]⟩
theorem RF_Near_f2o_r1 (b3 : Bool) : @comes (RF_Near_f2o_k true true b3) Tryd.prog glT 3000 RF_Near_f2o_f RF_Near_f2o_a = some (.sym 4) := by kernel_rfl
theorem RF_Near_f2o_r2 (b3 : Bool) : @comes (RF_Near_f2o_k true false b3) Tryd.prog glT 3000 RF_Near_f2o_f RF_Near_f2o_a = some (.lit (.float .f64 9218868437227405312)) := by kernel_rfl
set_option maxRecDepth 100000 in
set_option maxHeartbeats 4000000 in
theorem RF_Near_f2o (m : Nat) (q : Int) (w : World) (hG : Globs glT w) (hm : m < 9007199254740992) (hq1 : -1074 ≤ q) (hq2 : q ≤ 971) (hmn : 4503599627370496 ≤ m ∨ q = -1074) (ho : m % 2 = 1) : Calls Tryd.prog 81 #[.bool false, .int .u64 (((m : Nat) : Int)), .int .i64 q, .int .u8 2, .func (.func 62) #[] #[]] w fun e w' => e = .returned (.float .f64 (Bt.wf false (pk (m + 1) q))) ∧ Below w.heap.size w w' := by
  obtain ⟨b1, i1⟩ := bex (((m % 2 : Nat) : Int) = 1)
  obtain ⟨b2, i2⟩ := bex (okP (m + 1) q = true)
  obtain ⟨b3, i3⟩ := bex (okP m q = true)
  letI : Env := mkEnv glT [.int .u64 (((m : Nat) : Int)), .int .i64 q, .int .u64 (((m % 2 : Nat) : Int)), .int .u64 (((m + 1 : Nat) : Int)), .float .f64 (mkW false (m + 1) q), .float .f64 (mkW false m q)] rfl
  have hops : OpsT Tryd.prog (@Know.ops (RF_Near_f2o_k b1 b2 b3)) := ⟨opt_odd rfl rfl rfl rfl (by omega),
    opt_eql_i rfl rfl i1,
    opt_add64 (y := 1) rfl rfl rfl rfl rfl (by omega),
    trivial⟩
  have hcalls : CallsT Tryd.prog (@Know.calls (RF_Near_f2o_k b1 b2 b3)) := ⟨callt rfl rfl fun w hG => bMake_i false (m + 1) q w (by omega) hq1 hq2 (hmn.imp (fun h => Nat.le_succ_of_le h) id) i2 hG,
    callt rfl rfl fun w hG => bMake_i false m q w (by omega) hq1 hq2 hmn i3 hG,
    trivial⟩
  have fin : ∀ v, @comes (RF_Near_f2o_k b1 b2 b3) Tryd.prog glT 3000 RF_Near_f2o_f RF_Near_f2o_a = some v → ground v = true → Ending.returned (gval v) = .returned (.float .f64 (Bt.wf false (pk (m + 1) q))) → Calls Tryd.prog 81 #[.bool false, .int .u64 (((m : Nat) : Int)), .int .i64 q, .int .u8 2, .func (.func 62) #[] #[]] w fun e w' => e = .returned (.float .f64 (Bt.wf false (pk (m + 1) q))) ∧ Below w.heap.size w w' := fun v h1 h2 h3 => (@sym_ok _ (RF_Near_f2o_k b1 b2 b3) _ (@KnowOk.of _ (RF_Near_f2o_k b1 b2 b3) _ hops hcalls) (by kernel_rfl) _ _ _ _ h1 rfl h2 _ hG).mono fun e w' h => ⟨h.1.trans h3, h.2⟩
  clear hops hcalls
  cases b1 with
  | true =>
    have h1 : ((m % 2 : Nat) : Int) = 1 := i1.1 rfl
    cases b2 with
    | true =>
      have h2 : okP (m + 1) q = true := i2.1 rfl
      exact fin _ (RF_Near_f2o_r1 b3) rfl (show Ending.returned (.float .f64 (mkW false (m + 1) q)) = .returned (.float .f64 (Bt.wf false (pk (m + 1) q))) from by rw [mkW_ok h2])
    | false =>
      have h2 : ¬ (okP (m + 1) q = true) := fun c => Bool.false_ne_true (i2.2 c)
      exact fin _ (RF_Near_f2o_r2 b3) rfl (show Ending.returned (.float .f64 9218868437227405312) = .returned (.float .f64 (Bt.wf false (pk (m + 1) q))) from by rw [inf_f h2])
  | false =>
    exact absurd (i1.2 ((by omega))) Bool.false_ne_true
@[reducible] def RF_Near_f2e_f : FuncId := 81
@[reducible] def RF_Near_f2e_a : List AV := [.lit (.bool false), .sym 0, .sym 1, .lit (.int .u8 2), .lit (.func (.func 62) #[] #[])]
@[reducible] noncomputable def RF_Near_f2e_k (b1 b2 : Bool) : Know := ⟨[([0, 5, 67], [.sym 0, .lit (.int .u64 1)], .sym 2),
  ([0, 11, 67], [.sym 2, .lit (.int .u64 1)], .lit (.bool b1)),
  ([0, 0, 67], [.sym 0, .lit (.int .u64 1)], .sym 3)],
  [(99, [.lit (.bool false), .sym 3, .sym 1], .tup [.sym 4, .lit (.bool b2)]),
  (99, [.lit (.bool false), .sym 0, .sym 1], .tup [.sym 5, .lit (.bool true)])]⟩
theorem RF_Near_f2e_r1 (b2 : Bool) : @comes (RF_Near_f2e_k false b2) Tryd.prog glT 3000 RF_Near_f2e_f RF_Near_f2e_a = some (.sym 5) := by kernel_rfl
set_option maxRecDepth 100000 in
set_option maxHeartbeats 4000000 in
theorem RF_Near_f2e (m : Nat) (q : Int) (w : World) (hG : Globs glT w) (hm : m < 9007199254740992) (hq1 : -1074 ≤ q) (hq2 : q ≤ 971) (hmn : 4503599627370496 ≤ m ∨ q = -1074) (ho : m % 2 = 0) : Calls Tryd.prog 81 #[.bool false, .int .u64 (((m : Nat) : Int)), .int .i64 q, .int .u8 2, .func (.func 62) #[] #[]] w fun e w' => e = .returned (.float .f64 (Bt.wf false (pk (m) q))) ∧ Below w.heap.size w w' := by
  obtain ⟨b1, i1⟩ := bex (((m % 2 : Nat) : Int) = 1)
  obtain ⟨b2, i2⟩ := bex (okP (m + 1) q = true)
  have h3 : okP m q = true := okP_lt hm
  have i3 : true = true ↔ (okP m q = true) := ⟨fun _ => h3, fun _ => rfl⟩
  letI : Env := mkEnv glT [.int .u64 (((m : Nat) : Int)), .int .i64 q, .int .u64 (((m % 2 : Nat) : Int)), .int .u64 (((m + 1 : Nat) : Int)), .float .f64 (mkW false (m + 1) q), .float .f64 (mkW false m q)] rfl
  have hops : OpsT Tryd.prog (@Know.ops (RF_Near_f2e_k b1 b2)) := ⟨opt_odd rfl rfl rfl rfl (by omega),
    opt_eql_i rfl rfl i1,
    opt_add64 (y := 1) rfl rfl rfl rfl rfl (by omega),
    trivial⟩
  have hcalls : CallsT Tryd.prog (@Know.calls (RF_Near_f2e_k b1 b2)) := ⟨callt rfl rfl fun w hG => bMake_i false (m + 1) q w (by omega) hq1 hq2 (hmn.imp (fun h => Nat.le_succ_of_le h) id) i2 hG,
    callt rfl rfl fun w hG => bMake_i false m q w (by omega) hq1 hq2 hmn i3 hG,
    trivial⟩
  have fin : ∀ v, @comes (RF_Near_f2e_k b1 b2) Tryd.prog glT 3000 RF_Near_f2e_f RF_Near_f2e_a = some v → ground v = true → Ending.returned (gval v) = .returned (.float .f64 (Bt.wf false (pk (m) q))) → Calls Tryd.prog 81 #[.bool false, .int .u64 (((m : Nat) : Int)), .int .i64 q, .int .u8 2, .func (.func 62) #[] #[]] w fun e w' => e = .returned (.float .f64 (Bt.wf false (pk (m) q))) ∧ Below w.heap.size w w' := fun v h1 h2 h3 => (@sym_ok _ (RF_Near_f2e_k b1 b2) _ (@KnowOk.of _ (RF_Near_f2e_k b1 b2) _ hops hcalls) (by kernel_rfl) _ _ _ _ h1 rfl h2 _ hG).mono fun e w' h => ⟨h.1.trans h3, h.2⟩
  clear hops hcalls
  cases b1 with
  | true =>
    exact absurd (i1.1 rfl) ((by omega))
  | false =>
    have h1 : ¬ (((m % 2 : Nat) : Int) = 1) := fun c => Bool.false_ne_true (i1.2 c)
    exact fin _ (RF_Near_f2e_r1 b2) rfl (show Ending.returned (.float .f64 (mkW false m q)) = .returned (.float .f64 (Bt.wf false (pk (m) q))) from by rw [mkW_ok h3])
@[reducible] def RF_Near_f3_f : FuncId := 81
@[reducible] def RF_Near_f3_a : List AV := [.lit (.bool false), .sym 0, .sym 1, .lit (.int .u8 3), .lit (.func (.func 62) #[] #[])]
@[reducible] noncomputable def RF_Near_f3_k (b1 b2 : Bool) : Know := ⟨[([0, 5, 67], [.sym 0, .lit (.int .u64 1)], .sym 2),
  ([0, 11, 67], [.sym 2, .lit (.int .u64 1)], .lit (.bool b1)),
  ([0, 0, 67], [.sym 0, .lit (.int .u64 1)], .sym 3)],
  [(99, [.lit (.bool false), .sym 3, .sym 1], .tup [.sym 4, .lit (.bool b2)])]⟩
theorem RF_Near_f3_r1 : @comes (RF_Near_f3_k true true) Tryd.prog glT 3000 RF_Near_f3_f RF_Near_f3_a = some (.sym 4) := by kernel_rfl
theorem RF_Near_f3_r2 : @comes (RF_Near_f3_k true false) Tryd.prog glT 3000 RF_Near_f3_f RF_Near_f3_a = some (.lit (.float .f64 9218868437227405312)) := by kernel_rfl
theorem RF_Near_f3_r3 : @comes (RF_Near_f3_k false true) Tryd.prog glT 3000 RF_Near_f3_f RF_Near_f3_a = some (.sym 4) := by kernel_rfl
theorem RF_Near_f3_r4 : @comes (RF_Near_f3_k false false) Tryd.prog glT 3000 RF_Near_f3_f RF_Near_f3_a = some (.lit (.float .f64 9218868437227405312)) := by kernel_rfl
set_option maxRecDepth 100000 in
set_option maxHeartbeats 4000000 in
theorem RF_Near_f3 (m : Nat) (q : Int) (w : World) (hG : Globs glT w) (hm : m < 9007199254740992) (hq1 : -1074 ≤ q) (hq2 : q ≤ 971) (hmn : 4503599627370496 ≤ m ∨ q = -1074) : Calls Tryd.prog 81 #[.bool false, .int .u64 (((m : Nat) : Int)), .int .i64 q, .int .u8 3, .func (.func 62) #[] #[]] w fun e w' => e = .returned (.float .f64 (Bt.wf false (pk (m + 1) q))) ∧ Below w.heap.size w w' := by
  obtain ⟨b1, i1⟩ := bex (((m % 2 : Nat) : Int) = 1)
  obtain ⟨b2, i2⟩ := bex (okP (m + 1) q = true)
  letI : Env := mkEnv glT [.int .u64 (((m : Nat) : Int)), .int .i64 q, .int .u64 (((m % 2 : Nat) : Int)), .int .u64 (((m + 1 : Nat) : Int)), .float .f64 (mkW false (m + 1) q)] rfl
  have hops : OpsT Tryd.prog (@Know.ops (RF_Near_f3_k b1 b2)) := ⟨opt_odd rfl rfl rfl rfl (by omega),
    opt_eql_i rfl rfl i1,
    opt_add64 (y := 1) rfl rfl rfl rfl rfl (by omega),
    trivial⟩
  have hcalls : CallsT Tryd.prog (@Know.calls (RF_Near_f3_k b1 b2)) := ⟨callt rfl rfl fun w hG => bMake_i false (m + 1) q w (by omega) hq1 hq2 (hmn.imp (fun h => Nat.le_succ_of_le h) id) i2 hG,
    trivial⟩
  have fin : ∀ v, @comes (RF_Near_f3_k b1 b2) Tryd.prog glT 3000 RF_Near_f3_f RF_Near_f3_a = some v → ground v = true → Ending.returned (gval v) = .returned (.float .f64 (Bt.wf false (pk (m + 1) q))) → Calls Tryd.prog 81 #[.bool false, .int .u64 (((m : Nat) : Int)), .int .i64 q, .int .u8 3, .func (.func 62) #[] #[]] w fun e w' => e = .returned (.float .f64 (Bt.wf false (pk (m + 1) q))) ∧ Below w.heap.size w w' := fun v h1 h2 h3 => (@sym_ok _ (RF_Near_f3_k b1 b2) _ (@KnowOk.of _ (RF_Near_f3_k b1 b2) _ hops hcalls) (by kernel_rfl) _ _ _ _ h1 rfl h2 _ hG).mono fun e w' h => ⟨h.1.trans h3, h.2⟩
  clear hops hcalls
  cases b1 with
  | true =>
    have h1 : ((m % 2 : Nat) : Int) = 1 := i1.1 rfl
    cases b2 with
    | true =>
      have h2 : okP (m + 1) q = true := i2.1 rfl
      exact fin _ (RF_Near_f3_r1) rfl (show Ending.returned (.float .f64 (mkW false (m + 1) q)) = .returned (.float .f64 (Bt.wf false (pk (m + 1) q))) from by rw [mkW_ok h2])
    | false =>
      have h2 : ¬ (okP (m + 1) q = true) := fun c => Bool.false_ne_true (i2.2 c)
      exact fin _ (RF_Near_f3_r2) rfl (show Ending.returned (.float .f64 9218868437227405312) = .returned (.float .f64 (Bt.wf false (pk (m + 1) q))) from by rw [inf_f h2])
  | false =>
    have h1 : ¬ (((m % 2 : Nat) : Int) = 1) := fun c => Bool.false_ne_true (i1.2 c)
    cases b2 with
    | true =>
      have h2 : okP (m + 1) q = true := i2.1 rfl
      exact fin _ (RF_Near_f3_r3) rfl (show Ending.returned (.float .f64 (mkW false (m + 1) q)) = .returned (.float .f64 (Bt.wf false (pk (m + 1) q))) from by rw [mkW_ok h2])
    | false =>
      have h2 : ¬ (okP (m + 1) q = true) := fun c => Bool.false_ne_true (i2.2 c)
      exact fin _ (RF_Near_f3_r4) rfl (show Ending.returned (.float .f64 9218868437227405312) = .returned (.float .f64 (Bt.wf false (pk (m + 1) q))) from by rw [inf_f h2])
@[reducible] def RF_Near_t0_f : FuncId := 81
@[reducible] def RF_Near_t0_a : List AV := [.lit (.bool true), .sym 0, .sym 1, .lit (.int .u8 0), .lit (.func (.func 62) #[] #[])]
@[reducible] noncomputable def RF_Near_t0_k : Know := ⟨[],
  [(99, [.lit (.bool true), .sym 0, .sym 1], .tup [.sym 2, .lit (.bool true)])]⟩
theorem RF_Near_t0_r1 : @comes RF_Near_t0_k Tryd.prog glT 3000 RF_Near_t0_f RF_Near_t0_a = some (.sym 2) := by kernel_rfl
set_option maxRecDepth 100000 in
set_option maxHeartbeats 4000000 in
theorem RF_Near_t0 (m : Nat) (q : Int) (w : World) (hG : Globs glT w) (hm : m < 9007199254740992) (hq1 : -1074 ≤ q) (hq2 : q ≤ 971) (hmn : 4503599627370496 ≤ m ∨ q = -1074) : Calls Tryd.prog 81 #[.bool true, .int .u64 (((m : Nat) : Int)), .int .i64 q, .int .u8 0, .func (.func 62) #[] #[]] w fun e w' => e = .returned (.float .f64 (Bt.wf true (pk (m) q))) ∧ Below w.heap.size w w' := by
  have h1 : okP m q = true := okP_lt hm
  have i1 : true = true ↔ (okP m q = true) := ⟨fun _ => h1, fun _ => rfl⟩
  letI : Env := mkEnv glT [.int .u64 (((m : Nat) : Int)), .int .i64 q, .float .f64 (mkW true m q)] rfl
  have hops : OpsT Tryd.prog (@Know.ops RF_Near_t0_k) := trivial
  have hcalls : CallsT Tryd.prog (@Know.calls RF_Near_t0_k) := ⟨callt rfl rfl fun w hG => bMake_i true m q w (by omega) hq1 hq2 hmn i1 hG,
    trivial⟩
  have fin : ∀ v, @comes RF_Near_t0_k Tryd.prog glT 3000 RF_Near_t0_f RF_Near_t0_a = some v → ground v = true → Ending.returned (gval v) = .returned (.float .f64 (Bt.wf true (pk (m) q))) → Calls Tryd.prog 81 #[.bool true, .int .u64 (((m : Nat) : Int)), .int .i64 q, .int .u8 0, .func (.func 62) #[] #[]] w fun e w' => e = .returned (.float .f64 (Bt.wf true (pk (m) q))) ∧ Below w.heap.size w w' := fun v h1 h2 h3 => (@sym_ok _ RF_Near_t0_k _ (@KnowOk.of _ RF_Near_t0_k _ hops hcalls) (by kernel_rfl) _ _ _ _ h1 rfl h2 _ hG).mono fun e w' h => ⟨h.1.trans h3, h.2⟩
  clear hops hcalls
  exact fin _ (RF_Near_t0_r1) rfl (show Ending.returned (.float .f64 (mkW true m q)) = .returned (.float .f64 (Bt.wf true (pk (m) q))) from by rw [mkW_ok h1])
@[reducible] def RF_Near_t1_f : FuncId := 81
@[reducible] def RF_Near_t1_a : List AV := [.lit (.bool true), .sym 0, .sym 1, .lit (.int .u8 1), .lit (.func (.func 62) #[] #[])]
@[reducible] noncomputable def RF_Near_t1_k (b2 : Bool) : Know := ⟨[([0, 5, 67], [.sym 0, .lit (.int .u64 1)], .sym 3),
  ([0, 11, 67], [.sym 3, .lit (.int .u64 1)], .lit (.bool b2))],
  [(99, [.lit (.bool true), .sym 0, .sym 1], .tup [.sym 2, .lit (.bool true)])]⟩
theorem RF_Near_t1_r1 : @comes (RF_Near_t1_k true) Tryd.prog glT 3000 RF_Near_t1_f RF_Near_t1_a = some (.sym 2) := by kernel_rfl
theorem RF_Near_t1_r2 : @comes (RF_Near_t1_k false) Tryd.prog glT 3000 RF_Near_t1_f RF_Near_t1_a = some (.sym 2) := by kernel_rfl
set_option maxRecDepth 100000 in
set_option maxHeartbeats 4000000 in
theorem RF_Near_t1 (m : Nat) (q : Int) (w : World) (hG : Globs glT w) (hm : m < 9007199254740992) (hq1 : -1074 ≤ q) (hq2 : q ≤ 971) (hmn : 4503599627370496 ≤ m ∨ q = -1074) : Calls Tryd.prog 81 #[.bool true, .int .u64 (((m : Nat) : Int)), .int .i64 q, .int .u8 1, .func (.func 62) #[] #[]] w fun e w' => e = .returned (.float .f64 (Bt.wf true (pk (m) q))) ∧ Below w.heap.size w w' := by
  have h1 : okP m q = true := okP_lt hm
  have i1 : true = true ↔ (okP m q = true) := ⟨fun _ => h1, fun _ => rfl⟩
  obtain ⟨b2, i2⟩ := bex (((m % 2 : Nat) : Int) = 1)
  letI : Env := mkEnv glT [.int .u64 (((m : Nat) : Int)), .int .i64 q, .float .f64 (mkW true m q), .int .u64 (((m % 2 : Nat) : Int))] rfl
  have hops : OpsT Tryd.prog (@Know.ops (RF_Near_t1_k b2)) := ⟨opt_odd rfl rfl rfl rfl (by omega),
    opt_eql_i rfl rfl i2,
    trivial⟩
  have hcalls : CallsT Tryd.prog (@Know.calls (RF_Near_t1_k b2)) := ⟨callt rfl rfl fun w hG => bMake_i true m q w (by omega) hq1 hq2 hmn i1 hG,
    trivial⟩
  have fin : ∀ v, @comes (RF_Near_t1_k b2) Tryd.prog glT 3000 RF_Near_t1_f RF_Near_t1_a = some v → ground v = true → Ending.returned (gval v) = .returned (.float .f64 (Bt.wf true (pk (m) q))) → Calls Tryd.prog 81 #[.bool true, .int .u64 (((m : Nat) : Int)), .int .i64 q, .int .u8 1, .func (.func 62) #[] #[]] w fun e w' => e = .returned (.float .f64 (Bt.wf true (pk (m) q))) ∧ Below w.heap.size w w' := fun v h1 h2 h3 => (@sym_ok _ (RF_Near_t1_k b2) _ (@KnowOk.of _ (RF_Near_t1_k b2) _ hops hcalls) (by kernel_rfl) _ _ _ _ h1 rfl h2 _ hG).mono fun e w' h => ⟨h.1.trans h3, h.2⟩
  clear hops hcalls
  cases b2 with
  | true =>
    have h2 : ((m % 2 : Nat) : Int) = 1 := i2.1 rfl
    exact fin _ (RF_Near_t1_r1) rfl (show Ending.returned (.float .f64 (mkW true m q)) = .returned (.float .f64 (Bt.wf true (pk (m) q))) from by rw [mkW_ok h1])
  | false =>
    have h2 : ¬ (((m % 2 : Nat) : Int) = 1) := fun c => Bool.false_ne_true (i2.2 c)
    exact fin _ (RF_Near_t1_r2) rfl (show Ending.returned (.float .f64 (mkW true m q)) = .returned (.float .f64 (Bt.wf true (pk (m) q))) from by rw [mkW_ok h1])
@[reducible] def RF_Near_t2o_f : FuncId := 81
@[reducible] def RF_Near_t2o_a : List AV := [.lit (.bool true), .sym 0, .sym 1, .lit (.int .u8 2), .lit (.func (.func 62) #[] #[])]
@[reducible] noncomputable def RF_Near_t2o_k (b1 b2 b3 : Bool) : Know := ⟨[([0, 5, 67], [.sym 0, .lit (.int .u64 1)], .sym 2),
  ([0, 11, 67], [.sym 2, .lit (.int .u64 1)], .lit (.bool b1)),
  ([0, 0, 67], [.sym 0, .lit (.int .u64 1)], .sym 3)],
  [(99, [.lit (.bool true), .sym 3, .sym 1], .tup [.sym 4, .lit (.bool b2)]),
  (99, [.lit (.bool true), .sym 0, .sym 1], .tup [.sym 5, .lit (.bool b3)])]⟩
theorem RF_Near_t2o_r1 (b3 : Bool) : @comes (RF_Near_t2o_k true true b3) Tryd.prog glT 3000 RF_Near_t2o_f RF_Near_t2o_a = some (.sym 4) := by kernel_rfl
theorem RF_Near_t2o_r2 (b3 : Bool) : @comes (RF_Near_t2o_k true false b3) Tryd.prog glT 3000 RF_Near_t2o_f RF_Near_t2o_a = some (.lit (.float .f64 18442240474082181120)) := by kernel_rfl
set_option maxRecDepth 100000 in
set_option maxHeartbeats 4000000 in
theorem RF_Near_t2o (m : Nat) (q : Int) (w : World) (hG : Globs glT w) (hm : m < 9007199254740992) (hq1 : -1074 ≤ q) (hq2 : q ≤ 971) (hmn : 4503599627370496 ≤ m ∨ q = -1074) (ho : m % 2 = 1) : Calls Tryd.prog 81 #[.bool true, .int .u64 (((m : Nat) : Int)), .int .i64 q, .int .u8 2, .func (.func 62) #[] #[]] w fun e w' => e = .returned (.float .f64 (Bt.wf true (pk (m + 1) q))) ∧ Below w.heap.size w w' := by
  obtain ⟨b1, i1⟩ := bex (((m % 2 : Nat) : Int) = 1)
  obtain ⟨b2, i2⟩ := bex (okP (m + 1) q = true)
  obtain ⟨b3, i3⟩ := bex (okP m q = true)
  letI : Env := mkEnv glT [.int .u64 (((m : Nat) : Int)), .int .i64 q, .int .u64 (((m % 2 : Nat) : Int)), .int .u64 (((m + 1 : Nat) : Int)), .float .f64 (mkW true (m + 1) q), .float .f64 (mkW true m q)] rfl
  have hops : OpsT Tryd.prog (@Know.ops (RF_Near_t2o_k b1 b2 b3)) := ⟨opt_odd rfl rfl rfl rfl (by omega),
    opt_eql_i rfl rfl i1,
    opt_add64 (y := 1) rfl rfl rfl rfl rfl (by omega),
    trivial⟩
  have hcalls : CallsT Tryd.prog (@Know.calls (RF_Near_t2o_k b1 b2 b3)) := ⟨callt rfl rfl fun w hG => bMake_i true (m + 1) q w (by omega) hq1 hq2 (hmn.imp (fun h => Nat.le_succ_of_le h) id) i2 hG,
    callt rfl rfl fun w hG => bMake_i true m q w (by omega) hq1 hq2 hmn i3 hG,
    trivial⟩
  have fin : ∀ v, @comes (RF_Near_t2o_k b1 b2 b3) Tryd.prog glT 3000 RF_Near_t2o_f RF_Near_t2o_a = some v → ground v = true → Ending.returned (gval v) = .returned (.float .f64 (Bt.wf true (pk (m + 1) q))) → Calls Tryd.prog 81 #[.bool true, .int .u64 (((m : Nat) : Int)), .int .i64 q, .int .u8 2, .func (.func 62) #[] #[]] w fun e w' => e = .returned (.float .f64 (Bt.wf true (pk (m + 1) q))) ∧ Below w.heap.size w w' := fun v h1 h2 h3 => (@sym_ok _ (RF_Near_t2o_k b1 b2 b3) _ (@KnowOk.of _ (RF_Near_t2o_k b1 b2 b3) _ hops hcalls) (by kernel_rfl) _ _ _ _ h1 rfl h2 _ hG).mono fun e w' h => ⟨h.1.trans h3, h.2⟩
  clear hops hcalls
  cases b1 with
  | true =>
    have h1 : ((m % 2 : Nat) : Int) = 1 := i1.1 rfl
    cases b2 with
    | true =>
      have h2 : okP (m + 1) q = true := i2.1 rfl
      exact fin _ (RF_Near_t2o_r1 b3) rfl (show Ending.returned (.float .f64 (mkW true (m + 1) q)) = .returned (.float .f64 (Bt.wf true (pk (m + 1) q))) from by rw [mkW_ok h2])
    | false =>
      have h2 : ¬ (okP (m + 1) q = true) := fun c => Bool.false_ne_true (i2.2 c)
      exact fin _ (RF_Near_t2o_r2 b3) rfl (show Ending.returned (.float .f64 18442240474082181120) = .returned (.float .f64 (Bt.wf true (pk (m + 1) q))) from by rw [inf_t h2])
  | false =>
    exact absurd (i1.2 ((by omega))) Bool.false_ne_true
@[reducible] def RF_Near_t2e_f : FuncId := 81
@[reducible] def RF_Near_t2e_a : List AV := [.lit (.bool true), .sym 0, .sym 1, .lit (.int .u8 2), .lit (.func (.func 62) #[] #[])]
@[reducible] noncomputable def RF_Near_t2e_k (b1 b2 : Bool) : Know := ⟨[([0, 5, 67], [.sym 0, .lit (.int .u64 1)], .sym 2),
  ([0, 11, 67], [.sym 2, .lit (.int .u64 1)], .lit (.bool b1)),
  ([0, 0, 67], [.sym 0, .lit (.int .u64 1)], .sym 3)],
  [(99, [.lit (.bool true), .sym 3, .sym 1], .tup [.sym 4, .lit (.bool b2)]),
  (99, [.lit (.bool true), .sym 0, .sym 1], .tup [.sym 5, .lit (.bool true)])]⟩
theorem RF_Near_t2e_r1 (b2 : Bool) : @comes (RF_Near_t2e_k false b2) Tryd.prog glT 3000 RF_Near_t2e_f RF_Near_t2e_a = some (.sym 5) := by kernel_rfl
set_option maxRecDepth 100000 in
set_option maxHeartbeats 4000000 in
theorem RF_Near_t2e (m : Nat) (q : Int) (w : World) (hG : Globs glT w) (hm : m < 9007199254740992) (hq1 : -1074 ≤ q) (hq2 : q ≤ 971) (hmn : 4503599627370496 ≤ m ∨ q = -1074) (ho : m % 2 = 0) : Calls Tryd.prog 81 #[.bool true, .int .u64 (((m : Nat) : Int)), .int .i64 q, .int .u8 2, .func (.func 62) #[] #[]] w fun e w' => e = .returned (.float .f64 (Bt.wf true (pk (m) q))) ∧ Below w.heap.size w w' := by
  obtain ⟨b1, i1⟩ := bex (((m % 2 : Nat) : Int) = 1)
  obtain ⟨b2, i2⟩ := bex (okP (m + 1) q = true)
  have h3 : okP m q = true := okP_lt hm
  have i3 : true = true ↔ (okP m q = true) := ⟨fun _ => h3, fun _ => rfl⟩
  letI : Env := mkEnv glT [.int .u64 (((m : Nat) : Int)), .int .i64 q, .int .u64 (((m % 2 : Nat) : Int)), .int .u64 (((m + 1 : Nat) : Int)), .float .f64 (mkW true (m + 1) q), .float .f64 (mkW true m q)] rfl
  have hops : OpsT Tryd.prog (@Know.ops (RF_Near_t2e_k b1 b2)) := ⟨opt_odd rfl rfl rfl rfl (by omega),
    opt_eql_i rfl rfl i1,
    opt_add64 (y := 1) rfl rfl rfl rfl rfl (by omega),
    trivial⟩
  have hcalls : CallsT Tryd.prog (@Know.calls (RF_Near_t2e_k b1 b2)) := ⟨callt rfl rfl fun w hG => bMake_i true (m + 1) q w (by omega) hq1 hq2 (hmn.imp (fun h => Nat.le_succ_of_le h) id) i2 hG,
    callt rfl rfl fun w hG => bMake_i true m q w (by omega) hq1 hq2 hmn i3 hG,
    trivial⟩
  have fin : ∀ v, @comes (RF_Near_t2e_k b1 b2) Tryd.prog glT 3000 RF_Near_t2e_f RF_Near_t2e_a = some v → ground v = true → Ending.returned (gval v) = .returned (.float .f64 (Bt.wf true (pk (m) q))) → Calls Tryd.prog 81 #[.bool true, .int .u64 (((m : Nat) : Int)), .int .i64 q, .int .u8 2, .func (.func 62) #[] #[]] w fun e w' => e = .returned (.float .f64 (Bt.wf true (pk (m) q))) ∧ Below w.heap.size w w' := fun v h1 h2 h3 => (@sym_ok _ (RF_Near_t2e_k b1 b2) _ (@KnowOk.of _ (RF_Near_t2e_k b1 b2) _ hops hcalls) (by kernel_rfl) _ _ _ _ h1 rfl h2 _ hG).mono fun e w' h => ⟨h.1.trans h3, h.2⟩
  clear hops hcalls
  cases b1 with
  | true =>
    exact absurd (i1.1 rfl) ((by omega))
  | false =>
    have h1 : ¬ (((m % 2 : Nat) : Int) = 1) := fun c => Bool.false_ne_true (i1.2 c)
    exact fin _ (RF_Near_t2e_r1 b2) rfl (show Ending.returned (.float .f64 (mkW true m q)) = .returned (.float .f64 (Bt.wf true (pk (m) q))) from by rw [mkW_ok h3])
@[reducible] def RF_Near_t3_f : FuncId := 81
@[reducible] def RF_Near_t3_a : List AV := [.lit (.bool true), .sym 0, .sym 1, .lit (.int .u8 3), .lit (.func (.func 62) #[] #[])]
@[reducible] noncomputable def RF_Near_t3_k (b1 b2 : Bool) : Know := ⟨[([0, 5, 67], [.sym 0, .lit (.int .u64 1)], .sym 2),
  ([0, 11, 67], [.sym 2, .lit (.int .u64 1)], .lit (.bool b1)),
  ([0, 0, 67], [.sym 0, .lit (.int .u64 1)], .sym 3)],
  [(99, [.lit (.bool true), .sym 3, .sym 1], .tup [.sym 4, .lit (.bool b2)])]⟩
theorem RF_Near_t3_r1 : @comes (RF_Near_t3_k true true) Tryd.prog glT 3000 RF_Near_t3_f RF_Near_t3_a = some (.sym 4) := by kernel_rfl
theorem RF_Near_t3_r2 : @comes (RF_Near_t3_k true false) Tryd.prog glT 3000 RF_Near_t3_f RF_Near_t3_a = some (.lit (.float .f64 18442240474082181120)) := by kernel_rfl
theorem RF_Near_t3_r3 : @comes (RF_Near_t3_k false true) Tryd.prog glT 3000 RF_Near_t3_f RF_Near_t3_a = some (.sym 4) := by kernel_rfl
theorem RF_Near_t3_r4 : @comes (RF_Near_t3_k false false) Tryd.prog glT 3000 RF_Near_t3_f RF_Near_t3_a = some (.lit (.float .f64 18442240474082181120)) := by kernel_rfl
set_option maxRecDepth 100000 in
set_option maxHeartbeats 4000000 in
theorem RF_Near_t3 (m : Nat) (q : Int) (w : World) (hG : Globs glT w) (hm : m < 9007199254740992) (hq1 : -1074 ≤ q) (hq2 : q ≤ 971) (hmn : 4503599627370496 ≤ m ∨ q = -1074) : Calls Tryd.prog 81 #[.bool true, .int .u64 (((m : Nat) : Int)), .int .i64 q, .int .u8 3, .func (.func 62) #[] #[]] w fun e w' => e = .returned (.float .f64 (Bt.wf true (pk (m + 1) q))) ∧ Below w.heap.size w w' := by
  obtain ⟨b1, i1⟩ := bex (((m % 2 : Nat) : Int) = 1)
  obtain ⟨b2, i2⟩ := bex (okP (m + 1) q = true)
  letI : Env := mkEnv glT [.int .u64 (((m : Nat) : Int)), .int .i64 q, .int .u64 (((m % 2 : Nat) : Int)), .int .u64 (((m + 1 : Nat) : Int)), .float .f64 (mkW true (m + 1) q)] rfl
  have hops : OpsT Tryd.prog (@Know.ops (RF_Near_t3_k b1 b2)) := ⟨opt_odd rfl rfl rfl rfl (by omega),
    opt_eql_i rfl rfl i1,
    opt_add64 (y := 1) rfl rfl rfl rfl rfl (by omega),
    trivial⟩
  have hcalls : CallsT Tryd.prog (@Know.calls (RF_Near_t3_k b1 b2)) := ⟨callt rfl rfl fun w hG => bMake_i true (m + 1) q w (by omega) hq1 hq2 (hmn.imp (fun h => Nat.le_succ_of_le h) id) i2 hG,
    trivial⟩
  have fin : ∀ v, @comes (RF_Near_t3_k b1 b2) Tryd.prog glT 3000 RF_Near_t3_f RF_Near_t3_a = some v → ground v = true → Ending.returned (gval v) = .returned (.float .f64 (Bt.wf true (pk (m + 1) q))) → Calls Tryd.prog 81 #[.bool true, .int .u64 (((m : Nat) : Int)), .int .i64 q, .int .u8 3, .func (.func 62) #[] #[]] w fun e w' => e = .returned (.float .f64 (Bt.wf true (pk (m + 1) q))) ∧ Below w.heap.size w w' := fun v h1 h2 h3 => (@sym_ok _ (RF_Near_t3_k b1 b2) _ (@KnowOk.of _ (RF_Near_t3_k b1 b2) _ hops hcalls) (by kernel_rfl) _ _ _ _ h1 rfl h2 _ hG).mono fun e w' h => ⟨h.1.trans h3, h.2⟩
  clear hops hcalls
  cases b1 with
  | true =>
    have h1 : ((m % 2 : Nat) : Int) = 1 := i1.1 rfl
    cases b2 with
    | true =>
      have h2 : okP (m + 1) q = true := i2.1 rfl
      exact fin _ (RF_Near_t3_r1) rfl (show Ending.returned (.float .f64 (mkW true (m + 1) q)) = .returned (.float .f64 (Bt.wf true (pk (m + 1) q))) from by rw [mkW_ok h2])
    | false =>
      have h2 : ¬ (okP (m + 1) q = true) := fun c => Bool.false_ne_true (i2.2 c)
      exact fin _ (RF_Near_t3_r2) rfl (show Ending.returned (.float .f64 18442240474082181120) = .returned (.float .f64 (Bt.wf true (pk (m + 1) q))) from by rw [inf_t h2])
  | false =>
    have h1 : ¬ (((m % 2 : Nat) : Int) = 1) := fun c => Bool.false_ne_true (i1.2 c)
    cases b2 with
    | true =>
      have h2 : okP (m + 1) q = true := i2.1 rfl
      exact fin _ (RF_Near_t3_r3) rfl (show Ending.returned (.float .f64 (mkW true (m + 1) q)) = .returned (.float .f64 (Bt.wf true (pk (m + 1) q))) from by rw [mkW_ok h2])
    | false =>
      have h2 : ¬ (okP (m + 1) q = true) := fun c => Bool.false_ne_true (i2.2 c)
      exact fin _ (RF_Near_t3_r4) rfl (show Ending.returned (.float .f64 18442240474082181120) = .returned (.float .f64 (Bt.wf true (pk (m + 1) q))) from by rw [inf_t h2])
end Go.Proofs.YtajcapliokblfaaDoor
namespace Go.Proofs.YtajcapliokblfaaDoor
open Go Go.RowKit Nt
@[irreducible] def rsW (L D : Nat) : Int := if L = 0 then 0 else 2 + cmpN (L * 2) D
theorem rsW_0 (D : Nat) : rsW 0 D = 0 := by unfold rsW; exact if_pos rfl
theorem rsW_n {L D : Nat} (h : L ≠ 0) : rsW L D = 2 + cmpN (L * 2) D := by unfold rsW; exact if_neg h
set_option maxRecDepth 100000 in
set_option maxHeartbeats 400000 in
theorem Prest_c (L D : Nat) (A A' : Option Addr) (c c' : Nat) (w : World) (h1 : nd W L ≤ 20000) (h2 : nd W D ≤ 20000) (r1 : Row w w.heap.size A L (nd W L)) (r2 : Row w w.heap.size A' D (nd W D)) :
    Calls Tryd.prog 85 #[.slice A (nd W L) c, .slice A' (nd W D) c'] w fun e w' => e = .returned (.int .u8 (rsW L D)) ∧ Below w.heap.size w w' := by
  by_cases h0 : L = 0
  · subst h0
    rw [rsW_0, nd_zero]
    clear h1 h2 r1 r2
    go_enter Tryd.func85, Tryd.ntmps85
    go_wp2_with fail
    go_ret
    exact ⟨rfl, Below.refl _ _⟩
  · have HR := Lib.hid (rsW_n (D := D) h0)
    have e1 : (((nd W L : Nat) : Int) == 0) = false := beq_eq_false_iff_ne.2 (fun c => h0 ((nd_eq_zero W2).1 (by omega)))
    have e2 : ¬ ((nd W L : Nat) : Int) = 0 := fun c => h0 ((nd_eq_zero W2).1 (by omega))
    have e3 : ¬ nd W L = 0 := fun c => h0 ((nd_eq_zero W2).1 c)
    have KS := Lib.hid (Shl_c A c L 1 w.heap.size w (by omega) r1 (Nat.le_refl _))
    have hb1 : nd W (L * 2 ^ 1) ≤ 30000 := Nat.le_trans (mul_words L (2 ^ 1)) (by rw [show (2 : Nat) ^ 1 = 2 from rfl, nd_unique (b := W) (n := 2) (k := 0) W2 (by decide) (by rw [W_eq]; decide)]; omega)
    have R2 := Lib.hid r2
    have HB1 := Lib.hid hb1
    have HB2 := Lib.hid h2
    have hm : L * 2 ^ 1 = L * 2 := by rw [Nat.pow_one]
    rw [hm] at KS HB1
    clear hm hb1 h1 h2 r1 r2 h0
    go_enter Tryd.func85, Tryd.ntmps85
    go_wp2_with fail
    refine KS.out.mono ?_
    intro ee w1 hp
    obtain ⟨A1, c1, rfl, hc1, hr1, hb⟩ := hp.get
    have KC := Lib.hid (Cmp_c A1 A' c1 c' (L * 2) D w1.heap.size w1 (by have := HB1.out; omega) (by have := HB2.out; omega) hr1 ((R2.out.below hb).more hb.size))
    have HBB := Lib.hid hb
    clear hp hc1 hr1 hb KS
    go_wp2_with fail
    refine KC.out.mono ?_
    rintro ee w2 ⟨rfl, nn, rfl⟩
    obtain ⟨u1, u2⟩ := cmp_b (L * 2) D
    have hw : IntKind.u8.wrap (2 + cmpN (L * 2) D) = 2 + cmpN (L * 2) D := by
      rcases (show cmpN (L * 2) D = -1 ∨ cmpN (L * 2) D = 0 ∨ cmpN (L * 2) D = 1 by omega) with c | c | c <;> rw [c] <;> decide
    have hw2 : IntKind.i64.wrap (2 + cmpN (L * 2) D) = 2 + cmpN (L * 2) D := IntWalk.i64_in _ ⟨by omega, by omega⟩
    clear u1 u2 KC
    generalize cmpN (L * 2) D = cc at *
    go_wp2_with fail
    go_ret
    exact ⟨by rw [HR.out]; rfl, below_drewN HBB.out nn⟩
theorem nd_shl {n k : Nat} (h : nd W n ≤ 2100) (hk : k ≤ 131072) : nd W (n * 2 ^ k) ≤ 10000 := by
  refine Nat.le_trans (mul_words n (2 ^ k)) ?_
  have key : ∀ q, 131072 < 64 * q → nd W (2 ^ k) ≤ q := fun q hq => nd_le W2 (by
    rw [show W ^ q = 2 ^ (64 * q) by rw [show W = 2 ^ 64 by rw [W_eq], ← Nat.pow_mul]]
    exact (Nat.pow_lt_pow_iff_right (by omega)).2 (by omega))
  have := key 2049 (by omega)
  omega
@[irreducible] def tpZ (n d : Nat) : Int := if n * 2 ^ (max (-((nd 2 n : Int) - nd 2 d)) 0).toNat < d * 2 ^ (max ((nd 2 n : Int) - nd 2 d) 0).toNat then (nd 2 n : Int) - nd 2 d - 1 else (nd 2 n : Int) - nd 2 d
set_option maxRecDepth 100000 in
set_option maxHeartbeats 400000 in
theorem Ftop_c (g : Bool) (n d : Nat) (A A' : Option Addr) (c c' : Nat) (w : World) (hn : fits n) (hd : fits d) (r1 : Row w w.heap.size A n (nd W n)) (r2 : Row w w.heap.size A' d (nd W d)) :
    Calls Tryd.prog 79 #[.agg #[.bool g, .slice A (nd W n) c, .slice A' (nd W d) c']] w fun e w' => e = .returned (.int .i64 (tpZ n d)) ∧ Below w.heap.size w w' := by
  obtain ⟨bl, hbl⟩ : ∃ bl : List C3, bl = [(.bool g, .slice A (nd W n) c, .slice A' (nd W d) c')] := ⟨_, rfl⟩
  have T0 := BL.start1 w (.bool g) (.slice A (nd W n) c) (.slice A' (nd W d) c') 47
  rw [← hbl] at T0
  have L0 : ∀ U, BL w bl U → U.cell? ⟨w.heap.size, 0, none⟩ = some (.bool g) := fun U hU => (hU.box 0 (.bool g, .slice A (nd W n) c, .slice A' (nd W d) c') (by rw [hbl]; rfl)).2.1
  have L1 : ∀ U, BL w bl U → U.cell? ⟨w.heap.size, 1, none⟩ = some (.slice A (nd W n) c) := fun U hU => (hU.box 0 (.bool g, .slice A (nd W n) c, .slice A' (nd W d) c') (by rw [hbl]; rfl)).2.2.1
  have L2 : ∀ U, BL w bl U → U.cell? ⟨w.heap.size, 2, none⟩ = some (.slice A' (nd W d) c') := fun U hU => (hU.box 0 (.bool g, .slice A (nd W n) c, .slice A' (nd W d) c') (by rw [hbl]; rfl)).2.2.2.1
  have HBL := Lib.hid hbl
  clear hbl
  have b1 := bits_131072' hn
  have b2 := bits_131072' hd
  have z1 := fits_words hn
  have z2 := fits_words hd
  have KL1 : Hid (∀ W', BL w bl W' → Calls Tryd.prog 66 #[.slice A (nd W n) c] W' (fun e w' => e = .returned (.int .i64 (nd 2 n : Nat)) ∧ W' = w')) := Lib.hid fun W' hT => Len_c A c n W'.heap.size W' (by omega) ((r1.below hT.1).more hT.1.size)
  have KL2 : Hid (∀ W', BL w bl W' → Calls Tryd.prog 66 #[.slice A' (nd W d) c'] W' (fun e w' => e = .returned (.int .i64 (nd 2 d : Nat)) ∧ W' = w')) := Lib.hid fun W' hT => Len_c A' c' d W'.heap.size W' (by omega) ((r2.below hT.1).more hT.1.size)
  obtain ⟨tt, ht⟩ : ∃ tt : Int, tt = (nd 2 n : Int) - nd 2 d := ⟨_, rfl⟩
  obtain ⟨k1, hk1⟩ : ∃ k : Nat, (k : Int) = max (-tt) 0 := ⟨(max (-tt) 0).toNat, by omega⟩
  obtain ⟨k2, hk2⟩ : ∃ k : Nat, (k : Int) = max tt 0 := ⟨(max tt 0).toNat, by omega⟩
  have HT : Hid (tpZ n d = if n * 2 ^ k1 < d * 2 ^ k2 then tt - 1 else tt) := Lib.hid (by
    unfold tpZ
    rw [← ht, ← hk1, ← hk2]
    rfl)
  have hk1b : k1 ≤ 131072 := by omega
  have hk2b : k2 ≤ 131072 := by omega
  have KS1 : Hid (∀ W', BL w bl W' → Calls Tryd.prog 83 #[.slice A (nd W n) c, .int .i64 (k1 : Nat)] W' (NumPost (n * 2 ^ k1) W')) := Lib.hid fun W' hT => Shl_c A c n k1 W'.heap.size W' (by omega) ((r1.below hT.1).more hT.1.size) (Nat.le_refl _)
  have KS2 : Hid (∀ W', BL w bl W' → Calls Tryd.prog 83 #[.slice A' (nd W d) c', .int .i64 (k2 : Nat)] W' (NumPost (d * 2 ^ k2) W')) := Lib.hid fun W' hT => Shl_c A' c' d k2 W'.heap.size W' (by omega) ((r2.below hT.1).more hT.1.size) (Nat.le_refl _)
  have hX : nd W (n * 2 ^ k1) ≤ 10000 := nd_shl (by omega) hk1b
  have hY : nd W (d * 2 ^ k2) ≤ 10000 := nd_shl (by omega) hk2b
  have hw : IntKind.i64.wrap ((nd 2 n : Int) - nd 2 d) = tt := by rw [← ht]; exact IntWalk.i64_in _ ⟨by omega, by omega⟩
  have hw2 : IntKind.i64.wrap (-tt) = -tt := IntWalk.i64_in _ ⟨by omega, by omega⟩
  have hw3 : IntKind.i64.wrap (tt - 1) = tt - 1 := IntWalk.i64_in _ ⟨by omega, by omega⟩
  have hm1 : max (-tt) 0 = (k1 : Int) := hk1.symm
  have hm2 : max 0 (-tt) = (k1 : Int) := by omega
  have hm3 : max tt 0 = (k2 : Int) := hk2.symm
  have hm4 : max 0 tt = (k2 : Int) := by omega
  clear hk1 hk2 ht hn hd b1 b2 z1 z2 r1 r2 hk1b hk2b
  generalize n * 2 ^ k1 = X at *
  generalize d * 2 ^ k2 = Y at *
  have HX := Lib.hid hX
  have HY := Lib.hid hY
  clear hX hY
  generalize tpZ n d = R at *
  generalize nd 2 n = ln at *
  generalize nd 2 d = ld at *
  go_enter Tryd.func79, Tryd.ntmps79
  go_wp2_with fail
  go_region_held3 (BL w bl) (first | assumption | exact BL.step (by assumption) (by assumption) | exact BL.drew (by assumption) | exact BL.drawn (by assumption) _)
    (first
      | (go_at_call 66; (with_reducible refine (KL1.out _ (by assumption)).mono ?_); rintro ee wa ⟨rfl, rfl⟩)
      | (go_at_call 66; (with_reducible refine (KL2.out _ (by assumption)).mono ?_); rintro ee wa ⟨rfl, rfl⟩))
  rename_i hHeld
  replace T0 := hHeld
  clear hHeld KL1 KL2
  obtain ⟨p0, p1, p2, p3, p4, p5, p6⟩ := T0.boxZ (.bool g, .slice A (nd W n) c, .slice A' (nd W d) c') (by rw [HBL.out]; rfl)
  go_wp2_with fail
  clear p0 p1 p2 p3 p4 p5 p6
  go_region_held3 (BL w bl) (first | assumption | exact BL.step (by assumption) (by assumption) | exact BL.drew (by assumption) | exact BL.drawn (by assumption) _)
    (first
      | (go_at_call 83; (with_reducible refine (KS1.out _ (by assumption)).mono ?_); rintro ee wa hp; obtain ⟨A1, c1, rfl, hc1, hr1, hb1⟩ := hp.get; clear hp)
      | (go_at_call 83; (with_reducible refine (KS2.out _ (by assumption)).mono ?_); rintro ee wb hp; obtain ⟨A2, c2, rfl, hc2, hr2, hb2⟩ := hp.get; clear hp; have hr1' := (hr1.below hb2).more hb2.size; clear hr1)
      | (go_at_call 44; (refine (Cmp_c _ _ _ _ X Y _ _ (Nat.le_trans HX.out (by decide)) (Nat.le_trans HY.out (by decide)) hr1' hr2).mono ?_); rintro ee wc ⟨rfl, nn, rfl⟩; clear hr1' hr2))
  all_goals
    rename_i hHeld
    have HF := Lib.hid hHeld.1
    clear hHeld T0 L0 L1 L2 KS1 KS2
    by_cases hl : X < Y
    · have hc := cmp_neg hl
      have hc2 : cmpN X Y < 0 := of_decide_eq_true hc
      have hc3 : ¬ 0 ≤ cmpN X Y := by omega
      have HR := Lib.hid (show R = tt - 1 by rw [HT.out, if_pos hl])
      clear hl
      generalize cmpN X Y = cc at *
      go_wp2_with fail
      go_ret
      exact ⟨by rw [HR.out]; rfl, HF.out⟩
    · have hc := cmp_pos (Nat.le_of_not_lt hl)
      have hc2 : ¬ cmpN X Y < 0 := of_decide_eq_false hc
      have hc3 : 0 ≤ cmpN X Y := by omega
      have HR := Lib.hid (show R = tt by rw [HT.out, if_neg hl])
      clear hl
      generalize cmpN X Y = cc at *
      go_wp2_with fail
      go_ret
      exact ⟨by rw [HR.out]; rfl, HF.out⟩
end Go.Proofs.YtajcapliokblfaaDoor
namespace Go.Proofs.YtajcapliokblfaaDoor
open Go Go.RowKit Nt
def rk1 (q : Int) : Nat := (max (-q) 0).toNat
def rk2 (q : Int) : Nat := (max q 0).toNat
def rX (n : Nat) (q : Int) : Nat := n * 2 ^ rk1 q
def rY (d : Nat) (q : Int) : Nat := d * 2 ^ rk2 q
theorem rY_pos {d : Nat} (h : d ≠ 0) (q : Int) : rY d q ≠ 0 := Nat.mul_ne_zero h (Nat.pos_iff_ne_zero.1 (Nat.two_pow_pos _))
theorem sc_iff {n d a b a' b' : Nat} (h : a + b' = a' + b) : d * 2 ^ a ≤ n * 2 ^ b ↔ d * 2 ^ a' ≤ n * 2 ^ b' := by
  have e1 : d * 2 ^ a * 2 ^ b' = d * 2 ^ a' * 2 ^ b := by rw [Nat.mul_assoc, Nat.mul_assoc, ← Nat.pow_add, ← Nat.pow_add, h]
  have e2 : n * 2 ^ b * 2 ^ b' = n * 2 ^ b' * 2 ^ b := Nat.mul_right_comm _ _ _
  have p1 := Nat.two_pow_pos b'
  have p2 := Nat.two_pow_pos b
  constructor
  · intro k
    have := Nat.mul_le_mul_right (2 ^ b') k
    rw [e1, e2] at this
    exact Nat.le_of_mul_le_mul_right this p2
  · intro k
    have := Nat.mul_le_mul_right (2 ^ b) k
    rw [← e1, ← e2] at this
    exact Nat.le_of_mul_le_mul_right this p1
def Gz (n d : Nat) (z : Int) : Prop := rY d z ≤ rX n z
theorem Gz_at {n d a b : Nat} {z : Int} (h : (a : Int) - b = z) : Gz n d z ↔ d * 2 ^ a ≤ n * 2 ^ b := by
  unfold Gz rY rX
  exact sc_iff (by unfold rk1 rk2; omega)
theorem Gz_shift (n d : Nat) (q : Int) (k : Nat) : rY d q * 2 ^ k ≤ rX n q ↔ Gz n d (q + k) := by
  have e : rY d q * 2 ^ k = d * 2 ^ (rk2 q + k) := by unfold rY; rw [Nat.mul_assoc, ← Nat.pow_add]
  rw [e]
  exact (Gz_at (by unfold rk1 rk2; omega)).symm
theorem Gz_mono {n d : Nat} {z z' : Int} (h : Gz n d z) (hz : z' ≤ z) : Gz n d z' := by
  obtain ⟨k, hk⟩ : ∃ k : Nat, z = z' + k := ⟨(z - z').toNat, by omega⟩
  rw [hk] at h
  have h1 := (Gz_shift n d z' k).2 h
  exact Nat.le_trans (Nat.le_mul_of_pos_right _ (Nat.two_pow_pos k)) h1
theorem tp_spec {n d : Nat} (hn : n ≠ 0) (hd : d ≠ 0) : Gz n d (tpZ n d) ∧ ¬ Gz n d (tpZ n d + 1) ∧ (nd 2 n : Int) - nd 2 d - 1 ≤ tpZ n d ∧ tpZ n d ≤ (nd 2 n : Int) - nd 2 d := by
  have n1 := lt_nd (b := 2) (n := n) (by omega)
  have d1 := lt_nd (b := 2) (n := d) (by omega)
  have nn : nd 2 n ≠ 0 := fun c => hn ((nd_eq_zero (by omega)).1 c)
  have dd : nd 2 d ≠ 0 := fun c => hd ((nd_eq_zero (by omega)).1 c)
  have n2 : 2 ^ (nd 2 n - 1) ≤ n := (pow_le_iff (by omega) _ _).2 (by omega)
  have d2 : 2 ^ (nd 2 d - 1) ≤ d := (pow_le_iff (by omega) _ _).2 (by omega)
  have g1 : Gz n d ((nd 2 n : Int) - nd 2 d - 1) := (Gz_at (a := nd 2 n - 1) (b := nd 2 d) (by omega)).2 (by
    rw [Nat.mul_comm]; exact Nat.mul_le_mul n2 (Nat.le_of_lt d1))
  have g2 : ¬ Gz n d ((nd 2 n : Int) - nd 2 d + 1) := fun c => by
    have c2 := (Gz_at (a := nd 2 n) (b := nd 2 d - 1) (by omega)).1 c
    have h3 : n * 2 ^ (nd 2 d - 1) < 2 ^ nd 2 n * d := Nat.lt_of_lt_of_le (Nat.mul_lt_mul_of_pos_right n1 (Nat.two_pow_pos _)) (Nat.mul_le_mul_left _ d2)
    rw [Nat.mul_comm d] at c2
    omega
  have key : n * 2 ^ (max (-((nd 2 n : Int) - nd 2 d)) 0).toNat < d * 2 ^ (max ((nd 2 n : Int) - nd 2 d) 0).toNat ↔ ¬ Gz n d ((nd 2 n : Int) - nd 2 d) := by
    unfold Gz rX rY rk1 rk2; omega
  unfold tpZ
  by_cases c : n * 2 ^ (max (-((nd 2 n : Int) - nd 2 d)) 0).toNat < d * 2 ^ (max ((nd 2 n : Int) - nd 2 d) 0).toNat
  · rw [if_pos c]
    refine ⟨g1, ?_, Int.le_refl _, by omega⟩
    rw [show (nd 2 n : Int) - nd 2 d - 1 + 1 = (nd 2 n : Int) - nd 2 d by omega]
    exact key.1 c
  · rw [if_neg c]
    exact ⟨Classical.not_not.1 (fun k => c (key.2 k)), g2, by omega, by omega⟩
def rqZ (n d : Nat) : Int := max (tpZ n d - 52) (-1074)
def rMq (n d : Nat) (q : Int) : Nat := rX n q / rY d q
def rLq (n d : Nat) (q : Int) : Nat := rX n q % rY d q
theorem pow_rMq {n d : Nat} (hd : d ≠ 0) (q : Int) (k : Nat) : 2 ^ k ≤ rMq n d q ↔ Gz n d (q + k) := by
  rw [← Gz_shift]
  unfold rMq
  rw [Nat.le_div_iff_mul_le (Nat.pos_of_ne_zero (rY_pos hd q)), Nat.mul_comm]
theorem rMq_lt {n d : Nat} (hn : n ≠ 0) (hd : d ≠ 0) : rMq n d (rqZ n d) < 9007199254740992 := by
  obtain ⟨h1, h2, h3, h4⟩ := tp_spec hn hd
  have h := pow_rMq (n := n) hd (rqZ n d) 53
  have : ¬ Gz n d (rqZ n d + (53 : Nat)) := fun c => h2 (Gz_mono c (by unfold rqZ; omega))
  have h5 : ¬ 2 ^ 53 ≤ rMq n d (rqZ n d) := fun c => this (h.1 c)
  have e : (2 : Nat) ^ 53 = 9007199254740992 := by decide
  rw [e] at h5
  omega
theorem rMq_norm {n d : Nat} (hn : n ≠ 0) (hd : d ≠ 0) : 4503599627370496 ≤ rMq n d (rqZ n d) ∨ rqZ n d = -1074 := by
  obtain ⟨h1, h2, h3, h4⟩ := tp_spec hn hd
  by_cases c : tpZ n d - 52 ≤ -1074
  · exact Or.inr (by unfold rqZ; omega)
  · refine Or.inl ?_
    have h := (pow_rMq (n := n) hd (rqZ n d) 52).2 (Gz_mono h1 (by unfold rqZ; omega))
    have e : (2 : Nat) ^ 52 = 4503599627370496 := by decide
    rw [e] at h; exact h
theorem rqZ_b (n d : Nat) (h : tpZ n d ≤ 1023) : -1074 ≤ rqZ n d ∧ rqZ n d ≤ 971 := by unfold rqZ; omega
theorem rX_step (n d : Nat) {q : Int} (h : q ≤ 0) : rX n (q - 1) = rX n q * 2 ∧ rY d (q - 1) = rY d q := by
  have h1 : rk1 (q - 1) = rk1 q + 1 := by unfold rk1; omega
  have h2 : rk2 (q - 1) = rk2 q := by unfold rk2; omega
  unfold rX rY
  rw [h1, h2, Nat.pow_succ, Nat.mul_assoc]
  exact ⟨rfl, rfl⟩
theorem rMq_tiny {n d : Nat} (hn : n ≠ 0) (hd : d ≠ 0) (h : tpZ n d < -1075) : rqZ n d = -1074 ∧ rMq n d (-1074) = 0 ∧ rsW (rLq n d (-1074)) (rY d (-1074)) = 1 := by
  obtain ⟨h1, h2, h3, h4⟩ := tp_spec hn hd
  have a1 : ¬ Gz n d (-1074) := fun c => h2 (Gz_mono c (by omega))
  have a2 : ¬ Gz n d (-1075) := fun c => h2 (Gz_mono c (by omega))
  have hX : rX n (-1074) < rY d (-1074) := by unfold Gz at a1; omega
  have hX0 : rX n (-1074) ≠ 0 := Nat.mul_ne_zero hn (Nat.pos_iff_ne_zero.1 (Nat.two_pow_pos _))
  have hM : rMq n d (-1074) = 0 := Nat.div_eq_of_lt hX
  have hL : rLq n d (-1074) = rX n (-1074) := Nat.mod_eq_of_lt hX
  have h2X : rX n (-1074) * 2 < rY d (-1074) := by
    obtain ⟨e1, e2⟩ := rX_step n d (q := -1074) (by decide)
    have e3 : ((-1074 : Int) - 1) = -1075 := by decide
    rw [e3] at e1 e2
    unfold Gz at a2
    rw [e1, e2] at a2
    omega
  refine ⟨by unfold rqZ; omega, hM, ?_⟩
  rw [rsW_n (by rw [hL]; exact hX0), hL, cmpN_lt h2X]
  rfl
end Go.Proofs.YtajcapliokblfaaDoor
namespace Go.Proofs.YtajcapliokblfaaDoor
open Go Go.RowKit Nt
def upW (k : Nat) (g : Bool) (m : Nat) (r : Int) : Bool := if k = 0 then decide (r = 3 ∨ (r = 2 ∧ m % 2 = 1)) else if k = 1 then g && decide (r ≠ 0) else !g && decide (r ≠ 0)
def mUp (k : Nat) (g : Bool) (m : Nat) (r : Int) : Nat := if upW k g m r = true then m + 1 else m
theorem r_cases {r : Int} (h : 0 ≤ r ∧ r ≤ 3) : r = 0 ∨ r = 1 ∨ r = 2 ∨ r = 3 := by omega
theorem RF_Near_c (g : Bool) (m : Nat) (q r : Int) (w : World) (hG : Globs glT w) (hr : 0 ≤ r ∧ r ≤ 3) (hm : m < 9007199254740992) (hq1 : -1074 ≤ q) (hq2 : q ≤ 971) (hmn : 4503599627370496 ≤ m ∨ q = -1074) : Calls Tryd.prog 81 #[.bool g, .int .u64 ((m : Nat) : Int), .int .i64 q, .int .u8 r, .func (.func 62) #[] #[]] w fun e w' => e = .returned (.float .f64 (Bt.wf g (pk (mUp 0 g m r) q))) ∧ Below w.heap.size w w' := by
  unfold mUp upW
  rcases r_cases hr with rfl | rfl | rfl | rfl <;> cases g
  · simpa using RF_Near_f0 m q w hG hm hq1 hq2 hmn
  · simpa using RF_Near_t0 m q w hG hm hq1 hq2 hmn
  · simpa using RF_Near_f1 m q w hG hm hq1 hq2 hmn
  · simpa using RF_Near_t1 m q w hG hm hq1 hq2 hmn
  · by_cases ho : m % 2 = 1
    · simpa [ho] using RF_Near_f2o m q w hG hm hq1 hq2 hmn ho
    · have ho2 : m % 2 = 0 := by omega
      simpa [ho2] using RF_Near_f2e m q w hG hm hq1 hq2 hmn ho2
  · by_cases ho : m % 2 = 1
    · simpa [ho] using RF_Near_t2o m q w hG hm hq1 hq2 hmn ho
    · have ho2 : m % 2 = 0 := by omega
      simpa [ho2] using RF_Near_t2e m q w hG hm hq1 hq2 hmn ho2
  · simpa using RF_Near_f3 m q w hG hm hq1 hq2 hmn
  · simpa using RF_Near_t3 m q w hG hm hq1 hq2 hmn
set_option maxRecDepth 100000 in
theorem RHuge_Near (g : Bool) (w : World) (hG : Globs glT w) : Calls Tryd.prog 80 #[.bool g, .func (.func 62) #[] #[]] w fun e w' => e = .returned (.float .f64 (Bt.wf g (pk (mUp 0 g 9007199254740991 3) 971))) ∧ Below w.heap.size w w' := by
  have K : Hid (∀ w, Globs glT w → Calls Tryd.prog 81 #[.bool g, .int .u64 9007199254740991, .int .i64 971, .int .u8 3, .func (.func 62) #[] #[]] w fun e w' => e = .returned (.float .f64 (Bt.wf g (pk (mUp 0 g 9007199254740991 3) 971))) ∧ Below w.heap.size w w') := Lib.hid fun w hG => RF_Near_c g 9007199254740991 971 3 w hG (by omega) (by omega) (by omega) (by omega) (Or.inl (by omega))
  generalize Bt.wf g (pk (mUp 0 g 9007199254740991 3) 971) = z at *
  go_enter Tryd.func80, Tryd.ntmps80
  go_wp2_with fail
  refine (K.out _ hG).mono ?_
  rintro ee w1 ⟨rfl, hb⟩
  go_wp2_with fail
  go_ret
  exact ⟨rfl, hb⟩
end Go.Proofs.YtajcapliokblfaaDoor
namespace Go.Proofs.YtajcapliokblfaaDoor
open Go Go.RowKit Nt
def RB (w : World) (c : C3) (C : Nat) (f : C3) (A : Option Addr) (n : Nat) (A' : Option Addr) (d : Nat) (V : World) : Prop := Below w.heap.size w V ∧ Bx3 V w.heap.size c ∧ Bx3 V C f ∧ Row V V.heap.size A n (nd W n) ∧ Row V V.heap.size A' d (nd W d)
theorem RB.step {w : World} {c : C3} {C : Nat} {f : C3} {A : Option Addr} {n : Nat} {A' : Option Addr} {d : Nat} {V V' : World} (h : RB w c C f A n A' d V) (hb : Below V.heap.size V V') : RB w c C f A n A' d V' :=
  ⟨below_chain h.1 hb, h.2.1.step hb, h.2.2.1.step hb, (h.2.2.2.1.below hb).more hb.size, (h.2.2.2.2.below hb).more hb.size⟩
theorem RB.drew {w : World} {c : C3} {C : Nat} {f : C3} {A : Option Addr} {n : Nat} {A' : Option Addr} {d : Nat} {V : World} (h : RB w c C f A n A' d V) : RB w c C f A n A' d V.drew := h.step (Below.refl _ _).drew
theorem RB.drawn {w : World} {c : C3} {C : Nat} {f : C3} {A : Option Addr} {n : Nat} {A' : Option Addr} {d : Nat} {V : World} (h : RB w c C f A n A' d V) (k : Nat) : RB w c C f A n A' d (V.drewN k) := h.step (below_drewN (Below.refl _ _) k)
theorem RB.of {w : World} {c : C3} {V : World} {A : Option Addr} {n : Nat} {A' : Option Addr} {d : Nat} (h : BL w [c] V) (x y z : Value) (T : TypeId) (h1 : Row V V.heap.size A n (nd W n)) (h2 : Row V V.heap.size A' d (nd W d)) : RB w c V.heap.size (x, y, z) A n A' d (V.alloc (.cells #[x, y, z] T)) := by
  have hb : Below V.heap.size V (V.alloc (.cells #[x, y, z] T)) := (Below.refl _ _).alloc (Nat.le_refl _) _
  exact ⟨below_chain h.1 hb, (h.2 0 c rfl).step hb, Bx3.new V x y z T, (h1.below hb).more hb.size, (h2.below hb).more hb.size⟩
theorem RB.low {w : World} {c : C3} {C : Nat} {f : C3} {A : Option Addr} {n : Nat} {A' : Option Addr} {d : Nat} {V : World} (h : RB w c C f A n A' d V) : Below w.heap.size w V := h.1
theorem RB.b0 {w : World} {c : C3} {C : Nat} {f : C3} {A : Option Addr} {n : Nat} {A' : Option Addr} {d : Nat} {V : World} (h : RB w c C f A n A' d V) : Bx3 V w.heap.size c := h.2.1
theorem RB.b1 {w : World} {c : C3} {C : Nat} {f : C3} {A : Option Addr} {n : Nat} {A' : Option Addr} {d : Nat} {V : World} (h : RB w c C f A n A' d V) : Bx3 V C f := h.2.2.1
theorem RB.r0 {w : World} {c : C3} {C : Nat} {f : C3} {A : Option Addr} {n : Nat} {A' : Option Addr} {d : Nat} {V : World} (h : RB w c C f A n A' d V) : Row V V.heap.size A n (nd W n) := h.2.2.2.1
theorem RB.r1 {w : World} {c : C3} {C : Nat} {f : C3} {A : Option Addr} {n : Nat} {A' : Option Addr} {d : Nat} {V : World} (h : RB w c C f A n A' d V) : Row V V.heap.size A' d (nd W d) := h.2.2.2.2
set_option maxRecDepth 100000 in
theorem RLeast_c (T : Int) (w : World) (h1 : -1000000 ≤ T) (h2 : T ≤ 1000000) : Calls Tryd.prog 82 #[.int .i64 T] w fun e w' => e = .returned (.int .i64 (max (T - 52) (-1074))) ∧ Below w.heap.size w w' := by
  have hw : IntKind.i64.wrap (T - 52) = T - 52 := IntWalk.i64_in _ ⟨by omega, by omega⟩
  have hc : max (-1074) (T - 52) = max (T - 52) (-1074) := Int.max_comm _ _
  go_enter Tryd.func82, Tryd.ntmps82
  go_wp2_with fail
  go_ret
  exact ⟨by first | rfl | rw [hc], Below.refl _ _⟩
def SD (w : World) (c : C3) (C : Nat) (f : C3) (A : Option Addr) (n : Nat) (A' : Option Addr) (d : Nat) (B : Option Addr) (L : Nat) (B' : Option Addr) (Y : Nat) (V : World) : Prop := RB w c C f A n A' d V ∧ Row V V.heap.size B L (nd W L) ∧ Row V V.heap.size B' Y (nd W Y)
theorem SD.step {w : World} {c : C3} {C : Nat} {f : C3} {A : Option Addr} {n : Nat} {A' : Option Addr} {d : Nat} {B : Option Addr} {L : Nat} {B' : Option Addr} {Y : Nat} {V V' : World} (h : SD w c C f A n A' d B L B' Y V) (hb : Below V.heap.size V V') : SD w c C f A n A' d B L B' Y V' :=
  ⟨h.1.step hb, (h.2.1.below hb).more hb.size, (h.2.2.below hb).more hb.size⟩
theorem SD.drew {w : World} {c : C3} {C : Nat} {f : C3} {A : Option Addr} {n : Nat} {A' : Option Addr} {d : Nat} {B : Option Addr} {L : Nat} {B' : Option Addr} {Y : Nat} {V : World} (h : SD w c C f A n A' d B L B' Y V) : SD w c C f A n A' d B L B' Y V.drew := h.step (Below.refl _ _).drew
theorem SD.drawn {w : World} {c : C3} {C : Nat} {f : C3} {A : Option Addr} {n : Nat} {A' : Option Addr} {d : Nat} {B : Option Addr} {L : Nat} {B' : Option Addr} {Y : Nat} {V : World} (h : SD w c C f A n A' d B L B' Y V) (k : Nat) : SD w c C f A n A' d B L B' Y (V.drewN k) := h.step (below_drewN (Below.refl _ _) k)
theorem SD.low {w : World} {c : C3} {C : Nat} {f : C3} {A : Option Addr} {n : Nat} {A' : Option Addr} {d : Nat} {B : Option Addr} {L : Nat} {B' : Option Addr} {Y : Nat} {V : World} (h : SD w c C f A n A' d B L B' Y V) : Below w.heap.size w V := h.1.1
theorem SD.rb {w : World} {c : C3} {C : Nat} {f : C3} {A : Option Addr} {n : Nat} {A' : Option Addr} {d : Nat} {B : Option Addr} {L : Nat} {B' : Option Addr} {Y : Nat} {V : World} (h : SD w c C f A n A' d B L B' Y V) : RB w c C f A n A' d V := h.1
theorem SD.l {w : World} {c : C3} {C : Nat} {f : C3} {A : Option Addr} {n : Nat} {A' : Option Addr} {d : Nat} {B : Option Addr} {L : Nat} {B' : Option Addr} {Y : Nat} {V : World} (h : SD w c C f A n A' d B L B' Y V) : Row V V.heap.size B L (nd W L) := h.2.1
theorem SD.y {w : World} {c : C3} {C : Nat} {f : C3} {A : Option Addr} {n : Nat} {A' : Option Addr} {d : Nat} {B : Option Addr} {L : Nat} {B' : Option Addr} {Y : Nat} {V : World} (h : SD w c C f A n A' d B L B' Y V) : Row V V.heap.size B' Y (nd W Y) := h.2.2
theorem Small_to (m : Nat) (hm : m < 18446744073709551616) (w : World) : Calls Tryd.prog 84 #[.string (natS m)] w fun e w' => e = .returned (.tuple #[.int .u64 (m : Nat), .bool true]) ∧ Below w.heap.size w w' := by
  have h8 := br_lt.2 hm
  have h := Small_c m w (by unfold fits; omega)
  rwa [brN_yes h8, brB_yes h8] at h
set_option maxRecDepth 100000 in
set_option maxHeartbeats 1000000 in
theorem PRnd_hi (F : Value) (Z : Nat) (g : Bool) (n d : Nat) (w : World) (hn : fits n) (hd : fits d) (h0 : n ≠ 0) (hZ : 1023 < tpZ n d)
    (hM : ∀ w, Calls Tryd.prog 14 #[.agg #[.bool g, .string (natS n), .string (natS d)]] w fun e w' => e = .returned (.bool true) ∧ Below w.heap.size w w')
    (hH : ∀ w', Below w.heap.size w w' → Calls Tryd.prog 80 #[.bool g, F] w' fun e w'' => e = .returned (.float .f64 Z) ∧ Below w'.heap.size w' w'') :
    Calls Tryd.prog 61 #[.agg #[.bool g, .string (natS n), .string (natS d)], F] w fun e w' => e = .returned (.tuple #[.float .f64 Z, .int .i64 0]) ∧ Below w.heap.size w w' := by
  have KM := Lib.hid hM
  have KH := Lib.hid hH
  clear hM hH
  have T0 := BL.start1 w (.bool g) (.string (natS n)) (.string (natS d)) 25
  have KO := Lib.hid (fun w => Popen_c g n d w hn hd)
  have e1 := natS_full h0
  have e2 := natS_full2 h0
  have KT : Hid (∀ (A A' : Option Addr) (c c' : Nat) (W' : World), Row W' W'.heap.size A n (nd W n) → Row W' W'.heap.size A' d (nd W d) → Calls Tryd.prog 79 #[.agg #[.bool g, .slice A (nd W n) c, .slice A' (nd W d) c']] W' fun e w' => e = .returned (.int .i64 (tpZ n d)) ∧ Below W'.heap.size W' w') := Lib.hid fun A A' c c' W' r1 r2 => Ftop_c g n d A A' c c' W' hn hd r1 r2
  have HN := Lib.hid hn
  have HD := Lib.hid hd
  have H0 := Lib.hid h0
  clear hn hd h0
  generalize tpZ n d = T at *
  go_enter Tryd.func61, Tryd.ntmps61
  go_upto_region 5 with (first | (go_at_call 14; (with_reducible refine (KM.out _).mono ?_); rintro ee w1 ⟨rfl, hb⟩; replace T0 := T0.step hb; obtain ⟨p0, p1, p2, p3, p4, p5, p6⟩ := T0.box0; clear hb))
  go_upto_region 6 with (first | (go_at_call 26; (with_reducible refine (KO.out _).mono ?_); rintro ee wa ⟨A1, c1, A2, c2, rfl, hc1, hc2, hr1, hr2, hb1⟩; replace T0 := T0.step hb1; clear p0 p1 p2 p3 p4 p5 p6; obtain ⟨p0, p1, p2, p3, p4, p5, p6⟩ := T0.box0))
  have TR := RB.of T0 (.bool g) (.slice A1 (nd W n) c1) (.slice A2 (nd W d) c2) 47 hr1 hr2
  clear T0 p0 p1 p2 p3 p4 p5 p6 hr1 hr2 hb1 hc1 hc2 KO
  revert TR
  generalize wa.heap.size = C
  generalize wa.alloc _ = wb
  intro TR
  obtain ⟨q0, q1, q2, q3, q4, q5, q6⟩ := TR.b1.facts
  clear q4 q5 q6
  have q1 := q1
  go_wp2_with (first
    | (go_at_call 79; (with_reducible refine (KT.out _ _ _ _ _ TR.r0 TR.r1).mono ?_); rintro ee wc ⟨rfl, hb⟩; replace TR := TR.step hb; clear hb q0 q1 q2 q3; obtain ⟨q0, q1, q2, q3, q4, q5, q6⟩ := TR.b0.facts)
    | (go_at_call 80; (with_reducible refine (KH.out _ TR.low).mono ?_); rintro ee wd ⟨rfl, hb⟩; replace TR := TR.step hb; clear hb))
  go_ret2
  exact ⟨rfl, TR.low⟩
set_option maxRecDepth 100000 in
set_option maxHeartbeats 1000000 in
theorem PRnd_lo (F : Value) (Z : Nat) (g : Bool) (n d : Nat) (w : World) (hn : fits n) (hd : fits d) (h0 : n ≠ 0) (hZ : tpZ n d < -1075) (hZ2 : -1000000 ≤ tpZ n d)
    (hM : ∀ w, Calls Tryd.prog 14 #[.agg #[.bool g, .string (natS n), .string (natS d)]] w fun e w' => e = .returned (.bool true) ∧ Below w.heap.size w w')
    (hH : ∀ w', Below w.heap.size w w' → Calls Tryd.prog 81 #[.bool g, .int .u64 0, .int .i64 (-1074), .int .u8 1, F] w' fun e w'' => e = .returned (.float .f64 Z) ∧ Below w'.heap.size w' w'') :
    Calls Tryd.prog 61 #[.agg #[.bool g, .string (natS n), .string (natS d)], F] w fun e w' => e = .returned (.tuple #[.float .f64 Z, .int .i64 0]) ∧ Below w.heap.size w w' := by
  have KM := Lib.hid hM
  have KH := Lib.hid hH
  clear hM hH
  have T0 := BL.start1 w (.bool g) (.string (natS n)) (.string (natS d)) 25
  have KO := Lib.hid (fun w => Popen_c g n d w hn hd)
  have e1 := natS_full h0
  have e2 := natS_full2 h0
  have KT : Hid (∀ (A A' : Option Addr) (c c' : Nat) (W' : World), Row W' W'.heap.size A n (nd W n) → Row W' W'.heap.size A' d (nd W d) → Calls Tryd.prog 79 #[.agg #[.bool g, .slice A (nd W n) c, .slice A' (nd W d) c']] W' fun e w' => e = .returned (.int .i64 (tpZ n d)) ∧ Below W'.heap.size W' w') := Lib.hid fun A A' c c' W' r1 r2 => Ftop_c g n d A A' c c' W' hn hd r1 r2
  have HN := Lib.hid hn
  have HD := Lib.hid hd
  have H0 := Lib.hid h0
  clear hn hd h0
  generalize tpZ n d = T at *
  go_enter Tryd.func61, Tryd.ntmps61
  go_upto_region 5 with (first | (go_at_call 14; (with_reducible refine (KM.out _).mono ?_); rintro ee w1 ⟨rfl, hb⟩; replace T0 := T0.step hb; obtain ⟨p0, p1, p2, p3, p4, p5, p6⟩ := T0.box0; clear hb))
  go_upto_region 6 with (first | (go_at_call 26; (with_reducible refine (KO.out _).mono ?_); rintro ee wa ⟨A1, c1, A2, c2, rfl, hc1, hc2, hr1, hr2, hb1⟩; replace T0 := T0.step hb1; clear p0 p1 p2 p3 p4 p5 p6; obtain ⟨p0, p1, p2, p3, p4, p5, p6⟩ := T0.box0))
  have TR := RB.of T0 (.bool g) (.slice A1 (nd W n) c1) (.slice A2 (nd W d) c2) 47 hr1 hr2
  clear T0 p0 p1 p2 p3 p4 p5 p6 hr1 hr2 hb1 hc1 hc2 KO
  revert TR
  generalize wa.heap.size = C
  generalize wa.alloc _ = wb
  intro TR
  obtain ⟨q0, q1, q2, q3, q4, q5, q6⟩ := TR.b1.facts
  clear q4 q5 q6
  have q1 := q1
  have hZ3 : ¬ 1023 < T := by omega
  have KL : Hid (∀ W', Calls Tryd.prog 82 #[.int .i64 T] W' fun e w' => e = .returned (.int .i64 (-1074)) ∧ Below W'.heap.size W' w') := Lib.hid fun W' => by
    have h := RLeast_c T W' hZ2 (by omega)
    rwa [show max (T - 52) (-1074) = -1074 by omega] at h
  clear hZ2
  go_upto_region 10 with (first
    | (go_at_call 79; (with_reducible refine (KT.out _ _ _ _ _ TR.r0 TR.r1).mono ?_); rintro ee wc ⟨rfl, hb⟩; replace TR := TR.step hb; clear hb q0 q1 q2 q3; obtain ⟨q0, q1, q2, q3, q4, q5, q6⟩ := TR.b0.facts))
  have L0 : ∀ U, RB w (.bool g, .string (natS n), .string (natS d)) C (.bool g, .slice A1 (nd W n) c1, .slice A2 (nd W d) c2) A1 n A2 d U → U.cell? ⟨w.heap.size, 0, none⟩ = some (.bool g) := fun U hU => hU.b0.facts.2.1
  clear q0 q1 q2 q3 q4 q5 q6
  go_region_held3 (RB w (.bool g, .string (natS n), .string (natS d)) C (.bool g, .slice A1 (nd W n) c1, .slice A2 (nd W d) c2) A1 n A2 d) (first | assumption | exact RB.step (by assumption) (by assumption) | exact RB.drew (by assumption) | exact RB.drawn (by assumption) _)
    (first
      | (go_at_call 82; (with_reducible refine (KL.out _).mono ?_); rintro ee wd ⟨rfl, hb⟩)
      | (go_at_call 81; (with_reducible refine (KH.out _ (RB.low (by assumption))).mono ?_); rintro ee wd ⟨rfl, hb2⟩))
  all_goals
    rename_i hHeld
    have HF := Lib.hid hHeld.low
    clear hHeld L0
    go_wp2_with fail
    go_ret2
    exact ⟨rfl, HF.out⟩
set_option maxRecDepth 100000 in
set_option maxHeartbeats 2000000 in
theorem PRnd_mid (F : Value) (Z : Nat) (g : Bool) (n d : Nat) (w : World) (hn : fits n) (hd : fits d) (h0 : n ≠ 0) (hd0 : d ≠ 0) (hZ : tpZ n d ≤ 1023) (hZ2 : -1075 ≤ tpZ n d)
    (hM : ∀ w, Calls Tryd.prog 14 #[.agg #[.bool g, .string (natS n), .string (natS d)]] w fun e w' => e = .returned (.bool true) ∧ Below w.heap.size w w')
    (hH : ∀ w', Below w.heap.size w w' → Calls Tryd.prog 81 #[.bool g, .int .u64 ((rMq n d (rqZ n d) : Nat) : Int), .int .i64 (rqZ n d), .int .u8 (rsW (rLq n d (rqZ n d)) (rY d (rqZ n d))), F] w' fun e w'' => e = .returned (.float .f64 Z) ∧ Below w'.heap.size w' w'') :
    Calls Tryd.prog 61 #[.agg #[.bool g, .string (natS n), .string (natS d)], F] w fun e w' => e = .returned (.tuple #[.float .f64 Z, .int .i64 0]) ∧ Below w.heap.size w w' := by
  have KM := Lib.hid hM
  obtain ⟨q, hq⟩ : ∃ q, q = rqZ n d := ⟨_, rfl⟩
  rw [← hq] at hH
  have hM53 := rMq_lt h0 hd0
  rw [← hq] at hM53
  have hqT : max (tpZ n d - 52) (-1074) = q := by rw [hq]; rfl
  obtain ⟨k1, hk1⟩ : ∃ k : Nat, (k : Int) = max (-q) 0 := ⟨(max (-q) 0).toNat, by omega⟩
  obtain ⟨k2, hk2⟩ : ∃ k : Nat, (k : Int) = max q 0 := ⟨(max q 0).toNat, by omega⟩
  have er1 : rk1 q = k1 := by unfold rk1; omega
  have er2 : rk2 q = k2 := by unfold rk2; omega
  have hk1b : k1 ≤ 131072 := by omega
  have hk2b : k2 ≤ 131072 := by omega
  have z1 := fits_words hn
  have z2 := fits_words hd
  obtain ⟨X, hX⟩ : ∃ X, X = rX n q := ⟨_, rfl⟩
  obtain ⟨Y, hY⟩ : ∃ Y, Y = rY d q := ⟨_, rfl⟩
  obtain ⟨M, hMe⟩ : ∃ M, M = rMq n d q := ⟨_, rfl⟩
  obtain ⟨L, hL⟩ : ∃ L, L = rLq n d q := ⟨_, rfl⟩
  have hX2 : n * 2 ^ k1 = X := by rw [hX]; unfold rX; rw [er1]
  have hY2 : d * 2 ^ k2 = Y := by rw [hY]; unfold rY; rw [er2]
  have hXb : nd W X ≤ 10000 := by rw [← hX2]; exact nd_shl (by omega) hk1b
  have hYb : nd W Y ≤ 10000 := by rw [← hY2]; exact nd_shl (by omega) hk2b
  have hY0 : Y ≠ 0 := by rw [hY]; exact rY_pos hd0 q
  have hMX : M = X / Y := by rw [hMe, hX, hY]; rfl
  have hLX : L = X % Y := by rw [hL, hX, hY]; rfl
  rw [← hMe, ← hL, ← hY] at hH
  rw [← hMe] at hM53
  have hLb : nd W L ≤ 10000 := by rw [hLX]; exact Nat.le_trans (nd_mono W2 (Nat.le_of_lt (Nat.mod_lt _ (Nat.pos_of_ne_zero hY0)))) hYb
  have hMb : nd W M ≤ 10000 := by rw [hMX]; exact Nat.le_trans (nd_mono W2 (Nat.div_le_self _ _)) hXb
  have KL : Hid (∀ W', Calls Tryd.prog 82 #[.int .i64 (tpZ n d)] W' fun e w' => e = .returned (.int .i64 q) ∧ Below W'.heap.size W' w') := Lib.hid fun W' => by
    have h := RLeast_c (tpZ n d) W' (by omega) (by omega)
    rwa [hqT] at h
  have KS1 : Hid (∀ (A : Option Addr) (c : Nat) (W' : World), Row W' W'.heap.size A n (nd W n) → Calls Tryd.prog 83 #[.slice A (nd W n) c, .int .i64 (k1 : Nat)] W' (NumPost X W')) := Lib.hid fun A c W' hr => by
    rw [← hX2]; exact Shl_c A c n k1 W'.heap.size W' (by omega) hr (Nat.le_refl _)
  have KS2 : Hid (∀ (A : Option Addr) (c : Nat) (W' : World), Row W' W'.heap.size A d (nd W d) → Calls Tryd.prog 83 #[.slice A (nd W d) c, .int .i64 (k2 : Nat)] W' (NumPost Y W')) := Lib.hid fun A c W' hr => by
    rw [← hY2]; exact Shl_c A c d k2 W'.heap.size W' (by omega) hr (Nat.le_refl _)
  have KD : Hid (∀ (A A' : Option Addr) (c c' : Nat) (W' : World), Row W' W'.heap.size A X (nd W X) → Row W' W'.heap.size A' Y (nd W Y) → Calls Tryd.prog 65 #[.slice A (nd W X) c, .slice A' (nd W Y) c'] W' (DivPost M L W')) := Lib.hid fun A A' c c' W' r r' => by
    rw [hMX, hLX]; exact Div_all A A' c c' X Y W' hY0 (by omega) (by omega) r r'
  have KB : Hid (∀ (A : Option Addr) (c : Nat) (W' : World), Row W' W'.heap.size A M (nd W M) → Calls Tryd.prog 67 #[.slice A (nd W M) c] W' (fun e w' => e = .returned (.string (natS M)) ∧ Below W'.heap.size W' w')) := Lib.hid fun A c W' hr => Bytes_c A c M W'.heap.size W' (by omega) hr (Nat.le_refl _)
  have KSm := Lib.hid fun w => Small_to M (by omega) w
  have KR : Hid (∀ (A A' : Option Addr) (c c' : Nat) (W' : World), Row W' W'.heap.size A L (nd W L) → Row W' W'.heap.size A' Y (nd W Y) → Calls Tryd.prog 85 #[.slice A (nd W L) c, .slice A' (nd W Y) c'] W' fun e w' => e = .returned (.int .u8 (rsW L Y)) ∧ Below W'.heap.size W' w') := Lib.hid fun A A' c c' W' r r' => Prest_c L Y A A' c c' W' (by omega) (by omega) r r'
  have KH := Lib.hid hH
  have hZ3 : ¬ 1023 < tpZ n d := by omega
  have hZ4 : ¬ tpZ n d < -1075 := by omega
  have hw2 : IntKind.i64.wrap (-q) = -q := IntWalk.i64_in _ ⟨by omega, by omega⟩
  have hm1 : max (-q) 0 = (k1 : Int) := hk1.symm
  have hm2 : max 0 (-q) = (k1 : Int) := by omega
  have hm3 : max q 0 = (k2 : Int) := hk2.symm
  have hm4 : max 0 q = (k2 : Int) := by omega
  clear hM hH hM53 hk1 hk2 er1 er2 hk1b hk2b z1 z2 hX hY hMe hL hX2 hY2 hXb hYb hY0 hMX hLX hLb hMb hZ hZ2 hqT hq
  have T0 := BL.start1 w (.bool g) (.string (natS n)) (.string (natS d)) 25
  have KO := Lib.hid (fun w => Popen_c g n d w hn hd)
  have e1 := natS_full h0
  have e2 := natS_full2 h0
  have KT : Hid (∀ (A A' : Option Addr) (c c' : Nat) (W' : World), Row W' W'.heap.size A n (nd W n) → Row W' W'.heap.size A' d (nd W d) → Calls Tryd.prog 79 #[.agg #[.bool g, .slice A (nd W n) c, .slice A' (nd W d) c']] W' fun e w' => e = .returned (.int .i64 (tpZ n d)) ∧ Below W'.heap.size W' w') := Lib.hid fun A A' c c' W' r1 r2 => Ftop_c g n d A A' c c' W' hn hd r1 r2
  have HN := Lib.hid hn
  have HD := Lib.hid hd
  have H0 := Lib.hid h0
  clear hn hd h0
  generalize tpZ n d = T at *
  generalize rsW L Y = r at *
  go_enter Tryd.func61, Tryd.ntmps61
  go_upto_region 5 with (first | (go_at_call 14; (with_reducible refine (KM.out _).mono ?_); rintro ee w1 ⟨rfl, hb⟩; replace T0 := T0.step hb; obtain ⟨p0, p1, p2, p3, p4, p5, p6⟩ := T0.box0; clear hb))
  go_upto_region 6 with (first | (go_at_call 26; (with_reducible refine (KO.out _).mono ?_); rintro ee wa ⟨A1, c1, A2, c2, rfl, hc1, hc2, hr1, hr2, hb1⟩; replace T0 := T0.step hb1; clear p0 p1 p2 p3 p4 p5 p6; obtain ⟨p0, p1, p2, p3, p4, p5, p6⟩ := T0.box0))
  have TR := RB.of T0 (.bool g) (.slice A1 (nd W n) c1) (.slice A2 (nd W d) c2) 47 hr1 hr2
  clear T0 p0 p1 p2 p3 p4 p5 p6 hr1 hr2 hb1 hc1 hc2 KO
  revert TR
  generalize wa.heap.size = C
  generalize wa.alloc _ = wb
  intro TR
  obtain ⟨q0, q1, q2, q3, q4, q5, q6⟩ := TR.b1.facts
  clear q4 q5 q6
  have q1 := q1
  go_upto_region 12 with (first
    | (go_at_call 79; (with_reducible refine (KT.out _ _ _ _ _ TR.r0 TR.r1).mono ?_); rintro ee wc ⟨rfl, hb⟩; replace TR := TR.step hb; clear hb q0 q1 q2 q3)
    | (go_at_call 82; (with_reducible refine (KL.out _).mono ?_); rintro ee wd ⟨rfl, hb⟩; replace TR := TR.step hb; clear hb; obtain ⟨q0, q1, q2, q3, q4, q5, q6⟩ := TR.b1.facts))
  clear hZ3 hZ4
  go_upto_region 13 with (first
    | (go_at_call 83; (with_reducible refine (KS2.out _ _ _ TR.r1).mono ?_); rintro ee we hp; obtain ⟨A3, c3, rfl, hc3, hr3, hb⟩ := hp.get; clear hp; replace TR := TR.step hb; clear hb q0 q1 q2 q3 q4 q5 q6; obtain ⟨q0, q1, q2, q3, q4, q5, q6⟩ := TR.b1.facts))
  go_upto_region 14 with (first
    | (go_at_call 83; (with_reducible refine (KS1.out _ _ _ TR.r0).mono ?_); rintro ee wf hp; obtain ⟨A4, c4, rfl, hc4, hr4, hb⟩ := hp.get; clear hp; replace TR := TR.step hb; have hr3' := (hr3.below hb).more hb.size; clear hb hr3 q0 q1 q2 q3 q4 q5 q6)
    | (go_at_call 65; (with_reducible refine (KD.out _ _ _ _ _ hr4 hr3').mono ?_); rintro ee wg hp; obtain ⟨A5, c5, A6, c6, rfl, hc5, hc6, hr5, hr6, hb⟩ := hp; replace TR := TR.step hb; have hr3 := (hr3'.below hb).more hb.size; clear hb hr3' hr4))
  go_upto_region 15 with (first
    | (go_at_call 67; (with_reducible refine (KB.out _ _ _ hr5).mono ?_); rintro ee wh ⟨rfl, hb⟩; replace TR := TR.step hb; have hr3' := (hr3.below hb).more hb.size; have hr6' := (hr6.below hb).more hb.size; clear hb hr3 hr5 hr6)
    | (go_at_call 84; (with_reducible refine (KSm.out _).mono ?_); rintro ee wi ⟨rfl, hb⟩; replace TR := TR.step hb; have hr3 := (hr3'.below hb).more hb.size; have hr6 := (hr6'.below hb).more hb.size; clear hb hr3' hr6'))
  have TS : SD w (.bool g, .string (natS n), .string (natS d)) C (.bool g, .slice A1 (nd W n) c1, .slice A2 (nd W d) c2) A1 n A2 d A6 L A3 Y _ := ⟨TR, hr6, hr3⟩
  have L0 : ∀ U, SD w (.bool g, .string (natS n), .string (natS d)) C (.bool g, .slice A1 (nd W n) c1, .slice A2 (nd W d) c2) A1 n A2 d A6 L A3 Y U → U.cell? ⟨w.heap.size, 0, none⟩ = some (.bool g) := fun U hU => hU.rb.b0.facts.2.1
  clear TR hr6 hr3 KS1 KS2 KD KB KSm KL KT
  go_region_held3 (SD w (.bool g, .string (natS n), .string (natS d)) C (.bool g, .slice A1 (nd W n) c1, .slice A2 (nd W d) c2) A1 n A2 d A6 L A3 Y) (first | assumption | exact SD.step (by assumption) (by assumption) | exact SD.drew (by assumption) | exact SD.drawn (by assumption) _)
    (first
      | (go_at_call 85; (with_reducible refine (KR.out _ _ _ _ _ (SD.l (by assumption)) (SD.y (by assumption))).mono ?_); rintro ee wd ⟨rfl, hb⟩)
      | (go_at_call 81; (with_reducible refine (KH.out _ (SD.low (by assumption))).mono ?_); rintro ee wd ⟨rfl, hb2⟩))
  all_goals
    rename_i hHeld
    have HF := Lib.hid hHeld.low
    clear hHeld L0
    go_wp2_with fail
    go_ret2
    exact ⟨rfl, HF.out⟩
end Go.Proofs.YtajcapliokblfaaDoor
namespace Go.Proofs.YtajcapliokblfaaDoor
open Go Go.RowKit Nt
@[irreducible] def RW (k : Nat) (g : Bool) (n d : Nat) : Nat := if tpZ n d ≤ 1023 then Bt.wf g (pk (mUp k g (rMq n d (rqZ n d)) (rsW (rLq n d (rqZ n d)) (rY d (rqZ n d)))) (rqZ n d)) else Bt.wf g (pk (mUp k g 9007199254740991 3) 971)
theorem RW_hi {k : Nat} {g : Bool} {n d : Nat} (h : 1023 < tpZ n d) : RW k g n d = Bt.wf g (pk (mUp k g 9007199254740991 3) 971) := by unfold RW; rw [if_neg (by omega)]
theorem RW_mid {k : Nat} {g : Bool} {n d : Nat} (h : tpZ n d ≤ 1023) : RW k g n d = Bt.wf g (pk (mUp k g (rMq n d (rqZ n d)) (rsW (rLq n d (rqZ n d)) (rY d (rqZ n d)))) (rqZ n d)) := by unfold RW; rw [if_pos h]
theorem RW_lo {k : Nat} {g : Bool} {n d : Nat} (hn : n ≠ 0) (hd : d ≠ 0) (h : tpZ n d < -1075) : RW k g n d = Bt.wf g (pk (mUp k g 0 1) (-1074)) := by
  obtain ⟨h1, h2, h3⟩ := rMq_tiny hn hd h
  rw [RW_mid (by omega), h1, h2, h3]
theorem rsW_b (L D : Nat) : 0 ≤ rsW L D ∧ rsW L D ≤ 3 := by
  obtain ⟨u1, u2⟩ := cmp_b (L * 2) D
  by_cases h : L = 0
  · rw [h, rsW_0]; omega
  · rw [rsW_n h]; omega
theorem PRnd_Near (g : Bool) (n d : Nat) (w : World) (hG : Globs glT w) (hn : fits n) (hd : fits d) (h0 : n ≠ 0) (hd0 : d ≠ 0) (hM : ∀ w, Calls Tryd.prog 14 #[.agg #[.bool g, .string (natS n), .string (natS d)]] w fun e w' => e = .returned (.bool true) ∧ Below w.heap.size w w') :
    Calls Tryd.prog 61 #[.agg #[.bool g, .string (natS n), .string (natS d)], .func (.func 62) #[] #[]] w fun e w' => e = .returned (.tuple #[.float .f64 (RW 0 g n d), .int .i64 0]) ∧ Below w.heap.size w w' := by
  by_cases c1 : 1023 < tpZ n d
  · rw [RW_hi c1]
    exact PRnd_hi _ _ g n d w hn hd h0 c1 hM (fun w' hb => RHuge_Near g w' (hG.below hb (Nat.le_refl _)))
  · by_cases c2 : tpZ n d < -1075
    · rw [RW_lo h0 hd0 c2]
      refine PRnd_lo _ _ g n d w hn hd h0 c2 ?_ hM (fun w' hb => RF_Near_c g 0 (-1074) 1 w' (hG.below hb (Nat.le_refl _)) (by omega) (by omega) (by omega) (by omega) (Or.inr rfl))
      obtain ⟨u1, u2, u3, u4⟩ := tp_spec h0 hd0
      have b2 := bits_131072' hd
      omega
    · rw [RW_mid (by omega)]
      obtain ⟨v1, v2⟩ := rqZ_b n d (by omega)
      exact PRnd_mid _ _ g n d w hn hd h0 hd0 (by omega) (by omega) hM (fun w' hb => RF_Near_c g _ _ _ w' (hG.below hb (Nat.le_refl _)) (rsW_b _ _) (rMq_lt h0 hd0) v1 v2 (rMq_norm h0 hd0))
set_option maxRecDepth 100000 in
theorem PRnd_zero (F : Value) (g : Bool) (d : Nat) (w : World) (hM : ∀ w, Calls Tryd.prog 14 #[.agg #[.bool g, .string (natS 0), .string (natS d)]] w fun e w' => e = .returned (.bool true) ∧ Below w.heap.size w w') :
    Calls Tryd.prog 61 #[.agg #[.bool g, .string (natS 0), .string (natS d)], F] w fun e w' => e = .returned (.tuple #[.float .f64 0, .int .i64 0]) ∧ Below w.heap.size w w' := by
  have T0 := BL.start1 w (.bool g) (.string (natS 0)) (.string (natS d)) 25
  have K1 := Lib.hid hM
  have e1 : (natS 0).toList = [] := natS_empty rfl
  clear hM
  go_enter Tryd.func61, Tryd.ntmps61
  go_wp2_with (first | (go_at_call 14; (with_reducible refine (K1.out _).mono ?_); rintro ee w1 ⟨rfl, hb⟩; replace T0 := T0.step hb; obtain ⟨p0, p1, p2, p3, p4, p5, p6⟩ := T0.box0; clear hb))
  go_ret2
  exact ⟨rfl, T0.1⟩
@[irreducible] noncomputable def QW (k : Nat) (q : Rat) : Nat := if qN q = 0 then 0 else RW k (qG q) (qN q) (qD q)
theorem PFloat_c (q : Rat) (w : World) (hG : Globs glT w) (h : qfits q) :
    Calls Tryd.prog 38 #[qv q] w fun e w' => e = .returned (.tuple #[.float .f64 (QW 0 q), .int .i64 0]) ∧ Below w.heap.size w w' := by
  have T0 := BL.start1 w (.bool (qG q)) (.string (natS (qN q))) (.string (natS (qD q))) 25
  have hb0 := T0.1
  have hG2 := Lib.hid hG
  have K : Hid (∀ w, Globs glT w → Calls Tryd.prog 61 #[qv q, .func (.func 62) #[] #[]] w fun e w' => e = .returned (.tuple #[.float .f64 (QW 0 q), .int .i64 0]) ∧ Below w.heap.size w w') := Lib.hid (fun w hG => by
    have hM := fun w => PMay_yes q w h
    by_cases h0 : qN q = 0
    · have e : QW 0 q = 0 := by unfold QW; exact if_pos h0
      rw [e]
      unfold qv at hM ⊢
      rw [h0] at hM ⊢
      exact PRnd_zero _ _ _ w hM
    · have e : QW 0 q = RW 0 (qG q) (qN q) (qD q) := by unfold QW; exact if_neg h0
      rw [e]
      exact PRnd_Near _ _ _ w hG h.1 h.2 h0 (qD_pos q) hM)
  clear hG h
  generalize QW 0 q = z at *
  unfold qv at *
  go_enter Tryd.func38, Tryd.ntmps38
  go_wp2_with (first | (go_at_call 61; (with_reducible refine (K.out _ (hG2.out.below hb0 (Nat.le_refl _))).mono ?_); rintro ee w1 ⟨rfl, hb⟩; replace T0 := T0.step hb; clear hb))
  go_ret2
  exact ⟨rfl, T0.1⟩
end Go.Proofs.YtajcapliokblfaaDoor
namespace Go.Proofs.YtajcapliokblfaaDoor
open Go Go.RowKit Nt
@[irreducible] def aM (n d : Nat) : Nat := if tpZ n d ≤ 1023 then rMq n d (rqZ n d) else 9007199254740991
@[irreducible] def aQ (n d : Nat) : Int := if tpZ n d ≤ 1023 then rqZ n d else 971
@[irreducible] def aR (n d : Nat) : Int := if tpZ n d ≤ 1023 then rsW (rLq n d (rqZ n d)) (rY d (rqZ n d)) else 3
theorem a_hi {n d : Nat} (h : 1023 < tpZ n d) : aM n d = 9007199254740991 ∧ aQ n d = 971 ∧ aR n d = 3 := by
  unfold aM aQ aR; rw [if_neg (by omega), if_neg (by omega), if_neg (by omega)]; exact ⟨rfl, rfl, rfl⟩
theorem a_mid {n d : Nat} (h : tpZ n d ≤ 1023) : aM n d = rMq n d (rqZ n d) ∧ aQ n d = rqZ n d ∧ aR n d = rsW (rLq n d (rqZ n d)) (rY d (rqZ n d)) := by
  unfold aM aQ aR; rw [if_pos h, if_pos h, if_pos h]; exact ⟨rfl, rfl, rfl⟩
theorem RW_a (k : Nat) (g : Bool) (n d : Nat) : RW k g n d = Bt.wf g (pk (mUp k g (aM n d) (aR n d)) (aQ n d)) := by
  by_cases h : 1023 < tpZ n d
  · obtain ⟨e1, e2, e3⟩ := a_hi h
    rw [RW_hi h, e1, e2, e3]
  · obtain ⟨e1, e2, e3⟩ := a_mid (show tpZ n d ≤ 1023 by omega)
    rw [RW_mid (by omega), e1, e2, e3]
end Go.Proofs.YtajcapliokblfaaDoor
namespace Go.Proofs.YtajcapliokblfaaDoor
open Go Go.RowKit Nt
end Go.Proofs.YtajcapliokblfaaDoor
namespace Go.Proofs.YtajcapliokblfaaDoor
open Go Go.RowKit Nt
theorem rCopysign_c (x : Nat) (hx : x < 9223372036854775808) (w : World) :
    Calls Tryd.prog 37 #[.float .f64 x, .float .f64 13830554455654793216] w fun e w' => e = .returned (.float .f64 (Bt.wf true x)) ∧ w = w' := by
  have h12 := Bt.ext_from
  have h44 := Bt.ext_bits
  have hr : Bt.Ff.rung x = x := by unfold Bt.Ff.rung; omega
  have ha := Bt.and_not_top x (by omega)
  rw [hr] at ha
  have ho2 : bits BinOp.and IntKind.u64 (13830554455654793216 : Int) 9223372036854775808 = 9223372036854775808 := by decide +kernel
  have ho : bits BinOp.or IntKind.u64 (x : Int) 9223372036854775808 = ((Bt.topped x : Nat) : Int) := by
    rw [Bt.topped_eq, show (9223372036854775808 : Int) = ((9223372036854775808 : Nat) : Int) from rfl, u64_or_nat x _ (by omega) (by decide), Nat.or_comm]
    congr 1
    exact nat_join 63 _ _ (by decide) hx
  go_enter Tryd.func37, Tryd.ntmps37
  go_wp2
  go_ret
  exact ⟨by rw [Bt.wf_eq]; rfl, rfl⟩
theorem aM_b {n d : Nat} (h0 : n ≠ 0) (hd0 : d ≠ 0) : aM n d < 9007199254740992 ∧ aQ n d ≤ 971 := by
  by_cases h : 1023 < tpZ n d
  · obtain ⟨e1, e2, e3⟩ := a_hi h
    rw [e1, e2]; omega
  · have h2 : tpZ n d ≤ 1023 := by omega
    obtain ⟨e1, e2, e3⟩ := a_mid h2
    rw [e1, e2]
    exact ⟨rMq_lt h0 hd0, (rqZ_b n d h2).2⟩
end Go.Proofs.YtajcapliokblfaaDoor
namespace Go.Proofs.YtajcapliokblfaaDoor.Bt
open Go Go.RowKit Ff
@[irreducible] def place (x : Nat) : Nat := if isn x then 18437736874454810626 else if sgn x then 9218868437227405312 - rung x else 9218868437227405313 + rung x
end Go.Proofs.YtajcapliokblfaaDoor.Bt
namespace Go.Proofs.YtajcapliokblfaaDoor.Bt
open Go Go.RowKit Ff
@[irreducible] def fltB (x y : Nat) : Bool := decide (¬ isn x ∧ ¬ isn y ∧ srung x < srung y)
@[irreducible] def feqB (x y : Nat) : Bool := decide (¬ isn x ∧ ¬ isn y ∧ srung x = srung y)
theorem ord_cmp (x y : Nat) : FloatKind.f64.format.order x y = if isn x ∨ isn y then none else some (compare (srung x) (srung y)) := order_eq x y
theorem cmp_lt (a b : Int) : compare a b = Ordering.lt ↔ a < b := by
  simp only [compare, compareOfLessAndEq]; by_cases h : a < b <;> by_cases h' : a = b <;> simp [h, h']
theorem cmp_eq (a b : Int) : compare a b = Ordering.eq ↔ a = b := by
  simp only [compare, compareOfLessAndEq]; by_cases h : a < b <;> by_cases h' : a = b <;> simp [h, h'] <;> omega
theorem cmp_gt (a b : Int) : compare a b = Ordering.gt ↔ b < a := by
  simp only [compare, compareOfLessAndEq]; by_cases h : a < b <;> by_cases h' : a = b <;> simp [h, h'] <;> omega
theorem some_beq (o p : Ordering) : (some o == some p) = decide (o = p) := by cases o <;> cases p <;> rfl
@[local go_sem] theorem f_lt (x y : Nat) : (FloatKind.f64.format.order x y == some Ordering.lt) = fltB x y := by
  rw [ord_cmp]; unfold fltB
  by_cases h : isn x ∨ isn y
  · rw [if_pos h]; symm; rw [show (none == some Ordering.lt) = false from rfl, decide_eq_false_iff_not]; rintro ⟨h1, h2, _⟩; exact h.elim h1 h2
  · rw [if_neg h, some_beq, Bool.eq_iff_iff, decide_eq_true_iff, decide_eq_true_iff, cmp_lt]
    exact ⟨fun c => ⟨fun a => h (Or.inl a), fun a => h (Or.inr a), c⟩, fun c => c.2.2⟩
@[local go_sem] theorem f_gt (x y : Nat) : (FloatKind.f64.format.order x y == some Ordering.gt) = fltB y x := by
  rw [ord_cmp]; unfold fltB
  by_cases h : isn x ∨ isn y
  · rw [if_pos h]; symm; rw [show (none == some Ordering.gt) = false from rfl, decide_eq_false_iff_not]; rintro ⟨h1, h2, _⟩; exact h.elim h2 h1
  · rw [if_neg h, some_beq, Bool.eq_iff_iff, decide_eq_true_iff, decide_eq_true_iff, cmp_gt]
    exact ⟨fun c => ⟨fun a => h (Or.inr a), fun a => h (Or.inl a), c⟩, fun c => c.2.2⟩
@[local go_sem] theorem f_eq (x y : Nat) : (FloatKind.f64.format.order x y == some Ordering.eq) = feqB x y := by
  rw [ord_cmp]; unfold feqB
  by_cases h : isn x ∨ isn y
  · rw [if_pos h]; symm; rw [show (none == some Ordering.eq) = false from rfl, decide_eq_false_iff_not]; rintro ⟨h1, h2, _⟩; exact h.elim h1 h2
  · rw [if_neg h, some_beq, Bool.eq_iff_iff, decide_eq_true_iff, decide_eq_true_iff, cmp_eq]
    exact ⟨fun c => ⟨fun a => h (Or.inl a), fun a => h (Or.inr a), c⟩, fun c => c.2.2⟩
@[local go_sem] theorem f_ne (x y : Nat) : (FloatKind.f64.format.order x y != some Ordering.eq) = !feqB x y := by
  rw [bne, f_eq]
end Go.Proofs.YtajcapliokblfaaDoor.Bt
namespace Go.Proofs.YtajcapliokblfaaDoor.Bt
open Go Go.RowKit Ff
attribute [local go_sem] f_lt f_gt f_eq f_ne
@[irreducible] def atB (p : Nat) : Bool := decide (p ≤ 18437736874454810626)
@[irreducible] def bigP (p : Nat) : Bool := decide (18437736874454810626 < p)
@[irreducible] def nanP (p : Nat) : Bool := decide (p = 18437736874454810626)
@[irreducible] def lowP (p : Nat) : Bool := decide (p < 9218868437227405313)
theorem bigP_iff (p : Nat) : bigP p = true ↔ 18437736874454810626 < p := by unfold bigP; exact decide_eq_true_iff
theorem nanP_iff (p : Nat) : nanP p = true ↔ p = 18437736874454810626 := by unfold nanP; exact decide_eq_true_iff
theorem lowP_iff (p : Nat) : lowP p = true ↔ p < 9218868437227405313 := by unfold lowP; exact decide_eq_true_iff
@[local go_sem] theorem big_p1 (p : Nat) : decide ((18437736874454810626 : Int) < (p : Int)) = bigP p := by
  rw [Bool.eq_iff_iff, decide_eq_true_iff, bigP_iff]; omega
@[local go_sem] theorem big_p2 (p : Nat) : decide ((18437736874454810627 : Int) ≤ (p : Int)) = bigP p := by
  rw [Bool.eq_iff_iff, decide_eq_true_iff, bigP_iff]; omega
@[local go_sem] theorem nan_p (p : Nat) : ((p : Int) == 18437736874454810626) = nanP p := by
  rw [Bool.eq_iff_iff, beq_iff_eq, nanP_iff]; omega
@[local go_sem] theorem low_p1 (p : Nat) : decide ((p : Int) < 9218868437227405313) = lowP p := by
  rw [Bool.eq_iff_iff, decide_eq_true_iff, lowP_iff]; omega
@[local go_sem] theorem low_p2 (p : Nat) : decide ((p : Int) ≤ 9218868437227405312) = lowP p := by
  rw [Bool.eq_iff_iff, decide_eq_true_iff, lowP_iff]; omega
end Go.Proofs.YtajcapliokblfaaDoor.Bt
namespace Go.Proofs.YtajcapliokblfaaDoor.Bt
open Go Go.RowKit Ff
attribute [local go_sem] f_lt f_gt f_eq f_ne
@[irreducible] def infW (x : Nat) : Bool := decide (x = 9218868437227405312)
theorem infW_iff (x : Nat) : infW x = true ↔ x = 9218868437227405312 := by unfold infW; exact decide_eq_true_iff
@[local go_sem] theorem inf_w (x : Nat) : ((x : Int) == 9218868437227405312) = infW x := by
  rw [Bool.eq_iff_iff, beq_iff_eq, infW_iff]; omega
@[irreducible] def upF (x : Nat) : Nat := if isn x then x else if x = 9218868437227405312 then x else if rung x = 0 then 1 else if sgn x then x - 1 else x + 1
end Go.Proofs.YtajcapliokblfaaDoor.Bt
namespace Go.Proofs.YtajcapliokblfaaDoor
open Go Go.RowKit Nt
theorem mkR_lt {D : Nat} (hD : D ≠ 0) (i j : Int) : mkRat i D < mkRat j D ↔ i < j := by
  have h0 : (0 : Rat) < (D : Rat) := Rat.natCast_pos.2 (Nat.pos_of_ne_zero hD)
  have h1 : (D : Rat) ≠ 0 := fun c => by rw [c] at h0; exact absurd h0 (by decide)
  rw [Rat.mkRat_eq_div, Rat.mkRat_eq_div, Rat.div_lt_iff h0, Rat.div_mul_cancel h1, Rat.intCast_lt_intCast]
theorem mkR_sub {D : Nat} (hD : D ≠ 0) (i j : Int) : mkRat i D - mkRat j D = mkRat (i - j) D := by
  rw [Rat.sub_eq_add_neg, Rat.neg_mkRat, Rat.mkRat_add_mkRat _ _ hD hD, ← Int.add_mul, Rat.mkRat_mul_right hD, Int.sub_eq_add_neg]
def dyQ (g : Bool) (m : Nat) (e : Int) : Rat := fr g (m * 2 ^ rk2 e) (2 ^ rk1 e)
@[irreducible] noncomputable def wQ (x : Nat) : Rat := dyQ (Bt.Ff.sgn x) (Bt.pm x) (Bt.pex x)
end Go.Proofs.YtajcapliokblfaaDoor
namespace Go.Proofs.YtajcapliokblfaaDoor
open Go Go.RowKit Nt
structure Nr (a : Rat) (n b c : Nat) : Prop where
  lb : b < 18446744073709551616
  lc : c < 18446744073709551616
  ln : n < 18446744073709551616
  nb : ¬ Bt.Ff.isn b
  nc : ¬ Bt.Ff.isn c
  nn : ¬ Bt.Ff.isn n
  ne : Bt.feqB b c = false
  gt : Bt.fltB c b = false
  up : Bt.upF b = c
  or : Bt.feqB n b = true ∧ n = b ∨ Bt.feqB n b = false ∧ n = c
  fb : Bt.finB b = true → wQ b < a
  fc : Bt.finB c = true → a < wQ c
  nul : Bt.finB b = true → Bt.finB c = true → qC (a - wQ b) (wQ c - a) = 0 → n % 2 = 0
  neg : Bt.finB b = true → Bt.finB c = true → qC (a - wQ b) (wQ c - a) ≠ 0 → (Bt.feqB n b = true ↔ qC (a - wQ b) (wQ c - a) < 0)
end Go.Proofs.YtajcapliokblfaaDoor
namespace Go.Proofs.YtajcapliokblfaaDoor
open Go Go.RowKit Nt
theorem QW_ok (k : Nat) (q : Rat) : ¬ Bt.Ff.isn (QW k q) := by
  have key : ∀ (g : Bool) (p : Nat), p ≤ 9218868437227405312 → ¬ Bt.Ff.isn (Bt.wf g p) := by
    intro g p hp c
    have c' := (Bt.isn_iff _).1 c
    unfold Bt.Ff.rung at c'
    rw [Bt.wf_eq] at c'
    cases g
    · rw [if_neg Bool.false_ne_true] at c'; omega
    · rw [if_pos rfl, Bt.topped_eq] at c'; omega
  unfold QW
  by_cases h0 : qN q = 0
  · rw [if_pos h0]; intro c; have := (Bt.isn_iff _).1 c; exact absurd this (by decide)
  · rw [if_neg h0, RW_a]
    obtain ⟨m1, m2⟩ := aM_b h0 (qD_pos q)
    refine key _ _ (pk_lt ?_ m2)
    unfold mUp
    split <;> omega
theorem like4_c (x : Nat) (h : ¬ Bt.Ff.isn x) (w : World) : Calls Tryd.prog 19 #[.float .f64 x, .float .f64 x] w fun e w' => e = .returned (.bool true) ∧ Below w.heap.size w w' := by
  have h44 := Bt.ext_bits
  have hne := Bt.isn_ne x
  rw [decide_eq_false h] at hne
  have he : ((x : Int) == (x : Int)) = true := beq_iff_eq.2 rfl
  clear h
  go_enter Tryd.func19, Tryd.ntmps19
  go_wp2
  all_goals go_ret
  all_goals exact ⟨by first | rfl | simp, Below.refl _ _⟩
end Go.Proofs.YtajcapliokblfaaDoor
namespace Go.Proofs
open Go.Shelf
def Tryd.lays103_ren : Go.Shelf.Ren := ⟨fun | 103 => 31 | 210 => 52 | 206 => 59 | n => n, fun | 9 => 9 | 4 => 4 | 24 => 54 | 3 => 3 | n => n, fun | n => n⟩
theorem Tryd.lays103 : Go.Proofs.Lays.n103 Tryd.prog Tryd.lays103_ren := {
  mixed := by kernel_rfl
  f103 := Tryd.func31.trans (congrArg some (by kernel_rfl))
  f206 := Tryd.func59.trans (congrArg some (by kernel_rfl))
  f210 := Tryd.func52.trans (congrArg some (by kernel_rfl))
  t3 := Tryd.underlying3
  a3 := Tryd.isAgg3
  z3 := Tryd.sizeOf3
  v3 := Tryd.zeroValue3
  t4 := Tryd.underlying4
  a4 := Tryd.isAgg4
  z4 := Tryd.sizeOf4
  v4 := Tryd.zeroValue4
  t9 := Tryd.underlying9
  a9 := Tryd.isAgg9
  z9 := Tryd.sizeOf9
  v9 := Tryd.zeroValue9
  t24 := Tryd.underlying54
  a24 := Tryd.isAgg54
  z24 := Tryd.sizeOf54
  v24 := Tryd.zeroValue54 }
open Go.RowKit in
theorem Tryd.strings_CutPrefix (s p : ByteArray) (w : World) :
    Calls Tryd.prog 31 #[.string s, .string p] w fun e w' => e = .returned (.tuple #[.string ⟨(Lib.trimPrefix s.data.toList p.data.toList).toArray⟩, .bool (Lib.hasPrefix s.data.toList p.data.toList)]) ∧ w' = w := Any.strings_CutPrefix Tryd.lays103 s p w
def Tryd.lays217_ren : Go.Shelf.Ren := ⟨fun | 217 => 93 | 266 => 103 | n => n, fun | 9 => 9 | 5 => 5 | 3 => 3 | n => n, fun | n => n⟩
theorem Tryd.lays217 : Go.Proofs.Lays.n217 Tryd.prog Tryd.lays217_ren := {
  mixed := by kernel_rfl
  f217 := Tryd.func93.trans (congrArg some (by kernel_rfl))
  f266 := Tryd.func103.trans (congrArg some (by kernel_rfl))
  t3 := Tryd.underlying3
  a3 := Tryd.isAgg3
  z3 := Tryd.sizeOf3
  v3 := Tryd.zeroValue3
  t5 := Tryd.underlying5
  a5 := Tryd.isAgg5
  z5 := Tryd.sizeOf5
  v5 := Tryd.zeroValue5
  t9 := Tryd.underlying9
  a9 := Tryd.isAgg9
  z9 := Tryd.sizeOf9
  v9 := Tryd.zeroValue9 }
open Go.RowKit Go.Lib in
theorem Tryd.stringslite_IndexByte (s : ByteArray) (c : Int) (w : World) :
    Calls Tryd.prog 93 #[.string s, .int .u8 c] w fun e w' => e = .returned (.int .i64 (Lib.indexByte s.data.toList c.toNat.toUInt8)) ∧ w' = w := Any.stringslite_IndexByte Tryd.lays217 s c w
def Tryd.lays99_ren : Go.Shelf.Ren := ⟨fun | 99 => 36 | 206 => 59 | n => n, fun | 9 => 9 | 4 => 4 | 3 => 3 | n => n, fun | n => n⟩
theorem Tryd.lays99 : Go.Proofs.Lays.n99 Tryd.prog Tryd.lays99_ren := {
  mixed := by kernel_rfl
  f99 := Tryd.func36.trans (congrArg some (by kernel_rfl))
  f206 := Tryd.func59.trans (congrArg some (by kernel_rfl))
  t3 := Tryd.underlying3
  a3 := Tryd.isAgg3
  z3 := Tryd.sizeOf3
  v3 := Tryd.zeroValue3
  t4 := Tryd.underlying4
  a4 := Tryd.isAgg4
  z4 := Tryd.sizeOf4
  v4 := Tryd.zeroValue4
  t9 := Tryd.underlying9
  a9 := Tryd.isAgg9
  z9 := Tryd.sizeOf9
  v9 := Tryd.zeroValue9 }
open Go.RowKit Go.Lib in
theorem Tryd.strings_HasPrefix (s p : ByteArray) (w : World) :
    Calls Tryd.prog 36 #[.string s, .string p] w fun e w' => e = .returned (.bool (Lib.hasPrefix s.data.toList p.data.toList)) ∧ w' = w := Any.strings_HasPrefix Tryd.lays99 s p w
end Go.Proofs
namespace Go.Proofs.YtajcapliokblfaaDoor
open Go Go.RowKit Nt
def atB (c : UInt8) (l : List UInt8) : Nat := (l.takeWhile (· != c)).length
theorem atB_cons (c b : UInt8) (l : List UInt8) : atB c (b :: l) = if b = c then 0 else atB c l + 1 := by
  unfold atB
  rw [List.takeWhile_cons]
  by_cases h : b = c
  · rw [if_pos h, if_neg (by simp [h])]; rfl
  · rw [if_neg h, if_pos (by simp [h])]; rfl
theorem atB_le (c : UInt8) (l : List UInt8) : atB c l ≤ l.length := by
  induction l with
  | nil => exact Nat.le_refl _
  | cons b l ih => rw [atB_cons, List.length_cons]; split <;> omega
theorem index_at (c : UInt8) (l : List UInt8) : Lib.indexByte l c = if atB c l < l.length then (atB c l : Int) else -1 := by
  induction l with
  | nil => rfl
  | cons b l ih =>
    rw [atB_cons, List.length_cons]
    show (if b == c then 0 else if Lib.indexByte l c == -1 then -1 else Lib.indexByte l c + 1) = _
    by_cases h : b = c
    · rw [if_pos (by simp [h]), if_pos h, if_pos (by omega)]; rfl
    · rw [if_neg (by simp [h]), if_neg h, ih]
      by_cases k : atB c l < l.length
      · rw [if_pos k, if_neg (by rw [beq_iff_eq]; omega), if_pos (Nat.succ_lt_succ k)]; omega
      · rw [if_neg k, if_pos (by simp), if_neg (fun c => k (Nat.lt_of_succ_lt_succ c))]
theorem atB_get (c : UInt8) (l : List UInt8) (k : Nat) (hk : k < l.length) : (k < atB c l → l[k] ≠ c) ∧ (k = atB c l → l[k] = c) := by
  induction l generalizing k with
  | nil => exact absurd hk (Nat.not_lt_zero _)
  | cons b l ih =>
    rw [atB_cons]
    cases k with
    | zero => by_cases h : b = c <;> simp [h]
    | succ k =>
      have := ih k (by simpa using hk)
      by_cases h : b = c
      · simp [h]
      · simp only [if_neg h, List.getElem_cons_succ]
        exact ⟨fun k' => this.1 (by omega), fun k' => this.2 (by omega)⟩
@[irreducible] def ixB (c : UInt8) (s : ByteArray) : Nat := atB c s.data.toList
theorem ixB_le (c : UInt8) (s : ByteArray) : ixB c s ≤ s.size := by unfold ixB; exact atB_le c _
theorem ixB_get (c : UInt8) (s : ByteArray) (k : Nat) (hk : k < s.size) : (k < ixB c s → s[k] ≠ c) ∧ (k = ixB c s → s[k] = c) := by
  unfold ixB; exact atB_get c s.data.toList k hk
@[irreducible] def hasB (c : UInt8) (s : ByteArray) : Bool := decide (ixB c s < s.size)
@[irreducible] def headB (c : UInt8) (s : ByteArray) : ByteArray := if hasB c s = true then s.extract 0 (ixB c s) else s
@[irreducible] def tailB (c : UInt8) (s : ByteArray) : ByteArray := if hasB c s = true then s.extract (ixB c s + 1) s.size else ⟨#[]⟩
theorem hasB_iff {c : UInt8} {s : ByteArray} : hasB c s = true ↔ ixB c s < s.size := by unfold hasB; exact decide_eq_true_iff
theorem index_ix (c : UInt8) (s : ByteArray) : Lib.indexByte s.data.toList c = if hasB c s = true then (ixB c s : Int) else -1 := by
  rw [index_at]
  unfold hasB ixB
  simp only [decide_eq_true_iff]
  rfl
set_option maxRecDepth 100000 in
theorem PIndex_c (c : UInt8) (s : ByteArray) (w : World) : Calls Tryd.prog 76 #[.string s, .string ⟨#[c]⟩] w fun e w' => e = .returned (.int .i64 (if hasB c s = true then (ixB c s : Int) else -1)) ∧ w' = w := by
  have hc : ((c.toNat : Int)).toNat.toUInt8 = c := by rw [Int.toNat_natCast]; exact UInt8.ofNat_toNat
  have K := Lib.hid (Tryd.stringslite_IndexByte s (c.toNat : Int))
  rw [hc, index_ix] at K
  clear hc
  by_cases hs : s = ⟨#[c]⟩
  · have h0 : ixB c s = 0 := by subst hs; unfold ixB; show atB c [c] = 0; rw [atB_cons, if_pos rfl]
    have h1 : hasB c s = true := hasB_iff.2 (by rw [h0, hs]; show 0 < 1; omega)
    have hq : ([c] == s.toList) = true := by rw [hs, ba_toList]; simp
    rw [if_pos h1, h0]
    clear K h0 h1 hs
    go_enter Tryd.func76, Tryd.ntmps76
    go_wp2_with fail
    go_ret
    exact ⟨rfl, rfl⟩
  · have hq : ([c] == s.toList) = false := by
      rw [ba_toList, beq_eq_false_iff_ne]
      intro h
      refine hs (ByteArray.ext (Array.ext' ?_))
      exact h.symm
    clear hs
    generalize (if hasB c s = true then (ixB c s : Int) else -1) = z at *
    go_enter Tryd.func76, Tryd.ntmps76
    go_wp2_with (first | (go_at_call 93; go_loud (refine (K.out _).mono ?_; rintro ee w1 ⟨rfl, rfl⟩)))
    go_ret
    exact ⟨rfl, rfl⟩
set_option maxRecDepth 100000 in
theorem PCut1_c (c : UInt8) (s : ByteArray) (w : World) (hz : s.size ≤ 9223372036854775807) : Calls Tryd.prog 53 #[.string s, .string ⟨#[c]⟩] w fun e w' => e = .returned (.tuple #[.string (headB c s), .string (tailB c s), .bool (hasB c s)]) ∧ Below w.heap.size w w' := by
  have K := Lib.hid (PIndex_c c s)
  by_cases h : hasB c s = true
  · have hi := hasB_iff.1 h
    have e1 : headB c s = s.extract 0 (ixB c s) := by unfold headB; rw [if_pos h]
    have e2 : tailB c s = s.extract (ixB c s + 1) s.size := by unfold tailB; rw [if_pos h]
    rw [if_pos h] at K
    rw [h, e1, e2]
    clear h e1 e2
    generalize ixB c s = i at *
    have r1 : ∀ w, (Instr.slice 9 (.string s) none (some (.int .i64 (i : Int))) none).run Tryd.prog w = .ok (.string (s.extract 0 i)) w := fun w => by
      have h := run_slice_string_h (P := Tryd.prog) w 9 s Tryd.underlying9 .i64 (i : Int) (by omega) (by omega)
      rwa [Int.toNat_natCast] at h
    have r2 : ∀ w, (Instr.slice 9 (.string s) (some (.int .i64 ((i : Int) + 1))) none none).run Tryd.prog w = .ok (.string (s.extract (i + 1) s.size)) w := fun w => by
      have h := run_slice_string_l (P := Tryd.prog) w 9 s Tryd.underlying9 .i64 ((i : Int) + 1) (by omega) (by omega)
      rwa [show ((i : Int) + 1).toNat = i + 1 by omega] at h
    go_enter Tryd.func53, Tryd.ntmps53
    go_upto_region 3 with (first | (go_at_call 76; (with_reducible refine (K.out _).mono ?_); rintro ee w1 ⟨rfl, rfl⟩))
    go_region
    go_wp2_with fail
    go_ret3
    exact ⟨rfl, (Below.refl _ _).drew⟩
  · have e1 : headB c s = s := by unfold headB; rw [if_neg h]
    have e2 : tailB c s = ⟨#[]⟩ := by unfold tailB; rw [if_neg h]
    rw [if_neg h] at K
    rw [Bool.eq_false_iff.2 h, e1, e2]
    clear h e1 e2
    go_enter Tryd.func53, Tryd.ntmps53
    go_wp2_with (first | (go_at_call 76; (with_reducible refine (K.out _).mono ?_); rintro ee w1 ⟨rfl, rfl⟩))
    go_ret3
    exact ⟨rfl, Below.refl _ _⟩
set_option maxRecDepth 100000 in
theorem PCut_c (c : UInt8) (s : ByteArray) (w : World) (hz : s.size ≤ 9223372036854775807) : Calls Tryd.prog 32 #[.string s, .string ⟨#[c]⟩] w fun e w' => e = .returned (.tuple #[.string (headB c s), .string (tailB c s), .bool (hasB c s)]) ∧ Below w.heap.size w w' := by
  have K := Lib.hid (fun w => PCut1_c c s w hz)
  generalize headB c s = a at *
  generalize tailB c s = b at *
  generalize hasB c s = z at *
  go_enter Tryd.func32, Tryd.ntmps32
  go_wp2_with (first | (go_at_call 53; (with_reducible refine (K.out _).mono ?_); rintro ee w1 ⟨rfl, hb⟩))
  go_ret3
  exact ⟨rfl, hb⟩
@[irreducible] def begB (c : UInt8) (s : ByteArray) : Bool := decide (∃ h : 0 < s.size, s[0] = c)
@[irreducible] def offB (c : UInt8) (s : ByteArray) : ByteArray := if begB c s = true then s.extract 1 s.size else s
theorem begB_iff {c : UInt8} {s : ByteArray} : begB c s = true ↔ ∃ h : 0 < s.size, s[0] = c := by unfold begB; exact decide_eq_true_iff
theorem has_pre (c : UInt8) (s : ByteArray) : Lib.hasPrefix s.data.toList [c] = begB c s := by
  obtain ⟨⟨l⟩⟩ := s
  cases l with
  | nil =>
    have h : begB c ⟨⟨[]⟩⟩ = false := Bool.eq_false_iff.2 fun k => by obtain ⟨h, _⟩ := begB_iff.1 k; exact absurd h (by decide)
    rw [h]; rfl
  | cons b l =>
    rw [Bool.eq_iff_iff, begB_iff]
    have e : Lib.hasPrefix (b :: l) [c] = (c == b) := by simp [Lib.hasPrefix, List.isPrefixOf]
    show Lib.hasPrefix (b :: l) [c] = true ↔ _
    rw [e, beq_iff_eq]
    exact ⟨fun h => ⟨Nat.succ_pos _, h.symm⟩, fun ⟨_, h⟩ => h.symm⟩
theorem trim_pre (c : UInt8) (s : ByteArray) : (⟨(Lib.trimPrefix s.data.toList [c]).toArray⟩ : ByteArray) = offB c s := by
  unfold Lib.trimPrefix offB
  rw [has_pre]
  by_cases h : begB c s = true
  · rw [if_pos h, if_pos h]
    apply ByteArray.ext
    apply Array.ext'
    rw [ByteArray.data_extract, Array.toList_extract]
    show s.data.toList.drop 1 = _
    rw [List.extract_eq_take_drop, List.take_of_length_le]
    rw [List.length_drop]
    exact Nat.le_refl _
  · rw [if_neg h, if_neg h]
theorem PCutPrefix_c (c : UInt8) (s : ByteArray) (w : World) : Calls Tryd.prog 31 #[.string s, .string ⟨#[c]⟩] w fun e w' => e = .returned (.tuple #[.string (offB c s), .bool (begB c s)]) ∧ Below w.heap.size w w' := by
  have h := Tryd.strings_CutPrefix s ⟨#[c]⟩ w
  rw [show (ByteArray.mk #[c]).data.toList = [c] from rfl, has_pre, trim_pre] at h
  exact h.mono fun e w' h => ⟨h.1, by rw [h.2]; exact Below.refl _ _⟩
theorem PHasPrefix_c (c : UInt8) (s : ByteArray) (w : World) : Calls Tryd.prog 36 #[.string s, .string ⟨#[c]⟩] w fun e w' => e = .returned (.bool (begB c s)) ∧ Below w.heap.size w w' := by
  have h := Tryd.strings_HasPrefix s ⟨#[c]⟩ w
  rw [show (ByteArray.mk #[c]).data.toList = [c] from rfl, has_pre] at h
  exact h.mono fun e w' h => ⟨h.1, by rw [h.2]; exact Below.refl _ _⟩
end Go.Proofs.YtajcapliokblfaaDoor
namespace Go.Proofs.YtajcapliokblfaaDoor
open Go Go.RowKit Nt
def decV (l : List UInt8) : Nat := l.foldl (fun a b => 10 * a + (b.toNat - 48)) 0
theorem decV_snoc (l : List UInt8) (c : UInt8) : decV (l ++ [c]) = 10 * decV l + (c.toNat - 48) := by unfold decV; rw [List.foldl_append]; rfl
def isDig (c : UInt8) : Prop := 48 ≤ c.toNat ∧ c.toNat ≤ 57
instance (c : UInt8) : Decidable (isDig c) := inferInstanceAs (Decidable (_ ∧ _))
theorem decV_lt : ∀ (n : Nat) (l : List UInt8), l.length = n → (∀ c ∈ l, isDig c) → decV l < 10 ^ n := by
  intro n
  induction n with
  | zero => intro l hl _; rw [List.eq_nil_of_length_eq_zero hl]; simp [decV]
  | succ n ih =>
    intro l hl h
    have hne : l ≠ [] := fun c => by rw [c] at hl; simp at hl
    rw [← List.dropLast_concat_getLast hne]
    have h1 := ih l.dropLast (by rw [List.length_dropLast]; omega) (fun x hx => h x ((List.dropLast_sublist l).subset hx))
    have h2 := h (l.getLast hne) (List.getLast_mem hne)
    unfold isDig at h2
    rw [decV_snoc, Nat.pow_succ]; omega
@[irreducible] def preV (s : ByteArray) (k : Nat) : Nat := decV (s.data.toList.take k)
theorem preV_zero (s : ByteArray) : preV s 0 = 0 := by unfold preV; rfl
theorem preV_succ (s : ByteArray) (k : Nat) (h : k < s.size) : preV s (k + 1) = 10 * preV s k + (s[k].toNat - 48) := by
  unfold preV
  have hk : k < s.data.toList.length := by rw [Array.length_toList]; exact h
  rw [List.take_succ_eq_append_getElem hk, decV_snoc]; rfl
def Digits (s : ByteArray) : Prop := ∀ k (h : k < s.size), isDig s[k]
def Valid (s : ByteArray) : Prop := 0 < s.size ∧ Digits s ∧ ¬ (1 < s.size ∧ ∀ h : 0 < s.size, s[0].toNat = 48)
theorem dig_pre {s : ByteArray} (h : Digits s) (k : Nat) (hk : k ≤ s.size) : preV s k < 10 ^ k := by
  unfold preV
  refine decV_lt k _ (by rw [List.length_take, Array.length_toList]; exact Nat.min_eq_left hk) (fun c hc => ?_)
  obtain ⟨j, hj, rfl⟩ := List.getElem_of_mem (List.mem_of_mem_take hc)
  rw [Array.length_toList] at hj
  exact h j hj
def RdOk (s : ByteArray) (k x part ten : Nat) : Prop := preV s k = x * ten + part ∧ part < ten ∧ ∃ j, j < 19 ∧ ten = 10 ^ j
theorem rd_lt {s : ByteArray} {k x part ten : Nat} (h : RdOk s k x part ten) : ten ≤ 1000000000000000000 ∧ part < 1000000000000000000 := by
  obtain ⟨_, h2, j, hj, rfl⟩ := h
  have : (10 : Nat) ^ j ≤ 10 ^ 18 := Nat.pow_le_pow_right (by omega) (by omega)
  have e : (10 : Nat) ^ 18 = 1000000000000000000 := by decide
  omega
theorem rd_step {s : ByteArray} {k x part ten d : Nat} (h : RdOk s k x part ten) (hd : preV s (k + 1) = 10 * preV s k + d) (hd10 : d < 10) :
    preV s (k + 1) = x * (ten * 10) + (part * 10 + d) ∧ part * 10 + d < ten * 10 := by
  obtain ⟨h1, h2, _⟩ := h
  rw [hd, h1]
  constructor
  · rw [Nat.mul_add, ← Nat.mul_assoc x ten 10]; omega
  · omega
theorem rd_keep {s : ByteArray} {k x part ten d : Nat} (h : RdOk s k x part ten) (hd : preV s (k + 1) = 10 * preV s k + d) (hd10 : d < 10) (hne : ten * 10 ≠ 10000000000000000000) : RdOk s (k + 1) x (part * 10 + d) (ten * 10) := by
  obtain ⟨q1, q2⟩ := rd_step h hd hd10
  refine ⟨q1, q2, ?_⟩
  obtain ⟨_, _, j, hj, rfl⟩ := h
  refine ⟨j + 1, ?_, by rw [Nat.pow_succ]⟩
  rcases Nat.lt_or_ge (j + 1) 19 with h3 | h3
  · exact h3
  · exfalso; apply hne
    have : j = 18 := by omega
    subst this; decide
theorem rd_push {s : ByteArray} {k x part ten d : Nat} (h : RdOk s k x part ten) (hd : preV s (k + 1) = 10 * preV s k + d) (hd10 : d < 10) : RdOk s (k + 1) (x * (ten * 10) + (part * 10 + d)) 0 1 := by
  obtain ⟨q1, q2⟩ := rd_step h hd hd10
  exact ⟨by rw [Nat.mul_one, Nat.add_zero]; exact q1, by omega, 0, by omega, by rw [Nat.pow_zero]⟩
@[irreducible] def t19B (x : Nat) : Bool := decide (x = 10000000000000000000)
theorem t19_yes {x : Nat} (h : x = 10000000000000000000) : t19B x = true := by unfold t19B; exact decide_eq_true h
theorem t19_no {x : Nat} (h : x ≠ 10000000000000000000) : t19B x = false := by unfold t19B; exact decide_eq_false h
@[local go_sem] theorem eq_t19 (x : Nat) : ((x : Int) == 10000000000000000000) = t19B x := by
  unfold t19B; rw [Bool.eq_iff_iff, beq_iff_eq, decide_eq_true_iff]; omega
theorem pre_ge {s : ByteArray} (hd : Digits s) (h0 : 0 < s.size) (h1 : s[0].toNat ≠ 48) : ∀ k, k + 1 ≤ s.size → 10 ^ k ≤ preV s (k + 1) := by
  intro k
  induction k with
  | zero =>
    intro _
    rw [preV_succ s 0 h0, preV_zero]
    have := hd 0 h0; unfold isDig at this
    rw [Nat.pow_zero]; omega
  | succ k ih =>
    intro hk
    have := ih (by omega)
    rw [preV_succ s (k + 1) (by omega), Nat.pow_succ]; omega
@[irreducible] def E39 : Nat := 39457
@[irreducible] def E16 : Nat := 16384
theorem E39_eq : E39 = 39457 := by unfold E39; rfl
theorem E16_eq : E16 = 16384 := by unfold E16; rfl
theorem big_ten : (256 : Nat) ^ E16 ≤ 10 ^ E39 := by unfold E16 E39; decide +kernel
theorem not_fits_ten {n : Nat} (h : 10 ^ E39 ≤ n) : ¬ fits n := by
  unfold fits
  rw [← E16_eq, ← lt_pow_iff (by omega)]
  exact Nat.not_lt.2 (Nat.le_trans big_ten h)
theorem long_dec {s : ByteArray} (hd : Digits s) (h0 : 0 < s.size) (h1 : s[0].toNat ≠ 48) (hl : 39457 < s.size) : ¬ fits (preV s s.size) := by
  obtain ⟨m, hm⟩ : ∃ m, s.size = m + 1 := ⟨s.size - 1, by omega⟩
  have := pre_ge hd h0 h1 m (by omega)
  rw [hm]
  exact not_fits_ten (Nat.le_trans (Nat.pow_le_pow_right (by omega) (by rw [E39_eq]; omega)) this)
set_option maxRecDepth 100000 in
theorem NRead_empty (s : ByteArray) (w : World) (h : s.size = 0) :
    Calls Tryd.prog 33 #[.string s] w (StrPost ⟨#[]⟩ 22 w) := by
  have hE := toList_empty h
  have H := Lib.hid h
  clear h
  go_enter Tryd.func33, Tryd.ntmps33
  go_wp2
  go_ret2
  exact ⟨rfl, Below.refl _ _⟩
set_option maxRecDepth 100000 in
theorem NRead_nought (s : ByteArray) (w : World) (h : 1 < s.size) (h0 : s[0].toNat = 48) (hs : s.size ≤ 9223372036854775807) :
    Calls Tryd.prog 33 #[.string s] w (StrPost ⟨#[]⟩ 22 w) := by
  have hp : 0 < s.size := by omega
  have hE := toList_full hp
  have hE2 := toList_full2 hp
  have h48 : ((s[0].toNat : Int) == 48) = true := by rw [beq_iff_eq]; omega
  have hI : (1 : Int) < (s.size : Int) := by omega
  have H0 := Lib.hid h0
  clear h0
  go_enter Tryd.func33, Tryd.ntmps33
  go_wp2
  go_ret2
  exact ⟨rfl, Below.refl _ _⟩
theorem head_no {s : ByteArray} (hp : 0 < s.size) (hn : ¬ (1 < s.size ∧ ∀ h : 0 < s.size, s[0].toNat = 48)) : ((s[0].toNat : Int) == 48) = false ∨ (((s[0].toNat : Int) == 48) = true ∧ ¬ (1 : Int) < (s.size : Int) ∧ ¬ 1 < s.size) := by
  by_cases h : s[0].toNat = 48
  · refine Or.inr ⟨by rw [beq_iff_eq]; omega, ?_, ?_⟩
    · intro c; exact hn ⟨by omega, fun _ => h⟩
    · intro c; exact hn ⟨c, fun _ => h⟩
  · exact Or.inl (by rw [beq_eq_false_iff_ne]; omega)
set_option maxRecDepth 100000 in
set_option maxHeartbeats 1000000 in
theorem NRead_bad (s : ByteArray) (w : World) (hs : s.size ≤ 9223372036854775807) (hp : 0 < s.size) (hn : ¬ (1 < s.size ∧ ∀ h : 0 < s.size, s[0].toNat = 48)) (hd : ¬ Digits s) :
    Calls Tryd.prog 33 #[.string s] w (StrPost ⟨#[]⟩ 22 w) := by
  have hE := toList_full hp
  have hE2 := toList_full2 hp
  have HD := Lib.hid hd
  have hh := head_no hp hn
  clear hn hd
  rcases hh with h1 | ⟨h1, h2, h3⟩
  all_goals
    go_enter Tryd.func33, Tryd.ntmps33
    go_wp2
    go_loop [23] (fun i => ∃ k : Nat, k ≤ s.size ∧ i = .int .i64 k ∧ Hid (∀ j (h : j < s.size), j < k → isDig s[j])) (fun i => s.size - (intOf i).toNat)
    case atStart => exact ⟨0, Nat.zero_le _, rfl, Lib.hid (fun j h hj => by omega)⟩
    case round =>
      obtain ⟨k, hk, rfl, hdg⟩ := hrel
      by_cases hlt : k < s.size
      · by_cases hdk : isDig s[k]
        · have hN : Hid (∀ j (h : j < s.size), j < k + 1 → isDig s[j]) := Lib.hid (fun j h hj => by
            rcases Nat.lt_or_ge j k with h4 | h4
            · exact hdg.out j h h4
            · obtain rfl : j = k := by omega
              exact hdk)
          unfold isDig at hdk
          have q1 : ¬ (s[k].toNat : Int) < 48 := by omega
          have q2 : ¬ (57 : Int) < (s[k].toNat : Int) := by omega
          clear hdk
          go_wp2
          go_round
          case rel => exact ⟨k + 1, by omega, by go_num, hN⟩
          case measure => simp [intOf]; omega
        · unfold isDig at hdk
          by_cases q1 : s[k].toNat < 48
          · have q2 : (s[k].toNat : Int) < 48 := by omega
            clear hdk
            go_wp2
            go_ret2
            exact ⟨rfl, Below.refl _ _⟩
          · have q2 : ¬ (s[k].toNat : Int) < 48 := by omega
            have q3 : (57 : Int) < (s[k].toNat : Int) := by omega
            clear hdk
            go_wp2
            go_ret2
            exact ⟨rfl, Below.refl _ _⟩
      · exact absurd (fun j h => hdg.out j h (by omega)) HD.out
theorem first_no {s : ByteArray} (hd : Digits s) (k : Nat) (h : k < s.size) : ¬ (s[k].toNat : Int) < 48 ∧ ¬ (57 : Int) < (s[k].toNat : Int) := by
  have := hd k h; unfold isDig at this; omega
theorem ndW_dec {n k : Nat} (h : n < 10 ^ k) : nd W n ≤ k := by
  refine nd_le W2 (Nat.lt_of_lt_of_le h (Nat.pow_le_pow_left ?_ k))
  rw [W_eq]; omega
set_option maxRecDepth 100000 in
set_option maxHeartbeats 4000000 in
theorem NRead_ok (s : ByteArray) (w : World) (hs : s.size ≤ 9223372036854775807) (hv : Valid s) (hlong : 39457 < s.size → ¬ fits (preV s s.size)) :
    Calls Tryd.prog 33 #[.string s] w (StrPost (resS (preV s s.size)) (resE (preV s s.size)) w) := by
  obtain ⟨hp, hd, hn⟩ := hv
  have hE := toList_full hp
  have hE2 := toList_full2 hp
  have HD := Lib.hid hd
  have hh := head_no hp hn
  have HL := Lib.hid hlong
  clear hn hd hlong
  rcases hh with h1 | ⟨h1, h2, h3⟩
  all_goals
    go_enter Tryd.func33, Tryd.ntmps33
    go_wp2
    go_loop [23] (fun i => ∃ k : Nat, k ≤ s.size ∧ i = .int .i64 k) (fun i => s.size - (intOf i).toNat)
    case atStart => exact ⟨0, Nat.zero_le _, rfl⟩
    case round =>
      obtain ⟨k, hk, rfl⟩ := hrel
      by_cases hlt : k < s.size
      · obtain ⟨q1, q2⟩ := first_no HD.out k hlt
        go_wp2
        go_round
        case rel => exact ⟨k + 1, by omega, by go_num⟩
        case measure => simp [intOf]; omega
      · obtain rfl : k = s.size := by omega
        by_cases hbig : 39457 < s.size
        · have hbI : (39457 : Int) < (s.size : Int) := by omega
          have e1 := Lib.hid (resS_no (HL.out hbig))
          have e2 := Lib.hid (resE_no (HL.out hbig))
          go_wp2
          go_ret2
          exact ⟨by rw [e1.out, e2.out]; rfl, Below.refl _ _⟩
        · have hbI : ¬ (39457 : Int) < (s.size : Int) := by omega
          have hsz : s.size ≤ 39457 := by omega
          have hszI : (s.size : Int) ≤ 39457 := by omega
          go_wp2
          go_loopw [5, 6, 7, 42] (fun x y z i wr => ∃ (k X part ten c : Nat) (A : Option Addr), k ≤ s.size ∧ i = .int .i64 k ∧ x = .slice A (nd W X) c ∧ y = .int .u64 part ∧ z = .int .u64 ten ∧ nd W X ≤ c ∧ Hid (Row wr wr.heap.size A X (nd W X)) ∧ Hid (RdOk s k X part ten) ∧ Hid (k = s.size → part = 0 ∧ ten = 1) ∧ Below w.heap.size w wr) (fun _ _ _ i _ => s.size - (intOf i).toNat)
          case atStart =>
            have e : nd W 0 = 0 := nd_zero _
            exact ⟨0, 0, 0, 1, 0, none, Nat.zero_le _, rfl, by rw [e], rfl, rfl, by rw [e]; exact Nat.le_refl _, by rw [e]; exact Lib.hid Row.none_, Lib.hid ⟨by rw [preV_zero], by omega, 0, by omega, by rw [Nat.pow_zero]⟩, Lib.hid (fun h => ⟨rfl, rfl⟩), Below.refl _ _⟩
          case round =>
            obtain ⟨k, X, part, ten, c, A, hk, rfl, rfl, rfl, rfl, hc, hrow, hrd, hlast, hb⟩ := hrel
            by_cases hlt : k < s.size
            · obtain ⟨d, hdd⟩ : ∃ d, d = s[k].toNat - 48 := ⟨_, rfl⟩
              have hdig := HD.out k hlt
              unfold isDig at hdig
              have hd10 : d < 10 := by omega
              have hpre := preV_succ s k hlt
              rw [← hdd] at hpre
              obtain ⟨ht, hpt⟩ := rd_lt hrd.out
              obtain ⟨t10, ht10⟩ : ∃ t10, t10 = ten * 10 := ⟨_, rfl⟩
              obtain ⟨p10, hp10⟩ : ∃ p10, p10 = part * 10 := ⟨_, rfl⟩
              obtain ⟨p', hp'⟩ : ∃ p', p' = p10 + d := ⟨_, rfl⟩
              have w1 : IntKind.u64.wrap ((part : Int) * 10) = (p10 : Int) := by rw [IntKind.wrap_u64]; omega
              have w2 : IntKind.u8.wrap ((s[k].toNat : Int) - 48) = (d : Int) := by rw [show (s[k].toNat : Int) - 48 = ((d : Nat) : Int) by omega, wrap_u8]; omega
              have w3 : IntKind.u64.wrap (d : Int) = (d : Int) := by rw [IntKind.wrap_u64]; omega
              have w4 : IntKind.u64.wrap ((p10 : Int) + (d : Int)) = (p' : Int) := by rw [IntKind.wrap_u64]; omega
              have w5 : IntKind.u64.wrap ((ten : Int) * 10) = (t10 : Int) := by rw [IntKind.wrap_u64]; omega
              have hXw : nd W X ≤ 39457 := by
                have h5 := dig_pre HD.out k hk
                have h6 : X < 10 ^ k := by
                  refine Nat.lt_of_le_of_lt ?_ h5
                  rw [hrd.out.1]
                  obtain ⟨_, hlt1, j, hj, rfl⟩ := hrd.out
                  have := Nat.mul_le_mul_left X (Nat.pow_pos (n := j) (show 0 < 10 by omega))
                  omega
                have := ndW_dec h6; omega
              have hstep := rd_push hrd.out hpre hd10
              rw [← ht10, show part * 10 + d = p' by omega] at hstep
              have hkeep := fun h => rd_keep hrd.out hpre hd10 h
              rw [← ht10, show part * 10 + d = p' by omega] at hkeep
              have HST := Lib.hid hstep
              have HKP := Lib.hid hkeep
              have l1 := Lib.hid (show t10 < 18446744073709551616 by omega)
              have l2 := Lib.hid (show p' < 18446744073709551616 by omega)
              have HW := Lib.hid hXw
              clear hdd hdig hpre ht hpt ht10 hp10 hp' hXw hstep hkeep
              have hcs : (t19B t10 = true ∨ (t19B t10 = false ∧ k + 1 = s.size)) ∨ (t10 ≠ 10000000000000000000 ∧ k + 1 ≠ s.size) := by
                by_cases g1 : t10 = 10000000000000000000
                · exact Or.inl (Or.inl (t19_yes g1))
                · by_cases g2 : k + 1 = s.size
                  · exact Or.inl (Or.inr ⟨t19_no g1, g2⟩)
                  · exact Or.inr ⟨g1, g2⟩
              rcases hcs with g | ⟨g1, g2⟩
              · rcases g with g | ⟨g, g2⟩
                case' inr =>
                  have hl : ((k : Int) == (s.size : Int) - 1) = true := by rw [beq_iff_eq]; omega
                  have G2 := Lib.hid g2
                  clear g2
                all_goals
                  go_wp2_with (go_at_call 54; refine (Put_c _ _ _ _ _ _ _ l1.out l2.out (by have := HW.out; omega) hrow.out (Nat.le_refl _)).mono ?_; intro e w3 hpp; obtain ⟨A3, c3, rfl, hc3, hr3, hb3⟩ := hpp.get; have HR3 := Lib.hid hr3; clear hr3 hpp)
                  have hbb := hb.trans (hb3.mono hb.size)
                  go_roundw
                  case rel => exact ⟨k + 1, _, 0, 1, c3, A3, by omega, by go_num, rfl, rfl, rfl, hc3, HR3, HST, Lib.hid (fun _ => ⟨rfl, rfl⟩), hbb⟩
                  case measure => simp [intOf]; omega
              · have hl : ((k : Int) == (s.size : Int) - 1) = false := by rw [beq_eq_false_iff_ne]; omega
                have hB := t19_no g1
                have G1 := Lib.hid g1
                have G2 := Lib.hid g2
                clear g1 g2
                go_wp2
                go_roundw
                case rel => exact ⟨k + 1, X, p', t10, c, A, by omega, by go_num, rfl, rfl, rfl, hc, hrow, Lib.hid (HKP.out G1.out), Lib.hid (fun h => absurd h G2.out), hb⟩
                case measure => simp [intOf]; omega
            · obtain rfl : k = s.size := by omega
              obtain ⟨rfl, rfl⟩ := hlast.out rfl
              have hX : X = preV s s.size := by have := hrd.out.1; rw [Nat.mul_one, Nat.add_zero] at this; exact this.symm
              have hXw : nd W X ≤ 39457 := by rw [hX]; exact Nat.le_trans (ndW_dec (dig_pre HD.out s.size (Nat.le_refl _))) hsz
              have HX := Lib.hid hX
              have HW := Lib.hid hXw
              clear hX hXw
              go_wp2_with (go_at_call 47; refine (made_c _ _ _ _ _ (by have := HW.out; omega) hrow.out (Nat.le_refl _)).mono ?_; rintro e w' ⟨rfl, hb'⟩)
              go_ret2
              exact ⟨by rw [← HX.out]; rfl, hb.trans (hb'.mono hb.size)⟩
end Go.Proofs.YtajcapliokblfaaDoor
namespace Go.Proofs.YtajcapliokblfaaDoor
open Go Go.RowKit Nt
def dlen (n : Nat) : Nat := if n = 0 then 1 else nd 10 n
theorem dlen_lt (n : Nat) : n < 10 ^ dlen n := by
  unfold dlen; split
  · rename_i h; subst h; decide
  · exact lt_nd (by omega)
theorem decS_size (n : Nat) : (decS n).size = dlen n := by
  unfold dlen
  by_cases h : n = 0
  · subst h; rw [decS_zero, if_pos rfl]; rfl
  · rw [decS_pos h, if_neg h]
    show Array.size _ = _
    simp [digs_length]
theorem decS_get (n j : Nat) (h : j < (decS n).size) : (decS n)[j].toNat = 48 + dgt 10 n (dlen n - 1 - j) := by
  have hj : j < dlen n := by rwa [decS_size] at h
  rw [ba_get]
  by_cases h0 : n = 0
  · subst h0
    have e1 : dlen 0 = 1 := by unfold dlen; rw [if_pos rfl]
    have hj0 : j = 0 := by omega
    subst hj0
    simp only [decS_zero]
    rw [dgt_def]; simp
  · have e : dlen n = nd 10 n := by unfold dlen; rw [if_neg h0]
    simp only [decS_pos h0]
    rw [List.getElem_toArray, List.getElem_map, List.getElem_reverse, digs_get, digs_length, UInt8.toNat_ofNat', Nat.mod_eq_of_lt, e]
    have := dgt_lt (b := 10) (by omega) n (nd 10 n - 1 - j); omega
theorem val_dgt {s : ByteArray} (hd : Digits s) : ∀ k, k ≤ s.size → ∀ j, (hj : j < k) → (h : j < s.size) → s[j].toNat = 48 + dgt 10 (preV s k) (k - 1 - j) := by
  intro k
  induction k with
  | zero => intro _ j hj; omega
  | succ k ih =>
    intro hk j hj h
    have hdk := hd k (by omega)
    unfold isDig at hdk
    rw [preV_succ s k (by omega)]
    rcases Nat.lt_or_ge j k with h1 | h1
    · rw [ih (by omega) j h1 h, show k + 1 - 1 - j = 1 + (k - 1 - j) by omega]
      congr 1
      have e := dgt_shift (b := 10) (by omega) (s[k].toNat - 48) (preV s k) 1 (1 + (k - 1 - j)) (by rw [Nat.pow_one]; omega) (by omega)
      rw [Nat.pow_one, Nat.add_comm] at e
      rw [e]; congr 1; omega
    · obtain rfl : j = k := by omega
      rw [show j + 1 - 1 - j = 0 by omega, dgt_def, Nat.pow_zero, Nat.div_one]; omega
theorem pre_of_dec (n : Nat) : Valid (decS n) ∧ preV (decS n) (decS n).size = n := by
  have hdig : Digits (decS n) := fun k hk => by
    unfold isDig
    rw [decS_get n k hk]
    have := dgt_lt (b := 10) (by omega) n (dlen n - 1 - k); omega
  have hs := decS_size n
  have hp : 0 < (decS n).size := by
    rw [hs]; unfold dlen; split
    · omega
    · rename_i h
      rcases Nat.eq_zero_or_pos (nd 10 n) with h1 | h1
      · exact absurd ((nd_eq_zero (by omega)).1 h1) h
      · exact h1
  refine ⟨⟨hp, hdig, fun ⟨h1, h2⟩ => ?_⟩, ?_⟩
  · have h3 := h2 hp
    rw [decS_get n 0 hp] at h3
    rw [hs] at h1
    unfold dlen at h1 h3
    split at h1
    · omega
    · rename_i h0
      rw [if_neg h0] at h3
      have := dgt_top (b := 10) (by omega) h0
      rw [Nat.sub_zero] at h3; omega
  · refine eq_of_digits (b := 10) (L := dlen n) ?_ (dlen_lt n) (fun i hi => ?_)
    · have := dig_pre hdig (decS n).size (Nat.le_refl _); rw [hs] at this ⊢; exact this
    · have hj : dlen n - 1 - i < (decS n).size := by rw [hs]; omega
      have h1 := val_dgt hdig (decS n).size (Nat.le_refl _) (dlen n - 1 - i) hj hj
      have h2 := decS_get n (dlen n - 1 - i) hj
      rw [h2] at h1
      rw [show dlen n - 1 - (dlen n - 1 - i) = i by omega, show (decS n).size - 1 - (dlen n - 1 - i) = i by rw [hs]; omega] at h1
      omega
theorem dec_of_pre {s : ByteArray} (h : Valid s) : decS (preV s s.size) = s := by
  obtain ⟨hp, hd, hn⟩ := h
  have hlen : dlen (preV s s.size) = s.size := by
    by_cases h48 : s[0].toNat = 48
    · have h1 : s.size = 1 := by
        rcases Nat.lt_or_ge 1 s.size with h | h
        · exact absurd ⟨h, fun _ => h48⟩ hn
        · omega
      have h0 : preV s s.size = 0 := by rw [h1, preV_succ s 0 hp, preV_zero, h48]
      rw [h0, h1]; unfold dlen; rw [if_pos rfl]
    · obtain ⟨m, hm⟩ : ∃ m, s.size = m + 1 := ⟨s.size - 1, by omega⟩
      have h1 := pre_ge hd hp h48 m (by omega)
      have h2 := dig_pre hd s.size (Nat.le_refl _)
      rw [← hm] at h1
      have h3 : preV s s.size ≠ 0 := by have := Nat.pow_pos (n := m) (show 0 < 10 by omega); omega
      unfold dlen
      rw [if_neg h3, hm]
      rw [hm] at h1 h2
      exact nd_unique (by omega) h1 h2
  apply ba_ext (by rw [decS_size, hlen])
  intro j h1 h2
  rw [decS_get _ j h1, val_dgt hd s.size (Nat.le_refl _) j h2 h2, hlen]
theorem NRead_c (s : ByteArray) (w : World) (hs : s.size ≤ 9223372036854775807) (hv : Valid s) : Calls Tryd.prog 33 #[.string s] w (StrPost (resS (preV s s.size)) (resE (preV s s.size)) w) :=
  NRead_ok s w hs hv (fun hl => long_dec hv.2.1 hv.1 (fun c => hv.2.2 ⟨by omega, fun _ => c⟩) hl)
theorem NRead_no (s : ByteArray) (w : World) (hs : s.size ≤ 9223372036854775807) (hv : ¬ Valid s) : Calls Tryd.prog 33 #[.string s] w (StrPost ⟨#[]⟩ 22 w) := by
  by_cases h0 : s.size = 0
  · exact NRead_empty s w h0
  · have hp : 0 < s.size := by omega
    by_cases hn : 1 < s.size ∧ ∀ h : 0 < s.size, s[0].toNat = 48
    · exact NRead_nought s w hn.1 (hn.2 hp) hs
    · exact NRead_bad s w hs hp hn (fun hd => hv ⟨hp, hd, hn⟩)
theorem NText_any (n : Nat) (w : World) (hf : fits n) : Calls Tryd.prog 30 #[.string (natS n)] w (StrPost (decS n) 0 w) := by
  by_cases h : n = 0
  · subst h; exact NText_zero w
  · exact NText_c n w hf h
end Go.Proofs.YtajcapliokblfaaDoor
namespace Go.Proofs.YtajcapliokblfaaDoor
open Go Go.RowKit Nt
theorem Own.set_ {w : World} {B g L cap : Nat} {T : TypeId} {k : IntKind} {l : List Nat} (h : Own w B T k (.slice (some ⟨g, 0, none⟩) L cap) l) (j x : Nat) :
    Own (w.setCell ⟨g, j, none⟩ (.int k (x : Nat))) B T k (.slice (some ⟨g, 0, none⟩) L cap) (l.set j x) := by
  have h1 := h.1
  rcases h.2 with ⟨e, _⟩ | ⟨g', cap', cur, e, hB, hh, hn, hm, hs, ht⟩
  · cases e
  · injection e with e1 e2 e3
    injection e1 with e1
    injection e1 with e1 _ _
    subst e1 e3
    refine ⟨by simp, Or.inr ⟨g, cap, cur.setIfInBounds j (.int k (x : Nat)), ?_, hB, Blk.set_ hh j _, ?_, hm, by simpa using hs, ?_⟩⟩
    · rw [List.length_set, e2]
    · rw [List.length_set]; exact hn
    · rw [List.length_set, Array.toList_setIfInBounds, List.take_set, ht, List.map_set]
theorem Own.far {w : World} {B : Nat} {T : TypeId} {k : IntKind} {v : Value} {l : List Nat} (h : Own w B T k v l) {p : Addr} (hp : p.block < B) (x : Value) : Own (w.setCell p x) B T k v l := by
  rcases h.2 with ⟨rfl, h0⟩ | ⟨g', cap', cur, e, hB, hh, hn, hm, hs, ht⟩
  · exact ⟨h.1, Or.inl ⟨rfl, h0⟩⟩
  · exact ⟨h.1, Or.inr ⟨g', cap', cur, e, hB, (Below.heap_setCell w p x g' (by omega)).trans hh, hn, hm, hs, ht⟩⟩
end Go.Proofs.YtajcapliokblfaaDoor
namespace Go.Proofs.YtajcapliokblfaaDoor
open Go Go.RowKit Nt
end Go.Proofs.YtajcapliokblfaaDoor
namespace Go.Proofs.YtajcapliokblfaaDoor
open Go Go.RowKit Nt
section
variable [Env]
set_option maxRecDepth 100000 in
theorem opt_catS {t : TypeId} {A B r : AV} {s u : ByteArray} (ha : gval A = .string s) (hb : gval B = .string u) (hr : ground r = true) (hv : gval r = .string (s ++ u)) (hz : s.size + u.size ≤ 9223372036854775807) : OpT Tryd.prog [0, 0, t] [A, B] r :=
  opt_bin (op := .add) hr fun p q w => by
    rw [ha, hb, hv]
    go_simp
theorem opt_lenS {t : TypeId} {A r : AV} {s : ByteArray} (ha : gval A = .string s) (hr : ground r = true) (hv : gval r = .int .i64 (s.size : Int)) : OpT Tryd.prog [6, 0, t, 9] [A] r := by
  refine ⟨hr, fun o xs hk ρ hρ hx w => ?_⟩
  unfold keyOf at hk
  obtain ⟨dst, o, type, pos, after, guard⟩ := o
  simp only at hk
  split at hk
  case h_7 b args argTypes =>
    cases b
    case len =>
      have hk' : (6 :: 0 :: type :: argTypes.toList, args.toList) = ([6, 0, t, 9], xs) := Option.some.inj hk
      have h3 : args.toList = xs := (Prod.mk.inj hk').2
      have hxx : args.map ρ = #[.string s] := by
        apply Array.ext'
        rw [Array.toList_map, h3, hx]
        simp [ha]
      simp only [execOp, resolve, Deferred.ofValue, Sem.run_bind, Sem.run_pure, Result.andThen_ok, invoke, hxx]
      have ha2 : argTypes = #[9] := Array.ext' (List.cons.inj (List.cons.inj (List.cons.inj (Prod.mk.inj hk').1).2).2).2
      rw [hv]
      simp [builtin, Builtin.len_, go_sem, ha2, run_underlying Tryd.underlying9]
    all_goals first
      | (have hk' := (List.cons.inj (List.cons.inj (Prod.mk.inj (Option.some.inj hk)).1).2).1; exact absurd hk' (by decide))
      | cases hk
  all_goals first
    | (simp only [Option.some.injEq, Prod.mk.injEq, List.cons.injEq] at hk; have := hk.1.1; omega)
    | cases hk
end
theorem dec_sz {n : Nat} (h : fits n) : (decS n).size ≤ 40000 := by
  rw [decS_size]
  unfold dlen
  split
  · omega
  · refine Nat.le_trans (nd_le (k := E39) (by omega) ?_) (by rw [E39_eq]; omega)
    have h1 := lt_nd (b := 256) (n := n) (by omega)
    have h2 : 256 ^ nd 256 n ≤ 256 ^ E16 := Nat.pow_le_pow_right (by omega) (by rw [E16_eq]; exact h)
    exact Nat.lt_of_lt_of_le h1 (Nat.le_trans h2 big_ten)
def Rx.nul : Rx := ⟨false, ⟨#[]⟩, ⟨#[]⟩⟩
@[irreducible] def txR (g : Bool) (n d : Nat) : ByteArray := if d = 1 then (if g = true then ⟨#[45]⟩ ++ decS n else decS n) else (if g = true then ⟨#[45]⟩ ++ decS n else decS n) ++ (⟨#[47]⟩ ++ decS d)
theorem one_iff {d : Nat} : natS d = ⟨#[1]⟩ ↔ d = 1 := by rw [← natS_1r]; exact natS_inj
theorem tx_tt {g : Bool} {n d : Nat} (h : g = true) (k : natS d = ⟨#[1]⟩) : txR g n d = ⟨#[45]⟩ ++ decS n := by unfold txR; rw [if_pos (one_iff.1 k), if_pos h]
theorem tx_ft {g : Bool} {n d : Nat} (h : ¬ g = true) (k : natS d = ⟨#[1]⟩) : txR g n d = decS n := by unfold txR; rw [if_pos (one_iff.1 k), if_neg h]
theorem tx_tf {g : Bool} {n d : Nat} (h : g = true) (k : ¬ natS d = ⟨#[1]⟩) : txR g n d = (⟨#[45]⟩ ++ decS n) ++ (⟨#[47]⟩ ++ decS d) := by unfold txR; rw [if_neg (fun c => k (one_iff.2 c)), if_pos h]
theorem tx_ff {g : Bool} {n d : Nat} (h : ¬ g = true) (k : ¬ natS d = ⟨#[1]⟩) : txR g n d = decS n ++ (⟨#[47]⟩ ++ decS d) := by unfold txR; rw [if_neg (fun c => k (one_iff.2 c)), if_neg h]
theorem PNText_c (n : Nat) (w : World) (hf : fits n) : Calls Tryd.prog 30 #[.string (natS n)] w fun e w' => e = .returned (.tuple #[.string (decS n), .int .i64 0]) ∧ Below w.heap.size w w' := NText_any n w hf
open Classical in
@[irreducible] noncomputable def rtS (s : ByteArray) : ByteArray := if Valid s then resS (preV s s.size) else ⟨#[]⟩
open Classical in
@[irreducible] noncomputable def rtE (s : ByteArray) : Int := if Valid s then resE (preV s s.size) else 22
theorem PNRead_c (s : ByteArray) (w : World) (hs : s.size ≤ 9223372036854775807) : Calls Tryd.prog 33 #[.string s] w fun e w' => e = .returned (.tuple #[.string (rtS s), .int .i64 (rtE s)]) ∧ Below w.heap.size w w' := by
  unfold rtS rtE
  by_cases h : Valid s
  · rw [if_pos h, if_pos h]; exact NRead_c s w hs h
  · rw [if_neg h, if_neg h]; exact NRead_no s w hs h
theorem headB_size (c : UInt8) (s : ByteArray) : (headB c s).size ≤ s.size := by
  unfold headB; split
  · rw [ByteArray.size_extract]; omega
  · exact Nat.le_refl _
theorem tailB_size (c : UInt8) (s : ByteArray) : (tailB c s).size ≤ s.size := by
  unfold tailB; split
  · rw [ByteArray.size_extract]; omega
  · exact Nat.zero_le _
theorem offB_size (c : UInt8) (s : ByteArray) : (offB c s).size ≤ s.size := by
  unfold offB; split
  · rw [ByteArray.size_extract]; omega
  · exact Nat.le_refl _
noncomputable def rdX (s : ByteArray) : Rx := ⟨begB 45 s, rtS (headB 47 (offB 45 s)), if hasB 47 (offB 45 s) = true then rtS (tailB 47 (offB 45 s)) else ⟨#[1]⟩⟩
def rdOk (s : ByteArray) : Prop := rtE (headB 47 (offB 45 s)) = 0 ∧ (hasB 47 (offB 45 s) = true → rtE (tailB 47 (offB 45 s)) = 0 ∧ ¬ rtS (tailB 47 (offB 45 s)) = ⟨#[1]⟩) ∧ mayR (rdX s) = true
theorem rdX_t {s : ByteArray} (h : hasB 47 (offB 45 s) = true) : rdX s = ⟨begB 45 s, rtS (headB 47 (offB 45 s)), rtS (tailB 47 (offB 45 s))⟩ := by unfold rdX; rw [if_pos h]
theorem rdX_f {s : ByteArray} (h : ¬ hasB 47 (offB 45 s) = true) : rdX s = ⟨begB 45 s, rtS (headB 47 (offB 45 s)), ⟨#[1]⟩⟩ := by unfold rdX; rw [if_neg h]
open Classical in
@[irreducible] noncomputable def rdR (s : ByteArray) : Rx := if rdOk s then rdX s else Rx.nul
open Classical in
@[irreducible] noncomputable def rdE (s : ByteArray) : Int := if rdOk s then 0 else 40
theorem rd_ok {s : ByteArray} (h : rdOk s) : rdR s = rdX s ∧ rdE s = 0 := by unfold rdR rdE; rw [if_pos h, if_pos h]; exact ⟨rfl, rfl⟩
theorem rd_no {s : ByteArray} (h : ¬ rdOk s) : rdR s = Rx.nul ∧ rdE s = 40 := by unfold rdR rdE; rw [if_neg h, if_neg h]; exact ⟨rfl, rfl⟩
theorem ret_rx {a b : Rx} {e f : Int} (h : a = b ∧ e = f) : Ending.returned (.tuple #[.agg #[.bool b.g, .string b.s, .string b.t], .int .i64 f]) = .returned (.tuple #[.agg #[.bool a.g, .string a.s, .string a.t], .int .i64 e]) := by rw [h.1, h.2]
@[reducible] def PText_t_f : FuncId := 15
@[reducible] def PText_t_a : List AV := [.agg [.lit (.bool true), .sym 0, .sym 1]]
@[reducible] noncomputable def PText_t_k (b1 : Bool) : Know := ⟨[([0, 0, 9], [.lit (.string ⟨#[45]⟩), .sym 2], .sym 4),
  ([0, 12, 23], [.sym 1, .lit (.string ⟨#[1]⟩)], .lit (.bool (!b1))),
  ([0, 0, 9], [.lit (.string ⟨#[47]⟩), .sym 3], .sym 5),
  ([0, 0, 9], [.sym 4, .sym 5], .sym 6)],
  [(14, [.agg [.lit (.bool true), .sym 0, .sym 1]], .lit (.bool true)),
  (30, [.sym 0], .tup [.sym 2, .lit (.int .i64 0)]),
  (30, [.sym 1], .tup [.sym 3, .lit (.int .i64 0)])]⟩
theorem PText_t_r1 : @comes (PText_t_k true) Tryd.prog glT 3000 PText_t_f PText_t_a = some (.tup [.sym 4, .lit (.int .i64 0)]) := by kernel_rfl
theorem PText_t_r2 : @comes (PText_t_k false) Tryd.prog glT 3000 PText_t_f PText_t_a = some (.tup [.sym 6, .lit (.int .i64 0)]) := by kernel_rfl
set_option maxRecDepth 100000 in
set_option maxHeartbeats 4000000 in
theorem PText_t (q : Rat) (w : World) (hG : Globs glT w) (h : qfits q) (hg : qG q = true) : Calls Tryd.prog 15 #[.agg #[.bool true, .string (natS (qN q)), .string (natS (qD q))]] w fun e w' => e = .returned (.tuple #[.string (txR (qG q) (qN q) (qD q)), .int .i64 0]) ∧ Below w.heap.size w w' := by
  obtain ⟨b1, i1⟩ := bex (natS (qD q) = ⟨#[1]⟩)
  letI : Env := mkEnv glT [.string (natS (qN q)), .string (natS (qD q)), .string (decS (qN q)), .string (decS (qD q)), .string ((⟨#[45]⟩) ++ (decS (qN q))), .string ((⟨#[47]⟩) ++ (decS (qD q))), .string (((⟨#[45]⟩) ++ (decS (qN q))) ++ ((⟨#[47]⟩) ++ (decS (qD q))))] rfl
  have hops : OpsT Tryd.prog (@Know.ops (PText_t_k b1)) := ⟨opt_catS rfl rfl rfl rfl (by have h1 := dec_sz h.1; have h2 := dec_sz h.2; have e1 : (ByteArray.mk #[45]).size = 1 := rfl; have e2 : (ByteArray.mk #[47]).size = 1 := rfl; (try simp only [ByteArray.size_append]); omega),
    optS_neq_i rfl rfl i1,
    opt_catS rfl rfl rfl rfl (by have h1 := dec_sz h.1; have h2 := dec_sz h.2; have e1 : (ByteArray.mk #[45]).size = 1 := rfl; have e2 : (ByteArray.mk #[47]).size = 1 := rfl; (try simp only [ByteArray.size_append]); omega),
    opt_catS rfl rfl rfl rfl (by have h1 := dec_sz h.1; have h2 := dec_sz h.2; have e1 : (ByteArray.mk #[45]).size = 1 := rfl; have e2 : (ByteArray.mk #[47]).size = 1 := rfl; (try simp only [ByteArray.size_append]); omega),
    trivial⟩
  have hcalls : CallsT Tryd.prog (@Know.calls (PText_t_k b1)) := ⟨callt rfl rfl fun w hG => (by have hh := PMay_yes q w h; unfold qv at hh; rwa [hg] at hh),
    callt rfl rfl fun w hG => PNText_c (qN q) w h.1,
    callt rfl rfl fun w hG => PNText_c (qD q) w h.2,
    trivial⟩
  have fin : ∀ v, @comes (PText_t_k b1) Tryd.prog glT 3000 PText_t_f PText_t_a = some v → ground v = true → Ending.returned (gval v) = .returned (.tuple #[.string (txR (qG q) (qN q) (qD q)), .int .i64 0]) → Calls Tryd.prog 15 #[.agg #[.bool true, .string (natS (qN q)), .string (natS (qD q))]] w fun e w' => e = .returned (.tuple #[.string (txR (qG q) (qN q) (qD q)), .int .i64 0]) ∧ Below w.heap.size w w' := fun v h1 h2 h3 => (@sym_ok _ (PText_t_k b1) _ (@KnowOk.of _ (PText_t_k b1) _ hops hcalls) (by kernel_rfl) _ _ _ _ h1 rfl h2 _ hG).mono fun e w' h => ⟨h.1.trans h3, h.2⟩
  clear hops hcalls
  cases b1 with
  | true =>
    have h1 : natS (qD q) = ⟨#[1]⟩ := i1.1 rfl
    exact fin _ (PText_t_r1) rfl (show Ending.returned (.tuple #[.string ((⟨#[45]⟩) ++ (decS (qN q))), .int .i64 0]) = .returned (.tuple #[.string (txR (qG q) (qN q) (qD q)), .int .i64 0]) from (by rw [tx_tt hg h1]))
  | false =>
    have h1 : ¬ (natS (qD q) = ⟨#[1]⟩) := fun c => Bool.false_ne_true (i1.2 c)
    exact fin _ (PText_t_r2) rfl (show Ending.returned (.tuple #[.string (((⟨#[45]⟩) ++ (decS (qN q))) ++ ((⟨#[47]⟩) ++ (decS (qD q)))), .int .i64 0]) = .returned (.tuple #[.string (txR (qG q) (qN q) (qD q)), .int .i64 0]) from (by rw [tx_tf hg h1]))
@[reducible] def PText_f_f : FuncId := 15
@[reducible] def PText_f_a : List AV := [.agg [.lit (.bool false), .sym 0, .sym 1]]
@[reducible] noncomputable def PText_f_k (b1 : Bool) : Know := ⟨[([0, 12, 23], [.sym 1, .lit (.string ⟨#[1]⟩)], .lit (.bool (!b1))),
  ([0, 0, 9], [.lit (.string ⟨#[47]⟩), .sym 3], .sym 4),
  ([0, 0, 9], [.sym 2, .sym 4], .sym 5)],
  [(14, [.agg [.lit (.bool false), .sym 0, .sym 1]], .lit (.bool true)),
  (30, [.sym 0], .tup [.sym 2, .lit (.int .i64 0)]),
  (30, [.sym 1], .tup [.sym 3, .lit (.int .i64 0)])]⟩
theorem PText_f_r1 : @comes (PText_f_k true) Tryd.prog glT 3000 PText_f_f PText_f_a = some (.tup [.sym 2, .lit (.int .i64 0)]) := by kernel_rfl
theorem PText_f_r2 : @comes (PText_f_k false) Tryd.prog glT 3000 PText_f_f PText_f_a = some (.tup [.sym 5, .lit (.int .i64 0)]) := by kernel_rfl
set_option maxRecDepth 100000 in
set_option maxHeartbeats 4000000 in
theorem PText_f (q : Rat) (w : World) (hG : Globs glT w) (h : qfits q) (hg : qG q = false) : Calls Tryd.prog 15 #[.agg #[.bool false, .string (natS (qN q)), .string (natS (qD q))]] w fun e w' => e = .returned (.tuple #[.string (txR (qG q) (qN q) (qD q)), .int .i64 0]) ∧ Below w.heap.size w w' := by
  obtain ⟨b1, i1⟩ := bex (natS (qD q) = ⟨#[1]⟩)
  letI : Env := mkEnv glT [.string (natS (qN q)), .string (natS (qD q)), .string (decS (qN q)), .string (decS (qD q)), .string ((⟨#[47]⟩) ++ (decS (qD q))), .string ((decS (qN q)) ++ ((⟨#[47]⟩) ++ (decS (qD q))))] rfl
  have hops : OpsT Tryd.prog (@Know.ops (PText_f_k b1)) := ⟨optS_neq_i rfl rfl i1,
    opt_catS rfl rfl rfl rfl (by have h1 := dec_sz h.1; have h2 := dec_sz h.2; have e1 : (ByteArray.mk #[45]).size = 1 := rfl; have e2 : (ByteArray.mk #[47]).size = 1 := rfl; (try simp only [ByteArray.size_append]); omega),
    opt_catS rfl rfl rfl rfl (by have h1 := dec_sz h.1; have h2 := dec_sz h.2; have e1 : (ByteArray.mk #[45]).size = 1 := rfl; have e2 : (ByteArray.mk #[47]).size = 1 := rfl; (try simp only [ByteArray.size_append]); omega),
    trivial⟩
  have hcalls : CallsT Tryd.prog (@Know.calls (PText_f_k b1)) := ⟨callt rfl rfl fun w hG => (by have hh := PMay_yes q w h; unfold qv at hh; rwa [hg] at hh),
    callt rfl rfl fun w hG => PNText_c (qN q) w h.1,
    callt rfl rfl fun w hG => PNText_c (qD q) w h.2,
    trivial⟩
  have fin : ∀ v, @comes (PText_f_k b1) Tryd.prog glT 3000 PText_f_f PText_f_a = some v → ground v = true → Ending.returned (gval v) = .returned (.tuple #[.string (txR (qG q) (qN q) (qD q)), .int .i64 0]) → Calls Tryd.prog 15 #[.agg #[.bool false, .string (natS (qN q)), .string (natS (qD q))]] w fun e w' => e = .returned (.tuple #[.string (txR (qG q) (qN q) (qD q)), .int .i64 0]) ∧ Below w.heap.size w w' := fun v h1 h2 h3 => (@sym_ok _ (PText_f_k b1) _ (@KnowOk.of _ (PText_f_k b1) _ hops hcalls) (by kernel_rfl) _ _ _ _ h1 rfl h2 _ hG).mono fun e w' h => ⟨h.1.trans h3, h.2⟩
  clear hops hcalls
  cases b1 with
  | true =>
    have h1 : natS (qD q) = ⟨#[1]⟩ := i1.1 rfl
    exact fin _ (PText_f_r1) rfl (show Ending.returned (.tuple #[.string (decS (qN q)), .int .i64 0]) = .returned (.tuple #[.string (txR (qG q) (qN q) (qD q)), .int .i64 0]) from (by rw [tx_ft (by rw [hg]; exact Bool.false_ne_true) h1]))
  | false =>
    have h1 : ¬ (natS (qD q) = ⟨#[1]⟩) := fun c => Bool.false_ne_true (i1.2 c)
    exact fin _ (PText_f_r2) rfl (show Ending.returned (.tuple #[.string ((decS (qN q)) ++ ((⟨#[47]⟩) ++ (decS (qD q)))), .int .i64 0]) = .returned (.tuple #[.string (txR (qG q) (qN q) (qD q)), .int .i64 0]) from (by rw [tx_ff (by rw [hg]; exact Bool.false_ne_true) h1]))
theorem PText_c (q : Rat) (w : World) (hG : Globs glT w) (h : qfits q) : Calls Tryd.prog 15 #[qv q] w fun e w' => e = .returned (.tuple #[.string (txR (qG q) (qN q) (qD q)), .int .i64 0]) ∧ Below w.heap.size w w' := by
  cases hg : qG q
  · have := PText_f q w hG h hg; unfold qv; rw [hg] at this ⊢; exact this
  · have := PText_t q w hG h hg; unfold qv; rw [hg] at this ⊢; exact this
@[reducible] def PText_no_f : FuncId := 15
@[reducible] def PText_no_a : List AV := [.agg [.sym 0, .sym 1, .sym 2]]
@[reducible] noncomputable def PText_no_k : Know := ⟨[],
  [(14, [.agg [.sym 0, .sym 1, .sym 2]], .lit (.bool false))]⟩
theorem PText_no_r1 : @comes PText_no_k Tryd.prog glT 3000 PText_no_f PText_no_a = some (.lit (.tuple #[.string ⟨#[]⟩, .int .i64 2])) := by kernel_rfl
set_option maxRecDepth 100000 in
set_option maxHeartbeats 4000000 in
theorem PText_no (a : Rx) (w : World) (hG : Globs glT w) (h : a.No) : Calls Tryd.prog 15 #[.agg #[.bool a.g, .string a.s, .string a.t]] w fun e w' => e = .returned (.tuple #[.string ⟨#[]⟩, .int .i64 2]) ∧ Below w.heap.size w w' := by
  letI : Env := mkEnv glT [.bool a.g, .string a.s, .string a.t] rfl
  have hops : OpsT Tryd.prog (@Know.ops PText_no_k) := trivial
  have hcalls : CallsT Tryd.prog (@Know.calls PText_no_k) := ⟨callt rfl rfl fun w hG => PMay_no a w h,
    trivial⟩
  have fin : ∀ v, @comes PText_no_k Tryd.prog glT 3000 PText_no_f PText_no_a = some v → ground v = true → Ending.returned (gval v) = .returned (.tuple #[.string ⟨#[]⟩, .int .i64 2]) → Calls Tryd.prog 15 #[.agg #[.bool a.g, .string a.s, .string a.t]] w fun e w' => e = .returned (.tuple #[.string ⟨#[]⟩, .int .i64 2]) ∧ Below w.heap.size w w' := fun v h1 h2 h3 => (@sym_ok _ PText_no_k _ (@KnowOk.of _ PText_no_k _ hops hcalls) (by kernel_rfl) _ _ _ _ h1 rfl h2 _ hG).mono fun e w' h => ⟨h.1.trans h3, h.2⟩
  clear hops hcalls
  exact fin _ (PText_no_r1) rfl rfl
@[reducible] def PRead_c_f : FuncId := 16
@[reducible] def PRead_c_a : List AV := [.sym 0]
@[reducible] noncomputable def PRead_c_k (b1 b2 b3 b4 b5 b6 b7 : Bool) : Know := ⟨[([6, 0, 3, 9], [.sym 0], .sym 1),
  ([0, 15, 3], [.sym 1, .lit (.int .i64 80000)], .lit (.bool b1)),
  ([0, 12, 27], [.sym 7, .lit (.int .i64 0)], .lit (.bool (!b3))),
  ([0, 12, 27], [.sym 9, .lit (.int .i64 0)], .lit (.bool (!b4))),
  ([0, 11, 23], [.sym 8, .lit (.string ⟨#[1]⟩)], .lit (.bool b5))],
  [(31, [.sym 0, .lit (.string ⟨#[45]⟩)], .tup [.sym 2, .sym 3]),
  (32, [.sym 2, .lit (.string ⟨#[47]⟩)], .tup [.sym 4, .sym 5, .lit (.bool b2)]),
  (33, [.sym 4], .tup [.sym 6, .sym 7]),
  (33, [.sym 5], .tup [.sym 8, .sym 9]),
  (14, [.agg [.sym 3, .sym 6, .sym 8]], .lit (.bool b6)),
  (14, [.agg [.sym 3, .sym 6, .lit (.string ⟨#[1]⟩)]], .lit (.bool b7))]⟩
theorem PRead_c_r1 (b6 b7 : Bool) : @comes (PRead_c_k false true true true true b6 b7) Tryd.prog glT 3000 PRead_c_f PRead_c_a = some (.lit (.tuple #[.agg #[.bool false, .string ⟨#[]⟩, .string ⟨#[]⟩], .int .i64 40])) := by kernel_rfl
theorem PRead_c_r2 (b7 : Bool) : @comes (PRead_c_k false true true true false true b7) Tryd.prog glT 3000 PRead_c_f PRead_c_a = some (.tup [.agg [.sym 3, .sym 6, .sym 8], .lit (.int .i64 0)]) := by kernel_rfl
theorem PRead_c_r3 (b7 : Bool) : @comes (PRead_c_k false true true true false false b7) Tryd.prog glT 3000 PRead_c_f PRead_c_a = some (.lit (.tuple #[.agg #[.bool false, .string ⟨#[]⟩, .string ⟨#[]⟩], .int .i64 40])) := by kernel_rfl
theorem PRead_c_r4 (b5 b6 b7 : Bool) : @comes (PRead_c_k false true true false b5 b6 b7) Tryd.prog glT 3000 PRead_c_f PRead_c_a = some (.lit (.tuple #[.agg #[.bool false, .string ⟨#[]⟩, .string ⟨#[]⟩], .int .i64 40])) := by kernel_rfl
theorem PRead_c_r5 (b4 b5 b6 b7 : Bool) : @comes (PRead_c_k false true false b4 b5 b6 b7) Tryd.prog glT 3000 PRead_c_f PRead_c_a = some (.lit (.tuple #[.agg #[.bool false, .string ⟨#[]⟩, .string ⟨#[]⟩], .int .i64 40])) := by kernel_rfl
theorem PRead_c_r6 (b4 b5 b6 : Bool) : @comes (PRead_c_k false false true b4 b5 b6 true) Tryd.prog glT 3000 PRead_c_f PRead_c_a = some (.tup [.agg [.sym 3, .sym 6, .lit (.string ⟨#[1]⟩)], .lit (.int .i64 0)]) := by kernel_rfl
theorem PRead_c_r7 (b4 b5 b6 : Bool) : @comes (PRead_c_k false false true b4 b5 b6 false) Tryd.prog glT 3000 PRead_c_f PRead_c_a = some (.lit (.tuple #[.agg #[.bool false, .string ⟨#[]⟩, .string ⟨#[]⟩], .int .i64 40])) := by kernel_rfl
theorem PRead_c_r8 (b4 b5 b6 b7 : Bool) : @comes (PRead_c_k false false false b4 b5 b6 b7) Tryd.prog glT 3000 PRead_c_f PRead_c_a = some (.lit (.tuple #[.agg #[.bool false, .string ⟨#[]⟩, .string ⟨#[]⟩], .int .i64 40])) := by kernel_rfl
set_option maxRecDepth 100000 in
set_option maxHeartbeats 4000000 in
theorem PRead_c (s : ByteArray) (w : World) (hG : Globs glT w) (hl : s.size ≤ 80000) (hz : s.size ≤ 9223372036854775807) : Calls Tryd.prog 16 #[.string (s)] w fun e w' => e = .returned (.tuple #[.agg #[.bool (rdR s).g, .string (rdR s).s, .string (rdR s).t], .int .i64 (rdE s)]) ∧ Below w.heap.size w w' := by
  obtain ⟨b1, i1⟩ := bex ((s.size : Int) > 80000)
  obtain ⟨b2, i2⟩ := bex (hasB 47 (offB 45 s) = true)
  obtain ⟨b3, i3⟩ := bex (rtE (headB 47 (offB 45 s)) = 0)
  obtain ⟨b4, i4⟩ := bex (rtE (tailB 47 (offB 45 s)) = 0)
  obtain ⟨b5, i5⟩ := bex (rtS (tailB 47 (offB 45 s)) = ⟨#[1]⟩)
  obtain ⟨b6, i6⟩ := bex (mayR (⟨(begB 45 s), (rtS (headB 47 (offB 45 s))), (rtS (tailB 47 (offB 45 s)))⟩ : Rx) = true)
  obtain ⟨b7, i7⟩ := bex (mayR (⟨(begB 45 s), (rtS (headB 47 (offB 45 s))), ⟨#[1]⟩⟩ : Rx) = true)
  letI : Env := mkEnv glT [.string (s), .int .i64 (s.size : Int), .string (offB 45 s), .bool (begB 45 s), .string (headB 47 (offB 45 s)), .string (tailB 47 (offB 45 s)), .string (rtS (headB 47 (offB 45 s))), .int .i64 (rtE (headB 47 (offB 45 s))), .string (rtS (tailB 47 (offB 45 s))), .int .i64 (rtE (tailB 47 (offB 45 s)))] rfl
  have hops : OpsT Tryd.prog (@Know.ops (PRead_c_k b1 b2 b3 b4 b5 b6 b7)) := ⟨opt_lenS rfl rfl rfl,
    opt_gtr_i rfl rfl i1,
    opt_neq_i rfl rfl i3,
    opt_neq_i rfl rfl i4,
    optS_eql_i rfl rfl i5,
    trivial⟩
  have hcalls : CallsT Tryd.prog (@Know.calls (PRead_c_k b1 b2 b3 b4 b5 b6 b7)) := ⟨callt rfl rfl fun w hG => PCutPrefix_c 45 s w,
    callt rfl rfl fun w hG => (by have hh := PCut_c 47 (offB 45 s) w (Nat.le_trans (offB_size 45 s) hz); rwa [← show _ = hasB 47 (offB 45 s) from Bool.eq_iff_iff.2 i2] at hh),
    callt rfl rfl fun w hG => PNRead_c (headB 47 (offB 45 s)) w (Nat.le_trans (headB_size 47 _) (Nat.le_trans (offB_size 45 s) hz)),
    callt rfl rfl fun w hG => PNRead_c (tailB 47 (offB 45 s)) w (Nat.le_trans (tailB_size 47 _) (Nat.le_trans (offB_size 45 s) hz)),
    callt rfl rfl fun w hG => (by have hh := PMay_any (⟨(begB 45 s), (rtS (headB 47 (offB 45 s))), (rtS (tailB 47 (offB 45 s)))⟩ : Rx) w; rwa [← show _ = mayR (⟨(begB 45 s), (rtS (headB 47 (offB 45 s))), (rtS (tailB 47 (offB 45 s)))⟩ : Rx) from Bool.eq_iff_iff.2 i6] at hh),
    callt rfl rfl fun w hG => (by have hh := PMay_any (⟨(begB 45 s), (rtS (headB 47 (offB 45 s))), ⟨#[1]⟩⟩ : Rx) w; rwa [← show _ = mayR (⟨(begB 45 s), (rtS (headB 47 (offB 45 s))), ⟨#[1]⟩⟩ : Rx) from Bool.eq_iff_iff.2 i7] at hh),
    trivial⟩
  have fin : ∀ v, @comes (PRead_c_k b1 b2 b3 b4 b5 b6 b7) Tryd.prog glT 3000 PRead_c_f PRead_c_a = some v → ground v = true → Ending.returned (gval v) = .returned (.tuple #[.agg #[.bool (rdR s).g, .string (rdR s).s, .string (rdR s).t], .int .i64 (rdE s)]) → Calls Tryd.prog 16 #[.string (s)] w fun e w' => e = .returned (.tuple #[.agg #[.bool (rdR s).g, .string (rdR s).s, .string (rdR s).t], .int .i64 (rdE s)]) ∧ Below w.heap.size w w' := fun v h1 h2 h3 => (@sym_ok _ (PRead_c_k b1 b2 b3 b4 b5 b6 b7) _ (@KnowOk.of _ (PRead_c_k b1 b2 b3 b4 b5 b6 b7) _ hops hcalls) (by kernel_rfl) _ _ _ _ h1 rfl h2 _ hG).mono fun e w' h => ⟨h.1.trans h3, h.2⟩
  clear hops hcalls
  cases b1 with
  | true =>
    exact absurd (i1.1 rfl) ((by omega))
  | false =>
    have h1 : ¬ ((s.size : Int) > 80000) := fun c => Bool.false_ne_true (i1.2 c)
    cases b2 with
    | true =>
      have h2 : hasB 47 (offB 45 s) = true := i2.1 rfl
      cases b3 with
      | true =>
        have h3 : rtE (headB 47 (offB 45 s)) = 0 := i3.1 rfl
        cases b4 with
        | true =>
          have h4 : rtE (tailB 47 (offB 45 s)) = 0 := i4.1 rfl
          cases b5 with
          | true =>
            have h5 : rtS (tailB 47 (offB 45 s)) = ⟨#[1]⟩ := i5.1 rfl
            exact fin _ (PRead_c_r1 b6 b7) rfl (show Ending.returned (.tuple #[.agg #[.bool false, .string ⟨#[]⟩, .string ⟨#[]⟩], .int .i64 40]) = .returned (.tuple #[.agg #[.bool (rdR s).g, .string (rdR s).s, .string (rdR s).t], .int .i64 (rdE s)]) from (ret_rx (rd_no (fun c => (c.2.1 h2).2 h5))))
          | false =>
            have h5 : ¬ (rtS (tailB 47 (offB 45 s)) = ⟨#[1]⟩) := fun c => Bool.false_ne_true (i5.2 c)
            cases b6 with
            | true =>
              have h6 : mayR (⟨(begB 45 s), (rtS (headB 47 (offB 45 s))), (rtS (tailB 47 (offB 45 s)))⟩ : Rx) = true := i6.1 rfl
              exact fin _ (PRead_c_r2 b7) rfl (show Ending.returned (.tuple #[.agg #[.bool (begB 45 s), .string (rtS (headB 47 (offB 45 s))), .string (rtS (tailB 47 (offB 45 s)))], .int .i64 0]) = .returned (.tuple #[.agg #[.bool (rdR s).g, .string (rdR s).s, .string (rdR s).t], .int .i64 (rdE s)]) from (ret_rx ⟨(rd_ok ⟨h3, (fun _ => ⟨h4, h5⟩), by rw [rdX_t h2]; exact h6⟩).1.trans (rdX_t h2), (rd_ok ⟨h3, (fun _ => ⟨h4, h5⟩), by rw [rdX_t h2]; exact h6⟩).2⟩))
            | false =>
              have h6 : ¬ (mayR (⟨(begB 45 s), (rtS (headB 47 (offB 45 s))), (rtS (tailB 47 (offB 45 s)))⟩ : Rx) = true) := fun c => Bool.false_ne_true (i6.2 c)
              exact fin _ (PRead_c_r3 b7) rfl (show Ending.returned (.tuple #[.agg #[.bool false, .string ⟨#[]⟩, .string ⟨#[]⟩], .int .i64 40]) = .returned (.tuple #[.agg #[.bool (rdR s).g, .string (rdR s).s, .string (rdR s).t], .int .i64 (rdE s)]) from (ret_rx (rd_no (fun c => h6 (by have hh := c.2.2; rwa [rdX_t h2] at hh)))))
        | false =>
          have h4 : ¬ (rtE (tailB 47 (offB 45 s)) = 0) := fun c => Bool.false_ne_true (i4.2 c)
          exact fin _ (PRead_c_r4 b5 b6 b7) rfl (show Ending.returned (.tuple #[.agg #[.bool false, .string ⟨#[]⟩, .string ⟨#[]⟩], .int .i64 40]) = .returned (.tuple #[.agg #[.bool (rdR s).g, .string (rdR s).s, .string (rdR s).t], .int .i64 (rdE s)]) from (ret_rx (rd_no (fun c => h4 (c.2.1 h2).1))))
      | false =>
        have h3 : ¬ (rtE (headB 47 (offB 45 s)) = 0) := fun c => Bool.false_ne_true (i3.2 c)
        exact fin _ (PRead_c_r5 b4 b5 b6 b7) rfl (show Ending.returned (.tuple #[.agg #[.bool false, .string ⟨#[]⟩, .string ⟨#[]⟩], .int .i64 40]) = .returned (.tuple #[.agg #[.bool (rdR s).g, .string (rdR s).s, .string (rdR s).t], .int .i64 (rdE s)]) from (ret_rx (rd_no (fun c => h3 c.1))))
    | false =>
      have h2 : ¬ (hasB 47 (offB 45 s) = true) := fun c => Bool.false_ne_true (i2.2 c)
      cases b3 with
      | true =>
        have h3 : rtE (headB 47 (offB 45 s)) = 0 := i3.1 rfl
        cases b7 with
        | true =>
          have h7 : mayR (⟨(begB 45 s), (rtS (headB 47 (offB 45 s))), ⟨#[1]⟩⟩ : Rx) = true := i7.1 rfl
          exact fin _ (PRead_c_r6 b4 b5 b6) rfl (show Ending.returned (.tuple #[.agg #[.bool (begB 45 s), .string (rtS (headB 47 (offB 45 s))), .string ⟨#[1]⟩], .int .i64 0]) = .returned (.tuple #[.agg #[.bool (rdR s).g, .string (rdR s).s, .string (rdR s).t], .int .i64 (rdE s)]) from (ret_rx ⟨(rd_ok ⟨h3, (fun c => absurd c h2), by rw [rdX_f h2]; exact h7⟩).1.trans (rdX_f h2), (rd_ok ⟨h3, (fun c => absurd c h2), by rw [rdX_f h2]; exact h7⟩).2⟩))
        | false =>
          have h7 : ¬ (mayR (⟨(begB 45 s), (rtS (headB 47 (offB 45 s))), ⟨#[1]⟩⟩ : Rx) = true) := fun c => Bool.false_ne_true (i7.2 c)
          exact fin _ (PRead_c_r7 b4 b5 b6) rfl (show Ending.returned (.tuple #[.agg #[.bool false, .string ⟨#[]⟩, .string ⟨#[]⟩], .int .i64 40]) = .returned (.tuple #[.agg #[.bool (rdR s).g, .string (rdR s).s, .string (rdR s).t], .int .i64 (rdE s)]) from (ret_rx (rd_no (fun c => h7 (by have hh := c.2.2; rwa [rdX_f h2] at hh)))))
      | false =>
        have h3 : ¬ (rtE (headB 47 (offB 45 s)) = 0) := fun c => Bool.false_ne_true (i3.2 c)
        exact fin _ (PRead_c_r8 b4 b5 b6 b7) rfl (show Ending.returned (.tuple #[.agg #[.bool false, .string ⟨#[]⟩, .string ⟨#[]⟩], .int .i64 40]) = .returned (.tuple #[.agg #[.bool (rdR s).g, .string (rdR s).s, .string (rdR s).t], .int .i64 (rdE s)]) from (ret_rx (rd_no (fun c => h3 c.1))))
end Go.Proofs.YtajcapliokblfaaDoor
namespace Go.Proofs.YtajcapliokblfaaDoor
open Go Go.RowKit Nt
theorem BR.low {w : World} {l : List C3} {W : World} (h : BR w l W) : Below w.heap.size w W := h.1
end Go.Proofs.YtajcapliokblfaaDoor
