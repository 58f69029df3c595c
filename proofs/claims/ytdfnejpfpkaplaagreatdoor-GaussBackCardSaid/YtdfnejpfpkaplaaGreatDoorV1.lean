/- Texts put together: N0 N1 N2 N10 N3 Shelf N4 N5 N6 N7 N8 N9 N11 N12 N15 N16 N17 N18 N20 N21 N22 N24 N25 N29. -/
import Derived.IntWalk
import Derived.Lib.BitFns
import Derived.Test.YtdfnejpfpkaplaaGreatDoorRows
import Derived.Below
import Derived.Laws.OwnMore
import Derived.Laws.Rows
import Derived.Deep.Draws
import Derived.Deep.AppendLies
import Derived.OwnWalk
import Derived.Shelf.Small.Bits
import Derived.Shelf.Small.Wraps
import Derived.Shelf.Strconv.Atoi
import Derived.Shelf.Strconv.Itoa0
import Derived.Shelf.Strconv.Itoa1
import Derived.Shelf.LaysM
import Derived.Shelf.Strconv.Itoa2
import Derived.Shelf.Strconv.Itoa3
import Derived.Shelf.Strconv.AtoiErrFast
import Derived.Shelf.Strconv.ParseIntEmpty
import Derived.Shelf.Strconv.AtoiFail
import Derived.Shelf.Strconv.Clone
import Derived.Shelf.Strconv.SyntaxError
import Derived.Shelf.LaysC
import Derived.Shelf.Strconv.ToError
import Derived.Shelf.Strconv.Lower
import Derived.Shelf.Strconv.ParseUint10
import Derived.Shelf.Strconv.ParseUint10Empty
import Derived.Shelf.Strconv.ParseUint10Any
import Derived.Shelf.Strconv.ParseInt10
import Derived.Shelf.Strconv.AtoiLong
import Derived.Shelf.Strconv.AtoiInnerAll
import Derived.Shelf.Strconv.RangeError
import Derived.Shelf.Strconv.ToErrorRange
import Derived.Shelf.Strconv.AtoiAll
import Derived.Shelf.Strconv.ErrVarAll
import Derived.Shelf.Strconv.ParseUintEmpty
import Derived.Shelf.Strconv.ParseUint10b64
import Derived.Shelf.Strconv.ParseUint10b32
import Derived.Shelf.Strconv.ParseUint10b16
import Derived.Shelf.Strconv.ParseUint10b8
import Derived.Shelf.Strconv.ParseUint10At
import Derived.Shelf.Strconv.ParseInt10At64
import Derived.Shelf.Strconv.ParseInt10At32
import Derived.Shelf.Strconv.ParseInt10At16
import Derived.Shelf.Strconv.ParseInt10At8
import Derived.Shelf.Strconv.ParseInt10All
import Derived.Shelf.Strings.Search1
import Derived.Shelf.Strings.Search2
import Derived.Shelf.Strings.Cut
import Derived.Shelf.Strings.Shaped
import Derived.Shelf.Strings.Prefix
import Derived.Shelf.Bits.Mul64
import Derived.Test.YtdfnejpfpkaplaaGreatDoorProg
import Derived.Shelf.Spec.TrailingZeros
import Derived.Shelf.Spec.BitsCarry
import Derived.WalkKit
import Derived.WalkLawsBesides
import Derived.WalkSpells
import Derived.Deep.QuietTactic
import Derived.BigQuiet
import Derived.Outline
import Derived.Lib.Hide
import Derived.RegionTactic
import Derived.LoopTactic
import Derived.Laws.Bits64b
import Derived.Lib.ConvBytes
import Derived.Deep.RegionHeld3
import Derived.Deep.RegionWith
import Derived.Deep.CutBlock
import Derived.Deep.DeepCutAuto
import Derived.Laws.AppendOwn
import Derived.Deep.LoopGhost
import Derived.Maps.AppendAt
set_option linter.unusedSimpArgs false
set_option linter.unusedVariables false
namespace Nt
def nd (b n : Nat) : Nat := if h : n = 0 ∨ b ≤ 1 then 0 else nd b (n / b) + 1
termination_by n
decreasing_by exact Nat.div_lt_self (by omega) (by omega)
theorem nd_zero (b : Nat) : nd b 0 = 0 := by unfold nd; simp
theorem nd_step {b n : Nat} (hb : 2 ≤ b) (hn : n ≠ 0) : nd b n = nd b (n / b) + 1 := by
  rw [nd, dif_neg (by omega)]
theorem lt_pow_iff {b : Nat} (hb : 2 ≤ b) : ∀ (k n : Nat), n < b ^ k ↔ nd b n ≤ k := by
  intro k
  induction k with
  | zero =>
    intro n
    rw [Nat.pow_zero]
    constructor
    · intro h; have : n = 0 := by omega
      subst this; rw [nd_zero]; exact Nat.le_refl _
    · intro h
      rcases Nat.eq_zero_or_pos n with h0 | h0
      · omega
      · rw [nd_step hb (by omega)] at h; omega
  | succ k ih =>
    intro n
    rcases Nat.eq_zero_or_pos n with h0 | h0
    · subst h0; rw [nd_zero]
      exact ⟨fun _ => by omega, fun _ => Nat.pow_pos (by omega)⟩
    · rw [nd_step hb (by omega), Nat.pow_succ]
      have e := ih (n / b)
      rw [Nat.div_lt_iff_lt_mul (by omega)] at e
      rw [e]; omega
theorem nd_le {b n k : Nat} (hb : 2 ≤ b) (h : n < b ^ k) : nd b n ≤ k := (lt_pow_iff hb k n).1 h
theorem lt_nd {b n : Nat} (hb : 2 ≤ b) : n < b ^ nd b n := (lt_pow_iff hb _ _).2 (Nat.le_refl _)
theorem pow_le_iff {b : Nat} (hb : 2 ≤ b) (k n : Nat) : b ^ k ≤ n ↔ k < nd b n := by
  have := lt_pow_iff hb k n; omega
theorem nd_eq_zero {b n : Nat} (hb : 2 ≤ b) : nd b n = 0 ↔ n = 0 := by
  constructor
  · intro h; have := (lt_pow_iff hb 0 n).2 (by omega); simpa using this
  · rintro rfl; exact nd_zero _
theorem nd_mono {b m n : Nat} (hb : 2 ≤ b) (h : m ≤ n) : nd b m ≤ nd b n := nd_le hb (Nat.lt_of_le_of_lt h (lt_nd hb))
theorem nd_pow {b c e : Nat} (hb : 2 ≤ b) (he : 0 < e) (hc : c = b ^ e) (n k : Nat) : nd b n ≤ e * k ↔ nd c n ≤ k := by
  have hc2 : 2 ≤ c := by
    subst hc; obtain ⟨f, rfl⟩ : ∃ f, e = f + 1 := ⟨e - 1, by omega⟩
    rw [Nat.pow_succ]; have := Nat.pow_pos (n := f) (show 0 < b by omega); exact Nat.le_trans hb (Nat.le_mul_of_pos_left _ this)
  rw [← lt_pow_iff hb, ← lt_pow_iff hc2, hc, Nat.pow_mul]
@[irreducible] def dgt (b n i : Nat) : Nat := n / b ^ i % b
theorem dgt_def (b n i : Nat) : dgt b n i = n / b ^ i % b := by unfold dgt; rfl
theorem dgt_lt {b : Nat} (hb : 0 < b) (n i : Nat) : dgt b n i < b := by rw [dgt_def]; exact Nat.mod_lt _ hb
theorem mod_succ (b n i : Nat) : n % b ^ (i + 1) = n % b ^ i + b ^ i * dgt b n i := by rw [dgt_def]; exact Nat.mod_pow_succ
theorem dgt_big {b n i : Nat} (hb : 2 ≤ b) (h : nd b n ≤ i) : dgt b n i = 0 := by
  rw [dgt_def, Nat.div_eq_of_lt ((lt_pow_iff hb i n).2 h), Nat.zero_mod]
theorem dgt_top {b n : Nat} (hb : 2 ≤ b) (h : n ≠ 0) : dgt b n (nd b n - 1) ≠ 0 := by
  have h0 : nd b n ≠ 0 := fun c => h ((nd_eq_zero hb).1 c)
  have h1 : b ^ (nd b n - 1) ≤ n := (pow_le_iff hb _ _).2 (by omega)
  have h2 := lt_nd (b := b) (n := n) hb
  rw [dgt_def]
  have e : b ^ nd b n = b ^ (nd b n - 1) * b := by rw [← Nat.pow_succ]; congr 1; omega
  have h3 : n / b ^ (nd b n - 1) < b := by
    rw [Nat.div_lt_iff_lt_mul (Nat.pow_pos (by omega)), Nat.mul_comm, ← e]; exact h2
  have h4 : 1 ≤ n / b ^ (nd b n - 1) := (Nat.le_div_iff_mul_le (Nat.pow_pos (by omega))).2 (by omega)
  rw [Nat.mod_eq_of_lt h3]; omega
theorem div_eq_dgt {b : Nat} (hb : 0 < b) (n i : Nat) : n / b ^ i = dgt b n i + b * (n / b ^ (i + 1)) := by
  rw [dgt_def, Nat.pow_succ, ← Nat.div_div_eq_div_mul]; exact (Nat.mod_add_div _ _).symm
theorem mod_eq_of_digits {b : Nat} (n m : Nat) : ∀ L, (∀ i, i < L → dgt b n i = dgt b m i) → n % b ^ L = m % b ^ L := by
  intro L
  induction L with
  | zero => intro _; simp [Nat.mod_one]
  | succ L ih =>
    intro h
    rw [mod_succ, mod_succ, ih (fun i hi => h i (by omega)), h L (by omega)]
theorem dgt_mod {b : Nat} (n : Nat) {i L : Nat} (h : i < L) : dgt b (n % b ^ L) i = dgt b n i := by
  rw [dgt_def, dgt_def]
  obtain ⟨d, rfl⟩ : ∃ d, L = i + 1 + d := ⟨L - i - 1, by omega⟩
  rw [show b ^ (i + 1 + d) = b ^ i * (b * b ^ d) by rw [Nat.pow_add, Nat.pow_succ, Nat.mul_assoc], Nat.mod_mul_right_div_self, Nat.mod_mul_right_mod]
theorem dgt_add_mul {b : Nat} (hb : 0 < b) (n m : Nat) {i L : Nat} (h : i < L) : dgt b (n + b ^ L * m) i = dgt b n i := by
  rw [← dgt_mod (n + b ^ L * m) h, Nat.add_mul_mod_self_left, dgt_mod n h]
theorem dgt_of_lt {b n i L : Nat} (hb : 2 ≤ b) (h : n < b ^ L) (hi : L ≤ i) : dgt b n i = 0 := dgt_big hb (Nat.le_trans (nd_le hb h) hi)
theorem dgt_shift {b : Nat} (hb : 0 < b) (n m L i : Nat) (hn : n < b ^ L) (h : L ≤ i) : dgt b (n + b ^ L * m) i = dgt b m (i - L) := by
  rw [dgt_def, dgt_def]
  obtain ⟨d, rfl⟩ : ∃ d, i = L + d := ⟨i - L, by omega⟩
  rw [Nat.pow_add, ← Nat.div_div_eq_div_mul, Nat.add_mul_div_left _ _ (Nat.pow_pos hb), Nat.div_eq_of_lt hn, Nat.zero_add]; congr 3; omega
def put (b n i v : Nat) : Nat := n % b ^ i + b ^ i * (v + b * (n / b ^ (i + 1)))
theorem dgt_put {b : Nat} (hb : 2 ≤ b) (n i v j : Nat) (hv : v < b) : dgt b (put b n i v) j = if j = i then v else dgt b n j := by
  unfold put
  have hp : n % b ^ i < b ^ i := Nat.mod_lt _ (Nat.pow_pos (by omega))
  by_cases h : j = i
  · subst h; rw [if_pos rfl, dgt_shift (by omega) _ _ _ _ hp (Nat.le_refl _), dgt_def, Nat.sub_self, Nat.pow_zero, Nat.div_one, Nat.add_mul_mod_self_left, Nat.mod_eq_of_lt hv]
  · rw [if_neg h]
    by_cases h1 : j < i
    · rw [dgt_add_mul (by omega) _ _ h1, dgt_mod _ h1]
    · rw [dgt_shift (by omega) _ _ _ _ hp (by omega)]
      have e := dgt_shift (b := b) (by omega) v (n / b ^ (i + 1)) 1 (j - i) (by rw [Nat.pow_one]; exact hv) (by omega)
      rw [Nat.pow_one] at e
      rw [e, dgt_def, dgt_def, Nat.div_div_eq_div_mul, ← Nat.pow_add]; congr 3; omega
def dl (b n L : Nat) : List Nat := (List.range L).map (dgt b n)
theorem dl_length (b n L : Nat) : (dl b n L).length = L := by simp [dl]
theorem dl_get? (b n L i : Nat) (h : i < L) : (dl b n L)[i]? = some (dgt b n i) := by
  unfold dl; rw [List.getElem?_map, List.getElem?_range h]; rfl
theorem dl_succ (b n L : Nat) : dl b n (L + 1) = dl b n L ++ [dgt b n L] := by simp [dl, List.range_succ]
theorem dl_set {b : Nat} (hb : 2 ≤ b) (n L i v : Nat) (hv : v < b) : (dl b n L).set i v = dl b (put b n i v) L := by
  apply List.ext_getElem?
  intro j
  rw [List.getElem?_set]
  by_cases hj : j < L
  · rw [dl_get? b (put b n i v) L j hj, dgt_put hb n i v j hv]
    by_cases h : j = i
    · subst h; rw [if_pos rfl, if_pos (by rw [dl_length]; exact hj), if_pos rfl]
    · rw [if_neg (fun c => h c.symm), if_neg h, dl_get? b n L j hj]
  · rw [List.getElem?_eq_none (l := dl b (put b n i v) L) (by rw [dl_length]; omega)]
    by_cases h : i = j
    · subst h; rw [if_pos rfl, if_neg (by rw [dl_length]; omega)]
    · rw [if_neg h, List.getElem?_eq_none (by rw [dl_length]; omega)]
def of (b : Nat) (l : List Nat) : Nat := l.foldr (fun x a => x + b * a) 0
theorem of_nil (b : Nat) : of b [] = 0 := rfl
theorem of_cons (b x : Nat) (l : List Nat) : of b (x :: l) = x + b * of b l := rfl
theorem of_append (b : Nat) (l m : List Nat) : of b (l ++ m) = of b l + b ^ l.length * of b m := by
  induction l with
  | nil => simp [of_nil]
  | cons x l ih => rw [List.cons_append, of_cons, of_cons, ih, List.length_cons, Nat.pow_succ, Nat.mul_add, Nat.add_assoc, ← Nat.mul_assoc, Nat.mul_comm b (b ^ l.length)]
theorem of_lt {b : Nat} (hb : 0 < b) (l : List Nat) (h : ∀ x ∈ l, x < b) : of b l < b ^ l.length := by
  induction l with
  | nil => simp [of_nil]
  | cons x l ih =>
    have h1 := ih (fun y hy => h y (List.mem_cons_of_mem _ hy))
    have h2 := h x (List.mem_cons_self ..)
    rw [of_cons, List.length_cons, Nat.pow_succ]
    have : b * (of b l + 1) ≤ b ^ l.length * b := by rw [Nat.mul_comm]; exact Nat.mul_le_mul_right _ h1
    rw [Nat.mul_add] at this; omega
theorem of_dl (b n L : Nat) : of b (dl b n L) = n % b ^ L := by
  induction L with
  | zero => simp [dl, of_nil, Nat.mod_one]
  | succ L ih => rw [dl_succ, of_append, ih, dl_length, mod_succ]; simp [of_cons, of_nil]
theorem dgt_of {b : Nat} (hb : 2 ≤ b) (l : List Nat) (h : ∀ x ∈ l, x < b) (i : Nat) (hi : i < l.length) : dgt b (of b l) i = l[i] := by
  have e : l = l.take i ++ l[i] :: l.drop (i + 1) := by rw [List.getElem_cons_drop, List.take_append_drop]
  have hl : (l.take i).length = i := by simp; omega
  have h1 : of b (l.take i) < b ^ i := by
    have := of_lt (b := b) (by omega) (l.take i) (fun x hx => h x (List.mem_of_mem_take hx)); rwa [hl] at this
  have h2 : of b l = of b (l.take i) + b ^ i * (l[i] + b * of b (l.drop (i + 1))) := by
    conv => lhs; rw [e]
    rw [of_append, of_cons, hl]
  rw [h2, dgt_shift (by omega) _ _ _ _ h1 (Nat.le_refl _), dgt_def, Nat.sub_self, Nat.pow_zero, Nat.div_one, Nat.add_mul_mod_self_left, Nat.mod_eq_of_lt (h _ (List.getElem_mem hi))]
theorem eq_of_digits {b n m L : Nat} (hn : n < b ^ L) (hm : m < b ^ L) (h : ∀ i, i < L → dgt b n i = dgt b m i) : n = m := by
  have := mod_eq_of_digits n m L h
  rwa [Nat.mod_eq_of_lt hn, Nat.mod_eq_of_lt hm] at this
/-! Sums, differences. -/
end Nt
namespace Nt
theorem put_eq {b : Nat} (n i v : Nat) (hb : 0 < b) : put b n i v + b ^ i * dgt b n i = n + b ^ i * v := by
  have h := Nat.mod_add_div n (b ^ i)
  rw [div_eq_dgt hb, Nat.mul_add] at h
  unfold put
  rw [Nat.mul_add]; omega
theorem put_new {b : Nat} (n i v : Nat) (hb : 0 < b) (h : dgt b n i = 0) : put b n i v = n + b ^ i * v := by
  have := put_eq n i v hb; rw [h] at this; omega
theorem mod_lt_pow {b : Nat} (hb : 0 < b) (n i : Nat) : n % b ^ i < b ^ i := Nat.mod_lt _ (Nat.pow_pos hb)
theorem dgt_mod_ge {b : Nat} (hb : 2 ≤ b) (n i : Nat) : dgt b (n % b ^ i) i = 0 := dgt_of_lt hb (mod_lt_pow (by omega) n i) (Nat.le_refl _)
theorem put_mod {b : Nat} (hb : 2 ≤ b) (n i : Nat) : put b (n % b ^ i) i (dgt b n i) = n % b ^ (i + 1) := by
  rw [put_new _ _ _ (by omega) (dgt_mod_ge hb n i), mod_succ]
/-! A number times a digit, and one more. -/
@[irreducible] def mca (b x y m i : Nat) : Nat := (x % b ^ i * y + m) / b ^ i
theorem mca_def (b x y m i : Nat) : mca b x y m i = (x % b ^ i * y + m) / b ^ i := by unfold mca; rfl
theorem mca_zero (b x y m : Nat) : mca b x y m 0 = m := by rw [mca_def]; simp [Nat.mod_one]
theorem mca_succ {b : Nat} (hb : 0 < b) (x y m i : Nat) : mca b x y m (i + 1) = (dgt b x i * y + mca b x y m i) / b := by
  rw [mca_def, mca_def, mod_succ, Nat.add_mul, Nat.pow_succ, ← Nat.div_div_eq_div_mul]
  rw [show x % b ^ i * y + b ^ i * dgt b x i * y + m = (x % b ^ i * y + m) + b ^ i * (dgt b x i * y) by rw [Nat.mul_assoc]; omega, Nat.add_mul_div_left _ _ (Nat.pow_pos hb)]
  congr 1; omega
theorem mca_lt {b : Nat} (hb : 0 < b) (x y m i : Nat) (hy : y < b) (hm : m < b) : mca b x y m i < b := by
  rw [mca_def, Nat.div_lt_iff_lt_mul (Nat.pow_pos hb)]
  have h1 := mod_lt_pow hb x i
  have h2 : x % b ^ i * y ≤ x % b ^ i * (b - 1) := Nat.mul_le_mul_left _ (by omega)
  have h3 : (x % b ^ i + 1) * (b - 1) ≤ b ^ i * (b - 1) := Nat.mul_le_mul_right _ h1
  rw [Nat.add_mul, Nat.one_mul] at h3
  have h4 : b ^ i * (b - 1) + b ^ i = b * b ^ i := by
    rw [Nat.mul_comm b, ← Nat.mul_succ]; congr 1; omega
  have := Nat.pow_pos (n := i) hb
  omega
theorem dgt_mca {b : Nat} (hb : 0 < b) (x y m i : Nat) : dgt b (x * y + m) i = (dgt b x i * y + mca b x y m i) % b := by
  have e : x * y + m = (x % b ^ i * y + m) + b ^ i * (x / b ^ i * y) := by
    have h1 := Nat.mod_add_div x (b ^ i)
    have h2 : x * y = (x % b ^ i + b ^ i * (x / b ^ i)) * y := by rw [h1]
    rw [h2, Nat.add_mul, Nat.mul_assoc]; omega
  rw [dgt_def, e, Nat.add_mul_div_left _ _ (Nat.pow_pos hb), mca_def, dgt_def]
  rw [Nat.add_comm]
  simp [Nat.add_mod, Nat.mul_mod]
theorem mca_last {b : Nat} (hb : 2 ≤ b) (x y m L : Nat) (hx : x < b ^ L) (hy : y < b) (hm : m < b) : mca b x y m L = dgt b (x * y + m) L := by
  rw [dgt_mca (by omega), dgt_of_lt hb hx (Nat.le_refl _), Nat.zero_mul, Nat.zero_add, Nat.mod_eq_of_lt (mca_lt (by omega) _ _ _ _ hy hm)]
theorem two_mod (b p m : Nat) : (p % b + m) % b = (p + m) % b := by simp [Nat.add_mod]
theorem two_div {b : Nat} (hb : 0 < b) (p m : Nat) : p / b + (p % b + m) / b = (p + m) / b := by
  have h := Nat.mod_add_div p b
  have : p + m = (p % b + m) + b * (p / b) := by omega
  rw [this, Nat.add_mul_div_left _ _ hb]; omega
/-! Division by one digit. -/
theorem take_rest {b : Nat} (hb : 0 < b) (x y i : Nat) : ((x / b ^ (i + 1)) % y * b + dgt b x i) % y = x / b ^ i % y := by
  rw [div_eq_dgt hb x i]
  rw [Nat.add_comm, Nat.mul_comm b]
  simp [Nat.add_mod, Nat.mul_mod]
theorem take_quo {b : Nat} (hb : 0 < b) (x y i : Nat) (hy : 0 < y) : ((x / b ^ (i + 1)) % y * b + dgt b x i) / y = dgt b (x / y) i := by
  have h1 := dgt_lt hb x i
  have h2 : x / b ^ (i + 1) % y < y := Nat.mod_lt _ hy
  rw [dgt_def b (x / y), Nat.div_div_eq_div_mul, Nat.mul_comm y, ← Nat.div_div_eq_div_mul, div_eq_dgt hb x i]
  have h3 := Nat.mod_add_div (x / b ^ (i + 1)) y
  generalize x / b ^ (i + 1) = X at *
  generalize dgt b x i = d at *
  have e : d + b * X = (X % y * b + d) + y * (b * (X / y)) := by
    have : b * X = b * (X % y + y * (X / y)) := by rw [h3]
    rw [this, Nat.mul_add, Nat.mul_left_comm, Nat.mul_comm b (X % y)]; omega
  have h4 : (X % y * b + d) / y < b := by
    rw [Nat.div_lt_iff_lt_mul hy]
    have : (X % y + 1) * b ≤ y * b := Nat.mul_le_mul_right _ h2
    rw [Nat.add_mul] at this; rw [Nat.mul_comm b y]; omega
  rw [e, Nat.add_mul_div_left _ _ hy, Nat.add_mul_mod_self_left, Nat.mod_eq_of_lt h4]
/-! Shifts: the base is two to the power e. -/
theorem dgt_skip {b : Nat} (x k i : Nat) : dgt b (x / b ^ k) i = dgt b x (i + k) := by
  rw [dgt_def, dgt_def, Nat.div_div_eq_div_mul, ← Nat.pow_add, Nat.add_comm]
theorem dgt_in {b e : Nat} (hb : 0 < b) (n i j : Nat) (hj : j < e) : dgt b (dgt (b ^ e) n i) j = dgt b n (e * i + j) := by
  rw [dgt_def (b ^ e), dgt_mod _ hj, ← Nat.pow_mul, dgt_skip, Nat.add_comm]
end Nt
namespace Nt
@[irreducible] def W : Nat := 18446744073709551616
theorem W_eq : W = 18446744073709551616 := by unfold W; rfl
theorem W_two : W = 2 ^ 64 := by rw [W_eq]
theorem W_256 : W = 256 ^ 8 := by rw [W_eq]
theorem W2 : 2 ≤ W := by rw [W_eq]; omega
theorem W0 : 0 < W := by rw [W_eq]; omega
theorem wd_lt (n i : Nat) : dgt W n i < 18446744073709551616 := Nat.lt_of_lt_of_eq (dgt_lt W0 n i) W_eq
theorem words_bytes (n : Nat) : (nd 256 n + 7) / 8 = nd W n := by
  have h := fun k => nd_pow (b := 256) (c := W) (e := 8) (by omega) (by omega) W_256 n k
  have h1 := (h (nd W n)).2 (Nat.le_refl _)
  have h2 := (h ((nd 256 n + 7) / 8)).1 (by omega)
  omega
theorem bytes_bits (n : Nat) : (nd 2 n + 7) / 8 = nd 256 n := by
  have h := fun k => nd_pow (b := 2) (c := 256) (e := 8) (by omega) (by omega) (by rfl) n k
  have h1 := (h (nd 256 n)).2 (Nat.le_refl _)
  have h2 := (h ((nd 2 n + 7) / 8)).1 (by omega)
  omega
theorem bits_le (n k : Nat) : nd 2 n ≤ 8 * k ↔ nd 256 n ≤ k := nd_pow (b := 2) (c := 256) (e := 8) (by omega) (by omega) (by rfl) n k
theorem nd_unique {b n k : Nat} (hb : 2 ≤ b) (h1 : b ^ k ≤ n) (h2 : n < b ^ (k + 1)) : nd b n = k + 1 := by
  have := nd_le hb h2; have := (pow_le_iff hb k n).1 h1; omega
theorem nd_top {b c e : Nat} (hb : 2 ≤ b) (he : 0 < e) (hc : c = b ^ e) (n : Nat) (hn : n ≠ 0) : nd b n = e * (nd c n - 1) + nd b (dgt c n (nd c n - 1)) := by
  have hc2 : 2 ≤ c := by
    subst hc; obtain ⟨f, rfl⟩ : ∃ f, e = f + 1 := ⟨e - 1, by omega⟩
    rw [Nat.pow_succ]; have := Nat.pow_pos (n := f) (show 0 < b by omega); exact Nat.le_trans hb (Nat.le_mul_of_pos_left _ this)
  have h0 : nd c n ≠ 0 := fun k => hn ((nd_eq_zero hc2).1 k)
  have ht := dgt_top hc2 hn
  obtain ⟨L, hL⟩ : ∃ L, nd c n = L + 1 := ⟨nd c n - 1, by omega⟩
  rw [hL, Nat.add_sub_cancel] at ht ⊢
  have hnl : n < c ^ (L + 1) := by rw [← hL]; exact lt_nd hc2
  have hd : n / c ^ L = dgt c n L := by
    rw [dgt_def, Nat.mod_eq_of_lt]
    rw [Nat.div_lt_iff_lt_mul (Nat.pow_pos (by omega)), Nat.mul_comm, ← Nat.pow_succ]; exact hnl
  have hcl : c ^ L = b ^ (e * L) := by rw [hc, ← Nat.pow_mul]
  generalize dgt c n L = d at *
  have hd0 : nd b d ≠ 0 := fun k => ht ((nd_eq_zero hb).1 k)
  obtain ⟨m, hm⟩ : ∃ m, nd b d = m + 1 := ⟨nd b d - 1, by omega⟩
  have h3 := lt_nd (n := d) hb
  have h4 : b ^ m ≤ d := (pow_le_iff hb m d).2 (by omega)
  rw [hm] at h3 ⊢
  rw [← Nat.add_assoc]
  have hp : 0 < b ^ (e * L) := Nat.pow_pos (by omega)
  rw [hcl] at hd
  apply nd_unique hb
  · rw [Nat.pow_add, Nat.mul_comm]; exact Nat.le_trans (Nat.mul_le_mul_right _ (hd ▸ h4)) (Nat.div_mul_le_self _ _)
  · rw [Nat.add_assoc, Nat.pow_add, Nat.mul_comm, ← Nat.div_lt_iff_lt_mul hp, hd]; exact h3
/-! Texts. -/
@[irreducible] def natS (n : Nat) : ByteArray := ⟨((dl 256 n (nd 256 n)).reverse.map UInt8.ofNat).toArray⟩
theorem natS_def (n : Nat) : natS n = ⟨((dl 256 n (nd 256 n)).reverse.map UInt8.ofNat).toArray⟩ := by unfold natS; rfl
theorem natS_size (n : Nat) : (natS n).size = nd 256 n := by
  rw [natS_def]; show (Array.size _) = _; simp [dl_length]
theorem natS_zero : natS 0 = ⟨#[]⟩ := by rw [natS_def, nd_zero]; rfl
theorem ba_get (s : ByteArray) (i : Nat) (h : i < s.size) : s[i] = s.data[i]'h := rfl
theorem natS_get (n i : Nat) (h : i < (natS n).size) : ((natS n)[i]).toNat = dgt 256 n (nd 256 n - 1 - i) := by
  have hi : i < nd 256 n := by rwa [natS_size] at h
  rw [ba_get]
  simp only [natS_def]
  rw [List.getElem_toArray, List.getElem_map, List.getElem_reverse]
  have e := dl_get? 256 n (nd 256 n) ((dl 256 n (nd 256 n)).length - 1 - i) (by rw [dl_length]; omega)
  rw [List.getElem?_eq_getElem (by rw [dl_length]; omega)] at e
  rw [Option.some.inj e, dl_length, UInt8.toNat_ofNat']
  exact Nat.mod_eq_of_lt (dgt_lt (by omega) _ _)
theorem ba_ext {s t : ByteArray} (h : s.size = t.size) (h2 : ∀ i (h1 : i < s.size) (h2 : i < t.size), s[i].toNat = t[i].toNat) : s = t := by
  apply ByteArray.ext; apply Array.ext h
  intro i a b
  exact UInt8.toNat_inj.1 (h2 i a b)
theorem natS_inj {m n : Nat} (h : natS m = natS n) : m = n := by
  have hs : nd 256 m = nd 256 n := by rw [← natS_size, ← natS_size, h]
  refine eq_of_digits (b := 256) (L := nd 256 m) (lt_nd (by omega)) (hs ▸ lt_nd (by omega)) (fun i hi => ?_)
  have h1 := natS_get m (nd 256 m - 1 - i) (by rw [natS_size]; omega)
  have h2 := natS_get n (nd 256 m - 1 - i) (by rw [natS_size]; omega)
  rw [show nd 256 m - 1 - (nd 256 m - 1 - i) = i by omega] at h1
  rw [show nd 256 n - 1 - (nd 256 m - 1 - i) = i by omega] at h2
  rw [← h1, ← h2]; simp only [h]
def May (s : ByteArray) : Prop := s.size ≤ 16384 ∧ ∀ h : 0 < s.size, s[0].toNat ≠ 0
def fits (n : Nat) : Prop := nd 256 n ≤ 16384
instance (n : Nat) : Decidable (fits n) := inferInstanceAs (Decidable (_ ≤ _))
theorem may_natS (n : Nat) : May (natS n) ↔ fits n := by
  unfold May fits
  have hz := natS_size n
  constructor
  · intro h; rw [← hz]; exact h.1
  · refine fun h => ⟨by rw [hz]; exact h, fun h0 => ?_⟩
    rw [natS_get n 0 (by rw [natS_size]; omega)]
    exact dgt_top (by omega) (fun c => by subst c; rw [natS_size, nd_zero] at h0; omega)
def bytesN (s : ByteArray) : Nat := of 256 (s.data.toList.reverse.map UInt8.toNat)
theorem bytesN_lt (s : ByteArray) : bytesN s < 256 ^ s.size := by
  have := of_lt (b := 256) (by omega) (s.data.toList.reverse.map UInt8.toNat) (fun x hx => by
    obtain ⟨y, _, rfl⟩ := List.mem_map.1 hx; exact y.toNat_lt)
  unfold bytesN
  rwa [List.length_map, List.length_reverse, Array.length_toList] at this
theorem bytesN_dgt (s : ByteArray) (i : Nat) (h : i < s.size) : dgt 256 (bytesN s) (s.size - 1 - i) = (s[i]).toNat := by
  unfold bytesN
  have hl : (s.data.toList.reverse.map UInt8.toNat).length = s.size := by rw [List.length_map, List.length_reverse, Array.length_toList]; rfl
  rw [dgt_of (by omega) _ (fun x hx => by obtain ⟨y, _, rfl⟩ := List.mem_map.1 hx; exact y.toNat_lt) _ (by rw [hl]; omega)]
  rw [List.getElem_map, List.getElem_reverse, ba_get]
  congr 1
  rw [Array.getElem_toList]
  congr 1
  rw [Array.length_toList]
  have : s.size = s.data.size := rfl
  omega
theorem may_ex {s : ByteArray} (h : May s) : s = natS (bytesN s) := by
  have hz : nd 256 (bytesN s) = s.size := by
    have h1 := nd_le (by omega) (bytesN_lt s)
    rcases Nat.eq_zero_or_pos s.size with h0 | h0
    · omega
    · have h2 := bytesN_dgt s 0 h0
      have h3 := h.2 h0
      rw [← h2] at h3
      rcases Nat.lt_or_ge (s.size - 1 - 0) (nd 256 (bytesN s)) with h4 | h4
      · omega
      · exact absurd (dgt_big (by omega) h4) h3
  apply ba_ext (by rw [natS_size, hz])
  intro i a b
  rw [natS_get _ _ b, hz, bytesN_dgt s i a]
theorem bytesN_natS (n : Nat) : bytesN (natS n) = n := by
  refine eq_of_digits (b := 256) (L := nd 256 n) (by have := bytesN_lt (natS n); rwa [natS_size] at this) (lt_nd (by omega)) (fun i hi => ?_)
  have h1 := bytesN_dgt (natS n) (nd 256 n - 1 - i) (by rw [natS_size]; omega)
  rw [natS_get, natS_size, show nd 256 n - 1 - (nd 256 n - 1 - i) = i by omega] at h1
  exact h1
theorem may_num {s : ByteArray} (h : May s) : ∃ n, fits n ∧ s = natS n := ⟨bytesN s, (may_natS _).1 (may_ex h ▸ h), may_ex h⟩
theorem bitLenAux_nd : ∀ (f x : Nat), nd 2 x ≤ f → Go.Lib.bitLenAux f x = nd 2 x := by
  intro f
  induction f with
  | zero => intro x h; unfold Go.Lib.bitLenAux; omega
  | succ f ih =>
    intro x h
    unfold Go.Lib.bitLenAux
    by_cases h0 : x = 0
    · rw [if_pos h0, h0, nd_zero]
    · rw [nd_step (by omega) h0] at h ⊢
      rw [if_neg h0, ih _ (by omega)]; omega
theorem bitLen_nd {x : Nat} (h : x < 18446744073709551616) : Go.Lib.bitLen x = nd 2 x := by
  unfold Go.Lib.bitLen
  exact bitLenAux_nd _ _ (nd_le (by omega) h)
/-! What has been read when k bytes of a text are. -/
def readV (s : ByteArray) (k : Nat) : Nat := 256 ^ (s.size - k) * (bytesN s / 256 ^ (s.size - k))
theorem readV_zero (s : ByteArray) : readV s 0 = 0 := by
  unfold readV; rw [Nat.sub_zero, Nat.div_eq_of_lt (bytesN_lt s), Nat.mul_zero]
theorem readV_full (s : ByteArray) : readV s s.size = bytesN s := by
  unfold readV; rw [Nat.sub_self, Nat.pow_zero, Nat.one_mul, Nat.div_one]
theorem or_hi (x y p : Nat) (hy : y < 2 ^ p) : (2 ^ p * x) ||| y = 2 ^ p * x + y := by
  rw [Nat.two_pow_add_eq_or_of_lt hy]
theorem mul_lt_pow {x b r e : Nat} (hx : x < b) (hr : r < e) (hb : 0 < b) : x * b ^ r < b ^ e := by
  have h1 : (x + 1) * b ^ r ≤ b * b ^ r := Nat.mul_le_mul_right _ hx
  have h2 : b ^ (r + 1) ≤ b ^ e := Nat.pow_le_pow_right hb hr
  have h3 := Nat.pow_pos (n := r) hb
  rw [Nat.pow_succ, Nat.mul_comm] at h2
  rw [Nat.add_mul, Nat.one_mul] at h1; omega
theorem put_byte (V Q v q r : Nat) (hr : r < 8) (hv : v < 256) (hV : V = 256 ^ (8 * q + r + 1) * Q) :
    (dgt W V q ||| v * 256 ^ r) = dgt W V q + v * 256 ^ r ∧ dgt W V q + v * 256 ^ r < 18446744073709551616 ∧
    put W V q (dgt W V q + v * 256 ^ r) = V + 256 ^ (8 * q + r) * v := by
  have h1 : dgt W V q = 256 ^ (r + 1) * (Q % 256 ^ (7 - r)) := by
    rw [dgt_def, hV, W_256, ← Nat.pow_mul, show 8 * q + r + 1 = 8 * q + (r + 1) by omega, Nat.pow_add, Nat.mul_assoc, Nat.mul_div_cancel_left _ (Nat.pow_pos (by omega))]
    conv => lhs; rw [show 8 = (r + 1) + (7 - r) by omega, Nat.pow_add 256 (r + 1) (7 - r)]
    rw [Nat.mul_mod_mul_left]
  have h2 : v * 256 ^ r < 256 ^ (r + 1) := mul_lt_pow hv (by omega) (by omega)
  have h3 : dgt W V q + v * 256 ^ r < W := by
    rw [h1, W_256]
    have h4 : Q % 256 ^ (7 - r) < 256 ^ (7 - r) := Nat.mod_lt _ (Nat.pow_pos (by omega))
    have h5 : 256 ^ (r + 1) * (Q % 256 ^ (7 - r) + 1) ≤ 256 ^ (r + 1) * 256 ^ (7 - r) := Nat.mul_le_mul_left _ h4
    rw [← Nat.pow_add, show r + 1 + (7 - r) = 8 by omega, Nat.mul_add] at h5
    omega
  refine ⟨?_, Nat.lt_of_lt_of_eq h3 W_eq, ?_⟩
  · rw [h1, show (256 : Nat) ^ (r + 1) = 2 ^ (8 * (r + 1)) by rw [Nat.pow_mul]] at *
    exact or_hi _ _ _ h2
  · have h4 := put_eq V q (dgt W V q + v * 256 ^ r) W0
    rw [Nat.mul_add] at h4
    have h5 : W ^ q * (v * 256 ^ r) = 256 ^ (8 * q + r) * v := by rw [W_256, ← Nat.pow_mul, Nat.pow_add, Nat.mul_comm v, Nat.mul_assoc]
    rw [h5] at h4; omega
theorem readV_form (s : ByteArray) (k m : Nat) (h : s.size = k + 1 + m) : readV s k = 256 ^ (m + 1) * (bytesN s / 256 ^ (m + 1)) := by
  unfold readV; rw [show s.size - k = m + 1 by omega]
theorem readV_succ (s : ByteArray) (k m : Nat) (h : s.size = k + 1 + m) (hk : k < s.size) : readV s (k + 1) = readV s k + 256 ^ m * (s[k]).toNat := by
  rw [readV_form s k m h]
  unfold readV
  rw [show s.size - (k + 1) = m by omega, div_eq_dgt (b := 256) (by omega) (bytesN s) m]
  have := bytesN_dgt s k hk
  rw [show s.size - 1 - k = m by omega] at this
  rw [this, Nat.mul_add, Nat.pow_succ, ← Nat.mul_assoc, Nat.add_comm]
theorem read_step (s : ByteArray) (k m q r : Nat) (h : s.size = k + 1 + m) (hk : k < s.size) (hq : m / 8 = q) (hr : m % 8 = r) :
    (dgt W (readV s k) q ||| (s[k]).toNat * 256 ^ r) = dgt W (readV s k) q + (s[k]).toNat * 256 ^ r ∧ dgt W (readV s k) q + (s[k]).toNat * 256 ^ r < 18446744073709551616 ∧
    put W (readV s k) q (dgt W (readV s k) q + (s[k]).toNat * 256 ^ r) = readV s (k + 1) := by
  have hm : m = 8 * q + r := by omega
  have := put_byte (readV s k) (bytesN s / 256 ^ (m + 1)) (s[k]).toNat q r (by omega) (s[k]).toNat_lt (by rw [readV_form s k m h, hm])
  rw [readV_succ s k m h hk, hm]; exact this
end Nt
namespace Nt
def Gss (u c yh yl q r : Nat) : Prop := u = q * yh + r ∧ (u * 4294967296 + c) / (yh * 4294967296 + yl) ≤ q ∧ q ≤ 4294967297 ∧ r < 4294967296
section
variable {u c yh yl q r : Nat}
theorem gss_start (hu : u < yh * 4294967296 + yl) (hc : c < 4294967296) (hl : yl < 4294967296) (h1 : 2147483648 ≤ yh) (h2 : yh < 4294967296) : Gss u c yh yl (u / yh) (u - u / yh * yh) := by
  have hd := Nat.div_add_mod u yh
  have hm := Nat.mod_lt u (show 0 < yh by omega)
  rw [Nat.mul_comm] at hd
  refine ⟨by omega, ?_, ?_, by omega⟩
  · rw [Nat.le_div_iff_mul_le (by omega)]
    have h3 := Nat.div_mul_le_self (u * 4294967296 + c) (yh * 4294967296 + yl)
    generalize (u * 4294967296 + c) / (yh * 4294967296 + yl) = Q at *
    rw [Nat.mul_add, ← Nat.mul_assoc] at h3
    generalize Q * yh = p at *
    have := Nat.zero_le (Q * yl)
    omega
  · have h3 : u / yh < 4294967298 := by
      rw [Nat.div_lt_iff_lt_mul (by omega)]; omega
    omega
theorem gss_more (h : Gss u c yh yl q r) (hu : u < yh * 4294967296 + yl) (hc : c < 4294967296) (h2 : yh < 4294967296) (ht : 4294967296 ≤ q ∨ 4294967296 * r + c < q * yl) : (u * 4294967296 + c) / (yh * 4294967296 + yl) < q := by
  obtain ⟨e, _, _, hr⟩ := h
  rw [Nat.div_lt_iff_lt_mul (by omega)]
  rcases ht with ht | ht
  · have : 4294967296 * (yh * 4294967296 + yl) ≤ q * (yh * 4294967296 + yl) := Nat.mul_le_mul_right _ ht
    omega
  · rw [Nat.mul_add, ← Nat.mul_assoc]
    generalize q * yh = p at *
    generalize q * yl = o at *
    omega
theorem gss_next (h : Gss u c yh yl q r) (hu : u < yh * 4294967296 + yl) (hc : c < 4294967296) (h2 : yh < 4294967296) (ht : 4294967296 ≤ q ∨ 4294967296 * r + c < q * yl) :
    1 ≤ q ∧ u = (q - 1) * yh + (r + yh) ∧ (u * 4294967296 + c) / (yh * 4294967296 + yl) ≤ q - 1 ∧ q - 1 ≤ 4294967296 := by
  have hm := gss_more h hu hc h2 ht
  obtain ⟨e, _, hq, hr⟩ := h
  generalize (u * 4294967296 + c) / (yh * 4294967296 + yl) = Q at *
  refine ⟨by omega, ?_, by omega, by omega⟩
  obtain ⟨p, rfl⟩ : ∃ p, q = p + 1 := ⟨q - 1, by omega⟩
  rw [Nat.add_sub_cancel, e, Nat.add_mul]; omega
theorem gss_end (e : u = q * yh + r) (hQ : (u * 4294967296 + c) / (yh * 4294967296 + yl) ≤ q) (hy : 0 < yh) (ht : q * yl ≤ 4294967296 * r + c) : q = (u * 4294967296 + c) / (yh * 4294967296 + yl) := by
  apply Nat.le_antisymm _ hQ
  rw [Nat.le_div_iff_mul_le (by omega), Nat.mul_add, ← Nat.mul_assoc]
  clear hQ
  generalize q * yh = p at *
  generalize q * yl = o at *
  omega
theorem gss_far (hq : q ≤ 4294967296) (hl : yl < 4294967296) (hr : 4294967296 ≤ r) : q * yl ≤ 4294967296 * r + c := by
  have h1 : q * yl ≤ 4294967296 * yl := Nat.mul_le_mul_right _ hq
  have h2 : 4294967296 * yl ≤ 4294967296 * r := Nat.mul_le_mul_left _ (by omega)
  omega
end
theorem two_stepsB (B u c d y : Nat) (hy : 0 < y) (hd : d < B) :
    (u * B + c) / y * B + ((u * B + c) % y * B + d) / y = (u * (B * B) + (c * B + d)) / y ∧
    ((u * B + c) % y * B + d) % y = (u * (B * B) + (c * B + d)) % y := by
  have h := Nat.div_add_mod (u * B + c) y
  generalize hQ : (u * B + c) / y = Q at *
  generalize hR : (u * B + c) % y = R at *
  have e : u * (B * B) + (c * B + d) = (R * B + d) + y * (Q * B) := by
    rw [← Nat.mul_assoc, ← Nat.mul_assoc, ← Nat.add_assoc, ← Nat.add_mul, ← h, Nat.add_mul]
    omega
  rw [e, Nat.add_mul_div_left _ _ hy, Nat.add_mul_mod_self_left]
  exact ⟨Nat.add_comm _ _, rfl⟩
theorem two_steps (u c d y : Nat) (hy : 0 < y) (hd : d < 4294967296) :
    (u * 4294967296 + c) / y * 4294967296 + ((u * 4294967296 + c) % y * 4294967296 + d) / y = (u * 18446744073709551616 + (c * 4294967296 + d)) / y ∧
    ((u * 4294967296 + c) % y * 4294967296 + d) % y = (u * 18446744073709551616 + (c * 4294967296 + d)) % y :=
  two_stepsB 4294967296 u c d y hy hd
theorem scale_div (x y p : Nat) (hp : 0 < p) : x * p / (y * p) = x / y ∧ x * p % (y * p) / p = x % y := by
  refine ⟨Nat.mul_div_mul_right _ _ hp, ?_⟩
  rw [Nat.mul_mod_mul_right, Nat.mul_div_cancel _ hp]
theorem shl_two (hi lo s : Nat) (hs : s ≤ 64) (hlo : lo < 18446744073709551616) (hhi : hi * 2 ^ s < 18446744073709551616) :
    (hi * 2 ^ s) ||| (lo / 2 ^ (64 - s)) = hi * 2 ^ s + lo / 2 ^ (64 - s) ∧ hi * 2 ^ s + lo / 2 ^ (64 - s) < 18446744073709551616 ∧
    (hi * 2 ^ s + lo / 2 ^ (64 - s)) * 18446744073709551616 + lo * 2 ^ s % 18446744073709551616 = (hi * 18446744073709551616 + lo) * 2 ^ s := by
  have e : (18446744073709551616 : Nat) = 2 ^ s * 2 ^ (64 - s) := by
    rw [← Nat.pow_add, show s + (64 - s) = 64 by omega]
  have h1 : lo / 2 ^ (64 - s) < 2 ^ s := by
    rw [Nat.div_lt_iff_lt_mul (Nat.two_pow_pos _), ← e]; exact hlo
  have h2 : hi * 2 ^ s + lo / 2 ^ (64 - s) < 18446744073709551616 := by
    rw [e] at hhi ⊢
    rw [Nat.mul_comm] at hhi
    have := (Nat.mul_lt_mul_left (Nat.two_pow_pos s)).1 hhi
    have h3 : 2 ^ s * (hi + 1) ≤ 2 ^ s * 2 ^ (64 - s) := Nat.mul_le_mul_left _ this
    rw [Nat.mul_add, Nat.mul_comm] at h3
    omega
  refine ⟨?_, h2, ?_⟩
  · rw [Nat.mul_comm]; exact (Nat.two_pow_add_eq_or_of_lt h1 hi).symm
  · have h4 : lo * 2 ^ s % 18446744073709551616 = lo % 2 ^ (64 - s) * 2 ^ s := by
      rw [show (18446744073709551616 : Nat) = 2 ^ (64 - s) * 2 ^ s by rw [e, Nat.mul_comm], Nat.mul_mod_mul_right]
    have h5 := Nat.div_add_mod lo (2 ^ (64 - s))
    rw [h4, Nat.add_mul, Nat.add_mul]
    have h6 : lo / 2 ^ (64 - s) * 18446744073709551616 = 2 ^ (64 - s) * (lo / 2 ^ (64 - s)) * 2 ^ s := by rw [e, Nat.mul_assoc, Nat.mul_comm (2 ^ (64 - s)), Nat.mul_assoc, Nat.mul_comm (2 ^ s)]
    have h7 : lo * 2 ^ s = 2 ^ (64 - s) * (lo / 2 ^ (64 - s)) * 2 ^ s + lo % 2 ^ (64 - s) * 2 ^ s := by rw [← Nat.add_mul, h5]
    rw [h6, h7, Nat.mul_right_comm]; omega
end Nt
namespace Go.Proofs.YtdfnejpfpkaplaaGreatDoor
open Go Go.RowKit Nt
def Blk (w : World) (g : Nat) (t : TypeId) (cs : Array Value) : Prop := w.heap[g]? = some (.cells cs t (0, 0))
section
variable {w w' : World} {g : Nat} {t : TypeId} {cs : Array Value}
theorem Blk.lt (h : Blk w g t cs) : g < w.heap.size := by
  rcases Nat.lt_or_ge g w.heap.size with hlt | hge
  · exact hlt
  · unfold Blk at h; rw [Array.getElem?_eq_none hge] at h; cases h
theorem Blk.cell (h : Blk w g t cs) (i : Nat) : w.cell? ⟨g, i, none⟩ = cs[i]? := cell_of_row w g i cs t (0, 0) h
theorem Blk.frozen (h : Blk w g t cs) (i : Nat) : w.frozen? ⟨g, i, none⟩ = false := by
  unfold Blk at h
  simp [World.frozen?, h]
theorem Blk.new (w : World) (t : TypeId) (cs : Array Value) : Blk (w.alloc (.cells cs t)) w.heap.size t cs := heap_alloc_new w _
theorem Blk.drew (h : Blk w g t cs) : Blk w.drew g t cs := h
theorem Blk.drewN (h : Blk w g t cs) (n : Nat) : Blk (w.drewN n) g t cs := h
theorem Blk.alloc (h : Blk w g t cs) (o : Obj) : Blk (w.alloc o) g t cs := (Below.heap_alloc w o g h.lt).trans h
theorem Blk.set_ (h : Blk w g t cs) (i : Nat) (u : Value) : Blk (w.setCell ⟨g, i, none⟩ u) g t (cs.setIfInBounds i u) := by
  unfold Blk at h ⊢
  simp [World.setCell, Array.getElem?_modify, h]
theorem Blk.far (h : Blk w g t cs) {p : Addr} (hp : g ≠ p.block) (u : Value) : Blk (w.setCell p u) g t cs := (Below.heap_setCell w p u g hp).trans h
theorem Blk.below {B : Nat} (h : Blk w g t cs) (hb : Below B w w') (hg : g < B) : Blk w' g t cs := (hb.block g hg).trans h
end
def wcells (n L : Nat) : Array Value := ((dl W n L).map (fun (x : Nat) => Value.int .u64 (x : Int))).toArray
theorem wcells_size (n L : Nat) : (wcells n L).size = L := by simp [wcells, dl_length]
theorem wcells_get (n L j : Nat) (h : j < L) : (wcells n L)[j]? = some (.int .u64 (dgt W n j : Nat)) := by
  unfold wcells
  rw [List.getElem?_toArray, List.getElem?_map, dl_get? _ _ _ _ h]; rfl
theorem wcells_set (n L j v : Nat) (hv : v < 18446744073709551616) : (wcells n L).setIfInBounds j (.int .u64 (v : Nat)) = wcells (put W n j v) L := by
  unfold wcells
  rw [← dl_set W2 n L j v (by rw [W_eq]; exact hv), List.map_set]
  simp
theorem wcells_zero (L : Nat) : wcells 0 L = madeCells (Value.cells (.int .u64 0)) (L * 1) := by
  apply Array.ext_getElem?
  intro j
  by_cases h : j < L
  · rw [wcells_get 0 L j h, Nat.mul_one]
    have e : dgt W 0 j = 0 := by rw [dgt_def]; simp
    rw [e]
    simp [madeCells, Value.cells, h, Nat.mod_one]
  · rw [Array.getElem?_eq_none (by rw [wcells_size]; omega), Array.getElem?_eq_none (by simp [madeCells]; omega)]
theorem wcells_made (L : Nat) : madeCells #[.int .u64 0] L = wcells 0 L := by
  have := wcells_zero L; rw [Nat.mul_one] at this; exact this.symm
def Row (w : World) (B : Nat) (A : Option Addr) (n L : Nat) : Prop := 0 < L → ∃ g, A = some ⟨g, 0, none⟩ ∧ g < B ∧ ∀ j, j < L → w.cell? ⟨g, j, none⟩ = some (.int .u64 (dgt W n j : Nat))
section
variable {w w' : World} {B B' : Nat} {A : Option Addr} {n L : Nat}
theorem Row.at_ (h : Row w B A n L) {k : Nat} (hk : k < L) : ∃ g, A = some ⟨g, 0, none⟩ ∧ g < B ∧ w.cell? ⟨g, k, none⟩ = some (.int .u64 (dgt W n k : Nat)) := by
  obtain ⟨g, e, hg, hc⟩ := h (by omega); exact ⟨g, e, hg, hc k hk⟩
theorem Row.keep (h : Row w B A n L) (hk : ∀ p : Addr, p.block < B → w'.cell? p = w.cell? p) : Row w' B A n L := fun hL => by
  obtain ⟨g, e, hg, hc⟩ := h hL; exact ⟨g, e, hg, fun j hj => (hk _ hg).trans (hc j hj)⟩
theorem Row.more (h : Row w B A n L) (hB : B ≤ B') : Row w B' A n L := fun hL => by
  obtain ⟨g, e, hg, hc⟩ := h hL; exact ⟨g, e, by omega, hc⟩
theorem Row.below (h : Row w B A n L) (hb : Below B w w') : Row w' B A n L := h.keep fun _ hp => hb.cell hp
theorem Row.drewN (h : Row w B A n L) (k : Nat) : Row (w.drewN k) B A n L := h
theorem Row.less (h : Row w B A n L) {M : Nat} (hM : M ≤ L) : Row w B A n M := fun hL => by
  obtain ⟨g, e, hg, hc⟩ := h (by omega); exact ⟨g, e, hg, fun j hj => hc j (by omega)⟩
theorem Row.congr (h : Row w B A n L) {m : Nat} (hm : n % W ^ L = m % W ^ L) : Row w B A m L := fun hL => by
  obtain ⟨g, e, hg, hc⟩ := h hL
  refine ⟨g, e, hg, fun j hj => ?_⟩
  rw [hc j hj, ← dgt_mod n hj, hm, dgt_mod m hj]
theorem Row.of_blk {T : TypeId} {g : Nat} (h : Blk w g T (wcells n L)) (hB : g < B) : Row w B (some ⟨g, 0, none⟩) n L := fun _ =>
  ⟨g, rfl, hB, fun j hj => by rw [h.cell, wcells_get n L j hj]⟩
theorem Row.none_ : Row w B A n 0 := fun h => absurd h (by omega)
end
def Num (w : World) (B : Nat) (v : Value) (n : Nat) : Prop := ∃ A c, v = .slice A (nd W n) c ∧ nd W n ≤ c ∧ Row w B A n (nd W n)
theorem Num.below {w w' : World} {B : Nat} {v : Value} {n : Nat} (h : Num w B v n) (hb : Below B w w') : Num w' B v n := by
  obtain ⟨A, c, e, hc, hr⟩ := h; exact ⟨A, c, e, hc, hr.below hb⟩
theorem Num.more {w : World} {B B' : Nat} {v : Value} {n : Nat} (h : Num w B v n) (hB : B ≤ B') : Num w B' v n := by
  obtain ⟨A, c, e, hc, hr⟩ := h; exact ⟨A, c, e, hc, hr.more hB⟩
def NumPost (n : Nat) (w : World) (e : Ending) (w' : World) : Prop := ∃ v, e = .returned v ∧ Num w' w'.heap.size v n ∧ Below w.heap.size w w'
theorem NumPost.get {n : Nat} {w : World} {e : Ending} {w' : World} (h : NumPost n w e w') : ∃ A c, e = .returned (.slice A (nd W n) c) ∧ nd W n ≤ c ∧ Row w' w'.heap.size A n (nd W n) ∧ Below w.heap.size w w' := by
  obtain ⟨v, rfl, ⟨A, c, rfl, hc, hr⟩, hb⟩ := h; exact ⟨A, c, rfl, hc, hr, hb⟩
theorem NumPost.mk {n : Nat} {w w' : World} {A : Option Addr} {c : Nat} (hc : nd W n ≤ c) (hr : Row w' w'.heap.size A n (nd W n)) (hb : Below w.heap.size w w') : NumPost n w (.returned (.slice A (nd W n) c)) w' :=
  ⟨_, rfl, ⟨A, c, rfl, hc, hr⟩, hb⟩
theorem wpList_make_zero {P : Program} (w : World) {ops : Array Oper} {rest : List Oper} {o : Oper} {a : Act} {Q : Exit → Act → World → Prop}
    (hg : o.guard = none) (l c : Operand) (t : TypeId) (hop : o.op = Op.makeSlice t l c)
    (e : TypeId) (i : TypeInfo) (z : Value) (h1 : P.underlying t = some (.slice e)) (h2 : P.info? e = some i) (h3 : i.zero = some z) (h4 : i.size = 1)
    (kl kc : IntKind) (L C : Int) (n : Nat) (hl : a.eval l = .int kl L) (hc : a.eval c = .int kc C) (hL : L = (n : Int)) (hC : C = (n : Int)) (b2 : i.bytes * n ≤ 281474976710656) (b3 : n ≤ maxLen)
    (hK : wpList P ops Q rest (a.put o.dst (.slice (some ⟨w.heap.size, 0, none⟩) n n)) (w.alloc (.cells (madeCells z.cells (n * 1)) e))) :
    wpList P ops Q (o :: rest) a w := by
  refine wpList_plain hg fun K hK' => ?_
  have hr := run_make (P := P) w t e i z h1 h2 h3 kl kc n n (by omega) (Int.le_refl _) (by
    have h : ((i.bytes * n : Nat) : Int) ≤ 281474976710656 := by omega
    rwa [Int.natCast_mul] at h) (by have h := b3; simp [maxLen] at h; omega)
  simp only [Int.toNat_natCast, h4] at hr
  subst hL
  subst hC
  unfold Oper.wp
  simp [execOp, hop, hl, hc, hr, Result.andThen]
  exact hK' _ _ (by simpa using hK)
end Go.Proofs.YtdfnejpfpkaplaaGreatDoor
namespace Go.Proofs
open Go.Shelf
def Tryz.lays129_ren : Go.Shelf.Ren := ⟨fun | 129 => 92 | n => n, fun | 53 => 64 | 3 => 3 | 4 => 4 | 46 => 135 | 5 => 5 | 9 => 9 | n => n, fun | n => n⟩
theorem Tryz.lays129 : Go.Proofs.Lays.n129 Tryz.prog Tryz.lays129_ren := {
  mixed := by kernel_rfl
  f129 := Tryz.func92.trans (congrArg some (by kernel_rfl))
  t3 := Tryz.underlying3
  a3 := Tryz.isAgg3
  z3 := Tryz.sizeOf3
  v3 := Tryz.zeroValue3
  t4 := Tryz.underlying4
  a4 := Tryz.isAgg4
  z4 := Tryz.sizeOf4
  v4 := Tryz.zeroValue4
  t5 := Tryz.underlying5
  a5 := Tryz.isAgg5
  z5 := Tryz.sizeOf5
  v5 := Tryz.zeroValue5
  t9 := Tryz.underlying9
  a9 := Tryz.isAgg9
  z9 := Tryz.sizeOf9
  v9 := Tryz.zeroValue9
  t46 := Tryz.underlying135
  a46 := Tryz.isAgg135
  z46 := Tryz.sizeOf135
  v46 := Tryz.zeroValue135
  t53 := Tryz.underlying64
  a53 := Tryz.isAgg64
  z53 := Tryz.sizeOf64
  v53 := Tryz.zeroValue64 }
theorem Tryz.bits_Len64 (x : Int) (w : World) (h0 : 0 ≤ x) (h1 : x ≤ 18446744073709551615) :
    Calls Tryz.prog 92 #[.int .u64 x] w fun e w' => e = .returned (.int .i64 (Lib.bitLen x.toNat)) ∧ w' = w := Any.bits_Len64 Tryz.lays129 x w h0 h1
def Tryz.lays134_ren : Go.Shelf.Ren := ⟨fun | 134 => 108 | 129 => 92 | n => n, fun | 53 => 64 | 3 => 3 | 4 => 4 | 46 => 135 | 5 => 5 | 9 => 9 | n => n, fun | n => n⟩
theorem Tryz.lays134 : Go.Proofs.Lays.n134 Tryz.prog Tryz.lays134_ren := {
  mixed := by kernel_rfl
  f129 := Tryz.func92.trans (congrArg some (by kernel_rfl))
  f134 := Tryz.func108.trans (congrArg some (by kernel_rfl))
  t3 := Tryz.underlying3
  a3 := Tryz.isAgg3
  z3 := Tryz.sizeOf3
  v3 := Tryz.zeroValue3
  t4 := Tryz.underlying4
  a4 := Tryz.isAgg4
  z4 := Tryz.sizeOf4
  v4 := Tryz.zeroValue4
  t5 := Tryz.underlying5
  a5 := Tryz.isAgg5
  z5 := Tryz.sizeOf5
  v5 := Tryz.zeroValue5
  t9 := Tryz.underlying9
  a9 := Tryz.isAgg9
  z9 := Tryz.sizeOf9
  v9 := Tryz.zeroValue9
  t46 := Tryz.underlying135
  a46 := Tryz.isAgg135
  z46 := Tryz.sizeOf135
  v46 := Tryz.zeroValue135
  t53 := Tryz.underlying64
  a53 := Tryz.isAgg64
  z53 := Tryz.sizeOf64
  v53 := Tryz.zeroValue64 }
theorem Tryz.bits_LeadingZeros64 (x : Int) (w : World) (h0 : 0 ≤ x) (h1 : x ≤ 18446744073709551615) :
    Calls Tryz.prog 108 #[.int .u64 x] w fun e w' => e = .returned (.int .i64 (64 - (Lib.bitLen x.toNat : Int))) ∧ w' = w := Any.bits_LeadingZeros64 Tryz.lays134 x w h0 h1
def Tryz.lays264_ren : Go.Shelf.Ren := ⟨fun | 264 => 80 | n => n, fun | 53 => 64 | 46 => 135 | n => n, fun | n => n⟩
theorem Tryz.lays264 : Go.Proofs.Lays.n264 Tryz.prog Tryz.lays264_ren := {
  mixed := by kernel_rfl
  f264 := Tryz.func80.trans (congrArg some (by kernel_rfl))
  t46 := Tryz.underlying135
  a46 := Tryz.isAgg135
  z46 := Tryz.sizeOf135
  v46 := Tryz.zeroValue135
  t53 := Tryz.underlying64
  a53 := Tryz.isAgg64
  z53 := Tryz.sizeOf64
  v53 := Tryz.zeroValue64 }
open Go.RowKit Go.Lib in
theorem Tryz.bits_Mul64 (x y : Nat) (hx : x < 18446744073709551616) (hy : y < 18446744073709551616) (w : World) :
    Calls Tryz.prog 80 #[.int .u64 x, .int .u64 y] w fun e w' => e = .returned (.tuple #[.int .u64 ((x * y / 18446744073709551616 : Nat) : Int), .int .u64 ((x * y % 18446744073709551616 : Nat) : Int)]) ∧ w' = w := Any.bits_Mul64 Tryz.lays264 x y hx hy w
def Tryz.laysM171_ren : Go.Shelf.Ren := ⟨fun | 171 => 24 | 243 => 43 | 246 => 77 | 283 => 109 | 284 => 110 | 285 => 111 | 286 => 112 | 129 => 92 | 317 => 135 | 318 => 136 | 319 => 137 | 320 => 138 | 337 => 151 | 338 => 123 | n => n, fun | 3 => 3 | 9 => 9 | 2 => 2 | 4 => 4 | 171 => 153 | 0 => 0 | 53 => 64 | 37 => 79 | 5 => 5 | 173 => 155 | 212 => 179 | 51 => 180 | 20 => 20 | 213 => 181 | 46 => 135 | 232 => 203 | 233 => 191 | n => n, fun | 17 => 5 | 18 => 8 | 19 => 6 | n => n⟩
theorem Tryz.laysM171 : Go.Proofs.LaysM.n171 Tryz.prog Tryz.laysM171_ren := {
  mixed := by kernel_rfl
  f129 := Tryz.func92.trans (congrArg some (by kernel_rfl))
  f171 := Tryz.func24.trans (congrArg some (by kernel_rfl))
  f243 := Tryz.func43.trans (congrArg some (by kernel_rfl))
  f246 := Tryz.func77.trans (congrArg some (by kernel_rfl))
  f283 := Tryz.func109.trans (congrArg some (by kernel_rfl))
  f284 := Tryz.func110.trans (congrArg some (by kernel_rfl))
  f285 := Tryz.func111.trans (congrArg some (by kernel_rfl))
  f286 := Tryz.func112.trans (congrArg some (by kernel_rfl))
  f317 := Tryz.func135.trans (congrArg some (by kernel_rfl))
  f318 := Tryz.func136.trans (congrArg some (by kernel_rfl))
  f319 := Tryz.func137.trans (congrArg some (by kernel_rfl))
  f320 := Tryz.func138.trans (congrArg some (by kernel_rfl))
  f337 := Tryz.func151.trans (congrArg some (by kernel_rfl))
  f338 := Tryz.func123.trans (congrArg some (by kernel_rfl))
  t0 := Tryz.underlying0
  a0 := Tryz.isAgg0
  z0 := Tryz.sizeOf0
  v0 := Tryz.zeroValue0
  t2 := Tryz.underlying2
  a2 := Tryz.isAgg2
  z2 := Tryz.sizeOf2
  v2 := Tryz.zeroValue2
  t3 := Tryz.underlying3
  a3 := Tryz.isAgg3
  z3 := Tryz.sizeOf3
  v3 := Tryz.zeroValue3
  t4 := Tryz.underlying4
  a4 := Tryz.isAgg4
  z4 := Tryz.sizeOf4
  v4 := Tryz.zeroValue4
  t5 := Tryz.underlying5
  a5 := Tryz.isAgg5
  z5 := Tryz.sizeOf5
  v5 := Tryz.zeroValue5
  t9 := Tryz.underlying9
  a9 := Tryz.isAgg9
  z9 := Tryz.sizeOf9
  v9 := Tryz.zeroValue9
  t20 := Tryz.underlying20
  a20 := Tryz.isAgg20
  z20 := Tryz.sizeOf20
  v20 := Tryz.zeroValue20
  t37 := Tryz.underlying79
  a37 := Tryz.isAgg79
  z37 := Tryz.sizeOf79
  v37 := Tryz.zeroValue79
  t46 := Tryz.underlying135
  a46 := Tryz.isAgg135
  z46 := Tryz.sizeOf135
  v46 := Tryz.zeroValue135
  t51 := Tryz.underlying180
  a51 := Tryz.isAgg180
  z51 := Tryz.sizeOf180
  v51 := Tryz.zeroValue180
  t53 := Tryz.underlying64
  a53 := Tryz.isAgg64
  z53 := Tryz.sizeOf64
  v53 := Tryz.zeroValue64
  t171 := Tryz.underlying153
  a171 := Tryz.isAgg153
  z171 := Tryz.sizeOf153
  v171 := Tryz.zeroValue153
  t173 := Tryz.underlying155
  a173 := Tryz.isAgg155
  z173 := Tryz.sizeOf155
  v173 := Tryz.zeroValue155
  t212 := Tryz.underlying179
  a212 := Tryz.isAgg179
  z212 := Tryz.sizeOf179
  v212 := Tryz.zeroValue179
  t213 := Tryz.underlying181
  a213 := Tryz.isAgg181
  z213 := Tryz.sizeOf181
  t232 := Tryz.underlying203
  a232 := Tryz.isAgg203
  z232 := Tryz.sizeOf203
  v232 := Tryz.zeroValue203
  t233 := Tryz.underlying191
  a233 := Tryz.isAgg191
  z233 := Tryz.sizeOf191
  v233 := Tryz.zeroValue191
  g17 := by kernel_rfl
  g18 := by kernel_rfl
  g19 := by kernel_rfl
  i0 := by kernel_rfl
  i2 := by kernel_rfl
  i3 := by kernel_rfl
  i4 := by kernel_rfl
  i5 := by kernel_rfl
  i9 := by kernel_rfl
  i20 := by kernel_rfl
  i37 := by kernel_rfl
  i46 := by kernel_rfl
  i51 := by kernel_rfl
  i53 := by kernel_rfl
  i171 := by kernel_rfl
  i173 := by kernel_rfl
  i212 := by kernel_rfl
  i232 := by kernel_rfl
  i233 := by kernel_rfl
  m17 := by kernel_rfl
  m18 := by kernel_rfl
  m19 := by kernel_rfl }
open Go.RowKit Go.Sort Go.Lib in
theorem Tryz.strconv_Itoa (n : Int) (h0 : -9223372036854775808 ≤ n) (h1 : n ≤ 9223372036854775807) (w : World) (htab : Lib.TabIs Tryz.prog w "internal/strconv.uint64pow10" .u64 Lib.pow10Tab) :
    Calls Tryz.prog 24 #[.int .i64 n] w fun e w' => e = .returned (.string ⟨(Lib.itoa n).toArray⟩) ∧ ∃ k os, w' = grow (w.drewN k) os := Any.strconv_Itoa Tryz.laysM171 n h0 h1 w htab
def Tryz.lays7n25_ren : Go.Shelf.Ren := ⟨fun | 25 => 81 | n => n, fun | 22 => 64 | n => n, fun | n => n⟩
theorem Tryz.lays7n25 : Go.Proofs.Lays7.n25 Tryz.prog Tryz.lays7n25_ren := {
  mixed := by kernel_rfl
  f25 := Tryz.func81.trans (congrArg some (by kernel_rfl))
  t22 := Tryz.underlying64
  a22 := Tryz.isAgg64
  z22 := Tryz.sizeOf64
  v22 := Tryz.zeroValue64
  i22 := by kernel_rfl }
theorem Tryz.bits_Add64 (x y c : Nat) (hc : c ≤ 1) (w : World) :
    (callFunc 81 #[.int .u64 x, .int .u64 y, .int .u64 c]).run Tryz.prog w = .ok (.value (.tuple #[.int .u64 (((x + y + c) % 18446744073709551616 : Nat) : Int), .int .u64 (((x + y + c) / 18446744073709551616 : Nat) : Int)])) w := Any7.bits_Add64 Tryz.lays7n25 x y c hc w
end Go.Proofs
namespace Go.Proofs.YtdfnejpfpkaplaaGreatDoor
open Go Go.RowKit Nt
def slen : Value → Nat | .slice _ n _ => n | _ => 0
theorem nd_pred {b n m : Nat} (hb : 2 ≤ b) (h : n < b ^ (m + 1)) (hz : dgt b n m = 0) : n < b ^ m := by
  have := mod_succ b n m
  rw [hz, Nat.mod_eq_of_lt h] at this
  rw [this, Nat.mul_zero, Nat.add_zero]; exact Nat.mod_lt _ (Nat.pow_pos (by omega))
theorem nd_just {b n m : Nat} (hb : 2 ≤ b) (h : n < b ^ (m + 1)) (hz : dgt b n m ≠ 0) : nd b n = m + 1 := by
  have h1 := nd_le hb h
  rcases Nat.lt_or_ge m (nd b n) with h2 | h2
  · omega
  · exact absurd (dgt_big hb h2) hz
theorem eqz_true {x : Nat} (h : x = 0) : (((x : Nat) : Int) == 0) = true := by subst h; rfl
theorem eqz_false {x : Nat} (h : x ≠ 0) : (((x : Nat) : Int) == 0) = false := by rw [beq_eq_false_iff_ne]; omega
theorem ret_slice {A : Option Addr} {n m c : Nat} (h : n = m) : Ending.returned (.slice A n c) = .returned (.slice A m c) := by rw [h]
theorem Cut_c (A : Option Addr) (L c n B : Nat) (w : World) (hn : n < W ^ L) (hLc : L ≤ c) (hL : c ≤ 9223372036854775807) (hr : Row w B A n L) :
    Calls Tryz.prog 76 #[.slice A L c] w fun e w' => e = .returned (.slice A (nd W n) c) ∧ w = w' := by
  have HN := Lib.hid hn
  have HR := Lib.hid hr
  clear hn hr
  go_enter Tryz.func76, Tryz.ntmps76
  go_wp2
  go_loop [0] (fun x => ∃ k : Nat, k ≤ L ∧ x = .slice A k c ∧ Hid (n < W ^ k)) (fun x => slen x)
  case atStart => exact ⟨L, Nat.le_refl _, rfl, HN⟩
  case round =>
    obtain ⟨k, hk, rfl, hnk⟩ := hrel
    by_cases h0 : k = 0
    · subst h0
      go_wp2
      go_ret
      exact ⟨ret_slice ((nd_eq_zero W2).2 (by have := hnk.out; rw [Nat.pow_zero] at this; omega)).symm, rfl⟩
    · obtain ⟨m, rfl⟩ : ∃ m, k = m + 1 := ⟨k - 1, by omega⟩
      obtain ⟨g, rfl, _, hcell⟩ := HR.out.at_ (k := m) (by omega)
      by_cases hz : dgt W n m = 0
      · have hz' := eqz_true hz
        have HZ := Lib.hid hz
        clear hz
        go_wp2
        go_round
        case rel => exact ⟨m, by omega, rfl, Lib.hid (nd_pred W2 hnk.out HZ.out)⟩
        case measure => simp [slen]
      · have hz' := eqz_false hz
        have HZ := Lib.hid hz
        clear hz
        go_wp2
        go_ret
        exact ⟨ret_slice (nd_just W2 hnk.out HZ.out).symm, rfl⟩
end Go.Proofs.YtdfnejpfpkaplaaGreatDoor
namespace Go.Proofs.YtdfnejpfpkaplaaGreatDoor
open Go Go.RowKit Nt
theorem ret_int {k : IntKind} {a b : Int} (h : a = b) : Ending.returned (.int k a) = .returned (.int k b) := by rw [h]
theorem Len_c (A : Option Addr) (c n B : Nat) (w : World) (hL : nd W n ≤ 1000000000) (hr : Row w B A n (nd W n)) :
    Calls Tryz.prog 82 #[.slice A (nd W n) c] w fun e w' => e = .returned (.int .i64 (nd 2 n : Nat)) ∧ w = w' := by
  by_cases h0 : n = 0
  · subst h0
    have h : nd W 0 = 0 := nd_zero _
    rw [h]
    go_enter Tryz.func82, Tryz.ntmps82
    go_wp2
    go_ret
    exact ⟨ret_int (by rw [nd_zero]; rfl), rfl⟩
  · have HR := Lib.hid hr
    have HT := Lib.hid (nd_top (b := 2) (c := W) (e := 64) (by omega) (by omega) W_two n h0)
    have HN : nd W n ≠ 0 := fun c => h0 ((nd_eq_zero W2).1 c)
    obtain ⟨L, hLe⟩ : ∃ L, nd W n = L + 1 := ⟨nd W n - 1, by omega⟩
    rw [hLe] at HR HT hL ⊢
    obtain ⟨g, rfl, _, hcell⟩ := HR.out.at_ (k := L) (by omega)
    have hw := wd_lt n L
    have HB := Lib.hid (bitLen_nd hw)
    have hb64 : Go.Lib.bitLen (dgt W n L) ≤ 64 := by rw [HB.out]; exact nd_le (by omega) hw
    clear hr
    go_enter Tryz.func82, Tryz.ntmps82
    go_wp2_with (go_at_call 92; refine (Tryz.bits_Len64 _ _ (by omega) (by omega)).mono ?_; rintro e w' ⟨rfl, rfl⟩)
    go_ret
    refine ⟨ret_int ?_, rfl⟩
    have h1 := HT.out
    have h2 := HB.out
    rw [Nat.add_sub_cancel] at h1
    rw [h2, h1]; omega
theorem u8_lt (x : UInt8) : x.toNat < 256 := x.toNat_lt
theorem or_word (a v r : Nat) (ha : a < 18446744073709551616) (hv : v < 256) (hr : r < 8) :
    bits BinOp.or IntKind.u64 (a : Int) (IntKind.u64.wrap (IntKind.u64.wrap (v : Int) * 2 ^ (r * 8))) = ((a ||| v * 256 ^ r : Nat) : Int) := by
  have h1 : v * 256 ^ r < 18446744073709551616 := by have := mul_lt_pow (b := 256) hv hr (by omega); rwa [← W_256, W_eq] at this
  have e : IntKind.u64.wrap (IntKind.u64.wrap (v : Int) * 2 ^ (r * 8)) = ((v * 256 ^ r : Nat) : Int) := by
    rw [IntKind.wrap_u64, IntKind.wrap_u64, Int.emod_eq_of_lt (a := (v : Int)) (by omega) (by omega)]
    have e2 : (v : Int) * 2 ^ (r * 8) = ((v * 256 ^ r : Nat) : Int) := by
      rw [Int.natCast_mul, Int.natCast_pow, Nat.mul_comm, Int.pow_mul]; rfl
    rw [e2, Int.emod_eq_of_lt (by omega) (by omega)]
  rw [e, bits_or_u64_nat _ _ ha h1]
set_option maxHeartbeats 400000 in
theorem Read_c (s : ByteArray) (w : World) (hs : s.size ≤ 1000000000) :
    Calls Tryz.prog 58 #[.string s] w (NumPost (bytesN s) w) := by
  obtain ⟨i0, hi0, hz0, hz1, hz2⟩ := info_parts (P := Tryz.prog) (e := 64) (z := .int .u64 0) (size := 1) (bytes := 8) (by kernel_rfl)
  obtain ⟨L, hL⟩ : ∃ L, (s.size + 7) / 8 = L := ⟨_, rfl⟩
  have HL := Lib.hid hL
  have hl : ((s.size : Int) + 7) / 8 = (L : Int) := by omega
  clear hL
  go_enter Tryz.func58, Tryz.ntmps58
  go_wp2_with (at_make; go_loud (refine wpList_make_zero _ rfl (.tmp 9) (.tmp 9) _ rfl 64 i0 _ Tryz.underlying80 hi0 hz0 hz1 .i64 .i64 _ _ L rfl rfl (by first | assumption | rfl) (by first | assumption | rfl) (by rw [hz2]; omega) (by unfold maxLen; omega) ?_))
  rw [wcells_made]
  have HB0 := Lib.hid (Blk.new w 64 (wcells 0 L))
  have hbl : Below w.heap.size w (w.alloc (.cells (wcells 0 L) 64)) := (Below.refl _ _).alloc (Nat.le_refl _) _
  generalize w.alloc (.cells (wcells 0 L) 64) = w1 at *
  obtain ⟨g, hg⟩ : ∃ g, g = w.heap.size := ⟨_, rfl⟩
  rw [← hg] at HB0 hbl ⊢
  have HG := Lib.hid hg
  clear hg
  go_loopw [13] (fun i wr => ∃ k : Nat, k ≤ s.size ∧ i = .int .i64 k ∧ Hid (Blk wr g 64 (wcells (readV s k) L)) ∧ Below g w wr) (fun i _ => s.size - (intOf i).toNat)
  case atStart => exact ⟨0, Nat.zero_le _, rfl, by rw [readV_zero]; exact HB0, hbl⟩
  case round =>
    obtain ⟨k, hk, rfl, hblk, hb⟩ := hrel
    by_cases hlt : k < s.size
    · obtain ⟨m, hm⟩ : ∃ m, s.size = k + 1 + m := ⟨s.size - k - 1, by omega⟩
      obtain ⟨q, hq⟩ : ∃ q, m / 8 = q := ⟨_, rfl⟩
      obtain ⟨r, hr⟩ : ∃ r, m % 8 = r := ⟨_, rfl⟩
      have hqL : q < L := by have := HL.out; omega
      have hc := hblk.out.cell q
      rw [wcells_get _ _ _ hqL] at hc
      have hfz := hblk.out.frozen q
      have hk1 : (s.size : Int) - 1 - (k : Int) = (m : Int) := by omega
      have hq1 : (m : Int) / 8 = (q : Int) := by omega
      have hr1 : (m : Int) % 8 = (r : Int) := by omega
      have hr8 : (r : Int) < 8 := by omega
      have hR8 : r < 8 := by omega
      have HM := Lib.hid hm
      have HQ := Lib.hid hq
      have HR := Lib.hid hr
      clear hm hq hr
      go_wp2
      go_region
      rw [or_word _ _ _ (wd_lt _ _) (u8_lt _) hR8]
      obtain ⟨e1, e2, e3⟩ := read_step s k m q r HM.out hlt HQ.out HR.out
      rw [e1]
      have HB1 := Lib.hid (hblk.out.set_ q (.int .u64 ((dgt W (readV s k) q + (s[k]).toNat * 256 ^ r : Nat) : Int))).drew
      rw [wcells_set _ _ _ _ e2, e3] at HB1
      have hb1 := (hb.setCell (p := ⟨g, q, none⟩) (Nat.le_refl _) (.int .u64 ((dgt W (readV s k) q + (s[k]).toNat * 256 ^ r : Nat) : Int))).drew
      clear e1 e2 e3
      go_wp2
      go_roundw
      case rel => exact ⟨k + 1, by omega, by go_num, HB1, hb1⟩
      case measure => simp [intOf]; omega
    · obtain rfl : k = s.size := by omega
      go_wp2_with fail
      go_at_call 76
      have hbk := hblk.out
      rw [readV_full] at hbk
      refine (Cut_c (some ⟨g, 0, none⟩) L L (bytesN s) wr.heap.size wr ?_ (Nat.le_refl _) (by omega) (Row.of_blk hbk hbk.lt)).mono ?_
      · have := bytesN_lt s
        refine Nat.lt_of_lt_of_le this ?_
        rw [W_256, ← Nat.pow_mul]; exact Nat.pow_le_pow_right (by omega) (by have := HL.out; omega)
      rintro e w' ⟨rfl, rfl⟩
      go_wp2
      go_ret
      have hnd : nd W (bytesN s) ≤ L := by
        have h1 := nd_le (b := 256) (by omega) (bytesN_lt s); rw [← words_bytes]; have := HL.out; omega
      exact NumPost.mk hnd ((Row.of_blk hbk hbk.lt).less hnd) (by rw [← HG.out]; exact hb)
end Go.Proofs.YtdfnejpfpkaplaaGreatDoor
namespace Go.Proofs.YtdfnejpfpkaplaaGreatDoor
open Go Go.RowKit Nt
def fcells (k : IntKind) (f : Nat → Nat) (L : Nat) : Array Value := ((List.range L).map (fun j => Value.int k (f j : Nat))).toArray
theorem fcells_size (k : IntKind) (f : Nat → Nat) (L : Nat) : (fcells k f L).size = L := by simp [fcells]
theorem fcells_get (k : IntKind) (f : Nat → Nat) (L j : Nat) (h : j < L) : (fcells k f L)[j]? = some (.int k (f j : Nat)) := by
  unfold fcells
  rw [List.getElem?_toArray, List.getElem?_map, List.getElem?_range h]; rfl
theorem fcells_congr {k : IntKind} {f f' : Nat → Nat} {L : Nat} (h : ∀ j, j < L → f j = f' j) : fcells k f L = fcells k f' L := by
  unfold fcells; congr 1; apply List.map_congr_left; intro j hj; rw [h j (List.mem_range.1 hj)]
theorem fcells_set (k : IntKind) (f : Nat → Nat) (L i v : Nat) : (fcells k f L).setIfInBounds i (.int k (v : Nat)) = fcells k (fun j => if j = i then v else f j) L := by
  apply Array.ext_getElem?
  intro j
  rw [Array.getElem?_setIfInBounds, fcells_size]
  by_cases hj : j < L
  · rw [fcells_get k (fun j => if j = i then v else f j) L j hj]
    by_cases h : i = j
    · subst h; rw [if_pos rfl, if_pos hj, if_pos rfl]
    · rw [if_neg h, fcells_get k f L j hj, if_neg (fun c => h c.symm)]
  · rw [Array.getElem?_eq_none (xs := fcells k (fun j => if j = i then v else f j) L) (by rw [fcells_size]; omega)]
    by_cases h : i = j
    · subst h; rw [if_pos rfl, if_neg hj]
    · rw [if_neg h, Array.getElem?_eq_none (by rw [fcells_size]; omega)]
theorem fcells_made (k : IntKind) (L : Nat) : madeCells #[.int k 0] L = fcells k (fun _ => 0) L := by
  apply Array.ext_getElem?
  intro j
  by_cases h : j < L
  · rw [fcells_get k _ L j h]
    simp [madeCells, h, Nat.mod_one]
  · rw [Array.getElem?_eq_none (by simp [madeCells]; omega), Array.getElem?_eq_none (by rw [fcells_size]; omega)]
def byteF (n k j : Nat) : Nat := if j < k then dgt 256 n (nd 256 n - 1 - j) else 0
theorem byteF_step (n k j : Nat) : (if j = k then dgt 256 n (nd 256 n - 1 - k) else byteF n k j) = byteF n (k + 1) j := by
  unfold byteF
  by_cases h : j = k
  · subst h; rw [if_pos rfl, if_pos (by omega)]
  · rw [if_neg h]
    by_cases h2 : j < k
    · rw [if_pos h2, if_pos (by omega)]
    · rw [if_neg h2, if_neg (by omega)]
theorem shr_byte (n q r : Nat) (hr : r < 8) : dgt W n q / 256 ^ r % 256 = dgt 256 n (8 * q + r) := by
  have := dgt_in (b := 256) (e := 8) (by omega) n q r hr
  rw [← W_256] at this
  rw [← this, dgt_def 256]
theorem shr_val (n q r : Nat) (hr : r < 8) : ((dgt W n q : Nat) : Int) / 2 ^ (r * 8) % 256 = ((dgt 256 n (8 * q + r) : Nat) : Int) := by
  rw [← shr_byte n q r hr, Int.natCast_emod, Int.natCast_ediv, Int.natCast_pow, Nat.mul_comm r 8, Int.pow_mul]; rfl
theorem wrap_u8 (a : Nat) : IntKind.u8.wrap (a : Int) = ((a % 256 : Nat) : Int) := by
  simp [IntKind.wrap, IntKind.bits, IntKind.signed]
theorem add_plain0 (g j : Nat) : (⟨g, 0, none⟩ : Addr).add j = ⟨g, j, none⟩ := by
  unfold Addr.add; split
  · rename_i h; subst h; rfl
  · simp
set_option maxHeartbeats 400000 in
theorem Bytes_c (A : Option Addr) (c n B : Nat) (w : World) (hL : nd W n ≤ 1000000000) (hr : Row w B A n (nd W n)) (hB : B ≤ w.heap.size) :
    Calls Tryz.prog 83 #[.slice A (nd W n) c] w fun e w' => e = .returned (.string (natS n)) ∧ Below w.heap.size w w' := by
  obtain ⟨i0, hi0, hz0, hz1, hz2⟩ := info_parts (P := Tryz.prog) (e := 5) (z := .int .u8 0) (size := 1) (bytes := 1) (by kernel_rfl)
  have HLN := Lib.hid (words_bytes n)
  have HBB := Lib.hid (bytes_bits n)
  have hl : ((nd 2 n : Int) + 7) / 8 = (nd 256 n : Int) := by have := HBB.out; omega
  have hx : nd 256 n ≤ 8000000000 := by have := HLN.out; omega
  have hx2 : nd 2 n ≤ 64000000000 := by have := HBB.out; omega
  have HR := Lib.hid hr
  clear hr
  go_enter Tryz.func83, Tryz.ntmps83
  go_wp2_with (first | (go_at_call 82; refine (Len_c _ _ _ B _ hL HR.out).mono ?_; rintro e w' ⟨rfl, rfl⟩) | (at_make; go_loud (refine wpList_make_zero _ rfl (.tmp 9) (.tmp 9) _ rfl 5 i0 _ Tryz.underlying79 hi0 hz0 hz1 .i64 .i64 _ _ (nd 256 n) rfl rfl (by first | assumption | rfl) (by first | assumption | rfl) (by rw [hz2]; omega) (by unfold maxLen; omega) ?_)))
  rw [fcells_made]
  have HB0 := Lib.hid (Blk.new w 5 (fcells .u8 (fun _ => 0) (nd 256 n)))
  have hbl : Below w.heap.size w (w.alloc (.cells (fcells .u8 (fun _ => 0) (nd 256 n)) 5)) := (Below.refl _ _).alloc (Nat.le_refl _) _
  generalize w.alloc (.cells (fcells .u8 (fun _ => 0) (nd 256 n)) 5) = w1 at *
  obtain ⟨g, hg⟩ : ∃ g, g = w.heap.size := ⟨_, rfl⟩
  rw [← hg] at HB0 hbl ⊢
  have HG := Lib.hid hg
  clear hg
  obtain ⟨N, hN⟩ : ∃ N, N = nd 256 n := ⟨_, rfl⟩
  rw [← hN] at hl hx HB0 ⊢
  have HN := Lib.hid hN
  clear hN hl
  go_loopw [13] (fun i wr => ∃ k : Nat, k ≤ N ∧ i = .int .i64 k ∧ Hid (Blk wr g 5 (fcells .u8 (byteF n k) N)) ∧ Below g w wr) (fun i _ => N - (intOf i).toNat)
  case atStart => exact ⟨0, Nat.zero_le _, rfl, by rw [fcells_congr (f' := fun _ => 0) (fun j _ => by unfold byteF; rw [if_neg (by omega)])]; exact HB0, hbl⟩
  case round =>
    obtain ⟨k, hk, rfl, hblk, hb⟩ := hrel
    by_cases hlt : k < N
    · obtain ⟨m, hm⟩ : ∃ m, N = k + 1 + m := ⟨N - k - 1, by omega⟩
      obtain ⟨q, hq⟩ : ∃ q, m / 8 = q := ⟨_, rfl⟩
      obtain ⟨r, hr⟩ : ∃ r, m % 8 = r := ⟨_, rfl⟩
      have hqL : q < nd W n := by have := HLN.out; have := HN.out; omega
      obtain ⟨ga, rfl, hga, hca⟩ := HR.out.at_ hqL
      have hca2 := (hb.cell (p := ⟨ga, q, none⟩) (by have := HG.out; show ga < g; omega)).trans hca
      have hfz := hblk.out.frozen k
      have hck := hblk.out.cell k
      rw [fcells_get _ _ _ _ hlt] at hck
      have hk1 : (N : Int) - 1 - (k : Int) = (m : Int) := by omega
      have hq1 : (m : Int) / 8 = (q : Int) := by omega
      have hr1 : (m : Int) % 8 = (r : Int) := by omega
      have hr8 : (r : Int) < 8 := by omega
      have hR8 : r < 8 := by omega
      have HM := Lib.hid hm
      have HQ := Lib.hid hq
      have HR' := Lib.hid hr
      clear hm hq hr hca
      go_wp2
      rw [shr_val n q r hR8]
      have hv : 8 * q + r = nd 256 n - 1 - k := by have := HM.out; have := HN.out; have := HQ.out; have := HR'.out; omega
      rw [hv]
      have HB1 := Lib.hid (hblk.out.set_ k (.int .u8 ((dgt 256 n (nd 256 n - 1 - k) : Nat) : Int)))
      rw [fcells_set, fcells_congr (f' := byteF n (k + 1)) (fun j _ => byteF_step n k j)] at HB1
      have hb1 := hb.setCell (p := ⟨g, k, none⟩) (Nat.le_refl _) (.int .u8 ((dgt 256 n (nd 256 n - 1 - k) : Nat) : Int))
      go_roundw
      case rel => exact ⟨k + 1, by omega, by go_num, HB1, hb1⟩
      case measure => simp [intOf]; omega
    · obtain rfl : k = N := by omega
      have hcv : (convert 79 9 (.slice (some ⟨g, 0, none⟩) k k)).run Tryz.prog wr = .ok (.string (natS n)) wr := by
        have hN := HN.out
        have hl : ((dl 256 n (nd 256 n)).reverse.map UInt8.ofNat).length = k := by simp [dl_length, hN]
        have h := run_convert_bytes_back (P := Tryz.prog) wr 79 9 5 ⟨g, 0, none⟩ k ((dl 256 n (nd 256 n)).reverse.map UInt8.ofNat) Tryz.underlying79 Tryz.underlying5 Tryz.underlying9 (fun j hj => by
          rw [add_plain0, hblk.out.cell, fcells_get _ _ _ _ (by rw [← hl]; exact hj)]
          have e := natS_get n j (by rw [natS_size, ← hN, ← hl]; exact hj)
          rw [ba_get] at e
          simp only [natS_def] at e
          rw [List.getElem_toArray] at e
          rw [e]
          unfold byteF
          rw [if_pos (by rw [← hl]; exact hj)])
        rw [hl, ← natS_def] at h
        exact h
      go_wp2
      go_ret
      exact ⟨rfl, by rw [← HG.out]; exact hb⟩
end Go.Proofs.YtdfnejpfpkaplaaGreatDoor
namespace Go.Proofs.YtdfnejpfpkaplaaGreatDoor
open Go Go.RowKit Nt
def Drawn (w w' : World) : Prop := ∃ n, w' = w.drewN n
theorem Drawn.refl (w : World) : Drawn w w := ⟨0, rfl⟩
theorem Drawn.more {w w' : World} (h : Drawn w w') (m : Nat) : Drawn w (w'.drewN m) := by obtain ⟨n, rfl⟩ := h; exact ⟨n + m, World.drewN_drewN _ _ _⟩
end Go.Proofs.YtdfnejpfpkaplaaGreatDoor
namespace Go.Proofs.YtdfnejpfpkaplaaGreatDoor
open Go Go.RowKit Nt
theorem put_sum (s i : Nat) : put W (s % W ^ i) i (dgt W s i) = s % W ^ (i + 1) := put_mod W2 s i
theorem mod_one (s : Nat) : s % W ^ 0 = 0 := by rw [Nat.pow_zero, Nat.mod_one]
end Go.Proofs.YtdfnejpfpkaplaaGreatDoor
namespace Go.Proofs.YtdfnejpfpkaplaaGreatDoor
open Go Go.RowKit Nt
theorem mca_low (x y m i : Nat) : (dgt W x i * y % 18446744073709551616 + mca W x y m i + 0) % 18446744073709551616 = dgt W (x * y + m) i := by
  rw [Nat.add_zero, two_mod, dgt_mca W0, W_eq]
theorem mca_high (x y m i : Nat) : dgt W x i * y / 18446744073709551616 + (dgt W x i * y % 18446744073709551616 + mca W x y m i + 0) / 18446744073709551616 = mca W x y m (i + 1) := by
  rw [Nat.add_zero, two_div (by omega), mca_succ W0, W_eq]
theorem wadd_nat {a b c : Nat} (h : a + b = c) (hc : c < 18446744073709551616) : IntKind.u64.wrap ((a : Int) + (b : Int)) = (c : Int) := by
  rw [IntKind.wrap_u64, ← Int.natCast_add, h, Int.emod_eq_of_lt (by omega) (by omega)]
set_option maxHeartbeats 1000000 in
theorem Put_c (A : Option Addr) (c x y m B : Nat) (w : World) (hy : y < 18446744073709551616) (hm : m < 18446744073709551616) (hL : nd W x ≤ 1000000000) (hr : Row w B A x (nd W x)) (hBs : B ≤ w.heap.size) :
    Calls Tryz.prog 46 #[.slice A (nd W x) c, .int .u64 (y : Nat), .int .u64 (m : Nat)] w (NumPost (x * y + m) w) := by
  obtain ⟨i0, hi0, hz0, hz1, hz2⟩ := info_parts (P := Tryz.prog) (e := 64) (z := .int .u64 0) (size := 1) (bytes := 8) (by kernel_rfl)
  have HR := Lib.hid hr
  have HA := Lib.hid (lt_nd (n := x) W2)
  clear hr
  go_enter Tryz.func46, Tryz.ntmps46
  go_wp2_with (at_make; go_loud (refine wpList_make_zero _ rfl (.tmp 15) (.tmp 15) _ rfl 64 i0 _ Tryz.underlying80 hi0 hz0 hz1 .i64 .i64 _ _ (nd W x + 1) rfl rfl (by omega) (by omega) (by rw [hz2]; omega) (by unfold maxLen; omega) ?_))
  rw [wcells_made]
  have HB0 := Lib.hid (Blk.new w 64 (wcells 0 (nd W x + 1)))
  have hbl : Below w.heap.size w (w.alloc (.cells (wcells 0 (nd W x + 1)) 64)) := (Below.refl _ _).alloc (Nat.le_refl _) _
  generalize w.alloc (.cells (wcells 0 (nd W x + 1)) 64) = w1 at *
  obtain ⟨g, hg⟩ : ∃ g, g = w.heap.size := ⟨_, rfl⟩
  rw [← hg] at HB0 hbl hBs ⊢
  have HG := Lib.hid hg
  clear hg
  go_loopw [2, 19] (fun cy i wr => ∃ k : Nat, k ≤ nd W x ∧ i = .int .i64 k ∧ cy = .int .u64 (mca W x y m k : Nat) ∧ Hid (Blk wr g 64 (wcells ((x * y + m) % W ^ k) (nd W x + 1))) ∧ Below g w wr) (fun _ i _ => nd W x - (intOf i).toNat)
  case atStart => exact ⟨0, Nat.zero_le _, rfl, by rw [mca_zero], by rw [mod_one]; exact HB0, hbl⟩
  case round =>
    obtain ⟨k, hk, rfl, rfl, hblk, hb⟩ := hrel
    have hy' : y < W := by rw [W_eq]; exact hy
    have hm' : m < W := by rw [W_eq]; exact hm
    by_cases hlt : k < nd W x
    · obtain ⟨ga, rfl, hga, hca⟩ := HR.out.at_ hlt
      have hca2 := (hb.cell (p := ⟨ga, k, none⟩) (by show ga < g; omega)).trans hca
      have hfz := hblk.out.frozen k
      have hck := hblk.out.cell k
      rw [wcells_get _ _ _ (by omega)] at hck
      have hc1 : mca W x y m (k + 1) < 18446744073709551616 := Nat.lt_of_lt_of_eq (mca_lt W0 x y m (k + 1) hy' hm') W_eq
      have hadd : ∀ w, (callFunc 81 #[.int .u64 (dgt W x k * y % 18446744073709551616 : Nat), .int .u64 (mca W x y m k : Nat), .int .u64 0]).run Tryz.prog w = .ok (.value (.tuple #[.int .u64 (dgt W (x * y + m) k : Nat), .int .u64 ((dgt W x k * y % 18446744073709551616 + mca W x y m k + 0) / 18446744073709551616 : Nat)])) w := fun w => by
        have h := Tryz.bits_Add64 (dgt W x k * y % 18446744073709551616) (mca W x y m k) 0 (by omega) w
        rw [mca_low] at h
        exact h
      have hcar : IntKind.u64.wrap (((dgt W x k * y / 18446744073709551616 : Nat) : Int) + (((dgt W x k * y % 18446744073709551616 + mca W x y m k + 0) / 18446744073709551616 : Nat) : Int)) = ((mca W x y m (k + 1) : Nat) : Int) := wadd_nat (mca_high x y m k) hc1
      have hmul := Tryz.bits_Mul64 (dgt W x k) y (wd_lt _ _) hy
      have HB1 := Lib.hid (hblk.out.set_ k (.int .u64 (dgt W (x * y + m) k : Nat)))
      rw [wcells_set _ _ _ _ (wd_lt _ _), put_sum] at HB1
      have hb1 := hb.setCell (p := ⟨g, k, none⟩) (Nat.le_refl _) (.int .u64 (dgt W (x * y + m) k : Nat))
      clear hca
      generalize dgt W x k * y / 18446744073709551616 = hi at *
      generalize (dgt W x k * y % 18446744073709551616 + mca W x y m k + 0) / 18446744073709551616 = c1 at *
      generalize dgt W x k * y % 18446744073709551616 = lo at *
      have HM := Lib.hid hmul
      clear hmul hc1 hy' hm'
      go_wp2_with (first | simp only [hadd] | (go_at_call 80; refine (HM.out _).mono ?_; rintro e w' ⟨rfl, rfl⟩))
      go_roundw
      case rel => exact ⟨k + 1, by omega, by go_num, rfl, HB1, hb1⟩
      case measure => simp [intOf]; omega
    · obtain rfl : k = nd W x := by omega
      have hfz := hblk.out.frozen (nd W x)
      have hck := hblk.out.cell (nd W x)
      rw [wcells_get _ _ _ (by omega)] at hck
      rw [mca_last W2 x y m _ HA.out hy' hm']
      have hs : x * y + m < W ^ (nd W x + 1) := by
        have h1 := HA.out
        rw [Nat.pow_succ]
        have h2 : (x + 1) * (y + 1) ≤ W ^ nd W x * W := Nat.mul_le_mul h1 hy'
        have h3 : x * (y + 1) ≤ x * W := Nat.mul_le_mul_left _ hy'
        have h4 : (x + 1) * W ≤ W ^ nd W x * W := Nat.mul_le_mul_right _ h1
        rw [Nat.add_mul] at h4
        have h5 : x * y ≤ x * W := Nat.mul_le_mul_left _ (by omega)
        omega
      have HB1 := hblk.out.set_ (nd W x) (.int .u64 (dgt W (x * y + m) (nd W x) : Nat))
      rw [wcells_set _ _ _ _ (wd_lt _ _), put_sum, Nat.mod_eq_of_lt hs] at HB1
      have HB1' := Lib.hid HB1
      have hb1 := hb.setCell (p := ⟨g, nd W x, none⟩) (Nat.le_refl _) (.int .u64 (dgt W (x * y + m) (nd W x) : Nat))
      have HS := Lib.hid hs
      clear HB1 hs hy' hm'
      go_wp2_with fail
      refine (Cut_c (some ⟨g, 0, none⟩) (nd W x + 1) (nd W x + 1) (x * y + m) (g + 1) _ HS.out (Nat.le_refl _) (by omega) (Row.of_blk HB1'.out (by omega))).mono ?_
      rintro e w' ⟨rfl, rfl⟩
      go_wp2
      go_ret
      have hnd := nd_le W2 HS.out
      exact NumPost.mk hnd ((Row.of_blk HB1'.out HB1'.out.lt).less hnd) (by rw [← HG.out]; exact hb1)
end Go.Proofs.YtdfnejpfpkaplaaGreatDoor
namespace Go.Proofs.YtdfnejpfpkaplaaGreatDoor
open Go Go.RowKit Nt
@[irreducible] def b32 (x : Nat) : Bool := decide (4294967296 ≤ x)
theorem b32_true {x : Nat} (h : 4294967296 ≤ x) : b32 x = true := by unfold b32; exact decide_eq_true_iff.2 h
theorem b32_false {x : Nat} (h : ¬ 4294967296 ≤ x) : b32 x = false := by unfold b32; exact decide_eq_false_iff_not.2 h
@[local go_sem] theorem ge_b32 (x : Nat) : decide ((4294967296 : Int) ≤ (x : Int)) = b32 x := by
  unfold b32; rw [Bool.eq_iff_iff, decide_eq_true_iff, decide_eq_true_iff]; omega
theorem wrap_nat (z : Int) : ∃ n : Nat, IntKind.u64.wrap z = (n : Int) := by
  refine ⟨(IntKind.u64.wrap z).toNat, ?_⟩
  rw [IntKind.wrap_u64]; omega
theorem wrap_r (u c Q Y : Nat) (h : Q * Y ≤ u * 4294967296 + c) (h2 : u * 4294967296 + c - Q * Y < 18446744073709551616) :
    IntKind.u64.wrap (IntKind.u64.wrap (IntKind.u64.wrap ((u : Int) * 4294967296) + (c : Int)) - IntKind.u64.wrap ((Q : Int) * (Y : Int))) = ((u * 4294967296 + c - Q * Y : Nat) : Int) := by
  rw [← Int.natCast_mul]
  simp only [IntKind.wrap_u64]
  generalize Q * Y = p at *
  omega
theorem Div64_small (lo y : Nat) (w : World) (h0 : 0 < y) (hy : y < 18446744073709551616) (hlo : lo < 18446744073709551616) :
    Calls Tryz.prog 75 #[.int .u64 0, .int .u64 (lo : Nat), .int .u64 (y : Nat)] w fun e w' => e = .returned (.tuple #[.int .u64 (lo / y : Nat), .int .u64 (lo % y : Nat)]) ∧ ∃ n, w' = w.drewN n := by
  have hz := eqz_false (x := y) (by omega)
  have hle : ¬ ((y : Int) ≤ 0) := by omega
  have hq := Nat.div_le_self lo y
  have hr := Nat.mod_le lo y
  have e1 : ((lo / y : Nat) : Int) = (lo : Int) / (y : Int) := Int.natCast_ediv _ _
  have e2 : ((lo % y : Nat) : Int) = (lo : Int) % (y : Int) := Int.natCast_emod _ _
  have HQ := Lib.hid e1
  have HR := Lib.hid e2
  clear e1 e2
  go_enter Tryz.func75, Tryz.ntmps75
  go_wp2
  go_quiet (fail)
  go_wp2
  rw [← HR.out, ← HQ.out, IntKind.wrap_u64, Int.emod_eq_of_lt (Int.natCast_nonneg _) (by omega)]
  go_ret2
  exact ⟨rfl, nq, rfl⟩
set_option maxHeartbeats 2000000 in
theorem Div64_big (hi lo y s Y yh yl u V c d q p r : Nat) (w : World) (h0 : hi ≠ 0) (hhy : hi < y) (hy : y < 18446744073709551616) (hlo : lo < 18446744073709551616)
    (hs : Go.Lib.bitLen y + s = 64) (hs64 : s < 64) (hY : IntKind.u64.wrap ((y : Int) * 2 ^ s) = (Y : Int)) (hyh : (Y : Int) / 4294967296 = (yh : Int)) (hyl : bits .and .u64 (Y : Int) 4294967295 = (yl : Int))
    (hyh0 : ¬ yh = 0) (hu : bits .or .u64 (IntKind.u64.wrap ((hi : Int) * 2 ^ s)) ((lo : Int) / 2 ^ (64 - s)) = (u : Int))
    (hV : IntKind.u64.wrap ((lo : Int) * 2 ^ s) = (V : Int)) (hc : (V : Int) / 4294967296 = (c : Int)) (hd : bits .and .u64 (V : Int) 4294967295 = (d : Int))
    (hq : IntKind.u64.wrap ((u : Int) / (yh : Int)) = (q : Int)) (hp : IntKind.u64.wrap ((q : Int) * (yh : Int)) = (p : Int)) (hr : IntKind.u64.wrap ((u : Int) - (p : Int)) = (r : Int))
    (HG15 : Hid (Gss u c yh yl q r)) (HU15 : Hid (u < yh * 4294967296 + yl)) (HCc : Hid (c < 4294967296)) (HCd : Hid (d < 4294967296)) (HYH : Hid (yh < 4294967296)) (HYL : Hid (yl < 4294967296)) (HYP : Hid (0 < yh)) (HYB : Hid (2147483648 ≤ yh)) (HYS : Hid (Y = yh * 4294967296 + yl)) (HYM : Hid (Y < 18446744073709551616)) (HVS : Hid (V = c * 4294967296 + d)) (HYY : Hid (Y = y * 2 ^ s)) (HX : Hid (u * 18446744073709551616 + V = (hi * 18446744073709551616 + lo) * 2 ^ s)) :
    Calls Tryz.prog 75 #[.int .u64 (hi : Nat), .int .u64 (lo : Nat), .int .u64 (y : Nat)] w fun e w' => e = .returned (.tuple #[.int .u64 ((hi * 18446744073709551616 + lo) / y : Nat), .int .u64 ((hi * 18446744073709551616 + lo) % y : Nat)]) ∧ ∃ n, w' = w.drewN n := by
  have hz := eqz_false (x := y) (by omega)
  have hz2 := eqz_false (x := hi) (by omega)
  have hle : ¬ (y ≤ hi) := by omega
  have hlz : ∀ w, Calls Tryz.prog 108 #[.int .u64 (y : Nat)] w fun e w' => e = .returned (.int .i64 (s : Nat)) ∧ w = w' := fun w => by
    refine (Tryz.bits_LeadingZeros64 _ _ (by omega) (by omega)).mono ?_
    rintro e w' ⟨rfl, rfl⟩
    refine ⟨ret_int ?_, rfl⟩
    rw [Int.toNat_natCast]; omega
  have HLZ := Lib.hid hlz
  clear hlz
  have hs1 : IntKind.u64.wrap (s : Int) = (s : Int) := by rw [IntKind.wrap_u64]; omega
  have hs2 : IntKind.u64.wrap (64 - (s : Int)) = ((64 - s : Nat) : Int) := by rw [IntKind.wrap_u64]; omega
  go_enter Tryz.func75, Tryz.ntmps75
  go_upto_block 0 with (first | (go_at_call 108; refine (HLZ.out _).mono ?_; rintro e w' ⟨rfl, rfl⟩))
  go_cut [15, 16] (fun x _ wx => x = .int .u64 (((u * 4294967296 + c) / (yh * 4294967296 + yl) : Nat) : Int) ∧ wx = w)
  case first =>
    go_wp2_with fail
    go_loop [15, 16] (fun x z => ∃ q r : Nat, x = .int .u64 q ∧ z = .int .u64 r ∧ Hid (Gss u c yh yl q r)) (fun x _ => (intOf x).toNat)
    case atStart => exact ⟨_, _, rfl, rfl, HG15⟩
    case round =>
      obtain ⟨q, r, rfl, rfl, hg⟩ := hrel
      have hr : r < 4294967296 := hg.out.2.2.2
      obtain ⟨o, ho⟩ : ∃ o, o = 4294967296 * r := ⟨_, rfl⟩
      have ho1 : IntKind.u64.wrap (4294967296 * (r : Int)) = (o : Int) := by rw [IntKind.wrap_u64]; omega
      obtain ⟨t, ht⟩ : ∃ t, t = o + c := ⟨_, rfl⟩
      have ht1 : IntKind.u64.wrap ((o : Int) + (c : Int)) = (t : Int) := by rw [IntKind.wrap_u64]; have := HCc.out; omega
      obtain ⟨r', hr'⟩ : ∃ r', r' = r + yh := ⟨_, rfl⟩
      have hr1 : IntKind.u64.wrap ((r : Int) + (yh : Int)) = (r' : Int) := by rw [IntKind.wrap_u64]; have := HYH.out; omega
      have HO := Lib.hid ho
      have HT := Lib.hid ht
      have HR' := Lib.hid hr'
      have HRR := Lib.hid hr
      clear ho ht hr' hr
      by_cases hbig : 4294967296 ≤ q
      · have hbI := b32_true hbig
        have hn := gss_next hg.out HU15.out HCc.out HYH.out (Or.inl hbig)
        obtain ⟨q', hq'⟩ : ∃ q', q' = q - 1 := ⟨_, rfl⟩
        have hq1 : IntKind.u64.wrap ((q : Int) - 1) = (q' : Int) := by rw [IntKind.wrap_u64]; have := hn.2.2.2; omega
        rw [← hq'] at hn
        have hlt : q' < q := by omega
        have HQ' := Lib.hid hq'
        have HN := Lib.hid hn
        have HBIG := Lib.hid hbig
        clear hq' hn hbig
        by_cases hrb : 4294967296 ≤ r'
        · have hrB := b32_true hrb
          have HRB := Lib.hid hrb
          clear hrb
          go_wp2
          go_meet
          exact ⟨by rw [gss_end (q := q') (r := r') (u := u) (c := c) (by rw [HR'.out]; exact HN.out.2.1) HN.out.2.2.1 HYP.out (gss_far HN.out.2.2.2 HYL.out HRB.out)], rfl⟩
        · have hrB := b32_false hrb
          have HRB := Lib.hid hrb
          clear hrb
          go_wp2
          go_round
          case rel => exact ⟨q', r', rfl, rfl, Lib.hid ⟨by rw [HR'.out]; exact HN.out.2.1, HN.out.2.2.1, by have := HN.out.2.2.2; omega, by have := HRB.out; omega⟩⟩
          case measure => simp [intOf]; omega
      · have hbI := b32_false hbig
        have HQS := Lib.hid (show q < 4294967296 by omega)
        clear hbig
        obtain ⟨p, hp⟩ : ∃ p, p = q * yl := ⟨_, rfl⟩
        have hp1 : IntKind.u64.wrap ((q : Int) * (yl : Int)) = (p : Int) := by
          rw [← Int.natCast_mul, ← hp, IntKind.wrap_u64]
          have h1 : q * yl ≤ 4294967295 * 4294967295 := Nat.mul_le_mul (by have := HQS.out; omega) (by have := HYL.out; omega)
          omega
        have HP := Lib.hid hp
        clear hp
        by_cases hpt : t < p
        · have hn := gss_next hg.out HU15.out HCc.out HYH.out (Or.inr (by have := HO.out; have := HT.out; have := HP.out; omega))
          obtain ⟨q', hq'⟩ : ∃ q', q' = q - 1 := ⟨_, rfl⟩
          have hq1 : IntKind.u64.wrap ((q : Int) - 1) = (q' : Int) := by rw [IntKind.wrap_u64]; have := hn.1; omega
          rw [← hq'] at hn
          have hlt : q' < q := by have := hn.1; omega
          have HQ' := Lib.hid hq'
          have HN := Lib.hid hn
          clear hq' hn
          by_cases hrb : 4294967296 ≤ r'
          · have hrB := b32_true hrb
            have HRB := Lib.hid hrb
            clear hrb
            go_wp2
            go_meet
            exact ⟨by rw [gss_end (q := q') (r := r') (u := u) (c := c) (by rw [HR'.out]; exact HN.out.2.1) HN.out.2.2.1 HYP.out (gss_far HN.out.2.2.2 HYL.out HRB.out)], rfl⟩
          · have hrB := b32_false hrb
            have HRB := Lib.hid hrb
            clear hrb
            go_wp2
            go_round
            case rel => exact ⟨q', r', rfl, rfl, Lib.hid ⟨by rw [HR'.out]; exact HN.out.2.1, HN.out.2.2.1, by have := HN.out.2.2.2; omega, by have := HRB.out; omega⟩⟩
            case measure => simp [intOf]; omega
        · go_wp2
          go_meet
          exact ⟨by rw [gss_end (q := q) (r := r) (u := u) (c := c) hg.out.1 hg.out.2.1 HYP.out (by have := HO.out; have := HT.out; have := HP.out; omega)], rfl⟩
  case rest =>
    obtain ⟨rfl, rfl⟩ := hcut
    obtain ⟨Q, hQ⟩ : ∃ Q, Q = (u * 4294967296 + c) / (yh * 4294967296 + yl) := ⟨_, rfl⟩
    rw [← hQ]
    have hYS := HYS.out
    have hQY : Q * Y ≤ u * 4294967296 + c := by rw [hQ, hYS]; exact Nat.div_mul_le_self _ _
    have hRY : u * 4294967296 + c - Q * Y < Y := by
      have h1 := Nat.div_add_mod (u * 4294967296 + c) Y
      have h2 := Nat.mod_lt (u * 4294967296 + c) (show 0 < Y by have := HYP.out; omega)
      rw [← hYS] at hQ
      rw [← hQ, Nat.mul_comm] at h1; omega
    obtain ⟨R, hR⟩ : ∃ R, R = u * 4294967296 + c - Q * Y := ⟨_, rfl⟩
    obtain ⟨a1, ha1⟩ := wrap_nat ((u : Int) * 4294967296)
    obtain ⟨a2, ha2⟩ := wrap_nat ((a1 : Int) + (c : Int))
    obtain ⟨a3, ha3⟩ := wrap_nat ((Q : Int) * (Y : Int))
    have ha4 : IntKind.u64.wrap ((a2 : Int) - (a3 : Int)) = (R : Int) := by
      rw [hR, ← ha2, ← ha3, ← ha1]; exact wrap_r u c Q Y hQY (by have := HYM.out; omega)
    obtain ⟨q2, hq2⟩ := wrap_nat ((R : Int) / (yh : Int))
    obtain ⟨p2, hp2⟩ := wrap_nat ((q2 : Int) * (yh : Int))
    obtain ⟨r2, hr2⟩ := wrap_nat ((R : Int) - (p2 : Int))
    have HU18 := Lib.hid (show R < yh * 4294967296 + yl by rw [hR, ← hYS]; exact hRY)
    have HG18 : Hid (Gss R d yh yl q2 r2) := by
      have h := gss_start HU18.out HCd.out HYL.out HYB.out HYH.out
      have e1 : q2 = R / yh := by
        have h1 := Nat.div_le_self R yh
        rw [IntKind.wrap_u64, ← Int.natCast_ediv] at hq2
        generalize R / yh = z at *
        have := HYM.out; omega
      have e2 : p2 = R / yh * yh := by
        have h1 := Nat.div_mul_le_self R yh
        rw [IntKind.wrap_u64, ← Int.natCast_mul, e1] at hp2
        generalize R / yh * yh = z at *
        have := HYM.out; omega
      have e3 : r2 = R - R / yh * yh := by
        have h1 := Nat.div_mul_le_self R yh
        rw [IntKind.wrap_u64, e2] at hr2
        generalize R / yh * yh = z at *
        have := HYM.out; omega
      rw [e1, e3]; exact Lib.hid h
    obtain ⟨Q2, hQ2⟩ : ∃ Q2, Q2 = (R * 4294967296 + d) / (yh * 4294967296 + yl) := ⟨_, rfl⟩
    have hQY2 : Q2 * Y ≤ R * 4294967296 + d := by rw [hQ2, hYS]; exact Nat.div_mul_le_self _ _
    have hQ2Y : Q2 = (R * 4294967296 + d) / Y := by rw [hQ2, hYS]
    have hmodR : R * 4294967296 + d - Q2 * Y = (R * 4294967296 + d) % Y := by
      have h1 := Nat.div_add_mod (R * 4294967296 + d) Y
      rw [← hQ2Y, Nat.mul_comm] at h1; omega
    obtain ⟨b1, hb1⟩ := wrap_nat ((Q : Int) * 4294967296)
    obtain ⟨b2, hb2⟩ := wrap_nat ((b1 : Int) + (Q2 : Int))
    obtain ⟨b3, hb3⟩ := wrap_nat ((R : Int) * 4294967296)
    obtain ⟨b4, hb4⟩ := wrap_nat ((b3 : Int) + (d : Int))
    obtain ⟨b5, hb5⟩ := wrap_nat ((Q2 : Int) * (Y : Int))
    have hY0 : 0 < Y := by have := HYP.out; omega
    have hR2Y : (R * 4294967296 + d) % Y < Y := Nat.mod_lt _ hY0
    obtain ⟨b6, hb6⟩ : ∃ b6, b6 = (R * 4294967296 + d) % Y := ⟨_, rfl⟩
    have hb6' : IntKind.u64.wrap ((b4 : Int) - (b5 : Int)) = (b6 : Int) := by
      rw [hb6, ← hmodR, ← hb4, ← hb5, ← hb3]; exact wrap_r R d Q2 Y hQY2 (by rw [hmodR]; exact Nat.lt_trans hR2Y HYM.out)
    obtain ⟨b7, hb7⟩ : ∃ b7, b7 = b6 / 2 ^ s := ⟨_, rfl⟩
    have hb7' : (b6 : Int) / 2 ^ s = (b7 : Int) := by rw [hb7, Int.natCast_ediv, Int.natCast_pow]; rfl
    have hFin : b2 = (hi * 18446744073709551616 + lo) / y ∧ b7 = (hi * 18446744073709551616 + lo) % y := by
      have h2 := two_steps u c d Y hY0 HCd.out
      have hRm : (u * 4294967296 + c) % Y = R := by
        have h1 := Nat.div_add_mod (u * 4294967296 + c) Y
        rw [← hYS] at hQ
        rw [← hQ, Nat.mul_comm] at h1; omega
      have hQY' : (u * 4294967296 + c) / Y = Q := by rw [hYS]; exact hQ.symm
      rw [hRm, hQY', ← hQ2Y, ← HVS.out, HX.out, HYY.out] at h2
      have h3 := scale_div (hi * 18446744073709551616 + lo) y (2 ^ s) (Nat.two_pow_pos s)
      rw [h3.1] at h2
      have hlt : (hi * 18446744073709551616 + lo) / y < 18446744073709551616 := by
        rw [Nat.div_lt_iff_lt_mul (by omega)]; omega
      constructor
      · rw [IntKind.wrap_u64] at hb1 hb2
        have := h2.1
        omega
      · rw [hb7, hb6, HYY.out, ← h3.2, ← h2.2]
    have HFIN := Lib.hid hFin
    have HQ2 := Lib.hid hQ2
    clear hQ hQY hRY hR hYS hQ2 hQY2 hQ2Y hmodR hY0 hR2Y hb6 hb7 hFin
    go_upto_block 2 with fail
    go_cut [18, 16] (fun x _ wx => x = .int .u64 (((R * 4294967296 + d) / (yh * 4294967296 + yl) : Nat) : Int) ∧ wx = wc)
    case first =>
      go_wp2_with fail
      go_loop [18, 16] (fun x z => ∃ q r : Nat, x = .int .u64 q ∧ z = .int .u64 r ∧ Hid (Gss R d yh yl q r)) (fun x _ => (intOf x).toNat)
      case atStart => exact ⟨_, _, rfl, rfl, HG18⟩
      case round =>
        obtain ⟨q, r, rfl, rfl, hg⟩ := hrel
        have hr : r < 4294967296 := hg.out.2.2.2
        obtain ⟨o, ho⟩ : ∃ o, o = 4294967296 * r := ⟨_, rfl⟩
        have ho1 : IntKind.u64.wrap (4294967296 * (r : Int)) = (o : Int) := by rw [IntKind.wrap_u64]; omega
        obtain ⟨t, ht⟩ : ∃ t, t = o + d := ⟨_, rfl⟩
        have ht1 : IntKind.u64.wrap ((o : Int) + (d : Int)) = (t : Int) := by rw [IntKind.wrap_u64]; have := HCd.out; omega
        obtain ⟨r', hr'⟩ : ∃ r', r' = r + yh := ⟨_, rfl⟩
        have hr1 : IntKind.u64.wrap ((r : Int) + (yh : Int)) = (r' : Int) := by rw [IntKind.wrap_u64]; have := HYH.out; omega
        have HO := Lib.hid ho
        have HT := Lib.hid ht
        have HR' := Lib.hid hr'
        have HRR := Lib.hid hr
        clear ho ht hr' hr
        by_cases hbig : 4294967296 ≤ q
        · have hbI := b32_true hbig
          have hn := gss_next hg.out HU18.out HCd.out HYH.out (Or.inl hbig)
          obtain ⟨q', hq'⟩ : ∃ q', q' = q - 1 := ⟨_, rfl⟩
          have hq1 : IntKind.u64.wrap ((q : Int) - 1) = (q' : Int) := by rw [IntKind.wrap_u64]; have := hn.2.2.2; omega
          rw [← hq'] at hn
          have hlt : q' < q := by omega
          have HQ' := Lib.hid hq'
          have HN := Lib.hid hn
          have HBIG := Lib.hid hbig
          clear hq' hn hbig
          by_cases hrb : 4294967296 ≤ r'
          · have hrB := b32_true hrb
            have HRB := Lib.hid hrb
            clear hrb
            go_wp2
            go_meet
            exact ⟨by rw [gss_end (q := q') (r := r') (u := R) (c := d) (by rw [HR'.out]; exact HN.out.2.1) HN.out.2.2.1 HYP.out (gss_far HN.out.2.2.2 HYL.out HRB.out)], rfl⟩
          · have hrB := b32_false hrb
            have HRB := Lib.hid hrb
            clear hrb
            go_wp2
            go_round
            case rel => exact ⟨q', r', rfl, rfl, Lib.hid ⟨by rw [HR'.out]; exact HN.out.2.1, HN.out.2.2.1, by have := HN.out.2.2.2; omega, by have := HRB.out; omega⟩⟩
            case measure => simp [intOf]; omega
        · have hbI := b32_false hbig
          have HQS := Lib.hid (show q < 4294967296 by omega)
          clear hbig
          obtain ⟨p, hp⟩ : ∃ p, p = q * yl := ⟨_, rfl⟩
          have hp1 : IntKind.u64.wrap ((q : Int) * (yl : Int)) = (p : Int) := by
            rw [← Int.natCast_mul, ← hp, IntKind.wrap_u64]
            have h1 : q * yl ≤ 4294967295 * 4294967295 := Nat.mul_le_mul (by have := HQS.out; omega) (by have := HYL.out; omega)
            omega
          have HP := Lib.hid hp
          clear hp
          by_cases hpt : t < p
          · have hn := gss_next hg.out HU18.out HCd.out HYH.out (Or.inr (by have := HO.out; have := HT.out; have := HP.out; omega))
            obtain ⟨q', hq'⟩ : ∃ q', q' = q - 1 := ⟨_, rfl⟩
            have hq1 : IntKind.u64.wrap ((q : Int) - 1) = (q' : Int) := by rw [IntKind.wrap_u64]; have := hn.1; omega
            rw [← hq'] at hn
            have hlt : q' < q := by have := hn.1; omega
            have HQ' := Lib.hid hq'
            have HN := Lib.hid hn
            clear hq' hn
            by_cases hrb : 4294967296 ≤ r'
            · have hrB := b32_true hrb
              have HRB := Lib.hid hrb
              clear hrb
              go_wp2
              go_meet
              exact ⟨by rw [gss_end (q := q') (r := r') (u := R) (c := d) (by rw [HR'.out]; exact HN.out.2.1) HN.out.2.2.1 HYP.out (gss_far HN.out.2.2.2 HYL.out HRB.out)], rfl⟩
            · have hrB := b32_false hrb
              have HRB := Lib.hid hrb
              clear hrb
              go_wp2
              go_round
              case rel => exact ⟨q', r', rfl, rfl, Lib.hid ⟨by rw [HR'.out]; exact HN.out.2.1, HN.out.2.2.1, by have := HN.out.2.2.2; omega, by have := HRB.out; omega⟩⟩
              case measure => simp [intOf]; omega
          · go_wp2
            go_meet
            exact ⟨by rw [gss_end (q := q) (r := r) (u := R) (c := d) hg.out.1 hg.out.2.1 HYP.out (by have := HO.out; have := HT.out; have := HP.out; omega)], rfl⟩
    case rest =>
      obtain ⟨rfl, rfl⟩ := hcut
      rw [← HQ2.out]
      go_wp2
      go_ret2
      obtain ⟨e1, e2⟩ := HFIN.out
      exact ⟨by rw [e1, e2]; rfl, 0, rfl⟩
theorem Div64_c (hi lo y : Nat) (w : World) (hhy : hi < y) (hy : y < 18446744073709551616) (hlo : lo < 18446744073709551616) :
    Calls Tryz.prog 75 #[.int .u64 (hi : Nat), .int .u64 (lo : Nat), .int .u64 (y : Nat)] w fun e w' => e = .returned (.tuple #[.int .u64 ((hi * 18446744073709551616 + lo) / y : Nat), .int .u64 ((hi * 18446744073709551616 + lo) % y : Nat)]) ∧ ∃ n, w' = w.drewN n := by
  by_cases h0 : hi = 0
  · subst h0
    have h := Div64_small lo y w (by omega) hy hlo
    rw [Nat.zero_mul, Nat.zero_add]
    exact h
  · have hbl := bitLen_nd hy
    have hn := nd_le (b := 2) (n := y) (k := 64) (by omega) hy
    obtain ⟨s, hs⟩ : ∃ s, s = 64 - nd 2 y := ⟨_, rfl⟩
    have hy0 : y ≠ 0 := by omega
    have hnd0 : nd 2 y ≠ 0 := fun c => hy0 ((nd_eq_zero (by omega)).1 c)
    have h1 := lt_nd (b := 2) (n := y) (by omega)
    have h2 := (pow_le_iff (b := 2) (by omega) (nd 2 y - 1) y).2 (by omega)
    obtain ⟨Y, hY⟩ : ∃ Y, Y = y * 2 ^ s := ⟨_, rfl⟩
    have e64 : (2 : Nat) ^ nd 2 y * 2 ^ s = 18446744073709551616 := by rw [← Nat.pow_add, show nd 2 y + s = 64 by omega]
    have e63 : (2 : Nat) ^ (nd 2 y - 1) * 2 ^ s = 9223372036854775808 := by rw [← Nat.pow_add, show nd 2 y - 1 + s = 63 by omega]
    have hYM : Y < 18446744073709551616 := by rw [hY, ← e64]; exact (Nat.mul_lt_mul_right (Nat.two_pow_pos s)).2 h1
    have hYB : 9223372036854775808 ≤ Y := by rw [hY, ← e63]; exact Nat.mul_le_mul_right _ h2
    have hhi : hi * 2 ^ s < 18446744073709551616 := by
      refine Nat.lt_trans ?_ hYM; rw [hY]; exact (Nat.mul_lt_mul_right (Nat.two_pow_pos s)).2 hhy
    obtain ⟨p1, p2, p3⟩ := shl_two hi lo s (by omega) hlo hhi
    obtain ⟨u, hu⟩ : ∃ u, u = hi * 2 ^ s + lo / 2 ^ (64 - s) := ⟨_, rfl⟩
    obtain ⟨V, hV⟩ : ∃ V, V = lo * 2 ^ s % 18446744073709551616 := ⟨_, rfl⟩
    rw [← hu, ← hV] at p3
    rw [← hu] at p1 p2
    have hVM : V < 18446744073709551616 := by rw [hV]; exact Nat.mod_lt _ (by omega)
    have huY : u < Y := by
      have h3 : (hi * 18446744073709551616 + lo) * 2 ^ s < Y * 18446744073709551616 := by
        rw [hY, Nat.mul_right_comm]; exact (Nat.mul_lt_mul_right (Nat.two_pow_pos s)).2 (by omega)
      omega
    obtain ⟨yh, hyh⟩ : ∃ yh, yh = Y / 4294967296 := ⟨_, rfl⟩
    obtain ⟨yl, hyl⟩ : ∃ yl, yl = Y % 4294967296 := ⟨_, rfl⟩
    obtain ⟨c, hc⟩ : ∃ c, c = V / 4294967296 := ⟨_, rfl⟩
    obtain ⟨d, hd⟩ : ∃ d, d = V % 4294967296 := ⟨_, rfl⟩
    have hg := gss_start (u := u) (c := c) (yh := yh) (yl := yl) (by omega) (by omega) (by omega) (by omega) (by omega)
    have hqh : u / yh ≤ u := Nat.div_le_self _ _
    have hqp : u / yh * yh ≤ u := Nat.div_mul_le_self _ _
    have mask : ∀ x : Nat, x < 18446744073709551616 → bits .and .u64 (x : Int) 4294967295 = ((x % 4294967296 : Nat) : Int) := fun x hx => by
      have h := bits_and_u64_nat x 4294967295 hx (by omega)
      have e : x &&& 4294967295 = x % 4294967296 := Nat.and_two_pow_sub_one_eq_mod x 32
      rw [e] at h; exact h
    have pw : ∀ k : Nat, (2 : Int) ^ k = ((2 ^ k : Nat) : Int) := fun k => by rw [Int.natCast_pow]; rfl
    refine Div64_big hi lo y s Y yh yl u V c d (u / yh) (u / yh * yh) (u - u / yh * yh) w h0 hhy hy hlo (by omega) (by omega) ?_ (by omega) (by rw [mask Y hYM, hyl]) (by omega) ?_ ?_ (by omega) (by rw [mask V hVM, hd]) ?_ ?_ ?_
      (Lib.hid hg) (Lib.hid (by omega)) (Lib.hid (by omega)) (Lib.hid (by omega)) (Lib.hid (by omega)) (Lib.hid (by omega)) (Lib.hid (by omega)) (Lib.hid (by omega)) (Lib.hid (by omega)) (Lib.hid hYM) (Lib.hid (by omega)) (Lib.hid hY) (Lib.hid p3)
    · rw [pw, ← Int.natCast_mul, ← hY, IntKind.wrap_u64]; omega
    · rw [pw, pw, ← Int.natCast_mul, ← Int.natCast_ediv, IntKind.wrap_u64, Int.emod_eq_of_lt (by omega) (by omega), bits_or_u64_nat _ _ hhi (Nat.lt_of_le_of_lt (Nat.div_le_self _ _) hlo), p1]
    · rw [pw, ← Int.natCast_mul, IntKind.wrap_u64, hV]; omega
    · rw [← Int.natCast_ediv, IntKind.wrap_u64]; generalize u / yh = z at *; omega
    · rw [← Int.natCast_mul, IntKind.wrap_u64]; generalize u / yh * yh = z at *; omega
    · rw [IntKind.wrap_u64]; generalize u / yh * yh = z at *; omega
end Go.Proofs.YtdfnejpfpkaplaaGreatDoor
namespace Go.Proofs.YtdfnejpfpkaplaaGreatDoor
open Go Go.RowKit Nt
theorem below_drewN {B : Nat} {a w : World} (h : Below B a w) (n : Nat) : Below B a (w.drewN n) := ⟨h.os, h.tape, h.output, h.size, h.block⟩
@[irreducible] def rst (x y k : Nat) : Nat := x / W ^ k % y
theorem rst_def (x y k : Nat) : rst x y k = x / W ^ k % y := by unfold rst; rfl
def hiV (q k : Nat) : Nat := W ^ k * (q / W ^ k)
theorem hiV_put (q m : Nat) : put W (hiV q (m + 1)) m (dgt W q m) = hiV q m := by
  unfold hiV
  have h0 : dgt W (W ^ (m + 1) * (q / W ^ (m + 1))) m = 0 := by
    have := dgt_add_mul (b := W) W0 0 (q / W ^ (m + 1)) (i := m) (L := m + 1) (by omega)
    rw [Nat.zero_add] at this
    rw [this, dgt_def]; simp
  rw [put_new _ _ _ W0 h0, div_eq_dgt W0 q m, Nat.mul_add, Nat.pow_succ, Nat.mul_assoc, Nat.add_comm]
theorem hiV_zero (q : Nat) : hiV q 0 = q := by unfold hiV; rw [Nat.pow_zero, Nat.one_mul, Nat.div_one]
theorem hiV_top {q L : Nat} (h : q < W ^ L) : hiV q L = 0 := by unfold hiV; rw [Nat.div_eq_of_lt h, Nat.mul_zero]
set_option maxHeartbeats 1000000 in
theorem Take_c (A : Option Addr) (c x y B : Nat) (w : World) (hy0 : y ≠ 0) (hy : y < 18446744073709551616) (hL : nd W x ≤ 1000000000) (hr : Row w B A x (nd W x)) (hBs : B ≤ w.heap.size) :
    Calls Tryz.prog 41 #[.slice A (nd W x) c, .int .u64 (y : Nat)] w fun e w' => ∃ A' c', e = .returned (.tuple #[.slice A' (nd W (x / y)) c', .int .u64 (x % y : Nat)]) ∧ A' = some ⟨w.heap.size, 0, none⟩ ∧ w.heap.size < w'.heap.size ∧ nd W (x / y) ≤ c' ∧ Row w' w'.heap.size A' (x / y) (nd W (x / y)) ∧ Below w.heap.size w w' := by
  obtain ⟨i0, hi0, hz0, hz1, hz2⟩ := info_parts (P := Tryz.prog) (e := 64) (z := .int .u64 0) (size := 1) (bytes := 8) (by kernel_rfl)
  have HR := Lib.hid hr
  have HA := Lib.hid (lt_nd (n := x) W2)
  have HQ := Lib.hid (Nat.lt_of_le_of_lt (Nat.div_le_self x y) (lt_nd (n := x) W2))
  have hw : wrap64 ((nd W x : Int) - 1) = (nd W x : Int) - 1 := IntWalk.wrap64_in _ (by omega)
  clear hr
  go_enter Tryz.func41, Tryz.ntmps41
  go_wp2_with (at_make; go_loud (refine wpList_make_zero _ rfl (.tmp 10) (.tmp 10) _ rfl 64 i0 _ Tryz.underlying80 hi0 hz0 hz1 .i64 .i64 _ _ (nd W x) rfl rfl rfl rfl (by rw [hz2]; omega) (by unfold maxLen; omega) ?_))
  rw [wcells_made]
  have HB0 := Lib.hid (Blk.new w 64 (wcells 0 (nd W x)))
  have hbl : Below w.heap.size w (w.alloc (.cells (wcells 0 (nd W x)) 64)) := (Below.refl _ _).alloc (Nat.le_refl _) _
  generalize w.alloc (.cells (wcells 0 (nd W x)) 64) = w1 at *
  obtain ⟨g, hg⟩ : ∃ g, g = w.heap.size := ⟨_, rfl⟩
  rw [← hg] at HB0 hbl hBs ⊢
  have HG := Lib.hid hg
  clear hg
  go_loopw [7, 8] (fun ρ i wr => ∃ (k : Nat) (z : Int), k ≤ nd W x ∧ i = .int .i64 z ∧ Hid (z = (k : Int) - 1) ∧ ρ = .int .u64 (rst x y k : Nat) ∧ Hid (Blk wr g 64 (wcells (hiV (x / y) k) (nd W x))) ∧ Below g w wr) (fun _ i _ => (intOf i + 1).toNat)
  case atStart => exact ⟨nd W x, _, Nat.le_refl _, rfl, Lib.hid rfl, by rw [rst_def, Nat.div_eq_of_lt HA.out, Nat.zero_mod]; rfl, by rw [hiV_top HQ.out]; exact HB0, hbl⟩
  case round =>
    obtain ⟨k, z, hk, rfl, hz, rfl, hblk, hb⟩ := hrel
    by_cases h0 : k = 0
    · subst h0
      obtain rfl : z = -1 := by have := hz.out; omega
      have HB1 := hblk.out
      rw [hiV_zero] at HB1
      have HB1' := Lib.hid HB1
      clear HB1
      go_wp2_with fail
      refine (Cut_c (some ⟨g, 0, none⟩) (nd W x) (nd W x) (x / y) (g + 1) _ HQ.out (Nat.le_refl _) (by omega) (Row.of_blk HB1'.out (by omega))).mono ?_
      rintro e w' ⟨rfl, rfl⟩
      go_wp2
      go_ret2
      have hnd := nd_le W2 HQ.out
      refine ⟨_, _, ?_, by rw [← HG.out], by rw [← HG.out]; exact HB1'.out.lt, hnd, (Row.of_blk HB1'.out HB1'.out.lt).less hnd, by rw [← HG.out]; exact hb⟩
      have e : rst x y 0 = x % y := by rw [rst_def, Nat.pow_zero, Nat.div_one]
      rw [← e]; rfl
    · obtain ⟨m, rfl⟩ : ∃ m, k = m + 1 := ⟨k - 1, by omega⟩
      obtain rfl : z = (m : Int) := by have := hz.out; omega
      obtain ⟨ga, rfl, hga, hca⟩ := HR.out.at_ (k := m) (by omega)
      have hca2 := (hb.cell (p := ⟨ga, m, none⟩) (by show ga < g; omega)).trans hca
      have hmL : m < nd W x := by omega
      have hw' : wrap64 ((m : Int) - 1) = (m : Int) - 1 := IntWalk.wrap64_in _ (by omega)
      have hdiv : ∀ w, Calls Tryz.prog 75 #[.int .u64 (rst x y (m + 1) : Nat), .int .u64 (dgt W x m : Nat), .int .u64 (y : Nat)] w fun e w' => e = .returned (.tuple #[.int .u64 (dgt W (x / y) m : Nat), .int .u64 (rst x y m : Nat)]) ∧ ∃ n, w' = w.drewN n := fun w => by
        refine (Div64_c _ _ _ _ (by rw [rst_def]; exact Nat.mod_lt _ (by omega)) hy (wd_lt _ _)).mono ?_
        rintro e w' ⟨rfl, h⟩
        refine ⟨?_, h⟩
        rw [rst_def, rst_def, ← take_quo W0 x y m (by omega), ← take_rest W0 x y m, W_eq]
      have HD := Lib.hid hdiv
      clear hdiv hca
      go_wp2_with (go_at_call 75; refine (HD.out _).mono ?_; rintro e w' ⟨rfl, nn, rfl⟩; have hfz := (hblk.out.drewN nn).frozen m; have hck := (hblk.out.drewN nn).cell m; rw [wcells_get _ _ _ hmL] at hck)
      have HB1 := Lib.hid ((hblk.out.drewN nn).set_ m (.int .u64 (dgt W (x / y) m : Nat)))
      rw [wcells_set _ _ _ _ (wd_lt _ _), hiV_put] at HB1
      have hb1 := (below_drewN hb nn).setCell (p := ⟨g, m, none⟩) (Nat.le_refl _) (.int .u64 (dgt W (x / y) m : Nat))
      go_roundw
      case rel => exact ⟨m, _, by omega, rfl, Lib.hid rfl, rfl, HB1, hb1⟩
      case measure => simp [intOf]
end Go.Proofs.YtdfnejpfpkaplaaGreatDoor
namespace Go.Proofs.YtdfnejpfpkaplaaGreatDoor
open Go Go.RowKit Nt
def Strs (w : World) (A : Option Addr) (ss : List ByteArray) : Prop := 0 < ss.length → ∃ ad, A = some ad ∧ ∀ j (h : j < ss.length), w.cell? (ad.add j) = some (.string ss[j])
theorem Strs.at_ {w : World} {A : Option Addr} {ss : List ByteArray} (h : Strs w A ss) {k : Nat} (hk : k < ss.length) : ∃ ad, A = some ad ∧ w.cell? (ad.add k) = some (.string ss[k]) := by
  obtain ⟨ad, e, hc⟩ := h (by omega); exact ⟨ad, e, hc k hk⟩
theorem block_of_add' (a : Addr) (n : Nat) : (a.add n).block = a.block := by unfold Addr.add; split <;> rfl
instance (s : ByteArray) : Decidable (May s) := inferInstanceAs (Decidable (_ ∧ _))
@[irreducible] def mayE (ss : List ByteArray) : Int := if ∀ s ∈ ss, May s then 0 else 2
theorem mayE_ok {ss : List ByteArray} (h : ∀ s ∈ ss, May s) : mayE ss = 0 := by unfold mayE; rw [if_pos h]
theorem mayE_no {ss : List ByteArray} {s : ByteArray} (h : s ∈ ss) (hs : ¬ May s) : mayE ss = 2 := by unfold mayE; rw [if_neg (fun c => hs (c s h))]
theorem u8_eqz (x : UInt8) (h : x.toNat = 0) : ((x.toNat : Int) == 0) = true := eqz_true h
theorem u8_nez (x : UInt8) (h : x.toNat ≠ 0) : ((x.toNat : Int) == 0) = false := eqz_false h
set_option maxRecDepth 100000 in
set_option maxHeartbeats 400000 in
theorem all_c (A : Option Addr) (c : Nat) (ss : List ByteArray) (w : World) (hl : ss.length ≤ 9223372036854775807) (h : Strs w A ss) :
    Calls Tryz.prog 67 #[.slice A ss.length c] w fun e w' => e = .returned (.int .i64 (mayE ss)) ∧ w = w' := by
  have HS := Lib.hid h
  clear h
  go_enter Tryz.func67, Tryz.ntmps67
  go_wp2
  go_loop [7] (fun i => ∃ k : Nat, k ≤ ss.length ∧ i = .int .i64 k ∧ Hid (∀ s ∈ ss.take k, May s)) (fun i => ss.length - (intOf i).toNat)
  case atStart => exact ⟨0, Nat.zero_le _, rfl, Lib.hid (by simp)⟩
  case round =>
    obtain ⟨k, hk, rfl, hm⟩ := hrel
    by_cases hlt : k < ss.length
    · obtain ⟨ad, rfl, hc⟩ := HS.out.at_ hlt
      have hmem : ss[k] ∈ ss := List.getElem_mem hlt
      have hnext : May ss[k] → ∀ s ∈ ss.take (k + 1), May s := fun h s hs => by
        rw [List.take_succ_eq_append_getElem hlt, List.mem_append] at hs
        rcases hs with hs | hs
        · exact hm.out s hs
        · rw [List.mem_singleton] at hs; rw [hs]; exact h
      have HM := Lib.hid hmem
      have HN := Lib.hid hnext
      clear hmem hnext
      generalize ss[k] = s at *
      by_cases h1 : 16384 < s.size
      · have HB : Hid (¬ May s) := Lib.hid (fun c => by have := c.1; omega)
        have h1' : decide ((s.size : Int) > 16384) = true := decide_eq_true (by omega)
        have h1'' : (16384 : Int) < (s.size : Int) := by omega
        go_wp2
        go_ret
        exact ⟨ret_int (mayE_no HM.out HB.out).symm, rfl⟩
      · have h1'' : ¬ (16384 : Int) < (s.size : Int) := by omega
        have h1s : s.size ≤ 16384 := by omega
        by_cases h2 : s.size = 0
        · have HG : Hid (May s) := Lib.hid ⟨by omega, fun h => by omega⟩
          have h2' : ¬ (0 : Int) < (s.size : Int) := by omega
          have h2'' : ¬ 0 < s.size := by omega
          have H2 := Lib.hid h2
          clear h2
          go_wp2
          go_round
          case rel => exact ⟨k + 1, by omega, by go_num, Lib.hid (HN.out HG.out)⟩
          case measure => simp [intOf]; omega
        · have h2' : 0 < s.size := by omega
          by_cases h3 : (s[0]'h2').toNat = 0
          · have HB : Hid (¬ May s) := Lib.hid (fun c => c.2 h2' h3)
            have h3' := u8_eqz _ h3
            have H3 := Lib.hid h3
            clear h3
            go_wp2
            go_ret
            exact ⟨ret_int (mayE_no HM.out HB.out).symm, rfl⟩
          · have HG : Hid (May s) := Lib.hid ⟨by omega, fun _ => h3⟩
            have h3' := u8_nez _ h3
            have H3 := Lib.hid h3
            clear h3
            go_wp2
            go_round
            case rel => exact ⟨k + 1, by omega, by go_num, Lib.hid (HN.out HG.out)⟩
            case measure => simp [intOf]; omega
    · obtain rfl : k = ss.length := by omega
      go_wp2
      go_ret
      have := hm.out
      rw [List.take_length] at this
      exact ⟨ret_int (mayE_ok this).symm, rfl⟩
theorem strs_new (w : World) (T : TypeId) (ss : List ByteArray) : Strs (w.alloc (.cells (ss.map Value.string).toArray T)) (some ⟨w.heap.size, 0, none⟩) ss := fun _ =>
  ⟨_, rfl, fun j h => by rw [add_plain0, World.cell?_alloc_new]; simp [h]⟩
set_option maxRecDepth 100000 in
theorem Check_c (s : ByteArray) (w : World) :
    Calls Tryz.prog 36 #[.string s] w fun e w' => e = .returned (.int .i64 (mayE [s])) ∧ Below w.heap.size w w' := by
  go_enter Tryz.func36, Tryz.ntmps36
  go_wp2_with fail
  refine (all_c _ 1 [s] _ (by simp) (strs_new w 22 [s])).mono ?_
  rintro e w' ⟨rfl, rfl⟩
  go_wp2
  go_ret
  exact ⟨rfl, (Below.refl _ _).alloc (Nat.le_refl _) _⟩
theorem words_c (n : Nat) (w : World) (hn : fits n) :
    Calls Tryz.prog 40 #[.string (natS n)] w (NumPost n w) := by
  have hz : (natS n).size ≤ 1000000000 := by rw [natS_size]; unfold fits at hn; omega
  have hr := Read_c (natS n) w hz
  rw [bytesN_natS] at hr
  have HR := Lib.hid hr
  clear hr
  go_enter Tryz.func40, Tryz.ntmps40
  go_wp2_with fail
  refine HR.out.mono ?_
  intro e w' hp
  obtain ⟨A, c, rfl, hc, hrow, hb⟩ := hp.get
  go_wp2
  go_ret
  exact NumPost.mk hc hrow hb
@[irreducible] def resS (n : Nat) : ByteArray := if fits n then natS n else ⟨#[]⟩
@[irreducible] def resE (n : Nat) : Int := if fits n then 0 else 4
theorem resS_ok {n : Nat} (h : fits n) : resS n = natS n := by unfold resS; rw [if_pos h]
theorem resE_ok {n : Nat} (h : fits n) : resE n = 0 := by unfold resE; rw [if_pos h]
theorem resS_no {n : Nat} (h : ¬ fits n) : resS n = ⟨#[]⟩ := by unfold resS; rw [if_neg h]
theorem resE_no {n : Nat} (h : ¬ fits n) : resE n = 4 := by unfold resE; rw [if_neg h]
def StrPost (s : ByteArray) (r : Int) (w : World) (e : Ending) (w' : World) : Prop := e = .returned (.tuple #[.string s, .int .i64 r]) ∧ Below w.heap.size w w'
@[irreducible] def longB (n : Nat) : Bool := decide (131072 < n)
@[local go_sem] theorem gt_long (n : Nat) : decide ((131072 : Int) < (n : Int)) = longB n := by
  unfold longB; rw [Bool.eq_iff_iff, decide_eq_true_iff, decide_eq_true_iff]; omega
theorem longB_iff (n : Nat) : longB (nd 2 n) = decide (¬ fits n) := by
  unfold longB fits
  have := bits_le n 16384
  rw [Bool.eq_iff_iff, decide_eq_true_iff, decide_eq_true_iff]; omega
set_option maxRecDepth 100000 in
theorem made_c (A : Option Addr) (c n B : Nat) (w : World) (hL : nd W n ≤ 1000000000) (hr : Row w B A n (nd W n)) (hB : B ≤ w.heap.size) :
    Calls Tryz.prog 47 #[.slice A (nd W n) c] w (StrPost (resS n) (resE n) w) := by
  have HR := Lib.hid hr
  clear hr
  by_cases h : fits n
  · have hl : longB (nd 2 n) = false := by rw [longB_iff]; simp [h]
    have HE := Lib.hid (resE_ok h)
    have HS := Lib.hid (resS_ok h)
    go_enter Tryz.func47, Tryz.ntmps47
    go_wp2_with (first | (go_at_call 82; refine (Len_c _ _ _ B _ hL HR.out).mono ?_; rintro e w' ⟨rfl, rfl⟩) | (go_at_call 83; refine (Bytes_c _ _ _ B _ hL HR.out hB).mono ?_; rintro e w' ⟨rfl, hb⟩))
    go_ret2
    exact ⟨by rw [HE.out, HS.out]; rfl, hb⟩
  · have hl : longB (nd 2 n) = true := by rw [longB_iff]; simp [h]
    have HE := Lib.hid (resE_no h)
    have HS := Lib.hid (resS_no h)
    go_enter Tryz.func47, Tryz.ntmps47
    go_wp2_with (first | (go_at_call 82; refine (Len_c _ _ _ B _ hL HR.out).mono ?_; rintro e w' ⟨rfl, rfl⟩))
    go_ret2
    exact ⟨by rw [HE.out, HS.out]; rfl, Below.refl _ _⟩
end Go.Proofs.YtdfnejpfpkaplaaGreatDoor
namespace Go.Proofs.YtdfnejpfpkaplaaGreatDoor
open Go Go.RowKit Nt
@[irreducible] def brB (n : Nat) : Bool := decide (nd 256 n ≤ 8)
@[irreducible] def brN (n : Nat) : Nat := if nd 256 n ≤ 8 then n else 0
theorem brB_yes {n : Nat} (h : nd 256 n ≤ 8) : brB n = true := by unfold brB; exact decide_eq_true h
theorem brB_no {n : Nat} (h : ¬ nd 256 n ≤ 8) : brB n = false := by unfold brB; exact decide_eq_false h
theorem brN_yes {n : Nat} (h : nd 256 n ≤ 8) : brN n = n := by unfold brN; rw [if_pos h]
theorem brN_no {n : Nat} (h : ¬ nd 256 n ≤ 8) : brN n = 0 := by unfold brN; rw [if_neg h]
theorem br_lt {n : Nat} : nd 256 n ≤ 8 ↔ n < 18446744073709551616 := by
  rw [← lt_pow_iff (by omega)]
@[irreducible] def preN (n k : Nat) : Nat := n / 256 ^ (nd 256 n - k)
theorem preN_zero (n : Nat) : preN n 0 = 0 := by unfold preN; rw [Nat.sub_zero]; exact Nat.div_eq_of_lt (lt_nd (by omega))
theorem preN_full (n : Nat) : preN n (nd 256 n) = n := by unfold preN; rw [Nat.sub_self, Nat.pow_zero, Nat.div_one]
theorem preN_succ (n k : Nat) (h : k < nd 256 n) : preN n (k + 1) = 256 * preN n k + dgt 256 n (nd 256 n - 1 - k) := by
  unfold preN
  obtain ⟨m, hm⟩ : ∃ m, nd 256 n = k + 1 + m := ⟨nd 256 n - k - 1, by omega⟩
  rw [hm, show k + 1 + m - (k + 1) = m by omega, show k + 1 + m - k = m + 1 by omega, show k + 1 + m - 1 - k = m by omega, div_eq_dgt (by omega) n m, Nat.add_comm]
theorem preN_le (n k : Nat) : preN n k ≤ n := by unfold preN; exact Nat.div_le_self _ _
end Go.Proofs.YtdfnejpfpkaplaaGreatDoor
namespace Go.Proofs.YtdfnejpfpkaplaaGreatDoor
open Go Go.RowKit Nt
/-! The order of texts. -/
theorem ba_toList (s : ByteArray) : s.toList = s.data.toList := Go.ByteArray.toList_eq s
theorem natS_list_eq (a b : Nat) : (natS a).toList = (natS b).toList ↔ a = b := by
  constructor
  · intro h
    rw [ba_toList, ba_toList] at h
    exact natS_inj (ByteArray.ext (Array.toList_inj.1 h))
  · rintro rfl; rfl
theorem may1 {a : Nat} (ha : fits a) : mayE [natS a] = 0 := mayE_ok (fun s hs => by rw [List.mem_singleton.1 hs]; exact (may_natS a).2 ha)
theorem may1_no {s : ByteArray} (h : ¬ May s) : mayE [s] = 2 := mayE_no (List.mem_singleton.2 rfl) h
end Go.Proofs.YtdfnejpfpkaplaaGreatDoor
namespace Go.Proofs.YtdfnejpfpkaplaaGreatDoor
open Go Go.RowKit Nt
theorem fits_words {n : Nat} (h : fits n) : nd W n ≤ 2048 := by
  unfold fits at h; rw [← words_bytes]; omega
theorem brB_true {n : Nat} (h : brB n = true) : nd 256 n ≤ 8 := by unfold brB at h; exact of_decide_eq_true h
end Go.Proofs.YtdfnejpfpkaplaaGreatDoor
namespace Go.Proofs.YtdfnejpfpkaplaaGreatDoor
open Go Go.RowKit Nt
theorem natS_empty {n : Nat} (h : n = 0) : (natS n).toList = [] := by subst h; rw [natS_zero, ba_toList]
theorem natS_full {n : Nat} (h : n ≠ 0) : ¬ (natS n).toList = [] := fun c => by
  rw [ba_toList] at c
  have h1 : (natS n).size = 0 := by show (natS n).data.size = 0; rw [← Array.length_toList, c]; rfl
  rw [natS_size, nd_eq_zero (by omega)] at h1; exact h h1
theorem natS_full2 {n : Nat} (h : n ≠ 0) : (natS n).toList.isEmpty = false := by
  have := natS_full h
  cases h2 : (natS n).toList with
  | nil => exact absurd h2 this
  | cons x l => rfl
@[irreducible] def longI (z : Int) : Bool := decide (131072 < z)
@[local go_sem] theorem gt_longI (z : Int) : decide ((131072 : Int) < z) = longI z := by unfold longI; rfl
end Go.Proofs.YtdfnejpfpkaplaaGreatDoor
namespace Go.Proofs.YtdfnejpfpkaplaaGreatDoor
open Go Go.RowKit Nt
theorem below_chain {a b c : World} (h1 : Below a.heap.size a b) (h2 : Below b.heap.size b c) : Below a.heap.size a c := h1.trans (h2.mono h1.size)
theorem nne_true {x : Nat} (h : x ≠ 0) : (((x : Nat) : Int) != 0) = true := by rw [bne_iff_ne]; omega
theorem nne_false {x : Nat} (h : x = 0) : (((x : Nat) : Int) != 0) = false := by subst h; rfl
def Own (w : World) (B : Nat) (T : TypeId) (k : IntKind) (v : Value) (l : List Nat) : Prop := w.ownsRow B T 1 v l.length (l.map (fun (x : Nat) => Value.int k (x : Int)))
theorem Own.nil (w : World) (B : Nat) (T : TypeId) (k : IntKind) : Own w B T k (.slice none 0 0) [] := World.ownsRow_nil w B T 1
theorem Own.form {w : World} {B : Nat} {T : TypeId} {k : IntKind} {v : Value} {l : List Nat} (h : Own w B T k v l) :
    (v = .slice none 0 0 ∧ l = []) ∨ ∃ g cap cs, v = .slice (some ⟨g, 0, none⟩) l.length cap ∧ B ≤ g ∧ g < w.heap.size ∧ Blk w g T cs ∧ l.length ≤ cap ∧ cap ≤ 9223372036854775807 ∧ ∀ j, (hj : j < l.length) → cs[j]? = some (.int k (l[j] : Nat)) := by
  rcases h.2 with ⟨rfl, h0⟩ | ⟨g, cap, cur, rfl, hB, hh, hn, hm, hs, ht⟩
  · exact Or.inl ⟨rfl, List.eq_nil_of_length_eq_zero h0⟩
  · refine Or.inr ⟨g, cap, cur, rfl, hB, Blk.lt hh, hh, hn, by simpa [maxLen] using hm, fun j hj => ?_⟩
    have e := congrArg (fun x => x[j]?) ht
    simp only [Nat.mul_one] at e
    rw [List.getElem?_take, if_pos hj, List.getElem?_map, List.getElem?_eq_getElem hj] at e
    rw [← Array.getElem?_toList]; exact e
theorem Own.cell {w : World} {B : Nat} {T : TypeId} {k : IntKind} {v : Value} {l : List Nat} (h : Own w B T k v l) {j : Nat} (hj : j < l.length) :
    ∃ g cap, v = .slice (some ⟨g, 0, none⟩) l.length cap ∧ B ≤ g ∧ g < w.heap.size ∧ w.cell? ⟨g, j, none⟩ = some (.int k (l[j] : Nat)) ∧ w.frozen? ⟨g, j, none⟩ = false := by
  rcases h.form with ⟨_, rfl⟩ | ⟨g, cap, cs, rfl, hB, hg, hb, _, _, hc⟩
  · simp at hj
  · exact ⟨g, cap, rfl, hB, hg, by rw [hb.cell, hc j hj], hb.frozen j⟩
theorem Own.below {w w' : World} {B B' : Nat} {T : TypeId} {k : IntKind} {v : Value} {l : List Nat} (h : Own w B T k v l) (hb : Below B' w w') (hB : ∀ g, v.ownBlock = some g → g < B') : Own w' B T k v l := by
  rcases h.2 with ⟨rfl, h0⟩ | ⟨g, cap, cur, rfl, hB1, hh, hn, hm, hs, ht⟩
  · exact ⟨h.1, Or.inl ⟨rfl, h0⟩⟩
  · exact ⟨h.1, Or.inr ⟨g, cap, cur, rfl, hB1, (hb.block g (hB g rfl)).trans hh, hn, hm, hs, ht⟩⟩
theorem Own.base {w : World} {B B' : Nat} {T : TypeId} {k : IntKind} {v : Value} {l : List Nat} (h : Own w B T k v l) (hB : B' ≤ B) : Own w B' T k v l := by
  rcases h.2 with ⟨rfl, h0⟩ | ⟨g, cap, cur, rfl, hB1, hh, hn, hm, hs, ht⟩
  · exact ⟨h.1, Or.inl ⟨rfl, h0⟩⟩
  · exact ⟨h.1, Or.inr ⟨g, cap, cur, rfl, by omega, hh, hn, hm, hs, ht⟩⟩
theorem Own.lt {w : World} {B : Nat} {T : TypeId} {k : IntKind} {v : Value} {l : List Nat} (h : Own w B T k v l) : ∀ g, v.ownBlock = some g → B ≤ g ∧ g < w.heap.size := World.ownsRow.lt h
theorem Own.whole {w w' : World} {B : Nat} {T : TypeId} {k : IntKind} {v : Value} {l : List Nat} (h : Own w B T k v l) (hb : Below w.heap.size w w') : Own w' B T k v l := h.below hb fun g e => (h.lt g e).2
theorem Own.drewN {w : World} {B : Nat} {T : TypeId} {k : IntKind} {v : Value} {l : List Nat} (h : Own w B T k v l) (n : Nat) : Own (w.drewN n) B T k v l := h
theorem Own.len {w : World} {B : Nat} {T : TypeId} {k : IntKind} {v : Value} {l : List Nat} (h : Own w B T k v l) : ∃ A c, v = .slice A l.length c ∧ l.length ≤ c := by
  rcases h.form with ⟨rfl, rfl⟩ | ⟨g, cap, cs, rfl, _, _, _, hc, _⟩
  · exact ⟨none, 0, rfl, Nat.le_refl _⟩
  · exact ⟨_, _, rfl, hc⟩
def Frm (w0 w' : World) (v : Value) : Prop := ∀ k, k < w0.heap.size → some k ≠ v.ownBlock → w'.heap[k]? = w0.heap[k]?
theorem Frm.cell {w0 w' : World} {v : Value} (h : Frm w0 w' v) {p : Addr} (hp : p.block < w0.heap.size) (hne : some p.block ≠ v.ownBlock) : w'.cell? p = w0.cell? p := World.cell?_of_block (h p.block hp hne)
theorem Row.frm {w0 w' : World} {v : Value} {A : Option Addr} {n L : Nat} (hr : Row w0 w0.heap.size A n L) (h : Frm w0 w' v) (hd : ∀ g, A = some ⟨g, 0, none⟩ → v.ownBlock ≠ some g) (hs : w0.heap.size ≤ w'.heap.size) : Row w' w'.heap.size A n L := fun hL => by
  obtain ⟨g, e, hg, hc⟩ := hr hL
  exact ⟨g, e, by omega, fun j hj => (h.cell (p := ⟨g, j, none⟩) hg (fun c => hd g e c.symm)).trans (hc j hj)⟩
theorem Own.frm {w0 w' : World} {B : Nat} {T : TypeId} {k : IntKind} {v u : Value} {l : List Nat} (ho : Own w0 B T k u l) (h : Frm w0 w' v) (hd : ∀ g, u.ownBlock = some g → v.ownBlock ≠ some g) : Own w' B T k u l := by
  rcases ho.2 with ⟨rfl, h0⟩ | ⟨g, cap, cur, rfl, hB1, hh, hn, hm, hs, ht⟩
  · exact ⟨ho.1, Or.inl ⟨rfl, h0⟩⟩
  · exact ⟨ho.1, Or.inr ⟨g, cap, cur, rfl, hB1, (h g (Blk.lt hh) (fun c => hd g rfl c.symm)).trans hh, hn, hm, hs, ht⟩⟩
theorem wpList_app1 {P : Program} (w0 : World) {ops : Array Oper} {rest : List Oper} {o : Oper} {a : Act} {Q : Exit → Act → World → Prop} (hgd : o.guard = none) (s x : Operand) (t : TypeId)
    (ho : o.op = .call { callee := .builtin .append, args := #[s, x], argTypes := #[t, t] })
    (B : Nat) (e U : TypeId) (i : TypeInfo) (k : IntKind) (bytes : Nat) (ht : P.underlying t = some (.slice e)) (hi : P.info? e = some i) (hz : i.zero = some (.int k 0))
    (hsize : i.size = 1) (hby : i.bytes = bytes) (hb8 : bytes ≤ 8)
    (v : Value) (l : List Nat) (y : Nat) (hs : a.eval s = v) (hx : a.eval x = .slice (some ⟨w0.heap.size, 0, none⟩) 1 1) (hown : Own w0 B e k v l)
    (hn : l.length + 1 ≤ 17592186044416) (hB : B ≤ w0.heap.size)
    (h : ∀ v' w', Own w' B e k v' (l ++ [y]) → Below B w0 w' → Frm w0 w' v → (∀ g, v'.ownBlock = some g → v.ownBlock = some g ∨ w0.heap.size ≤ g) → wpList P ops Q rest (a.put o.dst v') w') :
    wpList P ops Q (o :: rest) a (w0.alloc (.cells #[.int k (y : Nat)] U)) := by
  have hbytes : (l.length + 1) * bytes ≤ 140737488355328 := by
    have h1 : (l.length + 1) * bytes ≤ (l.length + 1) * 8 := Nat.mul_le_mul_left _ hb8
    omega
  have hown1 : (w0.alloc (.cells #[.int k (y : Nat)] U)).ownsRow B e 1 v l.length (l.map (fun (x : Nat) => Value.int k (x : Int))) := World.ownsRow.alloc hown _
  refine wpList_plain hgd fun _ hK => ?_
  obtain ⟨v', w', hrun, h2, hg, _, h5⟩ := run_append_own_at (P := P) (w0.alloc (.cells #[.int k (y : Nat)] U)) B t o.type e i (.int k 0) 1 bytes ht hi hz hsize hby rfl (by omega) v l.length (l.map (fun (x : Nat) => Value.int k (x : Int))) hown1
    ⟨w0.heap.size, 0, none⟩ 1 1 [.int k (y : Nat)] rfl (by
      intro j u hu
      have hj : j = 0 := by
        rcases Nat.lt_or_ge j 1 with h | h
        · omega
        · rw [List.getElem?_eq_none (by simpa using h)] at hu; cases hu
      subst hj
      rw [add_plain0, World.cell?_alloc_new]
      exact hu) (by
      intro u hu
      rw [List.mem_singleton.1 hu]; rfl) (by simp [maxLen]; omega) hbytes (by simp; omega)
  unfold Oper.wp execOp
  simp only [ho, resolve, invoke, builtin, Sem.run_bind, Sem.run_pure, Result.andThen_ok, List.map_toArray, List.map_cons, List.map_nil, hs, hx, hrun]
  refine hK _ _ (h v' w' ?_ ?_ ?_ ?_)
  · unfold Own
    simpa using h2
  · exact Below.grown ((Below.refl _ _).alloc hB _) hg (by simp; omega) (fun g e => (hown.lt g e).1)
  · intro k' hk hne
    rw [hg.block k' (by simp; omega) hne]
    exact Below.heap_alloc w0 _ k' hk
  · intro g hgo
    rcases h5 with h5 | h5
    · rw [← h5]; exact Or.inl hgo
    · rw [h5] at hgo
      have : g = w0.heap.size + 1 := by simpa using hgo.symm
      exact Or.inr (by omega)
def TurnPost (g n : Nat) (T : TypeId) (f : Nat → Nat) (w : World) (e : Ending) (w' : World) : Prop :=
  e = .returned (.tuple #[]) ∧ ∃ cs, Blk w' g T cs ∧ (∀ j, j < n → cs[j]? = some (.int .u8 (f (n - 1 - j) : Nat))) ∧ Below g w w'
def swF (f : Nat → Nat) (n i p : Nat) : Nat := if p < i ∨ n - i ≤ p then f (n - 1 - p) else f p
theorem sw_set {cs : Array Value} {n i : Nat} {f : Nat → Nat} (hc : ∀ j, j < n → cs[j]? = some (.int .u8 (swF f n i j : Nat))) (h : i < n - 1 - i) :
    ∀ j, j < n → ((cs.setIfInBounds i (.int .u8 (f (n - 1 - i) : Nat))).setIfInBounds (n - 1 - i) (.int .u8 (f i : Nat)))[j]? = some (.int .u8 (swF f n (i + 1) j : Nat)) := by
  intro j hj
  have hsz : n ≤ cs.size := by
    rcases Nat.lt_or_ge cs.size n with h1 | h1
    · have := hc (n - 1) (by omega)
      rw [Array.getElem?_eq_none (by omega)] at this; cases this
    · exact h1
  rw [Array.getElem?_setIfInBounds, Array.size_setIfInBounds]
  by_cases h1 : n - 1 - i = j
  · rw [if_pos h1, if_pos (by omega)]
    unfold swF
    rw [if_pos (by omega)]
    congr 4; omega
  · rw [if_neg h1, Array.getElem?_setIfInBounds]
    by_cases h2 : i = j
    · rw [if_pos h2, if_pos (by omega)]
      unfold swF
      rw [if_pos (by omega), h2]
    · rw [if_neg h2, hc j hj]
      unfold swF
      by_cases h3 : j < i ∨ n - i ≤ j
      · rw [if_pos h3, if_pos (by omega)]
      · rw [if_neg h3, if_neg (by omega)]
set_option maxRecDepth 100000 in
set_option maxHeartbeats 1000000 in
theorem Reverse_c (g n cap : Nat) (T : TypeId) (cs : Array Value) (f : Nat → Nat) (w : World) (hn : n ≤ 1000000000000) (hb : Blk w g T cs) (hc : ∀ j, j < n → cs[j]? = some (.int .u8 (f j : Nat))) :
    Calls Tryz.prog 42 #[.slice (some ⟨g, 0, none⟩) n cap] w (TurnPost g n T f w) := by
  have HB := Lib.hid hb
  have HC := Lib.hid hc
  have hw : wrap64 ((n : Int) - 1) = (n : Int) - 1 := IntWalk.wrap64_in _ (by omega)
  clear hb hc
  go_enter Tryz.func42, Tryz.ntmps42
  go_wp2
  go_loopw [2, 3] (fun x y wr => ∃ (i : Nat) (z : Int) (cs : Array Value), x = .int .i64 i ∧ y = .int .i64 z ∧ Hid (z = (n : Int) - 1 - (i : Int)) ∧ Hid (2 * i ≤ n + 1) ∧ Hid (Blk wr g T cs) ∧ Hid (∀ j, j < n → cs[j]? = some (.int .u8 (swF f n i j : Nat))) ∧ Below g w wr) (fun x _ _ => n - (intOf x).toNat)
  case atStart => exact ⟨0, (n : Int) - 1, cs, rfl, rfl, Lib.hid (by omega), Lib.hid (by omega), HB, Lib.hid (fun j hj => by rw [HC.out j hj]; unfold swF; rw [if_neg (by omega)]), Below.refl _ _⟩
  case round =>
    obtain ⟨i, z, cs', rfl, rfl, hz, hi, hblk, hcs, hbw⟩ := hrel
    by_cases hlt : i < n - 1 - i
    · obtain ⟨j, hj⟩ : ∃ j, n = i + 1 + j := ⟨n - i - 1, by omega⟩
      have hjz : z = (j : Int) := by have := hz.out; omega
      have hij : i < j := by omega
      have HJ := Lib.hid hj
      have hin : i < n := by omega
      have hjn : j < n := by omega
      have c1 := hblk.out.cell i
      rw [hcs.out i hin] at c1
      have c2 := hblk.out.cell j
      rw [hcs.out j hjn] at c2
      have f1 := hblk.out.frozen i
      have f2 := hblk.out.frozen j
      have e1 : swF f n i i = f i := by unfold swF; rw [if_neg (by omega)]
      have e2 : swF f n i j = f j := by unfold swF; rw [if_neg (by omega)]
      rw [e1] at c1
      rw [e2] at c2
      have hst := sw_set hcs.out hlt
      rw [show n - 1 - i = j by omega] at hst
      have HST := Lib.hid hst
      have b1 := Lib.hid (((hblk.out.set_ i (.int .u8 (f j : Nat))).set_ j (.int .u8 (f i : Nat))).drew)
      have bb := ((hbw.setCell (p := ⟨g, i, none⟩) (Nat.le_refl _) (.int .u8 (f j : Nat))).setCell (p := ⟨g, j, none⟩) (Nat.le_refl _) (.int .u8 (f i : Nat))).drew
      have hw2 : wrap64 ((j : Int) - 1) = (j : Int) - 1 := IntWalk.wrap64_in _ (by omega)
      have Hi := Lib.hid hi
      subst hjz
      clear hst hj hlt e1 e2
      go_wp2
      go_region
      go_wp2
      go_roundw
      case rel =>
        exact ⟨i + 1, (j : Int) - 1, _, by go_num, rfl, Lib.hid (by have := HJ.out; omega), Lib.hid (by have := HJ.out; omega), b1, HST, bb⟩
      case measure => simp [intOf]; omega
    · have hnl : ¬ (i : Int) < z := by have := hz.out; omega
      have HL := Lib.hid hlt
      clear hlt
      go_wp2
      go_end0
      refine ⟨rfl, cs', hblk.out, fun j hj => ?_, hbw⟩
      rw [hcs.out j hj]
      unfold swF
      have h1 := HL.out
      have h2 := hi.out
      by_cases h3 : j < i ∨ n - i ≤ j
      · rw [if_pos h3]
      · rw [if_neg h3]
        congr 4; omega
end Go.Proofs.YtdfnejpfpkaplaaGreatDoor
namespace Go.Proofs.YtdfnejpfpkaplaaGreatDoor
open Go Go.RowKit Nt
@[irreducible] def T19 : Nat := 10000000000000000000
theorem T19_eq : T19 = 10000000000000000000 := by unfold T19; rfl
theorem T19_pow : T19 = 10 ^ 19 := by rw [T19_eq]
def digs (n L : Nat) : List Nat := (dl 10 n L).map (48 + ·)
theorem digs_succ (n L : Nat) : digs n (L + 1) = digs n L ++ [48 + dgt 10 n L] := by unfold digs; rw [dl_succ, List.map_append]; rfl
theorem digs_length (n L : Nat) : (digs n L).length = L := by unfold digs; rw [List.length_map, dl_length]
theorem digs_get (n L j : Nat) (h : j < (digs n L).length) : (digs n L)[j] = 48 + dgt 10 n j := by
  have hj : j < L := by rwa [digs_length] at h
  have e : (digs n L)[j]? = some (48 + dgt 10 n j) := by unfold digs; rw [List.getElem?_map, dl_get? _ _ _ _ hj]; rfl
  rw [List.getElem?_eq_getElem h] at e
  exact Option.some.inj e
@[irreducible] def decS (n : Nat) : ByteArray := if n = 0 then ⟨#[48]⟩ else ⟨((digs n (nd 10 n)).reverse.map UInt8.ofNat).toArray⟩
theorem decS_zero : decS 0 = ⟨#[48]⟩ := by unfold decS; rw [if_pos rfl]
theorem decS_pos {n : Nat} (h : n ≠ 0) : decS n = ⟨((digs n (nd 10 n)).reverse.map UInt8.ofNat).toArray⟩ := by unfold decS; rw [if_neg h]
@[irreducible] def lowV (n L i : Nat) : Nat := n / 10 ^ (L + i) % 10 ^ (19 - i)
theorem lowV_def (n L i : Nat) : lowV n L i = n / 10 ^ (L + i) % 10 ^ (19 - i) := by unfold lowV; rfl
theorem lowV_lt (n L i : Nat) : lowV n L i < 10000000000000000000 := by
  rw [lowV_def]
  refine Nat.lt_of_lt_of_le (Nat.mod_lt _ (Nat.pow_pos (by omega))) ?_
  have : (10 : Nat) ^ (19 - i) ≤ 10 ^ 19 := Nat.pow_le_pow_right (by omega) (by omega)
  exact Nat.le_trans this (by decide)
theorem low_start (n L : Nat) : n / 10 ^ L % T19 = lowV n L 0 := by rw [lowV_def, T19_pow]; rfl
theorem low_digit (n L i : Nat) (hi : i < 19) : lowV n L i % 10 = dgt 10 n (L + i) := by
  obtain ⟨k, hk⟩ : ∃ k, 19 - i = k + 1 := ⟨18 - i, by omega⟩
  rw [lowV_def, hk, dgt_def, Nat.pow_succ, Nat.mul_comm, Nat.mod_mul_right_mod]
theorem low_next (n L i : Nat) (hi : i < 19) : lowV n L i / 10 = lowV n L (i + 1) := by
  obtain ⟨k, hk⟩ : ∃ k, 19 - i = k + 1 := ⟨18 - i, by omega⟩
  rw [lowV_def, lowV_def, hk, show 19 - (i + 1) = k by omega, show L + (i + 1) = L + i + 1 by omega, Nat.pow_succ 10 (L + i), ← Nat.div_div_eq_div_mul, Nat.pow_succ, Nat.mul_comm, Nat.mod_mul_right_div_self]
theorem low_whole (n L i : Nat) (hi : i ≤ 19) : n / 10 ^ (L + i) = lowV n L i + 10 ^ (19 - i) * (n / 10 ^ (L + 19)) := by
  rw [lowV_def, show L + 19 = (L + i) + (19 - i) by omega, Nat.pow_add 10 (L + i), ← Nat.div_div_eq_div_mul]
  exact (Nat.mod_add_div _ _).symm
theorem low_done {n L i : Nat} (hi : i ≤ 19) (h1 : n / 10 ^ (L + 19) = 0) (h2 : lowV n L i = 0) : n / 10 ^ (L + i) = 0 := by rw [low_whole n L i hi, h1, h2]; simp
theorem low_more {n L i : Nat} (hi : i ≤ 19) (h : n / 10 ^ (L + 19) ≠ 0 ∨ lowV n L i ≠ 0) : L + i < nd 10 n := by
  refine (pow_le_iff (by omega) _ _).1 ?_
  have h3 : n / 10 ^ (L + i) ≠ 0 := by
    rw [low_whole n L i hi]
    rcases h with h | h
    · have := Nat.mul_pos (Nat.pow_pos (n := 19 - i) (show 0 < 10 by omega)) (Nat.pos_of_ne_zero h); omega
    · omega
  rcases Nat.lt_or_ge n (10 ^ (L + i)) with h4 | h4
  · exact absurd (Nat.div_eq_of_lt h4) h3
  · exact h4
set_option maxRecDepth 100000 in
theorem NText_zero (w : World) :
    Calls Tryz.prog 23 #[.string (natS 0)] w (StrPost (decS 0) 0 w) := by
  have hf : fits 0 := by unfold fits; rw [nd_zero]; omega
  have hm := may1 hf
  have hE := natS_empty (n := 0) rfl
  have HD := Lib.hid decS_zero
  go_enter Tryz.func23, Tryz.ntmps23
  go_wp2_with (go_at_call 36; refine (Check_c _ _).mono ?_; rintro e w1 ⟨rfl, hb⟩)
  go_ret2
  exact ⟨by rw [HD.out]; rfl, hb⟩
set_option maxRecDepth 100000 in
set_option maxHeartbeats 2000000 in
theorem NText_c (n : Nat) (w : World) (hf : fits n) (h0 : n ≠ 0) :
    Calls Tryz.prog 23 #[.string (natS n)] w (StrPost (decS n) 0 w) := by
  obtain ⟨i0, hi0, hz0, hj1, hj2⟩ := info_parts (P := Tryz.prog) (e := 5) (z := .int .u8 0) (size := 1) (bytes := 1) (by kernel_rfl)
  have hm := may1 hf
  have hF := natS_full h0
  have hF2 := natS_full2 h0
  have HD := Lib.hid (decS_pos h0)
  have hwn := fits_words hf
  have HWN := Lib.hid hwn
  have HND : Hid (nd 10 n ≤ 16384 * 8) := Lib.hid (by
    have h1 : nd 2 n ≤ 8 * 16384 := (bits_le n 16384).2 hf
    have h2 : n < 10 ^ nd 2 n := Nat.lt_of_lt_of_le (lt_nd (b := 2) (by omega)) (Nat.pow_le_pow_left (by omega) _)
    have := nd_le (b := 10) (by omega) h2
    omega)
  clear hwn
  go_enter Tryz.func23, Tryz.ntmps23
  go_wp2_with (first
    | (go_at_call 36; refine (Check_c _ _).mono ?_; rintro e w1 ⟨rfl, hb⟩)
    | (go_at_call 40; refine (words_c n _ hf).mono ?_; intro e w2 hp; obtain ⟨A1, c1, rfl, hc1, hr1, hb2⟩ := hp.get; have HR1 := Lib.hid hr1; clear hr1 hp))
  have hb12 := hb.trans (hb2.mono hb.size)
  clear hm hF hF2
  go_loopg [5, 6] n (fun G x y wr => ∃ (m L c : Nat) (A : Option Addr), y = .slice A (nd W m) c ∧ nd W m ≤ c ∧ Hid (Row wr wr.heap.size A m (nd W m)) ∧ Hid (Own wr w.heap.size 5 .u8 x (digs n L)) ∧ Hid (m = n / 10 ^ L) ∧ Hid (L ≤ nd 10 n) ∧ m ≤ G ∧ Below w.heap.size w wr)
  case atStart => exact ⟨n, 0, c1, A1, rfl, hc1, HR1, Lib.hid (Own.nil _ _ _ _), Lib.hid (by rw [Nat.pow_zero, Nat.div_one]), Lib.hid (Nat.zero_le _), Nat.le_refl _, hb12⟩
  case round =>
    obtain ⟨m, L, c, A, rfl, hc, hrow, hown, hm, hL, hG, hbw⟩ := hrel
    by_cases hm0 : m = 0
    · subst hm0
      have e0 : nd W 0 = 0 := nd_zero _
      rw [e0]
      have hLn : L = nd 10 n := by
        have h1 : n < 10 ^ L := by
          rcases Nat.lt_or_ge n (10 ^ L) with h | h
          · exact h
          · have := Nat.div_pos h (Nat.pow_pos (n := L) (show 0 < 10 by omega)); have := hm.out; omega
        have := nd_le (b := 10) (by omega) h1
        have := hL.out; omega
      have hown2 := hown.out
      rw [hLn] at hown2
      have hlen := digs_length n (nd 10 n)
      rcases hown2.form with ⟨rfl, hnil⟩ | ⟨g, cap, cs, rfl, hgB, hgw, hblk, hcap, hcap2, hcs⟩
      · exfalso
        rw [hnil] at hlen
        exact h0 ((nd_eq_zero (b := 10) (by omega)).1 hlen.symm)
      · rw [hlen]
        have hcs' : ∀ j, j < nd 10 n → cs[j]? = some (.int .u8 ((48 + dgt 10 n j : Nat) : Int)) := fun j hj => by
          have h1 : j < (digs n (nd 10 n)).length := by rw [hlen]; exact hj
          rw [hcs j h1, digs_get n (nd 10 n) j h1]
        have hrev := Reverse_c g (nd 10 n) cap 5 cs (fun j => 48 + dgt 10 n j) wr (by have := HND.out; omega) hblk hcs'
        have HREV := Lib.hid hrev
        have HBW := Lib.hid hbw
        have HGB := Lib.hid hgB
        clear hrev hcs' hcs hblk hbw hgB hlen hown2 hrow hown hm hL hG hc hLn hcap2 hgw
        have hn64 : nd 10 n ≤ 131072 := by have := HND.out; omega
        go_wp2_with fail
        refine HREV.out.mono ?_
        rintro e w' ⟨rfl, cs2, hb2', hc2', hbw2⟩
        have hcv : (convert 79 9 (.slice (some ⟨g, 0, none⟩) (nd 10 n) cap)).run Tryz.prog w' = .ok (.string (decS n)) w' := by
          rw [HD.out]
          have hl : ((digs n (nd 10 n)).reverse.map UInt8.ofNat).length = nd 10 n := by rw [List.length_map, List.length_reverse, digs_length]
          have h := run_convert_bytes_back (P := Tryz.prog) w' 79 9 5 ⟨g, 0, none⟩ cap ((digs n (nd 10 n)).reverse.map UInt8.ofNat) Tryz.underlying79 Tryz.underlying5 Tryz.underlying9 (fun j hj => by
            have hj' : j < nd 10 n := by rw [← hl]; exact hj
            rw [add_plain0, hb2'.cell, hc2' j hj', List.getElem_map, List.getElem_reverse, digs_get, digs_length, UInt8.toNat_ofNat', Nat.mod_eq_of_lt]
            have := dgt_lt (b := 10) (by omega) n (nd 10 n - 1 - j); omega)
          rw [hl] at h
          exact h
        have HBL := Lib.hid hbw2
        clear hb2' hc2' hbw2
        go_wp2
        go_ret2
        exact ⟨rfl, HBW.out.trans (HBL.out.mono HGB.out)⟩
    · have hmn : 0 < nd W m := by
        rcases Nat.eq_zero_or_pos (nd W m) with h | h
        · exact absurd ((nd_eq_zero W2).1 h) hm0
        · exact h
      have hmw : nd W m ≤ 2048 := Nat.le_trans (nd_mono W2 (by rw [hm.out]; exact Nat.div_le_self _ _)) HWN.out
      have htk := Take_c A c m T19 wr.heap.size wr (by rw [T19_eq]; omega) (by rw [T19_eq]; omega) (by omega) hrow.out (Nat.le_refl _)
      have hm19 : m / T19 = n / 10 ^ (L + 19) := by rw [hm.out, T19_pow, Nat.div_div_eq_div_mul, ← Nat.pow_add]
      have hl19 : m % T19 = lowV n L 0 := by rw [hm.out, low_start]
      rw [hm19, hl19, show ((T19 : Nat) : Int) = 10000000000000000000 by rw [T19_eq]; rfl] at htk
      have hmlt : n / 10 ^ (L + 19) < m := by
        rw [← hm19]; exact Nat.div_lt_self (by omega) (by rw [T19_eq]; omega)
      obtain ⟨m', hm'⟩ : ∃ m', m' = n / 10 ^ (L + 19) := ⟨_, rfl⟩
      rw [← hm'] at htk hmlt
      have HTK := Lib.hid htk
      have HM' := Lib.hid hm'
      have HG := Lib.hid hG
      have HLT := Lib.hid hmlt
      have hmI : (0 : Int) < (nd W m : Int) := by omega
      have hw0 : nd W m' ≤ 2048 := Nat.le_trans (nd_mono W2 (by rw [hm']; exact Nat.div_le_self _ _)) HWN.out
      clear htk hm19 hl19 hm' hG hmlt
      go_wp2_with (go_at_call 41; refine HTK.out.mono ?_; rintro e w3 ⟨A3, c3, rfl, hA3, hs3, hc3, hr3, hb3⟩; have HA3 := Lib.hid hA3; clear hA3)
      have HDJ : Hid (∀ g, A3 = some ⟨g, 0, none⟩ → Value.ownBlock _ ≠ some g ∧ g < w3.heap.size) := Lib.hid (fun g e => by
        have hA3 := HA3.out
        rw [hA3] at e
        have h2 : wr.heap.size = g := congrArg Addr.block (Option.some.inj e)
        refine ⟨fun c => ?_, by omega⟩
        have h1 := (hown.out.lt g c).2
        omega)
      have HR3 := Lib.hid hr3
      have HOW : Hid (Own w3 w.heap.size 5 .u8 _ (digs n L)) := Lib.hid (hown.out.whole hb3)
      have hbw3 := hbw.trans (hb3.mono hbw.size)
      clear hr3 hrow hown hb3 hs3
      obtain ⟨wo, rfl⟩ : ∃ wo : World, wo = w3 := ⟨_, rfl⟩
      go_loopw [5, 7, 8] (fun x y z wr => ∃ (i : Nat), i ≤ 19 ∧ z = .int .i64 i ∧ y = .int .u64 (lowV n L i : Nat) ∧ Hid (Own wr w.heap.size 5 .u8 x (digs n (L + i))) ∧ Hid (L + i ≤ nd 10 n) ∧ Hid (Row wr wr.heap.size A3 m' (nd W m')) ∧ Hid (∀ g, A3 = some ⟨g, 0, none⟩ → x.ownBlock ≠ some g ∧ g < wr.heap.size) ∧ Below w.heap.size w wr) (fun _ _ z _ => 19 - (intOf z).toNat)
      case atStart => exact ⟨0, by omega, rfl, rfl, HOW, hL, HR3, HDJ, hbw3⟩
      case round =>
        obtain ⟨i, hi, rfl, rfl, hown4, hL4, hr4, hdj4, hb4⟩ := hrel
        have hcase : (i = 19 ∨ (i < 19 ∧ m' = 0 ∧ lowV n L i = 0)) ∨ (i < 19 ∧ (m' ≠ 0 ∨ (m' = 0 ∧ lowV n L i ≠ 0))) := by omega
        rcases hcase with hex | ⟨hi19, hgo⟩
        · have HLi : Hid (m' = n / 10 ^ (L + i)) := Lib.hid (by
            rcases hex with h | ⟨h1, h2, h3⟩
            · rw [HM'.out, h]
            · rw [h2, low_done hi (HM'.out ▸ h2) h3])
          rcases hex with h | ⟨h1, h2, h3⟩
          case' inl => subst h
          case' inr =>
            have hz1 : ¬ 0 < nd W m' := by rw [h2, nd_zero]; omega
            have hz2 : ¬ (0 : Int) < (nd W m' : Int) := by omega
            have hz3 : ¬ (0 : Int) < (lowV n L i : Int) := by omega
            have hz4 : ¬ 0 < lowV n L i := by omega
            have Hh2 := Lib.hid h2
            have Hh3 := Lib.hid h3
            clear h2 h3
          all_goals
            go_wp2
            go_roundg m'
            case rel => exact ⟨m', _, c3, A3, rfl, hc3, hr4, hown4, HLi, hL4, Nat.le_refl _, hb4⟩
            case measure => have := HLT.out; have := HG.out; omega
        · have hlow := low_digit n L i hi19
          have hnx := low_next n L i hi19
          have hmore := low_more (n := n) (L := L) (i := i) (by omega) (by rw [← HM'.out]; omega)
          obtain ⟨d, hd⟩ : ∃ d, d = dgt 10 n (L + i) := ⟨_, rfl⟩
          have hd10 : d < 10 := by rw [hd]; exact dgt_lt (by omega) _ _
          rw [← hd] at hlow
          have e1 : IntKind.u8.wrap ((lowV n L i : Int) % 10) = (d : Int) := by rw [show (lowV n L i : Int) % 10 = ((d : Nat) : Int) by omega, wrap_u8]; omega
          obtain ⟨y, hy⟩ : ∃ y, y = 48 + d := ⟨_, rfl⟩
          have e2 : IntKind.u8.wrap (48 + (d : Int)) = (y : Int) := by rw [show (48 : Int) + (d : Int) = ((y : Nat) : Int) by omega, wrap_u8]; omega
          have e3 : (lowV n L i : Int) / 10 = ((lowV n L (i + 1) : Nat) : Int) := by omega
          have e4 : IntKind.u64.wrap ((lowV n L (i + 1) : Nat) : Int) = ((lowV n L (i + 1) : Nat) : Int) := by have := lowV_lt n L (i + 1); rw [IntKind.wrap_u64]; omega
          have HDD := Lib.hid (show digs n (L + (i + 1)) = digs n (L + i) ++ [y] by rw [show L + (i + 1) = L + i + 1 by omega, digs_succ, hy, hd])
          have HMM := Lib.hid hmore
          have hi19I : (i : Int) < 19 := by omega
          have hd10I : (d : Int) < 10 := by omega
          clear hlow hnx hmore hd hy
          rcases hgo with h | ⟨h1, h2⟩
          case' inl =>
            have hz1 : 0 < nd W m' := by
              rcases Nat.eq_zero_or_pos (nd W m') with h' | h'
              · exact absurd ((nd_eq_zero W2).1 h') h
              · exact h'
            have hz2 : (0 : Int) < (nd W m' : Int) := by omega
          case' inr =>
            have hz1 : ¬ 0 < nd W m' := by rw [h1, nd_zero]; omega
            have hz2 : ¬ (0 : Int) < (nd W m' : Int) := by omega
            have hz3 : (0 : Int) < (lowV n L i : Int) := by omega
            have hz4 : 0 < lowV n L i := by omega
            have Hh1 := Lib.hid h1
            clear h1 h2
          all_goals
            have hlen : (digs n (L + i)).length + 1 ≤ 17592186044416 := by rw [digs_length]; have := HND.out; have := hL4.out; omega
            have HLEN := Lib.hid hlen
            clear hlen
            go_wp2_with (at_builtin; go_loud (refine wpList_app1 wr rfl (.tmp 39) (.tmp 44) _ rfl w.heap.size 5 5 i0 .u8 1 Tryz.underlying79 hi0 hz0 hj1 hj2 (by omega) _ (digs n (L + i)) y rfl rfl hown4.out HLEN.out hb4.size ?_); intro v5 w5 hown5 hb5 hfr5 hnw5)
            rw [← HDD.out] at hown5
            have HO5 := Lib.hid hown5
            have HR5 : Hid (Row w5 w5.heap.size A3 m' (nd W m')) := Lib.hid (hr4.out.frm hfr5 (fun g e => (hdj4.out g e).1) hb5.size)
            have HD5 : Hid (∀ g, A3 = some ⟨g, 0, none⟩ → v5.ownBlock ≠ some g ∧ g < w5.heap.size) := Lib.hid (fun g e => by
              have h0 := hdj4.out g e
              refine ⟨fun c => ?_, Nat.lt_of_lt_of_le h0.2 hb5.size⟩
              rcases hnw5 g c with h | h
              · exact h0.1 h
              · omega)
            clear hown5 hfr5 hnw5
            go_roundw
            case rel => exact ⟨i + 1, by omega, by go_num, rfl, HO5, HMM, HR5, HD5, hb4.trans hb5⟩
            case measure => simp [intOf]; omega
end Go.Proofs.YtdfnejpfpkaplaaGreatDoor
namespace Go.Proofs.YtdfnejpfpkaplaaGreatDoor
open Go Go.RowKit Nt
@[irreducible] def KA : Nat := 9223372036854775808
@[irreducible] def KB : Nat := 10
@[irreducible] def KP : Nat := 92233720368547758080
@[irreducible] def KQ : Nat := 13176245766935394011
end Go.Proofs.YtdfnejpfpkaplaaGreatDoor
namespace Go.Proofs.YtdfnejpfpkaplaaGreatDoor
open Go Go.RowKit Nt
@[irreducible] def mayB (s : ByteArray) : Bool := decide (May s)
theorem mayB_yes {s : ByteArray} (h : May s) : mayB s = true := by unfold mayB; exact decide_eq_true h
theorem mayB_no {s : ByteArray} (h : ¬ May s) : mayB s = false := by unfold mayB; exact decide_eq_false h
theorem toList_empty {s : ByteArray} (h : s.size = 0) : s.toList = [] := by
  rw [ba_toList]; exact List.eq_nil_of_length_eq_zero (by rw [Array.length_toList]; exact h)
theorem toList_full {s : ByteArray} (h : 0 < s.size) : ¬ s.toList = [] := fun c => by
  rw [ba_toList] at c
  have : s.data.toList.length = 0 := by rw [c]; rfl
  rw [Array.length_toList] at this
  have h2 : s.size = s.data.size := rfl
  omega
theorem toList_full2 {s : ByteArray} (h : 0 < s.size) : s.toList.isEmpty = false := by
  have := toList_full h
  cases h2 : s.toList with
  | nil => exact absurd h2 this
  | cons x l => rfl
set_option maxRecDepth 100000 in
theorem rMay_c (s : ByteArray) (w : World) (hs : s.size ≤ 9223372036854775807) :
    Calls Tryz.prog 52 #[.string s] w fun e w' => e = .returned (.bool (mayB s)) ∧ w = w' := by
  by_cases h1 : 16384 < s.size
  · have HB := Lib.hid (mayB_no (s := s) (fun c => by have := c.1; omega))
    have h1' : ¬ (s.size : Int) ≤ 16384 := by omega
    have h1'' : ¬ s.size ≤ 16384 := by omega
    go_enter Tryz.func52, Tryz.ntmps52
    go_wp2
    go_ret
    exact ⟨by rw [HB.out]; rfl, rfl⟩
  · have h1' : (s.size : Int) ≤ 16384 := by omega
    have h1'' : s.size ≤ 16384 := by omega
    by_cases h2 : s.size = 0
    · have HB := Lib.hid (mayB_yes (s := s) ⟨by omega, fun h => by omega⟩)
      have hE := toList_empty h2
      have H2 := Lib.hid h2
      clear h2
      go_enter Tryz.func52, Tryz.ntmps52
      go_wp2
      go_ret
      exact ⟨by rw [HB.out]; rfl, rfl⟩
    · have h2' : 0 < s.size := by omega
      have hE := toList_full h2'
      have hE2 := toList_full2 h2'
      by_cases h3 : (s[0]'h2').toNat = 0
      · have HB := Lib.hid (mayB_no (s := s) (fun c => c.2 h2' h3))
        have h3' := nne_false h3
        have H3 := Lib.hid h3
        clear h3
        go_enter Tryz.func52, Tryz.ntmps52
        go_wp2
        go_ret
        exact ⟨by rw [HB.out]; rfl, rfl⟩
      · have HB := Lib.hid (mayB_yes (s := s) ⟨by omega, fun _ => h3⟩)
        have h3' := nne_true h3
        have H3 := Lib.hid h3
        clear h3
        go_enter Tryz.func52, Tryz.ntmps52
        go_wp2
        go_ret
        exact ⟨by rw [HB.out]; rfl, rfl⟩
end Go.Proofs.YtdfnejpfpkaplaaGreatDoor
namespace Go.Proofs.YtdfnejpfpkaplaaGreatDoor
open Go Go.RowKit Nt
def decV (l : List UInt8) : Nat := l.foldl (fun a b => 10 * a + (b.toNat - 48)) 0
theorem decV_snoc (l : List UInt8) (c : UInt8) : decV (l ++ [c]) = 10 * decV l + (c.toNat - 48) := by unfold decV; rw [List.foldl_append]; rfl
def isDig (c : UInt8) : Prop := 48 ≤ c.toNat ∧ c.toNat ≤ 57
instance (c : UInt8) : Decidable (isDig c) := inferInstanceAs (Decidable (_ ∧ _))
theorem decV_lt : ∀ (n : Nat) (l : List UInt8), l.length = n → (∀ c ∈ l, isDig c) → decV l < 10 ^ n := by
  intro n
  induction n with
  | zero => intro l hl _; rw [List.eq_nil_of_length_eq_zero hl]; simp [decV]
  | succ n ih =>
    intro l hl h
    have hne : l ≠ [] := fun c => by rw [c] at hl; simp at hl
    rw [← List.dropLast_concat_getLast hne]
    have h1 := ih l.dropLast (by rw [List.length_dropLast]; omega) (fun x hx => h x ((List.dropLast_sublist l).subset hx))
    have h2 := h (l.getLast hne) (List.getLast_mem hne)
    unfold isDig at h2
    rw [decV_snoc, Nat.pow_succ]; omega
@[irreducible] def preV (s : ByteArray) (k : Nat) : Nat := decV (s.data.toList.take k)
theorem preV_zero (s : ByteArray) : preV s 0 = 0 := by unfold preV; rfl
theorem preV_full (s : ByteArray) : preV s s.size = decV s.data.toList := by
  unfold preV; rw [List.take_of_length_le]; rw [Array.length_toList]; exact Nat.le_refl _
theorem preV_succ (s : ByteArray) (k : Nat) (h : k < s.size) : preV s (k + 1) = 10 * preV s k + (s[k].toNat - 48) := by
  unfold preV
  have hk : k < s.data.toList.length := by rw [Array.length_toList]; exact h
  rw [List.take_succ_eq_append_getElem hk, decV_snoc]; rfl
def Digits (s : ByteArray) : Prop := ∀ k (h : k < s.size), isDig s[k]
def Valid (s : ByteArray) : Prop := 0 < s.size ∧ Digits s ∧ ¬ (1 < s.size ∧ ∀ h : 0 < s.size, s[0].toNat = 48)
theorem dig_pre {s : ByteArray} (h : Digits s) (k : Nat) (hk : k ≤ s.size) : preV s k < 10 ^ k := by
  unfold preV
  refine decV_lt k _ (by rw [List.length_take, Array.length_toList]; exact Nat.min_eq_left hk) (fun c hc => ?_)
  obtain ⟨j, hj, rfl⟩ := List.getElem_of_mem (List.mem_of_mem_take hc)
  rw [Array.length_toList] at hj
  exact h j hj
def RdOk (s : ByteArray) (k x part ten : Nat) : Prop := preV s k = x * ten + part ∧ part < ten ∧ ∃ j, j < 19 ∧ ten = 10 ^ j
theorem rd_lt {s : ByteArray} {k x part ten : Nat} (h : RdOk s k x part ten) : ten ≤ 1000000000000000000 ∧ part < 1000000000000000000 := by
  obtain ⟨_, h2, j, hj, rfl⟩ := h
  have : (10 : Nat) ^ j ≤ 10 ^ 18 := Nat.pow_le_pow_right (by omega) (by omega)
  have e : (10 : Nat) ^ 18 = 1000000000000000000 := by decide
  omega
theorem rd_step {s : ByteArray} {k x part ten d : Nat} (h : RdOk s k x part ten) (hd : preV s (k + 1) = 10 * preV s k + d) (hd10 : d < 10) :
    preV s (k + 1) = x * (ten * 10) + (part * 10 + d) ∧ part * 10 + d < ten * 10 := by
  obtain ⟨h1, h2, _⟩ := h
  rw [hd, h1]
  constructor
  · rw [Nat.mul_add, ← Nat.mul_assoc x ten 10]; omega
  · omega
theorem rd_keep {s : ByteArray} {k x part ten d : Nat} (h : RdOk s k x part ten) (hd : preV s (k + 1) = 10 * preV s k + d) (hd10 : d < 10) (hne : ten * 10 ≠ 10000000000000000000) : RdOk s (k + 1) x (part * 10 + d) (ten * 10) := by
  obtain ⟨q1, q2⟩ := rd_step h hd hd10
  refine ⟨q1, q2, ?_⟩
  obtain ⟨_, _, j, hj, rfl⟩ := h
  refine ⟨j + 1, ?_, by rw [Nat.pow_succ]⟩
  rcases Nat.lt_or_ge (j + 1) 19 with h3 | h3
  · exact h3
  · exfalso; apply hne
    have : j = 18 := by omega
    subst this; decide
theorem rd_push {s : ByteArray} {k x part ten d : Nat} (h : RdOk s k x part ten) (hd : preV s (k + 1) = 10 * preV s k + d) (hd10 : d < 10) : RdOk s (k + 1) (x * (ten * 10) + (part * 10 + d)) 0 1 := by
  obtain ⟨q1, q2⟩ := rd_step h hd hd10
  exact ⟨by rw [Nat.mul_one, Nat.add_zero]; exact q1, by omega, 0, by omega, by rw [Nat.pow_zero]⟩
@[irreducible] def t19B (x : Nat) : Bool := decide (x = 10000000000000000000)
theorem t19_yes {x : Nat} (h : x = 10000000000000000000) : t19B x = true := by unfold t19B; exact decide_eq_true h
theorem t19_no {x : Nat} (h : x ≠ 10000000000000000000) : t19B x = false := by unfold t19B; exact decide_eq_false h
@[local go_sem] theorem eq_t19 (x : Nat) : ((x : Int) == 10000000000000000000) = t19B x := by
  unfold t19B; rw [Bool.eq_iff_iff, beq_iff_eq, decide_eq_true_iff]; omega
theorem pre_ge {s : ByteArray} (hd : Digits s) (h0 : 0 < s.size) (h1 : s[0].toNat ≠ 48) : ∀ k, k + 1 ≤ s.size → 10 ^ k ≤ preV s (k + 1) := by
  intro k
  induction k with
  | zero =>
    intro _
    rw [preV_succ s 0 h0, preV_zero]
    have := hd 0 h0; unfold isDig at this
    rw [Nat.pow_zero]; omega
  | succ k ih =>
    intro hk
    have := ih (by omega)
    rw [preV_succ s (k + 1) (by omega), Nat.pow_succ]; omega
@[irreducible] def E39 : Nat := 39457
@[irreducible] def E16 : Nat := 16384
theorem E39_eq : E39 = 39457 := by unfold E39; rfl
theorem E16_eq : E16 = 16384 := by unfold E16; rfl
theorem big_ten : (256 : Nat) ^ E16 ≤ 10 ^ E39 := by unfold E16 E39; decide +kernel
theorem not_fits_ten {n : Nat} (h : 10 ^ E39 ≤ n) : ¬ fits n := by
  unfold fits
  rw [← E16_eq, ← lt_pow_iff (by omega)]
  exact Nat.not_lt.2 (Nat.le_trans big_ten h)
theorem long_dec {s : ByteArray} (hd : Digits s) (h0 : 0 < s.size) (h1 : s[0].toNat ≠ 48) (hl : 39457 < s.size) : ¬ fits (preV s s.size) := by
  obtain ⟨m, hm⟩ : ∃ m, s.size = m + 1 := ⟨s.size - 1, by omega⟩
  have := pre_ge hd h0 h1 m (by omega)
  rw [hm]
  exact not_fits_ten (Nat.le_trans (Nat.pow_le_pow_right (by omega) (by rw [E39_eq]; omega)) this)
set_option maxRecDepth 100000 in
theorem NRead_empty (s : ByteArray) (w : World) (h : s.size = 0) :
    Calls Tryz.prog 27 #[.string s] w (StrPost ⟨#[]⟩ 22 w) := by
  have hE := toList_empty h
  have H := Lib.hid h
  clear h
  go_enter Tryz.func27, Tryz.ntmps27
  go_wp2
  go_ret2
  exact ⟨rfl, Below.refl _ _⟩
set_option maxRecDepth 100000 in
theorem NRead_nought (s : ByteArray) (w : World) (h : 1 < s.size) (h0 : s[0].toNat = 48) (hs : s.size ≤ 9223372036854775807) :
    Calls Tryz.prog 27 #[.string s] w (StrPost ⟨#[]⟩ 22 w) := by
  have hp : 0 < s.size := by omega
  have hE := toList_full hp
  have hE2 := toList_full2 hp
  have h48 : ((s[0].toNat : Int) == 48) = true := by rw [beq_iff_eq]; omega
  have hI : (1 : Int) < (s.size : Int) := by omega
  have H0 := Lib.hid h0
  clear h0
  go_enter Tryz.func27, Tryz.ntmps27
  go_wp2
  go_ret2
  exact ⟨rfl, Below.refl _ _⟩
theorem head_no {s : ByteArray} (hp : 0 < s.size) (hn : ¬ (1 < s.size ∧ ∀ h : 0 < s.size, s[0].toNat = 48)) : ((s[0].toNat : Int) == 48) = false ∨ (((s[0].toNat : Int) == 48) = true ∧ ¬ (1 : Int) < (s.size : Int) ∧ ¬ 1 < s.size) := by
  by_cases h : s[0].toNat = 48
  · refine Or.inr ⟨by rw [beq_iff_eq]; omega, ?_, ?_⟩
    · intro c; exact hn ⟨by omega, fun _ => h⟩
    · intro c; exact hn ⟨c, fun _ => h⟩
  · exact Or.inl (by rw [beq_eq_false_iff_ne]; omega)
set_option maxRecDepth 100000 in
set_option maxHeartbeats 1000000 in
theorem NRead_bad (s : ByteArray) (w : World) (hs : s.size ≤ 9223372036854775807) (hp : 0 < s.size) (hn : ¬ (1 < s.size ∧ ∀ h : 0 < s.size, s[0].toNat = 48)) (hd : ¬ Digits s) :
    Calls Tryz.prog 27 #[.string s] w (StrPost ⟨#[]⟩ 22 w) := by
  have hE := toList_full hp
  have hE2 := toList_full2 hp
  have HD := Lib.hid hd
  have hh := head_no hp hn
  clear hn hd
  rcases hh with h1 | ⟨h1, h2, h3⟩
  all_goals
    go_enter Tryz.func27, Tryz.ntmps27
    go_wp2
    go_loop [23] (fun i => ∃ k : Nat, k ≤ s.size ∧ i = .int .i64 k ∧ Hid (∀ j (h : j < s.size), j < k → isDig s[j])) (fun i => s.size - (intOf i).toNat)
    case atStart => exact ⟨0, Nat.zero_le _, rfl, Lib.hid (fun j h hj => by omega)⟩
    case round =>
      obtain ⟨k, hk, rfl, hdg⟩ := hrel
      by_cases hlt : k < s.size
      · by_cases hdk : isDig s[k]
        · have hN : Hid (∀ j (h : j < s.size), j < k + 1 → isDig s[j]) := Lib.hid (fun j h hj => by
            rcases Nat.lt_or_ge j k with h4 | h4
            · exact hdg.out j h h4
            · obtain rfl : j = k := by omega
              exact hdk)
          unfold isDig at hdk
          have q1 : ¬ (s[k].toNat : Int) < 48 := by omega
          have q2 : ¬ (57 : Int) < (s[k].toNat : Int) := by omega
          clear hdk
          go_wp2
          go_round
          case rel => exact ⟨k + 1, by omega, by go_num, hN⟩
          case measure => simp [intOf]; omega
        · unfold isDig at hdk
          by_cases q1 : s[k].toNat < 48
          · have q2 : (s[k].toNat : Int) < 48 := by omega
            clear hdk
            go_wp2
            go_ret2
            exact ⟨rfl, Below.refl _ _⟩
          · have q2 : ¬ (s[k].toNat : Int) < 48 := by omega
            have q3 : (57 : Int) < (s[k].toNat : Int) := by omega
            clear hdk
            go_wp2
            go_ret2
            exact ⟨rfl, Below.refl _ _⟩
      · exact absurd (fun j h => hdg.out j h (by omega)) HD.out
theorem first_no {s : ByteArray} (hd : Digits s) (k : Nat) (h : k < s.size) : ¬ (s[k].toNat : Int) < 48 ∧ ¬ (57 : Int) < (s[k].toNat : Int) := by
  have := hd k h; unfold isDig at this; omega
theorem ndW_dec {n k : Nat} (h : n < 10 ^ k) : nd W n ≤ k := by
  refine nd_le W2 (Nat.lt_of_lt_of_le h (Nat.pow_le_pow_left ?_ k))
  rw [W_eq]; omega
set_option maxRecDepth 100000 in
set_option maxHeartbeats 4000000 in
theorem NRead_ok (s : ByteArray) (w : World) (hs : s.size ≤ 9223372036854775807) (hv : Valid s) (hlong : 39457 < s.size → ¬ fits (preV s s.size)) :
    Calls Tryz.prog 27 #[.string s] w (StrPost (resS (preV s s.size)) (resE (preV s s.size)) w) := by
  obtain ⟨hp, hd, hn⟩ := hv
  have hE := toList_full hp
  have hE2 := toList_full2 hp
  have HD := Lib.hid hd
  have hh := head_no hp hn
  have HL := Lib.hid hlong
  clear hn hd hlong
  rcases hh with h1 | ⟨h1, h2, h3⟩
  all_goals
    go_enter Tryz.func27, Tryz.ntmps27
    go_wp2
    go_loop [23] (fun i => ∃ k : Nat, k ≤ s.size ∧ i = .int .i64 k) (fun i => s.size - (intOf i).toNat)
    case atStart => exact ⟨0, Nat.zero_le _, rfl⟩
    case round =>
      obtain ⟨k, hk, rfl⟩ := hrel
      by_cases hlt : k < s.size
      · obtain ⟨q1, q2⟩ := first_no HD.out k hlt
        go_wp2
        go_round
        case rel => exact ⟨k + 1, by omega, by go_num⟩
        case measure => simp [intOf]; omega
      · obtain rfl : k = s.size := by omega
        by_cases hbig : 39457 < s.size
        · have hbI : (39457 : Int) < (s.size : Int) := by omega
          have e1 := Lib.hid (resS_no (HL.out hbig))
          have e2 := Lib.hid (resE_no (HL.out hbig))
          go_wp2
          go_ret2
          exact ⟨by rw [e1.out, e2.out]; rfl, Below.refl _ _⟩
        · have hbI : ¬ (39457 : Int) < (s.size : Int) := by omega
          have hsz : s.size ≤ 39457 := by omega
          have hszI : (s.size : Int) ≤ 39457 := by omega
          go_wp2
          go_loopw [5, 6, 7, 42] (fun x y z i wr => ∃ (k X part ten c : Nat) (A : Option Addr), k ≤ s.size ∧ i = .int .i64 k ∧ x = .slice A (nd W X) c ∧ y = .int .u64 part ∧ z = .int .u64 ten ∧ nd W X ≤ c ∧ Hid (Row wr wr.heap.size A X (nd W X)) ∧ Hid (RdOk s k X part ten) ∧ Hid (k = s.size → part = 0 ∧ ten = 1) ∧ Below w.heap.size w wr) (fun _ _ _ i _ => s.size - (intOf i).toNat)
          case atStart =>
            have e : nd W 0 = 0 := nd_zero _
            exact ⟨0, 0, 0, 1, 0, none, Nat.zero_le _, rfl, by rw [e], rfl, rfl, by rw [e]; exact Nat.le_refl _, by rw [e]; exact Lib.hid Row.none_, Lib.hid ⟨by rw [preV_zero], by omega, 0, by omega, by rw [Nat.pow_zero]⟩, Lib.hid (fun h => ⟨rfl, rfl⟩), Below.refl _ _⟩
          case round =>
            obtain ⟨k, X, part, ten, c, A, hk, rfl, rfl, rfl, rfl, hc, hrow, hrd, hlast, hb⟩ := hrel
            by_cases hlt : k < s.size
            · obtain ⟨d, hdd⟩ : ∃ d, d = s[k].toNat - 48 := ⟨_, rfl⟩
              have hdig := HD.out k hlt
              unfold isDig at hdig
              have hd10 : d < 10 := by omega
              have hpre := preV_succ s k hlt
              rw [← hdd] at hpre
              obtain ⟨ht, hpt⟩ := rd_lt hrd.out
              obtain ⟨t10, ht10⟩ : ∃ t10, t10 = ten * 10 := ⟨_, rfl⟩
              obtain ⟨p10, hp10⟩ : ∃ p10, p10 = part * 10 := ⟨_, rfl⟩
              obtain ⟨p', hp'⟩ : ∃ p', p' = p10 + d := ⟨_, rfl⟩
              have w1 : IntKind.u64.wrap ((part : Int) * 10) = (p10 : Int) := by rw [IntKind.wrap_u64]; omega
              have w2 : IntKind.u8.wrap ((s[k].toNat : Int) - 48) = (d : Int) := by rw [show (s[k].toNat : Int) - 48 = ((d : Nat) : Int) by omega, wrap_u8]; omega
              have w3 : IntKind.u64.wrap (d : Int) = (d : Int) := by rw [IntKind.wrap_u64]; omega
              have w4 : IntKind.u64.wrap ((p10 : Int) + (d : Int)) = (p' : Int) := by rw [IntKind.wrap_u64]; omega
              have w5 : IntKind.u64.wrap ((ten : Int) * 10) = (t10 : Int) := by rw [IntKind.wrap_u64]; omega
              have hXw : nd W X ≤ 39457 := by
                have h5 := dig_pre HD.out k hk
                have h6 : X < 10 ^ k := by
                  refine Nat.lt_of_le_of_lt ?_ h5
                  rw [hrd.out.1]
                  obtain ⟨_, hlt1, j, hj, rfl⟩ := hrd.out
                  have := Nat.mul_le_mul_left X (Nat.pow_pos (n := j) (show 0 < 10 by omega))
                  omega
                have := ndW_dec h6; omega
              have hstep := rd_push hrd.out hpre hd10
              rw [← ht10, show part * 10 + d = p' by omega] at hstep
              have hkeep := fun h => rd_keep hrd.out hpre hd10 h
              rw [← ht10, show part * 10 + d = p' by omega] at hkeep
              have HST := Lib.hid hstep
              have HKP := Lib.hid hkeep
              have l1 := Lib.hid (show t10 < 18446744073709551616 by omega)
              have l2 := Lib.hid (show p' < 18446744073709551616 by omega)
              have HW := Lib.hid hXw
              clear hdd hdig hpre ht hpt ht10 hp10 hp' hXw hstep hkeep
              have hcs : (t19B t10 = true ∨ (t19B t10 = false ∧ k + 1 = s.size)) ∨ (t10 ≠ 10000000000000000000 ∧ k + 1 ≠ s.size) := by
                by_cases g1 : t10 = 10000000000000000000
                · exact Or.inl (Or.inl (t19_yes g1))
                · by_cases g2 : k + 1 = s.size
                  · exact Or.inl (Or.inr ⟨t19_no g1, g2⟩)
                  · exact Or.inr ⟨g1, g2⟩
              rcases hcs with g | ⟨g1, g2⟩
              · rcases g with g | ⟨g, g2⟩
                case' inr =>
                  have hl : ((k : Int) == (s.size : Int) - 1) = true := by rw [beq_iff_eq]; omega
                  have G2 := Lib.hid g2
                  clear g2
                all_goals
                  go_wp2_with (go_at_call 46; refine (Put_c _ _ _ _ _ _ _ l1.out l2.out (by have := HW.out; omega) hrow.out (Nat.le_refl _)).mono ?_; intro e w3 hpp; obtain ⟨A3, c3, rfl, hc3, hr3, hb3⟩ := hpp.get; have HR3 := Lib.hid hr3; clear hr3 hpp)
                  have hbb := hb.trans (hb3.mono hb.size)
                  go_roundw
                  case rel => exact ⟨k + 1, _, 0, 1, c3, A3, by omega, by go_num, rfl, rfl, rfl, hc3, HR3, HST, Lib.hid (fun _ => ⟨rfl, rfl⟩), hbb⟩
                  case measure => simp [intOf]; omega
              · have hl : ((k : Int) == (s.size : Int) - 1) = false := by rw [beq_eq_false_iff_ne]; omega
                have hB := t19_no g1
                have G1 := Lib.hid g1
                have G2 := Lib.hid g2
                clear g1 g2
                go_wp2
                go_roundw
                case rel => exact ⟨k + 1, X, p', t10, c, A, by omega, by go_num, rfl, rfl, rfl, hc, hrow, Lib.hid (HKP.out G1.out), Lib.hid (fun h => absurd h G2.out), hb⟩
                case measure => simp [intOf]; omega
            · obtain rfl : k = s.size := by omega
              obtain ⟨rfl, rfl⟩ := hlast.out rfl
              have hX : X = preV s s.size := by have := hrd.out.1; rw [Nat.mul_one, Nat.add_zero] at this; exact this.symm
              have hXw : nd W X ≤ 39457 := by rw [hX]; exact Nat.le_trans (ndW_dec (dig_pre HD.out s.size (Nat.le_refl _))) hsz
              have HX := Lib.hid hX
              have HW := Lib.hid hXw
              clear hX hXw
              go_wp2_with (go_at_call 47; refine (made_c _ _ _ _ _ (by have := HW.out; omega) hrow.out (Nat.le_refl _)).mono ?_; rintro e w' ⟨rfl, hb'⟩)
              go_ret2
              exact ⟨by rw [← HX.out]; rfl, hb.trans (hb'.mono hb.size)⟩
end Go.Proofs.YtdfnejpfpkaplaaGreatDoor
