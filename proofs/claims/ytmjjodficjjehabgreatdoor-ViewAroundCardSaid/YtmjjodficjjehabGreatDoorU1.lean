/- Texts put together: N0 N1 N2 N3 Shelf N4 N5 N6 N7 N8 N9 N12 N13 N14 N15 N16 N17 N18 N19 N20 N21 N24 N32 N33 N37. -/
import Derived.IntWalk
import Derived.Lib.BitFns
import Derived.Test.YtmjjodficjjehabGreatDoorRows
import Derived.Below
import Derived.Laws.OwnMore
import Derived.Laws.Rows
import Derived.Deep.Draws
import Derived.Deep.AppendLies
import Derived.OwnWalk
import Derived.Shelf.Small.Bits
import Derived.Shelf.Small.Wraps
import Derived.Shelf.Strconv.Itoa0
import Derived.Shelf.Bits.Mul64
import Derived.Test.YtmjjodficjjehabGreatDoorProg
import Derived.Shelf.Spec.TrailingZeros
import Derived.Shelf.Spec.BitsCarry
import Derived.WalkKit
import Derived.WalkLawsBesides
import Derived.WalkSpells
import Derived.Deep.QuietTactic
import Derived.BigQuiet
import Derived.Outline
import Derived.Lib.Hide
import Derived.RegionTactic
import Derived.LoopTactic
import Derived.Laws.Bits64b
import Derived.Lib.ConvBytes
import Derived.Deep.RegionHeld3
import Derived.Deep.RegionWith
import Derived.Deep.CutBlock
import Derived.Deep.DeepCutAuto
import Derived.Laws.AppendOwn
import Derived.Deep.LoopGhost
import Derived.Maps.AppendAt
set_option linter.unusedSimpArgs false
set_option linter.unusedVariables false
namespace Nt
def nd (b n : Nat) : Nat := if h : n = 0 ∨ b ≤ 1 then 0 else nd b (n / b) + 1
termination_by n
decreasing_by exact Nat.div_lt_self (by omega) (by omega)
theorem nd_zero (b : Nat) : nd b 0 = 0 := by unfold nd; simp
theorem nd_step {b n : Nat} (hb : 2 ≤ b) (hn : n ≠ 0) : nd b n = nd b (n / b) + 1 := by
  rw [nd, dif_neg (by omega)]
theorem lt_pow_iff {b : Nat} (hb : 2 ≤ b) : ∀ (k n : Nat), n < b ^ k ↔ nd b n ≤ k := by
  intro k
  induction k with
  | zero =>
    intro n
    rw [Nat.pow_zero]
    constructor
    · intro h; have : n = 0 := by omega
      subst this; rw [nd_zero]; exact Nat.le_refl _
    · intro h
      rcases Nat.eq_zero_or_pos n with h0 | h0
      · omega
      · rw [nd_step hb (by omega)] at h; omega
  | succ k ih =>
    intro n
    rcases Nat.eq_zero_or_pos n with h0 | h0
    · subst h0; rw [nd_zero]
      exact ⟨fun _ => by omega, fun _ => Nat.pow_pos (by omega)⟩
    · rw [nd_step hb (by omega), Nat.pow_succ]
      have e := ih (n / b)
      rw [Nat.div_lt_iff_lt_mul (by omega)] at e
      rw [e]; omega
theorem nd_le {b n k : Nat} (hb : 2 ≤ b) (h : n < b ^ k) : nd b n ≤ k := (lt_pow_iff hb k n).1 h
theorem lt_nd {b n : Nat} (hb : 2 ≤ b) : n < b ^ nd b n := (lt_pow_iff hb _ _).2 (Nat.le_refl _)
theorem pow_le_iff {b : Nat} (hb : 2 ≤ b) (k n : Nat) : b ^ k ≤ n ↔ k < nd b n := by
  have := lt_pow_iff hb k n; omega
theorem nd_eq_zero {b n : Nat} (hb : 2 ≤ b) : nd b n = 0 ↔ n = 0 := by
  constructor
  · intro h; have := (lt_pow_iff hb 0 n).2 (by omega); simpa using this
  · rintro rfl; exact nd_zero _
theorem nd_mono {b m n : Nat} (hb : 2 ≤ b) (h : m ≤ n) : nd b m ≤ nd b n := nd_le hb (Nat.lt_of_le_of_lt h (lt_nd hb))
theorem nd_pow {b c e : Nat} (hb : 2 ≤ b) (he : 0 < e) (hc : c = b ^ e) (n k : Nat) : nd b n ≤ e * k ↔ nd c n ≤ k := by
  have hc2 : 2 ≤ c := by
    subst hc; obtain ⟨f, rfl⟩ : ∃ f, e = f + 1 := ⟨e - 1, by omega⟩
    rw [Nat.pow_succ]; have := Nat.pow_pos (n := f) (show 0 < b by omega); exact Nat.le_trans hb (Nat.le_mul_of_pos_left _ this)
  rw [← lt_pow_iff hb, ← lt_pow_iff hc2, hc, Nat.pow_mul]
@[irreducible] def dgt (b n i : Nat) : Nat := n / b ^ i % b
theorem dgt_def (b n i : Nat) : dgt b n i = n / b ^ i % b := by unfold dgt; rfl
theorem dgt_lt {b : Nat} (hb : 0 < b) (n i : Nat) : dgt b n i < b := by rw [dgt_def]; exact Nat.mod_lt _ hb
theorem mod_succ (b n i : Nat) : n % b ^ (i + 1) = n % b ^ i + b ^ i * dgt b n i := by rw [dgt_def]; exact Nat.mod_pow_succ
theorem dgt_big {b n i : Nat} (hb : 2 ≤ b) (h : nd b n ≤ i) : dgt b n i = 0 := by
  rw [dgt_def, Nat.div_eq_of_lt ((lt_pow_iff hb i n).2 h), Nat.zero_mod]
theorem dgt_top {b n : Nat} (hb : 2 ≤ b) (h : n ≠ 0) : dgt b n (nd b n - 1) ≠ 0 := by
  have h0 : nd b n ≠ 0 := fun c => h ((nd_eq_zero hb).1 c)
  have h1 : b ^ (nd b n - 1) ≤ n := (pow_le_iff hb _ _).2 (by omega)
  have h2 := lt_nd (b := b) (n := n) hb
  rw [dgt_def]
  have e : b ^ nd b n = b ^ (nd b n - 1) * b := by rw [← Nat.pow_succ]; congr 1; omega
  have h3 : n / b ^ (nd b n - 1) < b := by
    rw [Nat.div_lt_iff_lt_mul (Nat.pow_pos (by omega)), Nat.mul_comm, ← e]; exact h2
  have h4 : 1 ≤ n / b ^ (nd b n - 1) := (Nat.le_div_iff_mul_le (Nat.pow_pos (by omega))).2 (by omega)
  rw [Nat.mod_eq_of_lt h3]; omega
theorem div_eq_dgt {b : Nat} (hb : 0 < b) (n i : Nat) : n / b ^ i = dgt b n i + b * (n / b ^ (i + 1)) := by
  rw [dgt_def, Nat.pow_succ, ← Nat.div_div_eq_div_mul]; exact (Nat.mod_add_div _ _).symm
theorem mod_eq_of_digits {b : Nat} (n m : Nat) : ∀ L, (∀ i, i < L → dgt b n i = dgt b m i) → n % b ^ L = m % b ^ L := by
  intro L
  induction L with
  | zero => intro _; simp [Nat.mod_one]
  | succ L ih =>
    intro h
    rw [mod_succ, mod_succ, ih (fun i hi => h i (by omega)), h L (by omega)]
theorem dgt_mod {b : Nat} (n : Nat) {i L : Nat} (h : i < L) : dgt b (n % b ^ L) i = dgt b n i := by
  rw [dgt_def, dgt_def]
  obtain ⟨d, rfl⟩ : ∃ d, L = i + 1 + d := ⟨L - i - 1, by omega⟩
  rw [show b ^ (i + 1 + d) = b ^ i * (b * b ^ d) by rw [Nat.pow_add, Nat.pow_succ, Nat.mul_assoc], Nat.mod_mul_right_div_self, Nat.mod_mul_right_mod]
theorem dgt_add_mul {b : Nat} (hb : 0 < b) (n m : Nat) {i L : Nat} (h : i < L) : dgt b (n + b ^ L * m) i = dgt b n i := by
  rw [← dgt_mod (n + b ^ L * m) h, Nat.add_mul_mod_self_left, dgt_mod n h]
theorem dgt_of_lt {b n i L : Nat} (hb : 2 ≤ b) (h : n < b ^ L) (hi : L ≤ i) : dgt b n i = 0 := dgt_big hb (Nat.le_trans (nd_le hb h) hi)
theorem dgt_shift {b : Nat} (hb : 0 < b) (n m L i : Nat) (hn : n < b ^ L) (h : L ≤ i) : dgt b (n + b ^ L * m) i = dgt b m (i - L) := by
  rw [dgt_def, dgt_def]
  obtain ⟨d, rfl⟩ : ∃ d, i = L + d := ⟨i - L, by omega⟩
  rw [Nat.pow_add, ← Nat.div_div_eq_div_mul, Nat.add_mul_div_left _ _ (Nat.pow_pos hb), Nat.div_eq_of_lt hn, Nat.zero_add]; congr 3; omega
def put (b n i v : Nat) : Nat := n % b ^ i + b ^ i * (v + b * (n / b ^ (i + 1)))
theorem dgt_put {b : Nat} (hb : 2 ≤ b) (n i v j : Nat) (hv : v < b) : dgt b (put b n i v) j = if j = i then v else dgt b n j := by
  unfold put
  have hp : n % b ^ i < b ^ i := Nat.mod_lt _ (Nat.pow_pos (by omega))
  by_cases h : j = i
  · subst h; rw [if_pos rfl, dgt_shift (by omega) _ _ _ _ hp (Nat.le_refl _), dgt_def, Nat.sub_self, Nat.pow_zero, Nat.div_one, Nat.add_mul_mod_self_left, Nat.mod_eq_of_lt hv]
  · rw [if_neg h]
    by_cases h1 : j < i
    · rw [dgt_add_mul (by omega) _ _ h1, dgt_mod _ h1]
    · rw [dgt_shift (by omega) _ _ _ _ hp (by omega)]
      have e := dgt_shift (b := b) (by omega) v (n / b ^ (i + 1)) 1 (j - i) (by rw [Nat.pow_one]; exact hv) (by omega)
      rw [Nat.pow_one] at e
      rw [e, dgt_def, dgt_def, Nat.div_div_eq_div_mul, ← Nat.pow_add]; congr 3; omega
def dl (b n L : Nat) : List Nat := (List.range L).map (dgt b n)
theorem dl_length (b n L : Nat) : (dl b n L).length = L := by simp [dl]
theorem dl_get? (b n L i : Nat) (h : i < L) : (dl b n L)[i]? = some (dgt b n i) := by
  unfold dl; rw [List.getElem?_map, List.getElem?_range h]; rfl
theorem dl_set {b : Nat} (hb : 2 ≤ b) (n L i v : Nat) (hv : v < b) : (dl b n L).set i v = dl b (put b n i v) L := by
  apply List.ext_getElem?
  intro j
  rw [List.getElem?_set]
  by_cases hj : j < L
  · rw [dl_get? b (put b n i v) L j hj, dgt_put hb n i v j hv]
    by_cases h : j = i
    · subst h; rw [if_pos rfl, if_pos (by rw [dl_length]; exact hj), if_pos rfl]
    · rw [if_neg (fun c => h c.symm), if_neg h, dl_get? b n L j hj]
  · rw [List.getElem?_eq_none (l := dl b (put b n i v) L) (by rw [dl_length]; omega)]
    by_cases h : i = j
    · subst h; rw [if_pos rfl, if_neg (by rw [dl_length]; omega)]
    · rw [if_neg h, List.getElem?_eq_none (by rw [dl_length]; omega)]
def of (b : Nat) (l : List Nat) : Nat := l.foldr (fun x a => x + b * a) 0
theorem of_nil (b : Nat) : of b [] = 0 := rfl
theorem of_cons (b x : Nat) (l : List Nat) : of b (x :: l) = x + b * of b l := rfl
theorem of_append (b : Nat) (l m : List Nat) : of b (l ++ m) = of b l + b ^ l.length * of b m := by
  induction l with
  | nil => simp [of_nil]
  | cons x l ih => rw [List.cons_append, of_cons, of_cons, ih, List.length_cons, Nat.pow_succ, Nat.mul_add, Nat.add_assoc, ← Nat.mul_assoc, Nat.mul_comm b (b ^ l.length)]
theorem of_lt {b : Nat} (hb : 0 < b) (l : List Nat) (h : ∀ x ∈ l, x < b) : of b l < b ^ l.length := by
  induction l with
  | nil => simp [of_nil]
  | cons x l ih =>
    have h1 := ih (fun y hy => h y (List.mem_cons_of_mem _ hy))
    have h2 := h x (List.mem_cons_self ..)
    rw [of_cons, List.length_cons, Nat.pow_succ]
    have : b * (of b l + 1) ≤ b ^ l.length * b := by rw [Nat.mul_comm]; exact Nat.mul_le_mul_right _ h1
    rw [Nat.mul_add] at this; omega
theorem dgt_of {b : Nat} (hb : 2 ≤ b) (l : List Nat) (h : ∀ x ∈ l, x < b) (i : Nat) (hi : i < l.length) : dgt b (of b l) i = l[i] := by
  have e : l = l.take i ++ l[i] :: l.drop (i + 1) := by rw [List.getElem_cons_drop, List.take_append_drop]
  have hl : (l.take i).length = i := by simp; omega
  have h1 : of b (l.take i) < b ^ i := by
    have := of_lt (b := b) (by omega) (l.take i) (fun x hx => h x (List.mem_of_mem_take hx)); rwa [hl] at this
  have h2 : of b l = of b (l.take i) + b ^ i * (l[i] + b * of b (l.drop (i + 1))) := by
    conv => lhs; rw [e]
    rw [of_append, of_cons, hl]
  rw [h2, dgt_shift (by omega) _ _ _ _ h1 (Nat.le_refl _), dgt_def, Nat.sub_self, Nat.pow_zero, Nat.div_one, Nat.add_mul_mod_self_left, Nat.mod_eq_of_lt (h _ (List.getElem_mem hi))]
theorem eq_of_digits {b n m L : Nat} (hn : n < b ^ L) (hm : m < b ^ L) (h : ∀ i, i < L → dgt b n i = dgt b m i) : n = m := by
  have := mod_eq_of_digits n m L h
  rwa [Nat.mod_eq_of_lt hn, Nat.mod_eq_of_lt hm] at this
/-! Sums, differences. -/
@[irreducible] def car (b x y i : Nat) : Nat := (x % b ^ i + y % b ^ i) / b ^ i
theorem car_def (b x y i : Nat) : car b x y i = (x % b ^ i + y % b ^ i) / b ^ i := by unfold car; rfl
theorem car_zero (b x y : Nat) : car b x y 0 = 0 := by rw [car_def]; simp [Nat.mod_one]
theorem car_le {b : Nat} (hb : 0 < b) (x y i : Nat) : car b x y i ≤ 1 := by
  rw [car_def]
  have h1 : x % b ^ i < b ^ i := Nat.mod_lt _ (Nat.pow_pos hb)
  have h2 : y % b ^ i < b ^ i := Nat.mod_lt _ (Nat.pow_pos hb)
  have : (x % b ^ i + y % b ^ i) / b ^ i < 2 := by rw [Nat.div_lt_iff_lt_mul (Nat.pow_pos hb)]; omega
  omega
theorem car_succ {b : Nat} (hb : 0 < b) (x y i : Nat) : car b x y (i + 1) = (dgt b x i + dgt b y i + car b x y i) / b := by
  rw [car_def, car_def, mod_succ, mod_succ]
  have e : x % b ^ i + b ^ i * dgt b x i + (y % b ^ i + b ^ i * dgt b y i) = (x % b ^ i + y % b ^ i) + b ^ i * (dgt b x i + dgt b y i) := by rw [Nat.mul_add]; omega
  rw [e, Nat.pow_succ, ← Nat.div_div_eq_div_mul, Nat.add_mul_div_left _ _ (Nat.pow_pos hb)]; congr 1; omega
theorem dgt_add {b : Nat} (hb : 0 < b) (x y i : Nat) : dgt b (x + y) i = (dgt b x i + dgt b y i + car b x y i) % b := by
  have e : x + y = (x % b ^ i + y % b ^ i) + b ^ i * (x / b ^ i + y / b ^ i) := by
    have h1 := Nat.mod_add_div x (b ^ i); have h2 := Nat.mod_add_div y (b ^ i); rw [Nat.mul_add]; omega
  rw [dgt_def, e, Nat.add_mul_div_left _ _ (Nat.pow_pos hb), car_def, dgt_def, dgt_def]
  rw [Nat.add_comm]
  simp [Nat.add_mod]
theorem car_last {b : Nat} (hb : 2 ≤ b) (x y L : Nat) (hx : x < b ^ L) (hy : y < b ^ L) : car b x y L = dgt b (x + y) L := by
  rw [dgt_add (by omega), dgt_of_lt hb hx (Nat.le_refl _), dgt_of_lt hb hy (Nat.le_refl _), Nat.zero_add, Nat.mod_eq_of_lt]
  have := car_le (b := b) (by omega) x y L; omega
@[irreducible] def bor (b x y i : Nat) : Nat := if x % b ^ i < y % b ^ i then 1 else 0
theorem bor_def (b x y i : Nat) : bor b x y i = if x % b ^ i < y % b ^ i then 1 else 0 := by unfold bor; rfl
theorem bor_zero (b x y : Nat) : bor b x y 0 = 0 := by rw [bor_def]; simp [Nat.mod_one]
theorem bor_le (b x y i : Nat) : bor b x y i ≤ 1 := by rw [bor_def]; split <;> omega
theorem bor_succ {b : Nat} (hb : 0 < b) (x y i : Nat) : bor b x y (i + 1) = if dgt b x i < dgt b y i + bor b x y i then 1 else 0 := by
  have h1 : x % b ^ i < b ^ i := Nat.mod_lt _ (Nat.pow_pos hb)
  have h2 : y % b ^ i < b ^ i := Nat.mod_lt _ (Nat.pow_pos hb)
  rw [bor_def, mod_succ, mod_succ]
  have hbi := bor_def b x y i
  generalize x % b ^ i = p at *
  generalize y % b ^ i = q at *
  rcases Nat.lt_trichotomy (dgt b x i) (dgt b y i) with h | h | h
  · have := Nat.mul_le_mul_left (b ^ i) h
    rw [Nat.mul_succ] at this
    rw [if_pos (by omega), if_pos (by omega)]
  · rw [h, hbi]
    by_cases h3 : p < q
    · rw [if_pos h3, if_pos (by omega), if_pos (by omega)]
    · rw [if_neg h3, if_neg (by omega), if_neg (by omega)]
  · have := Nat.mul_le_mul_left (b ^ i) h
    rw [Nat.mul_succ] at this
    have h4 := bor_le b x y i
    rw [if_neg (by omega), if_neg (by omega)]
theorem dgt_sub {b : Nat} (hb : 2 ≤ b) (x y i : Nat) (h : y ≤ x) : dgt b (x - y) i = (dgt b x i + b - dgt b y i - bor b x y i) % b := by
  obtain ⟨z, rfl⟩ : ∃ z, x = y + z := ⟨x - y, by omega⟩
  rw [Nat.add_sub_cancel_left, dgt_add (by omega)]
  have hc : bor b (y + z) y i = car b y z i := by
    rw [bor_def, car_def]
    have h1 : y % b ^ i < b ^ i := Nat.mod_lt _ (Nat.pow_pos (by omega))
    have h2 : z % b ^ i < b ^ i := Nat.mod_lt _ (Nat.pow_pos (by omega))
    rw [Nat.add_mod]
    generalize y % b ^ i = p at *
    generalize z % b ^ i = q at *
    by_cases h3 : p + q < b ^ i
    · rw [Nat.mod_eq_of_lt h3, Nat.div_eq_of_lt h3, if_neg (by omega)]
    · have e : (p + q) % b ^ i = p + q - b ^ i := by rw [Nat.mod_eq_sub_mod (by omega), Nat.mod_eq_of_lt (by omega)]
      have e2 : (p + q) / b ^ i = 1 := by
        rw [Nat.div_eq_of_lt_le] <;> omega
      rw [e, e2, if_pos (by omega)]
  rw [hc]
  have h1 := dgt_lt (b := b) (by omega) y i
  have h2 := dgt_lt (b := b) (by omega) z i
  have h3 := car_le (b := b) (by omega) y z i
  by_cases h4 : dgt b y i + dgt b z i + car b y z i < b
  · rw [Nat.mod_eq_of_lt h4]
    rw [show dgt b y i + dgt b z i + car b y z i + b - dgt b y i - car b y z i = dgt b z i + b by omega, Nat.add_mod_right, Nat.mod_eq_of_lt h2]
  · have e : (dgt b y i + dgt b z i + car b y z i) % b = dgt b y i + dgt b z i + car b y z i - b := by rw [Nat.mod_eq_sub_mod (by omega), Nat.mod_eq_of_lt (by omega)]
    rw [e, show dgt b y i + dgt b z i + car b y z i - b + b - dgt b y i - car b y z i = dgt b z i by omega, Nat.mod_eq_of_lt h2]
end Nt
namespace Nt
theorem put_eq {b : Nat} (n i v : Nat) (hb : 0 < b) : put b n i v + b ^ i * dgt b n i = n + b ^ i * v := by
  have h := Nat.mod_add_div n (b ^ i)
  rw [div_eq_dgt hb, Nat.mul_add] at h
  unfold put
  rw [Nat.mul_add]; omega
theorem put_lt {b : Nat} (hb : 2 ≤ b) {n i v L : Nat} (hv : v < b) (hn : n < b ^ L) (hi : i < L) : put b n i v < b ^ L := by
  have hp : 0 < b ^ L := Nat.pow_pos (by omega)
  have : put b n i v % b ^ L = put b n i v := by
    unfold put
    obtain ⟨d, rfl⟩ : ∃ d, L = i + (1 + d) := ⟨L - i - 1, by omega⟩
    apply Nat.mod_eq_of_lt
    have h1 : n % b ^ i < b ^ i := Nat.mod_lt _ (Nat.pow_pos (by omega))
    have h2 : n / b ^ (i + 1) < b ^ d := by
      rw [Nat.div_lt_iff_lt_mul (Nat.pow_pos (by omega)), ← Nat.pow_add]; rwa [show d + (i + 1) = i + (1 + d) by omega]
    have e1 : b ^ (i + (1 + d)) = b ^ i * (b * b ^ d) := by rw [Nat.pow_add, Nat.pow_add, Nat.pow_one]
    rw [e1]
    generalize n / b ^ (i + 1) = q at *
    generalize n % b ^ i = p at *
    generalize b ^ d = s at *
    generalize b ^ i = t at *
    have h3 : v + b * q < b * s := by
      have : b * (q + 1) ≤ b * s := Nat.mul_le_mul_left _ h2
      rw [Nat.mul_add] at this; omega
    have h4 : t * (v + b * q + 1) ≤ t * (b * s) := Nat.mul_le_mul_left _ h3
    rw [Nat.mul_add _ _ 1] at h4; omega
  rw [← this]; exact Nat.mod_lt _ hp
theorem put_new {b : Nat} (n i v : Nat) (hb : 0 < b) (h : dgt b n i = 0) : put b n i v = n + b ^ i * v := by
  have := put_eq n i v hb; rw [h] at this; omega
theorem mod_lt_pow {b : Nat} (hb : 0 < b) (n i : Nat) : n % b ^ i < b ^ i := Nat.mod_lt _ (Nat.pow_pos hb)
theorem dgt_mod_ge {b : Nat} (hb : 2 ≤ b) (n i : Nat) : dgt b (n % b ^ i) i = 0 := dgt_of_lt hb (mod_lt_pow (by omega) n i) (Nat.le_refl _)
theorem put_mod {b : Nat} (hb : 2 ≤ b) (n i : Nat) : put b (n % b ^ i) i (dgt b n i) = n % b ^ (i + 1) := by
  rw [put_new _ _ _ (by omega) (dgt_mod_ge hb n i), mod_succ]
/-! A number times a digit, and one more. -/
theorem prod_lt {b w v : Nat} (hw : w < b) (hv : v < b) : w * v + b + b ≤ b * b + 1 := by
  have h1 : (w + 1) * (v + 1) ≤ b * b := Nat.mul_le_mul hw hv
  have h2 : w * v ≤ (b - 1) * (b - 1) := Nat.mul_le_mul (by omega) (by omega)
  have h3 : (b - 1) * (b - 1) + (b - 1) = (b - 1) * b := by rw [← Nat.mul_succ]; congr 1; omega
  have h4 : (b - 1) * b + b = b * b := by rw [← Nat.succ_mul]; congr 1; omega
  omega
/-! Division by one digit. -/
/-! Shifts: the base is two to the power e. -/
theorem dgt_shr {e : Nat} (x s i : Nat) (hs : s ≤ e) : dgt (2 ^ e) (x / 2 ^ s) i = dgt (2 ^ e) x i / 2 ^ s + dgt (2 ^ e) x (i + 1) * 2 ^ (e - s) % 2 ^ e := by
  have hb : 0 < 2 ^ e := Nat.two_pow_pos e
  have h1 := dgt_lt hb x i
  have h2 := div_eq_dgt hb x i
  have h3 := div_eq_dgt hb x (i + 1)
  have e1 : x / 2 ^ s / (2 ^ e) ^ i = x / (2 ^ e) ^ i / 2 ^ s := by rw [Nat.div_div_eq_div_mul, Nat.div_div_eq_div_mul, Nat.mul_comm]
  rw [dgt_def (2 ^ e) (x / 2 ^ s), e1, h2]
  generalize dgt (2 ^ e) x i = d at *
  have he : 2 ^ e = 2 ^ s * 2 ^ (e - s) := by rw [← Nat.pow_add]; congr 1; omega
  have e2 : d + 2 ^ e * (x / (2 ^ e) ^ (i + 1)) = d + 2 ^ s * (2 ^ (e - s) * (x / (2 ^ e) ^ (i + 1))) := by rw [← Nat.mul_assoc, ← he]
  rw [e2, Nat.add_mul_div_left _ _ (Nat.two_pow_pos s), h3]
  have h4 : d / 2 ^ s < 2 ^ (e - s) := by
    rw [Nat.div_lt_iff_lt_mul (Nat.two_pow_pos s), Nat.mul_comm, ← he]; exact h1
  generalize dgt (2 ^ e) x (i + 1) = c at *
  generalize d / 2 ^ s = f at *
  rw [Nat.mul_add, ← Nat.mul_assoc, Nat.mul_comm (2 ^ (e - s)) (2 ^ e), Nat.mul_assoc, ← Nat.add_assoc, Nat.add_mul_mod_self_left]
  have h5 : 2 ^ (e - s) * c % 2 ^ e = 2 ^ (e - s) * (c % 2 ^ s) := by
    have : 2 ^ e = 2 ^ (e - s) * 2 ^ s := by rw [Nat.mul_comm]; exact he
    rw [this, Nat.mul_mod_mul_left]
  rw [Nat.mul_comm c, h5, Nat.add_mod, h5]
  have h6 : c % 2 ^ s < 2 ^ s := Nat.mod_lt _ (Nat.two_pow_pos s)
  have h7 : 2 ^ (e - s) * (c % 2 ^ s + 1) ≤ 2 ^ (e - s) * 2 ^ s := Nat.mul_le_mul_left _ h6
  rw [Nat.mul_add, Nat.mul_comm (2 ^ (e - s)) (2 ^ s), ← he] at h7
  have h8 : 2 ^ (e - s) ≤ 2 ^ e := Nat.pow_le_pow_right (by omega) (by omega)
  rw [Nat.mod_eq_of_lt (a := f) (by omega), Nat.mod_eq_of_lt]; omega
theorem dgt_skip {b : Nat} (x k i : Nat) : dgt b (x / b ^ k) i = dgt b x (i + k) := by
  rw [dgt_def, dgt_def, Nat.div_div_eq_div_mul, ← Nat.pow_add, Nat.add_comm]
theorem or_add (x y s : Nat) (hx : x < 2 ^ s) : x ||| (2 ^ s * y) = x + 2 ^ s * y := by
  rw [Nat.or_comm, Nat.add_comm, Nat.two_pow_add_eq_or_of_lt hx]
theorem dgt_in {b e : Nat} (hb : 0 < b) (n i j : Nat) (hj : j < e) : dgt b (dgt (b ^ e) n i) j = dgt b n (e * i + j) := by
  rw [dgt_def (b ^ e), dgt_mod _ hj, ← Nat.pow_mul, dgt_skip, Nat.add_comm]
theorem shl_step {e : Nat} (x k q r : Nat) (hr : r ≤ e) :
    let b := 2 ^ e
    let V := x % b ^ k * 2 ^ r * b ^ q
    let D := dgt b x k
    (dgt b V (k + q) ||| (D * 2 ^ r % b)) = dgt b V (k + q) + D * 2 ^ r % b ∧ dgt b V (k + q) + D * 2 ^ r % b < b ∧
    dgt b (put b V (k + q) (dgt b V (k + q) + D * 2 ^ r % b)) (k + q + 1) = 0 ∧ D / 2 ^ (e - r) < b ∧
    put b (put b V (k + q) (dgt b V (k + q) + D * 2 ^ r % b)) (k + q + 1) (D / 2 ^ (e - r)) = x % b ^ (k + 1) * 2 ^ r * b ^ q := by
  intro b V D
  have hb0 : 0 < b := Nat.two_pow_pos e
  rcases Nat.eq_zero_or_pos e with he0 | he0
  · subst he0
    have hr0 : r = 0 := by omega
    subst hr0
    have hb1 : b = 1 := rfl
    have hD : D = 0 := by show dgt b x k = 0; rw [dgt_def, hb1, Nat.mod_one]
    have hV : V = 0 := by show x % b ^ k * 2 ^ 0 * b ^ q = 0; rw [hb1]; simp [Nat.mod_one]
    have hd : ∀ n i, dgt b n i = 0 := fun n i => by rw [dgt_def, hb1, Nat.mod_one]
    refine ⟨by rw [hd, hD]; simp, by rw [hd, hD, hb1]; simp, hd _ _, by rw [hD, hb1]; simp, ?_⟩
    rw [hd, hD, hV]
    unfold put
    simp [hb1, Nat.mod_one]
  have hb : 2 ≤ b := by
    show 2 ≤ 2 ^ e
    have : 2 ^ 1 ≤ 2 ^ e := Nat.pow_le_pow_right (by omega) he0
    simpa using this
  have hbe : b = 2 ^ r * 2 ^ (e - r) := by show 2 ^ e = _; rw [← Nat.pow_add]; congr 1; omega
  have hm := mod_lt_pow hb0 x k
  have hDb : D < b := dgt_lt hb0 x k
  have hVq : V = x % b ^ k * 2 ^ r * b ^ q := rfl
  have hVlt : x % b ^ k * 2 ^ r < b ^ k * 2 ^ r := (Nat.mul_lt_mul_right (Nat.two_pow_pos r)).2 hm
  have hh : dgt b V (k + q) = x % b ^ k * 2 ^ r / b ^ k := by
    rw [dgt_def, hVq, Nat.pow_add, ← Nat.div_div_eq_div_mul, Nat.div_div_eq_div_mul, Nat.mul_comm (b ^ k), ← Nat.div_div_eq_div_mul, Nat.mul_div_cancel _ (Nat.pow_pos hb0), Nat.mod_eq_of_lt]
    rw [Nat.div_lt_iff_lt_mul (Nat.pow_pos hb0)]
    refine Nat.lt_of_lt_of_le hVlt ?_
    rw [Nat.mul_comm]; exact Nat.mul_le_mul_right _ (Nat.pow_le_pow_right (by omega) hr)
  have hhr : dgt b V (k + q) < 2 ^ r := by
    rw [hh, Nat.div_lt_iff_lt_mul (Nat.pow_pos hb0), Nat.mul_comm (2 ^ r)]; exact hVlt
  have hlow : D * 2 ^ r % b = 2 ^ r * (D % 2 ^ (e - r)) := by rw [hbe, Nat.mul_comm D, Nat.mul_mod_mul_left]
  have hhi : D / 2 ^ (e - r) = D * 2 ^ r / b := by
    rw [hbe, Nat.mul_comm D, Nat.mul_div_mul_left _ _ (Nat.two_pow_pos r)]
  have hsum : dgt b V (k + q) + D * 2 ^ r % b < b := by
    rw [hlow]
    have h1 : D % 2 ^ (e - r) < 2 ^ (e - r) := Nat.mod_lt _ (Nat.two_pow_pos _)
    have h2 : 2 ^ r * (D % 2 ^ (e - r) + 1) ≤ 2 ^ r * 2 ^ (e - r) := Nat.mul_le_mul_left _ h1
    rw [← hbe, Nat.mul_add] at h2; omega
  have hVM : V < b ^ (k + q + 1) := by
    rw [hVq, Nat.pow_succ, Nat.pow_add, Nat.mul_right_comm (b ^ k)]
    refine (Nat.mul_lt_mul_right (Nat.pow_pos hb0)).2 (Nat.lt_of_lt_of_le hVlt (Nat.mul_le_mul_left _ (Nat.pow_le_pow_right (by omega) hr)))
  have hz : dgt b (put b V (k + q) (dgt b V (k + q) + D * 2 ^ r % b)) (k + q + 1) = 0 := by
    rw [dgt_put hb _ _ _ _ hsum, if_neg (by omega)]; exact dgt_of_lt hb hVM (Nat.le_refl _)
  refine ⟨?_, hsum, hz, Nat.lt_of_le_of_lt (Nat.div_le_self _ _) hDb, ?_⟩
  · rw [hlow]; exact or_add _ _ _ hhr
  · rw [put_new _ _ _ hb0 hz]
    have h1 := put_eq V (k + q) (dgt b V (k + q) + D * 2 ^ r % b) hb0
    rw [Nat.mul_add] at h1
    have h2 : put b V (k + q) (dgt b V (k + q) + D * 2 ^ r % b) = V + b ^ (k + q) * (D * 2 ^ r % b) := by omega
    rw [h2, hhi, Nat.pow_succ, Nat.add_assoc, Nat.mul_assoc, ← Nat.mul_add, Nat.mod_add_div]
    rw [mod_succ, Nat.add_mul, Nat.add_mul, hVq, Nat.pow_add]
    congr 1
    show b ^ k * b ^ q * (D * 2 ^ r) = b ^ k * D * 2 ^ r * b ^ q
    rw [Nat.mul_assoc, Nat.mul_assoc, Nat.mul_assoc, Nat.mul_comm (b ^ q), Nat.mul_assoc]
end Nt
namespace Nt
@[irreducible] def W : Nat := 18446744073709551616
theorem W_eq : W = 18446744073709551616 := by unfold W; rfl
theorem W_two : W = 2 ^ 64 := by rw [W_eq]
theorem W_256 : W = 256 ^ 8 := by rw [W_eq]
theorem W2 : 2 ≤ W := by rw [W_eq]; omega
theorem W0 : 0 < W := by rw [W_eq]; omega
theorem wd_lt (n i : Nat) : dgt W n i < 18446744073709551616 := Nat.lt_of_lt_of_eq (dgt_lt W0 n i) W_eq
theorem words_bytes (n : Nat) : (nd 256 n + 7) / 8 = nd W n := by
  have h := fun k => nd_pow (b := 256) (c := W) (e := 8) (by omega) (by omega) W_256 n k
  have h1 := (h (nd W n)).2 (Nat.le_refl _)
  have h2 := (h ((nd 256 n + 7) / 8)).1 (by omega)
  omega
theorem bytes_bits (n : Nat) : (nd 2 n + 7) / 8 = nd 256 n := by
  have h := fun k => nd_pow (b := 2) (c := 256) (e := 8) (by omega) (by omega) (by rfl) n k
  have h1 := (h (nd 256 n)).2 (Nat.le_refl _)
  have h2 := (h ((nd 2 n + 7) / 8)).1 (by omega)
  omega
theorem bits_le (n k : Nat) : nd 2 n ≤ 8 * k ↔ nd 256 n ≤ k := nd_pow (b := 2) (c := 256) (e := 8) (by omega) (by omega) (by rfl) n k
theorem nd_unique {b n k : Nat} (hb : 2 ≤ b) (h1 : b ^ k ≤ n) (h2 : n < b ^ (k + 1)) : nd b n = k + 1 := by
  have := nd_le hb h2; have := (pow_le_iff hb k n).1 h1; omega
theorem nd_top {b c e : Nat} (hb : 2 ≤ b) (he : 0 < e) (hc : c = b ^ e) (n : Nat) (hn : n ≠ 0) : nd b n = e * (nd c n - 1) + nd b (dgt c n (nd c n - 1)) := by
  have hc2 : 2 ≤ c := by
    subst hc; obtain ⟨f, rfl⟩ : ∃ f, e = f + 1 := ⟨e - 1, by omega⟩
    rw [Nat.pow_succ]; have := Nat.pow_pos (n := f) (show 0 < b by omega); exact Nat.le_trans hb (Nat.le_mul_of_pos_left _ this)
  have h0 : nd c n ≠ 0 := fun k => hn ((nd_eq_zero hc2).1 k)
  have ht := dgt_top hc2 hn
  obtain ⟨L, hL⟩ : ∃ L, nd c n = L + 1 := ⟨nd c n - 1, by omega⟩
  rw [hL, Nat.add_sub_cancel] at ht ⊢
  have hnl : n < c ^ (L + 1) := by rw [← hL]; exact lt_nd hc2
  have hd : n / c ^ L = dgt c n L := by
    rw [dgt_def, Nat.mod_eq_of_lt]
    rw [Nat.div_lt_iff_lt_mul (Nat.pow_pos (by omega)), Nat.mul_comm, ← Nat.pow_succ]; exact hnl
  have hcl : c ^ L = b ^ (e * L) := by rw [hc, ← Nat.pow_mul]
  generalize dgt c n L = d at *
  have hd0 : nd b d ≠ 0 := fun k => ht ((nd_eq_zero hb).1 k)
  obtain ⟨m, hm⟩ : ∃ m, nd b d = m + 1 := ⟨nd b d - 1, by omega⟩
  have h3 := lt_nd (n := d) hb
  have h4 : b ^ m ≤ d := (pow_le_iff hb m d).2 (by omega)
  rw [hm] at h3 ⊢
  rw [← Nat.add_assoc]
  have hp : 0 < b ^ (e * L) := Nat.pow_pos (by omega)
  rw [hcl] at hd
  apply nd_unique hb
  · rw [Nat.pow_add, Nat.mul_comm]; exact Nat.le_trans (Nat.mul_le_mul_right _ (hd ▸ h4)) (Nat.div_mul_le_self _ _)
  · rw [Nat.add_assoc, Nat.pow_add, Nat.mul_comm, ← Nat.div_lt_iff_lt_mul hp, hd]; exact h3
/-! Texts. -/
@[irreducible] def natS (n : Nat) : ByteArray := ⟨((dl 256 n (nd 256 n)).reverse.map UInt8.ofNat).toArray⟩
theorem natS_def (n : Nat) : natS n = ⟨((dl 256 n (nd 256 n)).reverse.map UInt8.ofNat).toArray⟩ := by unfold natS; rfl
theorem natS_size (n : Nat) : (natS n).size = nd 256 n := by
  rw [natS_def]; show (Array.size _) = _; simp [dl_length]
theorem natS_zero : natS 0 = ⟨#[]⟩ := by rw [natS_def, nd_zero]; rfl
theorem ba_get (s : ByteArray) (i : Nat) (h : i < s.size) : s[i] = s.data[i]'h := rfl
theorem natS_get (n i : Nat) (h : i < (natS n).size) : ((natS n)[i]).toNat = dgt 256 n (nd 256 n - 1 - i) := by
  have hi : i < nd 256 n := by rwa [natS_size] at h
  rw [ba_get]
  simp only [natS_def]
  rw [List.getElem_toArray, List.getElem_map, List.getElem_reverse]
  have e := dl_get? 256 n (nd 256 n) ((dl 256 n (nd 256 n)).length - 1 - i) (by rw [dl_length]; omega)
  rw [List.getElem?_eq_getElem (by rw [dl_length]; omega)] at e
  rw [Option.some.inj e, dl_length, UInt8.toNat_ofNat']
  exact Nat.mod_eq_of_lt (dgt_lt (by omega) _ _)
theorem ba_ext {s t : ByteArray} (h : s.size = t.size) (h2 : ∀ i (h1 : i < s.size) (h2 : i < t.size), s[i].toNat = t[i].toNat) : s = t := by
  apply ByteArray.ext; apply Array.ext h
  intro i a b
  exact UInt8.toNat_inj.1 (h2 i a b)
theorem natS_inj {m n : Nat} (h : natS m = natS n) : m = n := by
  have hs : nd 256 m = nd 256 n := by rw [← natS_size, ← natS_size, h]
  refine eq_of_digits (b := 256) (L := nd 256 m) (lt_nd (by omega)) (hs ▸ lt_nd (by omega)) (fun i hi => ?_)
  have h1 := natS_get m (nd 256 m - 1 - i) (by rw [natS_size]; omega)
  have h2 := natS_get n (nd 256 m - 1 - i) (by rw [natS_size]; omega)
  rw [show nd 256 m - 1 - (nd 256 m - 1 - i) = i by omega] at h1
  rw [show nd 256 n - 1 - (nd 256 m - 1 - i) = i by omega] at h2
  rw [← h1, ← h2]; simp only [h]
def May (s : ByteArray) : Prop := s.size ≤ 16384 ∧ ∀ h : 0 < s.size, s[0].toNat ≠ 0
def fits (n : Nat) : Prop := nd 256 n ≤ 16384
instance (n : Nat) : Decidable (fits n) := inferInstanceAs (Decidable (_ ≤ _))
theorem may_natS (n : Nat) : May (natS n) ↔ fits n := by
  unfold May fits
  have hz := natS_size n
  constructor
  · intro h; rw [← hz]; exact h.1
  · refine fun h => ⟨by rw [hz]; exact h, fun h0 => ?_⟩
    rw [natS_get n 0 (by rw [natS_size]; omega)]
    exact dgt_top (by omega) (fun c => by subst c; rw [natS_size, nd_zero] at h0; omega)
def bytesN (s : ByteArray) : Nat := of 256 (s.data.toList.reverse.map UInt8.toNat)
theorem bytesN_lt (s : ByteArray) : bytesN s < 256 ^ s.size := by
  have := of_lt (b := 256) (by omega) (s.data.toList.reverse.map UInt8.toNat) (fun x hx => by
    obtain ⟨y, _, rfl⟩ := List.mem_map.1 hx; exact y.toNat_lt)
  unfold bytesN
  rwa [List.length_map, List.length_reverse, Array.length_toList] at this
theorem bytesN_dgt (s : ByteArray) (i : Nat) (h : i < s.size) : dgt 256 (bytesN s) (s.size - 1 - i) = (s[i]).toNat := by
  unfold bytesN
  have hl : (s.data.toList.reverse.map UInt8.toNat).length = s.size := by rw [List.length_map, List.length_reverse, Array.length_toList]; rfl
  rw [dgt_of (by omega) _ (fun x hx => by obtain ⟨y, _, rfl⟩ := List.mem_map.1 hx; exact y.toNat_lt) _ (by rw [hl]; omega)]
  rw [List.getElem_map, List.getElem_reverse, ba_get]
  congr 1
  rw [Array.getElem_toList]
  congr 1
  rw [Array.length_toList]
  have : s.size = s.data.size := rfl
  omega
theorem may_ex {s : ByteArray} (h : May s) : s = natS (bytesN s) := by
  have hz : nd 256 (bytesN s) = s.size := by
    have h1 := nd_le (by omega) (bytesN_lt s)
    rcases Nat.eq_zero_or_pos s.size with h0 | h0
    · omega
    · have h2 := bytesN_dgt s 0 h0
      have h3 := h.2 h0
      rw [← h2] at h3
      rcases Nat.lt_or_ge (s.size - 1 - 0) (nd 256 (bytesN s)) with h4 | h4
      · omega
      · exact absurd (dgt_big (by omega) h4) h3
  apply ba_ext (by rw [natS_size, hz])
  intro i a b
  rw [natS_get _ _ b, hz, bytesN_dgt s i a]
theorem bytesN_natS (n : Nat) : bytesN (natS n) = n := by
  refine eq_of_digits (b := 256) (L := nd 256 n) (by have := bytesN_lt (natS n); rwa [natS_size] at this) (lt_nd (by omega)) (fun i hi => ?_)
  have h1 := bytesN_dgt (natS n) (nd 256 n - 1 - i) (by rw [natS_size]; omega)
  rw [natS_get, natS_size, show nd 256 n - 1 - (nd 256 n - 1 - i) = i by omega] at h1
  exact h1
theorem may_num {s : ByteArray} (h : May s) : ∃ n, fits n ∧ s = natS n := ⟨bytesN s, (may_natS _).1 (may_ex h ▸ h), may_ex h⟩
theorem bitLenAux_nd : ∀ (f x : Nat), nd 2 x ≤ f → Go.Lib.bitLenAux f x = nd 2 x := by
  intro f
  induction f with
  | zero => intro x h; unfold Go.Lib.bitLenAux; omega
  | succ f ih =>
    intro x h
    unfold Go.Lib.bitLenAux
    by_cases h0 : x = 0
    · rw [if_pos h0, h0, nd_zero]
    · rw [nd_step (by omega) h0] at h ⊢
      rw [if_neg h0, ih _ (by omega)]; omega
theorem bitLen_nd {x : Nat} (h : x < 18446744073709551616) : Go.Lib.bitLen x = nd 2 x := by
  unfold Go.Lib.bitLen
  exact bitLenAux_nd _ _ (nd_le (by omega) h)
/-! What has been read when k bytes of a text are. -/
def readV (s : ByteArray) (k : Nat) : Nat := 256 ^ (s.size - k) * (bytesN s / 256 ^ (s.size - k))
theorem readV_zero (s : ByteArray) : readV s 0 = 0 := by
  unfold readV; rw [Nat.sub_zero, Nat.div_eq_of_lt (bytesN_lt s), Nat.mul_zero]
theorem readV_full (s : ByteArray) : readV s s.size = bytesN s := by
  unfold readV; rw [Nat.sub_self, Nat.pow_zero, Nat.one_mul, Nat.div_one]
theorem or_hi (x y p : Nat) (hy : y < 2 ^ p) : (2 ^ p * x) ||| y = 2 ^ p * x + y := by
  rw [Nat.two_pow_add_eq_or_of_lt hy]
theorem mul_lt_pow {x b r e : Nat} (hx : x < b) (hr : r < e) (hb : 0 < b) : x * b ^ r < b ^ e := by
  have h1 : (x + 1) * b ^ r ≤ b * b ^ r := Nat.mul_le_mul_right _ hx
  have h2 : b ^ (r + 1) ≤ b ^ e := Nat.pow_le_pow_right hb hr
  have h3 := Nat.pow_pos (n := r) hb
  rw [Nat.pow_succ, Nat.mul_comm] at h2
  rw [Nat.add_mul, Nat.one_mul] at h1; omega
theorem put_byte (V Q v q r : Nat) (hr : r < 8) (hv : v < 256) (hV : V = 256 ^ (8 * q + r + 1) * Q) :
    (dgt W V q ||| v * 256 ^ r) = dgt W V q + v * 256 ^ r ∧ dgt W V q + v * 256 ^ r < 18446744073709551616 ∧
    put W V q (dgt W V q + v * 256 ^ r) = V + 256 ^ (8 * q + r) * v := by
  have h1 : dgt W V q = 256 ^ (r + 1) * (Q % 256 ^ (7 - r)) := by
    rw [dgt_def, hV, W_256, ← Nat.pow_mul, show 8 * q + r + 1 = 8 * q + (r + 1) by omega, Nat.pow_add, Nat.mul_assoc, Nat.mul_div_cancel_left _ (Nat.pow_pos (by omega))]
    conv => lhs; rw [show 8 = (r + 1) + (7 - r) by omega, Nat.pow_add 256 (r + 1) (7 - r)]
    rw [Nat.mul_mod_mul_left]
  have h2 : v * 256 ^ r < 256 ^ (r + 1) := mul_lt_pow hv (by omega) (by omega)
  have h3 : dgt W V q + v * 256 ^ r < W := by
    rw [h1, W_256]
    have h4 : Q % 256 ^ (7 - r) < 256 ^ (7 - r) := Nat.mod_lt _ (Nat.pow_pos (by omega))
    have h5 : 256 ^ (r + 1) * (Q % 256 ^ (7 - r) + 1) ≤ 256 ^ (r + 1) * 256 ^ (7 - r) := Nat.mul_le_mul_left _ h4
    rw [← Nat.pow_add, show r + 1 + (7 - r) = 8 by omega, Nat.mul_add] at h5
    omega
  refine ⟨?_, Nat.lt_of_lt_of_eq h3 W_eq, ?_⟩
  · rw [h1, show (256 : Nat) ^ (r + 1) = 2 ^ (8 * (r + 1)) by rw [Nat.pow_mul]] at *
    exact or_hi _ _ _ h2
  · have h4 := put_eq V q (dgt W V q + v * 256 ^ r) W0
    rw [Nat.mul_add] at h4
    have h5 : W ^ q * (v * 256 ^ r) = 256 ^ (8 * q + r) * v := by rw [W_256, ← Nat.pow_mul, Nat.pow_add, Nat.mul_comm v, Nat.mul_assoc]
    rw [h5] at h4; omega
theorem readV_form (s : ByteArray) (k m : Nat) (h : s.size = k + 1 + m) : readV s k = 256 ^ (m + 1) * (bytesN s / 256 ^ (m + 1)) := by
  unfold readV; rw [show s.size - k = m + 1 by omega]
theorem readV_succ (s : ByteArray) (k m : Nat) (h : s.size = k + 1 + m) (hk : k < s.size) : readV s (k + 1) = readV s k + 256 ^ m * (s[k]).toNat := by
  rw [readV_form s k m h]
  unfold readV
  rw [show s.size - (k + 1) = m by omega, div_eq_dgt (b := 256) (by omega) (bytesN s) m]
  have := bytesN_dgt s k hk
  rw [show s.size - 1 - k = m by omega] at this
  rw [this, Nat.mul_add, Nat.pow_succ, ← Nat.mul_assoc, Nat.add_comm]
theorem read_step (s : ByteArray) (k m q r : Nat) (h : s.size = k + 1 + m) (hk : k < s.size) (hq : m / 8 = q) (hr : m % 8 = r) :
    (dgt W (readV s k) q ||| (s[k]).toNat * 256 ^ r) = dgt W (readV s k) q + (s[k]).toNat * 256 ^ r ∧ dgt W (readV s k) q + (s[k]).toNat * 256 ^ r < 18446744073709551616 ∧
    put W (readV s k) q (dgt W (readV s k) q + (s[k]).toNat * 256 ^ r) = readV s (k + 1) := by
  have hm : m = 8 * q + r := by omega
  have := put_byte (readV s k) (bytesN s / 256 ^ (m + 1)) (s[k]).toNat q r (by omega) (s[k]).toNat_lt (by rw [readV_form s k m h, hm])
  rw [readV_succ s k m h hk, hm]; exact this
end Nt
namespace Go.Proofs.YtmjjodficjjehabGreatDoor
open Go Go.RowKit Nt
def Blk (w : World) (g : Nat) (t : TypeId) (cs : Array Value) : Prop := w.heap[g]? = some (.cells cs t (0, 0))
section
variable {w w' : World} {g : Nat} {t : TypeId} {cs : Array Value}
theorem Blk.lt (h : Blk w g t cs) : g < w.heap.size := by
  rcases Nat.lt_or_ge g w.heap.size with hlt | hge
  · exact hlt
  · unfold Blk at h; rw [Array.getElem?_eq_none hge] at h; cases h
theorem Blk.cell (h : Blk w g t cs) (i : Nat) : w.cell? ⟨g, i, none⟩ = cs[i]? := cell_of_row w g i cs t (0, 0) h
theorem Blk.frozen (h : Blk w g t cs) (i : Nat) : w.frozen? ⟨g, i, none⟩ = false := by
  unfold Blk at h
  simp [World.frozen?, h]
theorem Blk.new (w : World) (t : TypeId) (cs : Array Value) : Blk (w.alloc (.cells cs t)) w.heap.size t cs := heap_alloc_new w _
theorem Blk.drew (h : Blk w g t cs) : Blk w.drew g t cs := h
theorem Blk.drewN (h : Blk w g t cs) (n : Nat) : Blk (w.drewN n) g t cs := h
theorem Blk.alloc (h : Blk w g t cs) (o : Obj) : Blk (w.alloc o) g t cs := (Below.heap_alloc w o g h.lt).trans h
theorem Blk.set_ (h : Blk w g t cs) (i : Nat) (u : Value) : Blk (w.setCell ⟨g, i, none⟩ u) g t (cs.setIfInBounds i u) := by
  unfold Blk at h ⊢
  simp [World.setCell, Array.getElem?_modify, h]
theorem Blk.far (h : Blk w g t cs) {p : Addr} (hp : g ≠ p.block) (u : Value) : Blk (w.setCell p u) g t cs := (Below.heap_setCell w p u g hp).trans h
theorem Blk.below {B : Nat} (h : Blk w g t cs) (hb : Below B w w') (hg : g < B) : Blk w' g t cs := (hb.block g hg).trans h
end
def wcells (n L : Nat) : Array Value := ((dl W n L).map (fun (x : Nat) => Value.int .u64 (x : Int))).toArray
theorem wcells_size (n L : Nat) : (wcells n L).size = L := by simp [wcells, dl_length]
theorem wcells_get (n L j : Nat) (h : j < L) : (wcells n L)[j]? = some (.int .u64 (dgt W n j : Nat)) := by
  unfold wcells
  rw [List.getElem?_toArray, List.getElem?_map, dl_get? _ _ _ _ h]; rfl
theorem wcells_set (n L j v : Nat) (hv : v < 18446744073709551616) : (wcells n L).setIfInBounds j (.int .u64 (v : Nat)) = wcells (put W n j v) L := by
  unfold wcells
  rw [← dl_set W2 n L j v (by rw [W_eq]; exact hv), List.map_set]
  simp
theorem wcells_zero (L : Nat) : wcells 0 L = madeCells (Value.cells (.int .u64 0)) (L * 1) := by
  apply Array.ext_getElem?
  intro j
  by_cases h : j < L
  · rw [wcells_get 0 L j h, Nat.mul_one]
    have e : dgt W 0 j = 0 := by rw [dgt_def]; simp
    rw [e]
    simp [madeCells, Value.cells, h, Nat.mod_one]
  · rw [Array.getElem?_eq_none (by rw [wcells_size]; omega), Array.getElem?_eq_none (by simp [madeCells]; omega)]
theorem wcells_made (L : Nat) : madeCells #[.int .u64 0] L = wcells 0 L := by
  have := wcells_zero L; rw [Nat.mul_one] at this; exact this.symm
def Row (w : World) (B : Nat) (A : Option Addr) (n L : Nat) : Prop := 0 < L → ∃ g, A = some ⟨g, 0, none⟩ ∧ g < B ∧ ∀ j, j < L → w.cell? ⟨g, j, none⟩ = some (.int .u64 (dgt W n j : Nat))
section
variable {w w' : World} {B B' : Nat} {A : Option Addr} {n L : Nat}
theorem Row.at_ (h : Row w B A n L) {k : Nat} (hk : k < L) : ∃ g, A = some ⟨g, 0, none⟩ ∧ g < B ∧ w.cell? ⟨g, k, none⟩ = some (.int .u64 (dgt W n k : Nat)) := by
  obtain ⟨g, e, hg, hc⟩ := h (by omega); exact ⟨g, e, hg, hc k hk⟩
theorem Row.keep (h : Row w B A n L) (hk : ∀ p : Addr, p.block < B → w'.cell? p = w.cell? p) : Row w' B A n L := fun hL => by
  obtain ⟨g, e, hg, hc⟩ := h hL; exact ⟨g, e, hg, fun j hj => (hk _ hg).trans (hc j hj)⟩
theorem Row.more (h : Row w B A n L) (hB : B ≤ B') : Row w B' A n L := fun hL => by
  obtain ⟨g, e, hg, hc⟩ := h hL; exact ⟨g, e, by omega, hc⟩
theorem Row.below (h : Row w B A n L) (hb : Below B w w') : Row w' B A n L := h.keep fun _ hp => hb.cell hp
theorem Row.drewN (h : Row w B A n L) (k : Nat) : Row (w.drewN k) B A n L := h
theorem Row.less (h : Row w B A n L) {M : Nat} (hM : M ≤ L) : Row w B A n M := fun hL => by
  obtain ⟨g, e, hg, hc⟩ := h (by omega); exact ⟨g, e, hg, fun j hj => hc j (by omega)⟩
theorem Row.congr (h : Row w B A n L) {m : Nat} (hm : n % W ^ L = m % W ^ L) : Row w B A m L := fun hL => by
  obtain ⟨g, e, hg, hc⟩ := h hL
  refine ⟨g, e, hg, fun j hj => ?_⟩
  rw [hc j hj, ← dgt_mod n hj, hm, dgt_mod m hj]
theorem Row.of_blk {T : TypeId} {g : Nat} (h : Blk w g T (wcells n L)) (hB : g < B) : Row w B (some ⟨g, 0, none⟩) n L := fun _ =>
  ⟨g, rfl, hB, fun j hj => by rw [h.cell, wcells_get n L j hj]⟩
theorem Row.none_ : Row w B A n 0 := fun h => absurd h (by omega)
end
def Num (w : World) (B : Nat) (v : Value) (n : Nat) : Prop := ∃ A c, v = .slice A (nd W n) c ∧ nd W n ≤ c ∧ Row w B A n (nd W n)
theorem Num.below {w w' : World} {B : Nat} {v : Value} {n : Nat} (h : Num w B v n) (hb : Below B w w') : Num w' B v n := by
  obtain ⟨A, c, e, hc, hr⟩ := h; exact ⟨A, c, e, hc, hr.below hb⟩
theorem Num.more {w : World} {B B' : Nat} {v : Value} {n : Nat} (h : Num w B v n) (hB : B ≤ B') : Num w B' v n := by
  obtain ⟨A, c, e, hc, hr⟩ := h; exact ⟨A, c, e, hc, hr.more hB⟩
def NumPost (n : Nat) (w : World) (e : Ending) (w' : World) : Prop := ∃ v, e = .returned v ∧ Num w' w'.heap.size v n ∧ Below w.heap.size w w'
theorem NumPost.get {n : Nat} {w : World} {e : Ending} {w' : World} (h : NumPost n w e w') : ∃ A c, e = .returned (.slice A (nd W n) c) ∧ nd W n ≤ c ∧ Row w' w'.heap.size A n (nd W n) ∧ Below w.heap.size w w' := by
  obtain ⟨v, rfl, ⟨A, c, rfl, hc, hr⟩, hb⟩ := h; exact ⟨A, c, rfl, hc, hr, hb⟩
theorem NumPost.mk {n : Nat} {w w' : World} {A : Option Addr} {c : Nat} (hc : nd W n ≤ c) (hr : Row w' w'.heap.size A n (nd W n)) (hb : Below w.heap.size w w') : NumPost n w (.returned (.slice A (nd W n) c)) w' :=
  ⟨_, rfl, ⟨A, c, rfl, hc, hr⟩, hb⟩
theorem wpList_make_zero {P : Program} (w : World) {ops : Array Oper} {rest : List Oper} {o : Oper} {a : Act} {Q : Exit → Act → World → Prop}
    (hg : o.guard = none) (l c : Operand) (t : TypeId) (hop : o.op = Op.makeSlice t l c)
    (e : TypeId) (i : TypeInfo) (z : Value) (h1 : P.underlying t = some (.slice e)) (h2 : P.info? e = some i) (h3 : i.zero = some z) (h4 : i.size = 1)
    (kl kc : IntKind) (L C : Int) (n : Nat) (hl : a.eval l = .int kl L) (hc : a.eval c = .int kc C) (hL : L = (n : Int)) (hC : C = (n : Int)) (b2 : i.bytes * n ≤ 281474976710656) (b3 : n ≤ maxLen)
    (hK : wpList P ops Q rest (a.put o.dst (.slice (some ⟨w.heap.size, 0, none⟩) n n)) (w.alloc (.cells (madeCells z.cells (n * 1)) e))) :
    wpList P ops Q (o :: rest) a w := by
  refine wpList_plain hg fun K hK' => ?_
  have hr := run_make (P := P) w t e i z h1 h2 h3 kl kc n n (by omega) (Int.le_refl _) (by
    have h : ((i.bytes * n : Nat) : Int) ≤ 281474976710656 := by omega
    rwa [Int.natCast_mul] at h) (by have h := b3; simp [maxLen] at h; omega)
  simp only [Int.toNat_natCast, h4] at hr
  subst hL
  subst hC
  unfold Oper.wp
  simp [execOp, hop, hl, hc, hr, Result.andThen]
  exact hK' _ _ (by simpa using hK)
end Go.Proofs.YtmjjodficjjehabGreatDoor
namespace Go.Proofs
open Go.Shelf
def Tryz.lays129_ren : Go.Shelf.Ren := ⟨fun | 129 => 93 | n => n, fun | 53 => 69 | 3 => 3 | 4 => 4 | 46 => 105 | 5 => 5 | 9 => 9 | n => n, fun | n => n⟩
theorem Tryz.lays129 : Go.Proofs.Lays.n129 Tryz.prog Tryz.lays129_ren := {
  mixed := by kernel_rfl
  f129 := Tryz.func93.trans (congrArg some (by kernel_rfl))
  t3 := Tryz.underlying3
  a3 := Tryz.isAgg3
  z3 := Tryz.sizeOf3
  v3 := Tryz.zeroValue3
  t4 := Tryz.underlying4
  a4 := Tryz.isAgg4
  z4 := Tryz.sizeOf4
  v4 := Tryz.zeroValue4
  t5 := Tryz.underlying5
  a5 := Tryz.isAgg5
  z5 := Tryz.sizeOf5
  v5 := Tryz.zeroValue5
  t9 := Tryz.underlying9
  a9 := Tryz.isAgg9
  z9 := Tryz.sizeOf9
  v9 := Tryz.zeroValue9
  t46 := Tryz.underlying105
  a46 := Tryz.isAgg105
  z46 := Tryz.sizeOf105
  v46 := Tryz.zeroValue105
  t53 := Tryz.underlying69
  a53 := Tryz.isAgg69
  z53 := Tryz.sizeOf69
  v53 := Tryz.zeroValue69 }
theorem Tryz.bits_Len64 (x : Int) (w : World) (h0 : 0 ≤ x) (h1 : x ≤ 18446744073709551615) :
    Calls Tryz.prog 93 #[.int .u64 x] w fun e w' => e = .returned (.int .i64 (Lib.bitLen x.toNat)) ∧ w' = w := Any.bits_Len64 Tryz.lays129 x w h0 h1
def Tryz.lays126_ren : Go.Shelf.Ren := ⟨fun | 126 => 115 | n => n, fun | 5 => 5 | 3 => 3 | 9 => 9 | n => n, fun | n => n⟩
theorem Tryz.lays126 : Go.Proofs.Lays.n126 Tryz.prog Tryz.lays126_ren := {
  mixed := by kernel_rfl
  f126 := Tryz.func115.trans (congrArg some (by kernel_rfl))
  t3 := Tryz.underlying3
  a3 := Tryz.isAgg3
  z3 := Tryz.sizeOf3
  v3 := Tryz.zeroValue3
  t5 := Tryz.underlying5
  a5 := Tryz.isAgg5
  z5 := Tryz.sizeOf5
  v5 := Tryz.zeroValue5
  t9 := Tryz.underlying9
  a9 := Tryz.isAgg9
  z9 := Tryz.sizeOf9
  v9 := Tryz.zeroValue9 }
theorem Tryz.bits_Len8 (x : Int) (w : World) (h0 : 0 ≤ x) (h1 : x ≤ 255) :
    Calls Tryz.prog 115 #[.int .u8 x] w fun e w' => e = .returned (.int .i64 (Lib.bitLen x.toNat)) ∧ w' = w := Any.bits_Len8 Tryz.lays126 x w h0 h1
def Tryz.lays136_ren : Go.Shelf.Ren := ⟨fun | 136 => 114 | n => n, fun | 5 => 5 | 3 => 3 | 9 => 9 | n => n, fun | n => n⟩
theorem Tryz.lays136 : Go.Proofs.Lays.n136 Tryz.prog Tryz.lays136_ren := {
  mixed := by kernel_rfl
  f136 := Tryz.func114.trans (congrArg some (by kernel_rfl))
  t3 := Tryz.underlying3
  a3 := Tryz.isAgg3
  z3 := Tryz.sizeOf3
  v3 := Tryz.zeroValue3
  t5 := Tryz.underlying5
  a5 := Tryz.isAgg5
  z5 := Tryz.sizeOf5
  v5 := Tryz.zeroValue5
  t9 := Tryz.underlying9
  a9 := Tryz.isAgg9
  z9 := Tryz.sizeOf9
  v9 := Tryz.zeroValue9 }
theorem Tryz.bits_TrailingZeros8 (x : Int) (w : World) (h0 : 0 ≤ x) (h1 : x ≤ 255) :
    Calls Tryz.prog 114 #[.int .u8 x] w fun e w' => e = .returned (.int .i64 (Lib.trailingZeros8 x.toNat)) ∧ w' = w := Any.bits_TrailingZeros8 Tryz.lays136 x w h0 h1
def Tryz.lays264_ren : Go.Shelf.Ren := ⟨fun | 264 => 103 | n => n, fun | 53 => 69 | 46 => 105 | n => n, fun | n => n⟩
theorem Tryz.lays264 : Go.Proofs.Lays.n264 Tryz.prog Tryz.lays264_ren := {
  mixed := by kernel_rfl
  f264 := Tryz.func103.trans (congrArg some (by kernel_rfl))
  t46 := Tryz.underlying105
  a46 := Tryz.isAgg105
  z46 := Tryz.sizeOf105
  v46 := Tryz.zeroValue105
  t53 := Tryz.underlying69
  a53 := Tryz.isAgg69
  z53 := Tryz.sizeOf69
  v53 := Tryz.zeroValue69 }
open Go.RowKit Go.Lib in
theorem Tryz.bits_Mul64 (x y : Nat) (hx : x < 18446744073709551616) (hy : y < 18446744073709551616) (w : World) :
    Calls Tryz.prog 103 #[.int .u64 x, .int .u64 y] w fun e w' => e = .returned (.tuple #[.int .u64 ((x * y / 18446744073709551616 : Nat) : Int), .int .u64 ((x * y % 18446744073709551616 : Nat) : Int)]) ∧ w' = w := Any.bits_Mul64 Tryz.lays264 x y hx hy w
def Tryz.lays122_ren : Go.Shelf.Ren := ⟨fun | 122 => 112 | 215 => 117 | n => n, fun | 3 => 3 | 4 => 4 | n => n, fun | n => n⟩
theorem Tryz.lays122 : Go.Proofs.Lays.n122 Tryz.prog Tryz.lays122_ren := {
  mixed := by kernel_rfl
  f122 := Tryz.func112.trans (congrArg some (by kernel_rfl))
  f215 := Tryz.func117.trans (congrArg some (by kernel_rfl))
  t3 := Tryz.underlying3
  a3 := Tryz.isAgg3
  z3 := Tryz.sizeOf3
  v3 := Tryz.zeroValue3
  t4 := Tryz.underlying4
  a4 := Tryz.isAgg4
  z4 := Tryz.sizeOf4
  v4 := Tryz.zeroValue4 }
open Go.RowKit in
theorem Tryz.cmp_Compare_int (x y : Int) (w : World) :
    Calls Tryz.prog 112 #[.int .i64 x, .int .i64 y] w fun e w' => e = .returned (.int .i64 (Lib.compareInt x y)) ∧ w' = w := Any.cmp_Compare_int Tryz.lays122 x y w
def Tryz.lays7n29_ren : Go.Shelf.Ren := ⟨fun | 29 => 57 | n => n, fun | 22 => 69 | 3 => 3 | 4 => 4 | 25 => 105 | 54 => 130 | 0 => 0 | 5 => 5 | n => n, fun | 1 => 1 | n => n⟩
theorem Tryz.lays7n29 : Go.Proofs.Lays7.n29 Tryz.prog Tryz.lays7n29_ren := {
  mixed := by kernel_rfl
  f29 := Tryz.func57.trans (congrArg some (by kernel_rfl))
  t0 := Tryz.underlying0
  a0 := Tryz.isAgg0
  z0 := Tryz.sizeOf0
  v0 := Tryz.zeroValue0
  i0 := by kernel_rfl
  t3 := Tryz.underlying3
  a3 := Tryz.isAgg3
  z3 := Tryz.sizeOf3
  v3 := Tryz.zeroValue3
  i3 := by kernel_rfl
  t4 := Tryz.underlying4
  a4 := Tryz.isAgg4
  z4 := Tryz.sizeOf4
  v4 := Tryz.zeroValue4
  i4 := by kernel_rfl
  t5 := Tryz.underlying5
  a5 := Tryz.isAgg5
  z5 := Tryz.sizeOf5
  v5 := Tryz.zeroValue5
  i5 := by kernel_rfl
  t22 := Tryz.underlying69
  a22 := Tryz.isAgg69
  z22 := Tryz.sizeOf69
  v22 := Tryz.zeroValue69
  i22 := by kernel_rfl
  t25 := Tryz.underlying105
  a25 := Tryz.isAgg105
  z25 := Tryz.sizeOf105
  v25 := Tryz.zeroValue105
  i25 := by kernel_rfl
  t54 := Tryz.underlying130
  a54 := Tryz.isAgg130
  z54 := Tryz.sizeOf130
  g1 := by kernel_rfl }
theorem Tryz.bits_TrailingZeros64 (x : Nat) (hx : x < 18446744073709551616) (w : World) (hT : x ≠ 0 → TabAt 1 Lib.deBruijn64tab w) :
    Calls Tryz.prog 57 #[.int .u64 x] w fun e w' => e = .returned (.int .i64 (Lib.ctz 64 x)) ∧ w' = w := Any7.bits_TrailingZeros64 Tryz.lays7n29 x hx w hT
def Tryz.lays7n25_ren : Go.Shelf.Ren := ⟨fun | 25 => 100 | n => n, fun | 22 => 69 | n => n, fun | n => n⟩
theorem Tryz.lays7n25 : Go.Proofs.Lays7.n25 Tryz.prog Tryz.lays7n25_ren := {
  mixed := by kernel_rfl
  f25 := Tryz.func100.trans (congrArg some (by kernel_rfl))
  t22 := Tryz.underlying69
  a22 := Tryz.isAgg69
  z22 := Tryz.sizeOf69
  v22 := Tryz.zeroValue69
  i22 := by kernel_rfl }
theorem Tryz.bits_Add64 (x y c : Nat) (hc : c ≤ 1) (w : World) :
    (callFunc 100 #[.int .u64 x, .int .u64 y, .int .u64 c]).run Tryz.prog w = .ok (.value (.tuple #[.int .u64 (((x + y + c) % 18446744073709551616 : Nat) : Int), .int .u64 (((x + y + c) / 18446744073709551616 : Nat) : Int)])) w := Any7.bits_Add64 Tryz.lays7n25 x y c hc w
def Tryz.lays7n26_ren : Go.Shelf.Ren := ⟨fun | 26 => 101 | n => n, fun | 22 => 69 | n => n, fun | n => n⟩
theorem Tryz.lays7n26 : Go.Proofs.Lays7.n26 Tryz.prog Tryz.lays7n26_ren := {
  mixed := by kernel_rfl
  f26 := Tryz.func101.trans (congrArg some (by kernel_rfl))
  t22 := Tryz.underlying69
  a22 := Tryz.isAgg69
  z22 := Tryz.sizeOf69
  v22 := Tryz.zeroValue69
  i22 := by kernel_rfl }
theorem Tryz.bits_Sub64 (x y b : Nat) (hb : b ≤ 1) (w : World) :
    (callFunc 101 #[.int .u64 x, .int .u64 y, .int .u64 b]).run Tryz.prog w = .ok (.value (.tuple #[.int .u64 (((x + 18446744073709551616 - y - b) % 18446744073709551616 : Nat) : Int), .int .u64 ((if x < y + b then 1 else 0 : Nat) : Int)])) w := Any7.bits_Sub64 Tryz.lays7n26 x y b hb w
end Go.Proofs
namespace Go.Proofs.YtmjjodficjjehabGreatDoor
open Go Go.RowKit Nt
def slen : Value → Nat | .slice _ n _ => n | _ => 0
theorem nd_pred {b n m : Nat} (hb : 2 ≤ b) (h : n < b ^ (m + 1)) (hz : dgt b n m = 0) : n < b ^ m := by
  have := mod_succ b n m
  rw [hz, Nat.mod_eq_of_lt h] at this
  rw [this, Nat.mul_zero, Nat.add_zero]; exact Nat.mod_lt _ (Nat.pow_pos (by omega))
theorem nd_just {b n m : Nat} (hb : 2 ≤ b) (h : n < b ^ (m + 1)) (hz : dgt b n m ≠ 0) : nd b n = m + 1 := by
  have h1 := nd_le hb h
  rcases Nat.lt_or_ge m (nd b n) with h2 | h2
  · omega
  · exact absurd (dgt_big hb h2) hz
theorem eqz_true {x : Nat} (h : x = 0) : (((x : Nat) : Int) == 0) = true := by subst h; rfl
theorem eqz_false {x : Nat} (h : x ≠ 0) : (((x : Nat) : Int) == 0) = false := by rw [beq_eq_false_iff_ne]; omega
theorem ret_slice {A : Option Addr} {n m c : Nat} (h : n = m) : Ending.returned (.slice A n c) = .returned (.slice A m c) := by rw [h]
theorem Cut_c (A : Option Addr) (L c n B : Nat) (w : World) (hn : n < W ^ L) (hLc : L ≤ c) (hL : c ≤ 9223372036854775807) (hr : Row w B A n L) :
    Calls Tryz.prog 95 #[.slice A L c] w fun e w' => e = .returned (.slice A (nd W n) c) ∧ w = w' := by
  have HN := Lib.hid hn
  have HR := Lib.hid hr
  clear hn hr
  go_enter Tryz.func95, Tryz.ntmps95
  go_wp2
  go_loop [0] (fun x => ∃ k : Nat, k ≤ L ∧ x = .slice A k c ∧ Hid (n < W ^ k)) (fun x => slen x)
  case atStart => exact ⟨L, Nat.le_refl _, rfl, HN⟩
  case round =>
    obtain ⟨k, hk, rfl, hnk⟩ := hrel
    by_cases h0 : k = 0
    · subst h0
      go_wp2
      go_ret
      exact ⟨ret_slice ((nd_eq_zero W2).2 (by have := hnk.out; rw [Nat.pow_zero] at this; omega)).symm, rfl⟩
    · obtain ⟨m, rfl⟩ : ∃ m, k = m + 1 := ⟨k - 1, by omega⟩
      obtain ⟨g, rfl, _, hcell⟩ := HR.out.at_ (k := m) (by omega)
      by_cases hz : dgt W n m = 0
      · have hz' := eqz_true hz
        have HZ := Lib.hid hz
        clear hz
        go_wp2
        go_round
        case rel => exact ⟨m, by omega, rfl, Lib.hid (nd_pred W2 hnk.out HZ.out)⟩
        case measure => simp [slen]
      · have hz' := eqz_false hz
        have HZ := Lib.hid hz
        clear hz
        go_wp2
        go_ret
        exact ⟨ret_slice (nd_just W2 hnk.out HZ.out).symm, rfl⟩
end Go.Proofs.YtmjjodficjjehabGreatDoor
namespace Go.Proofs.YtmjjodficjjehabGreatDoor
open Go Go.RowKit Nt
theorem ret_int {k : IntKind} {a b : Int} (h : a = b) : Ending.returned (.int k a) = .returned (.int k b) := by rw [h]
theorem Len_c (A : Option Addr) (c n B : Nat) (w : World) (hL : nd W n ≤ 1000000000) (hr : Row w B A n (nd W n)) :
    Calls Tryz.prog 97 #[.slice A (nd W n) c] w fun e w' => e = .returned (.int .i64 (nd 2 n : Nat)) ∧ w = w' := by
  by_cases h0 : n = 0
  · subst h0
    have h : nd W 0 = 0 := nd_zero _
    rw [h]
    go_enter Tryz.func97, Tryz.ntmps97
    go_wp2
    go_ret
    exact ⟨ret_int (by rw [nd_zero]; rfl), rfl⟩
  · have HR := Lib.hid hr
    have HT := Lib.hid (nd_top (b := 2) (c := W) (e := 64) (by omega) (by omega) W_two n h0)
    have HN : nd W n ≠ 0 := fun c => h0 ((nd_eq_zero W2).1 c)
    obtain ⟨L, hLe⟩ : ∃ L, nd W n = L + 1 := ⟨nd W n - 1, by omega⟩
    rw [hLe] at HR HT hL ⊢
    obtain ⟨g, rfl, _, hcell⟩ := HR.out.at_ (k := L) (by omega)
    have hw := wd_lt n L
    have HB := Lib.hid (bitLen_nd hw)
    have hb64 : Go.Lib.bitLen (dgt W n L) ≤ 64 := by rw [HB.out]; exact nd_le (by omega) hw
    clear hr
    go_enter Tryz.func97, Tryz.ntmps97
    go_wp2_with (go_at_call 93; refine (Tryz.bits_Len64 _ _ (by omega) (by omega)).mono ?_; rintro e w' ⟨rfl, rfl⟩)
    go_ret
    refine ⟨ret_int ?_, rfl⟩
    have h1 := HT.out
    have h2 := HB.out
    rw [Nat.add_sub_cancel] at h1
    rw [h2, h1]; omega
theorem u8_lt (x : UInt8) : x.toNat < 256 := x.toNat_lt
theorem or_word (a v r : Nat) (ha : a < 18446744073709551616) (hv : v < 256) (hr : r < 8) :
    bits BinOp.or IntKind.u64 (a : Int) (IntKind.u64.wrap (IntKind.u64.wrap (v : Int) * 2 ^ (r * 8))) = ((a ||| v * 256 ^ r : Nat) : Int) := by
  have h1 : v * 256 ^ r < 18446744073709551616 := by have := mul_lt_pow (b := 256) hv hr (by omega); rwa [← W_256, W_eq] at this
  have e : IntKind.u64.wrap (IntKind.u64.wrap (v : Int) * 2 ^ (r * 8)) = ((v * 256 ^ r : Nat) : Int) := by
    rw [IntKind.wrap_u64, IntKind.wrap_u64, Int.emod_eq_of_lt (a := (v : Int)) (by omega) (by omega)]
    have e2 : (v : Int) * 2 ^ (r * 8) = ((v * 256 ^ r : Nat) : Int) := by
      rw [Int.natCast_mul, Int.natCast_pow, Nat.mul_comm, Int.pow_mul]; rfl
    rw [e2, Int.emod_eq_of_lt (by omega) (by omega)]
  rw [e, bits_or_u64_nat _ _ ha h1]
set_option maxHeartbeats 400000 in
theorem Read_c (s : ByteArray) (w : World) (hs : s.size ≤ 1000000000) :
    Calls Tryz.prog 75 #[.string s] w (NumPost (bytesN s) w) := by
  obtain ⟨i0, hi0, hz0, hz1, hz2⟩ := info_parts (P := Tryz.prog) (e := 69) (z := .int .u64 0) (size := 1) (bytes := 8) (by kernel_rfl)
  obtain ⟨L, hL⟩ : ∃ L, (s.size + 7) / 8 = L := ⟨_, rfl⟩
  have HL := Lib.hid hL
  have hl : ((s.size : Int) + 7) / 8 = (L : Int) := by omega
  clear hL
  go_enter Tryz.func75, Tryz.ntmps75
  go_wp2_with (at_make; go_loud (refine wpList_make_zero _ rfl (.tmp 9) (.tmp 9) _ rfl 69 i0 _ Tryz.underlying121 hi0 hz0 hz1 .i64 .i64 _ _ L rfl rfl (by first | assumption | rfl) (by first | assumption | rfl) (by rw [hz2]; omega) (by unfold maxLen; omega) ?_))
  rw [wcells_made]
  have HB0 := Lib.hid (Blk.new w 69 (wcells 0 L))
  have hbl : Below w.heap.size w (w.alloc (.cells (wcells 0 L) 69)) := (Below.refl _ _).alloc (Nat.le_refl _) _
  generalize w.alloc (.cells (wcells 0 L) 69) = w1 at *
  obtain ⟨g, hg⟩ : ∃ g, g = w.heap.size := ⟨_, rfl⟩
  rw [← hg] at HB0 hbl ⊢
  have HG := Lib.hid hg
  clear hg
  go_loopw [13] (fun i wr => ∃ k : Nat, k ≤ s.size ∧ i = .int .i64 k ∧ Hid (Blk wr g 69 (wcells (readV s k) L)) ∧ Below g w wr) (fun i _ => s.size - (intOf i).toNat)
  case atStart => exact ⟨0, Nat.zero_le _, rfl, by rw [readV_zero]; exact HB0, hbl⟩
  case round =>
    obtain ⟨k, hk, rfl, hblk, hb⟩ := hrel
    by_cases hlt : k < s.size
    · obtain ⟨m, hm⟩ : ∃ m, s.size = k + 1 + m := ⟨s.size - k - 1, by omega⟩
      obtain ⟨q, hq⟩ : ∃ q, m / 8 = q := ⟨_, rfl⟩
      obtain ⟨r, hr⟩ : ∃ r, m % 8 = r := ⟨_, rfl⟩
      have hqL : q < L := by have := HL.out; omega
      have hc := hblk.out.cell q
      rw [wcells_get _ _ _ hqL] at hc
      have hfz := hblk.out.frozen q
      have hk1 : (s.size : Int) - 1 - (k : Int) = (m : Int) := by omega
      have hq1 : (m : Int) / 8 = (q : Int) := by omega
      have hr1 : (m : Int) % 8 = (r : Int) := by omega
      have hr8 : (r : Int) < 8 := by omega
      have hR8 : r < 8 := by omega
      have HM := Lib.hid hm
      have HQ := Lib.hid hq
      have HR := Lib.hid hr
      clear hm hq hr
      go_wp2
      go_region
      rw [or_word _ _ _ (wd_lt _ _) (u8_lt _) hR8]
      obtain ⟨e1, e2, e3⟩ := read_step s k m q r HM.out hlt HQ.out HR.out
      rw [e1]
      have HB1 := Lib.hid (hblk.out.set_ q (.int .u64 ((dgt W (readV s k) q + (s[k]).toNat * 256 ^ r : Nat) : Int))).drew
      rw [wcells_set _ _ _ _ e2, e3] at HB1
      have hb1 := (hb.setCell (p := ⟨g, q, none⟩) (Nat.le_refl _) (.int .u64 ((dgt W (readV s k) q + (s[k]).toNat * 256 ^ r : Nat) : Int))).drew
      clear e1 e2 e3
      go_wp2
      go_roundw
      case rel => exact ⟨k + 1, by omega, by go_num, HB1, hb1⟩
      case measure => simp [intOf]; omega
    · obtain rfl : k = s.size := by omega
      go_wp2_with fail
      go_at_call 95
      have hbk := hblk.out
      rw [readV_full] at hbk
      refine (Cut_c (some ⟨g, 0, none⟩) L L (bytesN s) wr.heap.size wr ?_ (Nat.le_refl _) (by omega) (Row.of_blk hbk hbk.lt)).mono ?_
      · have := bytesN_lt s
        refine Nat.lt_of_lt_of_le this ?_
        rw [W_256, ← Nat.pow_mul]; exact Nat.pow_le_pow_right (by omega) (by have := HL.out; omega)
      rintro e w' ⟨rfl, rfl⟩
      go_wp2
      go_ret
      have hnd : nd W (bytesN s) ≤ L := by
        have h1 := nd_le (b := 256) (by omega) (bytesN_lt s); rw [← words_bytes]; have := HL.out; omega
      exact NumPost.mk hnd ((Row.of_blk hbk hbk.lt).less hnd) (by rw [← HG.out]; exact hb)
end Go.Proofs.YtmjjodficjjehabGreatDoor
namespace Go.Proofs.YtmjjodficjjehabGreatDoor
open Go Go.RowKit Nt
def fcells (k : IntKind) (f : Nat → Nat) (L : Nat) : Array Value := ((List.range L).map (fun j => Value.int k (f j : Nat))).toArray
theorem fcells_size (k : IntKind) (f : Nat → Nat) (L : Nat) : (fcells k f L).size = L := by simp [fcells]
theorem fcells_get (k : IntKind) (f : Nat → Nat) (L j : Nat) (h : j < L) : (fcells k f L)[j]? = some (.int k (f j : Nat)) := by
  unfold fcells
  rw [List.getElem?_toArray, List.getElem?_map, List.getElem?_range h]; rfl
theorem fcells_congr {k : IntKind} {f f' : Nat → Nat} {L : Nat} (h : ∀ j, j < L → f j = f' j) : fcells k f L = fcells k f' L := by
  unfold fcells; congr 1; apply List.map_congr_left; intro j hj; rw [h j (List.mem_range.1 hj)]
theorem fcells_set (k : IntKind) (f : Nat → Nat) (L i v : Nat) : (fcells k f L).setIfInBounds i (.int k (v : Nat)) = fcells k (fun j => if j = i then v else f j) L := by
  apply Array.ext_getElem?
  intro j
  rw [Array.getElem?_setIfInBounds, fcells_size]
  by_cases hj : j < L
  · rw [fcells_get k (fun j => if j = i then v else f j) L j hj]
    by_cases h : i = j
    · subst h; rw [if_pos rfl, if_pos hj, if_pos rfl]
    · rw [if_neg h, fcells_get k f L j hj, if_neg (fun c => h c.symm)]
  · rw [Array.getElem?_eq_none (xs := fcells k (fun j => if j = i then v else f j) L) (by rw [fcells_size]; omega)]
    by_cases h : i = j
    · subst h; rw [if_pos rfl, if_neg hj]
    · rw [if_neg h, Array.getElem?_eq_none (by rw [fcells_size]; omega)]
theorem fcells_made (k : IntKind) (L : Nat) : madeCells #[.int k 0] L = fcells k (fun _ => 0) L := by
  apply Array.ext_getElem?
  intro j
  by_cases h : j < L
  · rw [fcells_get k _ L j h]
    simp [madeCells, h, Nat.mod_one]
  · rw [Array.getElem?_eq_none (by simp [madeCells]; omega), Array.getElem?_eq_none (by rw [fcells_size]; omega)]
def byteF (n k j : Nat) : Nat := if j < k then dgt 256 n (nd 256 n - 1 - j) else 0
theorem byteF_step (n k j : Nat) : (if j = k then dgt 256 n (nd 256 n - 1 - k) else byteF n k j) = byteF n (k + 1) j := by
  unfold byteF
  by_cases h : j = k
  · subst h; rw [if_pos rfl, if_pos (by omega)]
  · rw [if_neg h]
    by_cases h2 : j < k
    · rw [if_pos h2, if_pos (by omega)]
    · rw [if_neg h2, if_neg (by omega)]
theorem shr_byte (n q r : Nat) (hr : r < 8) : dgt W n q / 256 ^ r % 256 = dgt 256 n (8 * q + r) := by
  have := dgt_in (b := 256) (e := 8) (by omega) n q r hr
  rw [← W_256] at this
  rw [← this, dgt_def 256]
theorem shr_val (n q r : Nat) (hr : r < 8) : ((dgt W n q : Nat) : Int) / 2 ^ (r * 8) % 256 = ((dgt 256 n (8 * q + r) : Nat) : Int) := by
  rw [← shr_byte n q r hr, Int.natCast_emod, Int.natCast_ediv, Int.natCast_pow, Nat.mul_comm r 8, Int.pow_mul]; rfl
theorem wrap_u8 (a : Nat) : IntKind.u8.wrap (a : Int) = ((a % 256 : Nat) : Int) := by
  simp [IntKind.wrap, IntKind.bits, IntKind.signed]
theorem add_plain0 (g j : Nat) : (⟨g, 0, none⟩ : Addr).add j = ⟨g, j, none⟩ := by
  unfold Addr.add; split
  · rename_i h; subst h; rfl
  · simp
set_option maxHeartbeats 400000 in
theorem Bytes_c (A : Option Addr) (c n B : Nat) (w : World) (hL : nd W n ≤ 1000000000) (hr : Row w B A n (nd W n)) (hB : B ≤ w.heap.size) :
    Calls Tryz.prog 98 #[.slice A (nd W n) c] w fun e w' => e = .returned (.string (natS n)) ∧ Below w.heap.size w w' := by
  obtain ⟨i0, hi0, hz0, hz1, hz2⟩ := info_parts (P := Tryz.prog) (e := 5) (z := .int .u8 0) (size := 1) (bytes := 1) (by kernel_rfl)
  have HLN := Lib.hid (words_bytes n)
  have HBB := Lib.hid (bytes_bits n)
  have hl : ((nd 2 n : Int) + 7) / 8 = (nd 256 n : Int) := by have := HBB.out; omega
  have hx : nd 256 n ≤ 8000000000 := by have := HLN.out; omega
  have hx2 : nd 2 n ≤ 64000000000 := by have := HBB.out; omega
  have HR := Lib.hid hr
  clear hr
  go_enter Tryz.func98, Tryz.ntmps98
  go_wp2_with (first | (go_at_call 97; refine (Len_c _ _ _ B _ hL HR.out).mono ?_; rintro e w' ⟨rfl, rfl⟩) | (at_make; go_loud (refine wpList_make_zero _ rfl (.tmp 9) (.tmp 9) _ rfl 5 i0 _ Tryz.underlying108 hi0 hz0 hz1 .i64 .i64 _ _ (nd 256 n) rfl rfl (by first | assumption | rfl) (by first | assumption | rfl) (by rw [hz2]; omega) (by unfold maxLen; omega) ?_)))
  rw [fcells_made]
  have HB0 := Lib.hid (Blk.new w 5 (fcells .u8 (fun _ => 0) (nd 256 n)))
  have hbl : Below w.heap.size w (w.alloc (.cells (fcells .u8 (fun _ => 0) (nd 256 n)) 5)) := (Below.refl _ _).alloc (Nat.le_refl _) _
  generalize w.alloc (.cells (fcells .u8 (fun _ => 0) (nd 256 n)) 5) = w1 at *
  obtain ⟨g, hg⟩ : ∃ g, g = w.heap.size := ⟨_, rfl⟩
  rw [← hg] at HB0 hbl ⊢
  have HG := Lib.hid hg
  clear hg
  obtain ⟨N, hN⟩ : ∃ N, N = nd 256 n := ⟨_, rfl⟩
  rw [← hN] at hl hx HB0 ⊢
  have HN := Lib.hid hN
  clear hN hl
  go_loopw [13] (fun i wr => ∃ k : Nat, k ≤ N ∧ i = .int .i64 k ∧ Hid (Blk wr g 5 (fcells .u8 (byteF n k) N)) ∧ Below g w wr) (fun i _ => N - (intOf i).toNat)
  case atStart => exact ⟨0, Nat.zero_le _, rfl, by rw [fcells_congr (f' := fun _ => 0) (fun j _ => by unfold byteF; rw [if_neg (by omega)])]; exact HB0, hbl⟩
  case round =>
    obtain ⟨k, hk, rfl, hblk, hb⟩ := hrel
    by_cases hlt : k < N
    · obtain ⟨m, hm⟩ : ∃ m, N = k + 1 + m := ⟨N - k - 1, by omega⟩
      obtain ⟨q, hq⟩ : ∃ q, m / 8 = q := ⟨_, rfl⟩
      obtain ⟨r, hr⟩ : ∃ r, m % 8 = r := ⟨_, rfl⟩
      have hqL : q < nd W n := by have := HLN.out; have := HN.out; omega
      obtain ⟨ga, rfl, hga, hca⟩ := HR.out.at_ hqL
      have hca2 := (hb.cell (p := ⟨ga, q, none⟩) (by have := HG.out; show ga < g; omega)).trans hca
      have hfz := hblk.out.frozen k
      have hck := hblk.out.cell k
      rw [fcells_get _ _ _ _ hlt] at hck
      have hk1 : (N : Int) - 1 - (k : Int) = (m : Int) := by omega
      have hq1 : (m : Int) / 8 = (q : Int) := by omega
      have hr1 : (m : Int) % 8 = (r : Int) := by omega
      have hr8 : (r : Int) < 8 := by omega
      have hR8 : r < 8 := by omega
      have HM := Lib.hid hm
      have HQ := Lib.hid hq
      have HR' := Lib.hid hr
      clear hm hq hr hca
      go_wp2
      rw [shr_val n q r hR8]
      have hv : 8 * q + r = nd 256 n - 1 - k := by have := HM.out; have := HN.out; have := HQ.out; have := HR'.out; omega
      rw [hv]
      have HB1 := Lib.hid (hblk.out.set_ k (.int .u8 ((dgt 256 n (nd 256 n - 1 - k) : Nat) : Int)))
      rw [fcells_set, fcells_congr (f' := byteF n (k + 1)) (fun j _ => byteF_step n k j)] at HB1
      have hb1 := hb.setCell (p := ⟨g, k, none⟩) (Nat.le_refl _) (.int .u8 ((dgt 256 n (nd 256 n - 1 - k) : Nat) : Int))
      go_roundw
      case rel => exact ⟨k + 1, by omega, by go_num, HB1, hb1⟩
      case measure => simp [intOf]; omega
    · obtain rfl : k = N := by omega
      have hcv : (convert 108 9 (.slice (some ⟨g, 0, none⟩) k k)).run Tryz.prog wr = .ok (.string (natS n)) wr := by
        have hN := HN.out
        have hl : ((dl 256 n (nd 256 n)).reverse.map UInt8.ofNat).length = k := by simp [dl_length, hN]
        have h := run_convert_bytes_back (P := Tryz.prog) wr 108 9 5 ⟨g, 0, none⟩ k ((dl 256 n (nd 256 n)).reverse.map UInt8.ofNat) Tryz.underlying108 Tryz.underlying5 Tryz.underlying9 (fun j hj => by
          rw [add_plain0, hblk.out.cell, fcells_get _ _ _ _ (by rw [← hl]; exact hj)]
          have e := natS_get n j (by rw [natS_size, ← hN, ← hl]; exact hj)
          rw [ba_get] at e
          simp only [natS_def] at e
          rw [List.getElem_toArray] at e
          rw [e]
          unfold byteF
          rw [if_pos (by rw [← hl]; exact hj)])
        rw [hl, ← natS_def] at h
        exact h
      go_wp2
      go_ret
      exact ⟨rfl, by rw [← HG.out]; exact hb⟩
end Go.Proofs.YtmjjodficjjehabGreatDoor
namespace Go.Proofs.YtmjjodficjjehabGreatDoor
open Go Go.RowKit Nt
@[irreducible] def cmpN (a b : Nat) : Int := if a < b then -1 else if a = b then 0 else 1
theorem cmpN_lt {a b : Nat} (h : a < b) : cmpN a b = -1 := by unfold cmpN; rw [if_pos h]
theorem cmpN_eq (a : Nat) : cmpN a a = 0 := by unfold cmpN; rw [if_neg (by omega), if_pos rfl]
theorem cmpN_gt {a b : Nat} (h : b < a) : cmpN a b = 1 := by unfold cmpN; rw [if_neg (by omega), if_neg (by omega)]
theorem lt_of_nd {b m n : Nat} (hb : 2 ≤ b) (h : nd b m < nd b n) : m < n := by
  have h1 := lt_nd (n := m) hb
  have h2 := (pow_le_iff hb _ _).2 h
  omega
theorem lt_of_digit {b x y m L : Nat} (hb : 2 ≤ b) (hx : x < b ^ L) (hy : y < b ^ L) (hm : m < L) (h : ∀ j, m + 1 ≤ j → j < L → dgt b x j = dgt b y j) (hd : dgt b x m < dgt b y m) : x < y := by
  have key : x / b ^ (m + 1) = y / b ^ (m + 1) := by
    obtain ⟨d, rfl⟩ : ∃ d, L = m + 1 + d := ⟨L - (m + 1), by omega⟩
    refine eq_of_digits (b := b) (L := d) ?_ ?_ (fun i hi => ?_)
    · rw [Nat.div_lt_iff_lt_mul (Nat.pow_pos (by omega)), ← Nat.pow_add, Nat.add_comm d]; exact hx
    · rw [Nat.div_lt_iff_lt_mul (Nat.pow_pos (by omega)), ← Nat.pow_add, Nat.add_comm d]; exact hy
    · rw [dgt_skip, dgt_skip]; exact h _ (by omega) (by omega)
  have h1 := div_eq_dgt (b := b) (by omega) x m
  have h2 := div_eq_dgt (b := b) (by omega) y m
  rw [key] at h1
  rcases Nat.lt_or_ge x y with h3 | h3
  · exact h3
  · have := Nat.div_le_div_right (c := b ^ m) h3; omega
def Drawn (w w' : World) : Prop := ∃ n, w' = w.drewN n
theorem Drawn.refl (w : World) : Drawn w w := ⟨0, rfl⟩
theorem Drawn.more {w w' : World} (h : Drawn w w') (m : Nat) : Drawn w (w'.drewN m) := by obtain ⟨n, rfl⟩ := h; exact ⟨n + m, World.drewN_drewN _ _ _⟩
set_option maxHeartbeats 400000 in
theorem Cmp_c (A A' : Option Addr) (c c' a b B : Nat) (w : World) (hL : nd W a ≤ 1000000000) (hL' : nd W b ≤ 1000000000) (hr : Row w B A a (nd W a)) (hr' : Row w B A' b (nd W b)) :
    Calls Tryz.prog 78 #[.slice A (nd W a) c, .slice A' (nd W b) c'] w fun e w' => e = .returned (.int .i64 (cmpN a b)) ∧ ∃ n, w' = w.drewN n := by
  have HR := Lib.hid hr
  have HR' := Lib.hid hr'
  clear hr hr'
  rcases Nat.lt_trichotomy (nd W a) (nd W b) with h | h | h
  · have hn : ((nd W a : Int) != (nd W b : Int)) = true := by rw [bne_iff_ne]; omega
    have HC := Lib.hid (cmpN_lt (lt_of_nd W2 h))
    go_enter Tryz.func78, Tryz.ntmps78
    go_wp2
    go_ret
    exact ⟨ret_int HC.out.symm, 0, rfl⟩
  · have ha := lt_nd (n := a) W2
    have hb := lt_nd (n := b) W2
    rw [← h] at hb hL' HR' ⊢
    have HA := Lib.hid ha
    have HB := Lib.hid hb
    have HE := Lib.hid h
    clear ha hb h
    obtain ⟨L, hLe⟩ : ∃ L, L = nd W a := ⟨_, rfl⟩
    have hLL : L ≤ 1000000000 := by omega
    rw [← hLe] at HA HB HR HR' ⊢
    have hw : wrap64 ((L : Int) - 1) = (L : Int) - 1 := IntWalk.wrap64_in _ (by omega)
    have hn : ((L : Int) != (L : Int)) = false := by simp
    have HLE := Lib.hid hLe
    clear hLe
    go_enter Tryz.func78, Tryz.ntmps78
    go_wp2
    go_loopw [5] (fun i wr => ∃ (k : Nat) (z : Int) (m : Nat), k ≤ L ∧ i = .int .i64 z ∧ Hid (z = (k : Int) - 1) ∧ Hid (∀ j, k ≤ j → j < L → dgt W a j = dgt W b j) ∧ wr = w.drewN m) (fun i _ => (intOf i + 1).toNat)
    case atStart => exact ⟨L, _, 0, Nat.le_refl _, rfl, Lib.hid rfl, Lib.hid (fun j h1 h2 => by omega), rfl⟩
    case round =>
      obtain ⟨k, z, mm, hk, rfl, hz, hd, rfl⟩ := hrel
      by_cases h0 : k = 0
      · subst h0
        obtain rfl : z = -1 := by have := hz.out; omega
        go_wp2
        go_ret
        refine ⟨ret_int ?_, _, rfl⟩
        obtain rfl : a = b := eq_of_digits HA.out HB.out (fun i hi => hd.out i (by omega) hi)
        exact (cmpN_eq _).symm
      · obtain ⟨m, rfl⟩ : ∃ m, k = m + 1 := ⟨k - 1, by omega⟩
        obtain rfl : z = (m : Int) := by have := hz.out; omega
        obtain ⟨g, rfl, _, hc⟩ := HR.out.at_ (k := m) (by omega)
        obtain ⟨g', rfl, _, hc'⟩ := HR'.out.at_ (k := m) (by omega)
        have hm : m < L := by omega
        have hw : wrap64 ((m : Int) - 1) = (m : Int) - 1 := IntWalk.wrap64_in _ (by omega)
        rcases Nat.lt_trichotomy (dgt W a m) (dgt W b m) with hlt | heq | hgt
        · have HC := Lib.hid (cmpN_lt (lt_of_digit W2 HA.out HB.out hm hd.out hlt))
          go_wp2
          go_quiet (fail)
          go_wp2
          go_ret
          exact ⟨ret_int HC.out.symm, by first | exact Drawn.more ⟨_, rfl⟩ _ | exact Drawn.more (Drawn.more ⟨_, rfl⟩ _) _⟩
        · have HD := Lib.hid heq
          have h1 : ¬ dgt W a m < dgt W b m := by omega
          have h2 : ¬ dgt W b m < dgt W a m := by omega
          clear heq
          go_wp2
          go_quiet (fail)
          go_wp2
          go_quiet (fail)
          go_wp2
          go_roundw
          case rel => exact ⟨m, _, _, by omega, rfl, Lib.hid rfl, Lib.hid (fun j h1 h2 => by
            rcases Nat.lt_or_ge m j with h3 | h3
            · exact hd.out j h3 h2
            · obtain rfl : j = m := by omega
              exact HD.out), rfl⟩
          case measure => simp [intOf]
        · have HC := Lib.hid (cmpN_gt (lt_of_digit W2 HB.out HA.out hm (fun j h1 h2 => (hd.out j h1 h2).symm) hgt))
          have h1 : ¬ dgt W a m < dgt W b m := by omega
          go_wp2
          go_quiet (fail)
          go_wp2
          go_quiet (fail)
          go_wp2
          go_ret
          exact ⟨ret_int HC.out.symm, by first | exact Drawn.more ⟨_, rfl⟩ _ | exact Drawn.more (Drawn.more ⟨_, rfl⟩ _) _⟩
  · have hn : ((nd W a : Int) != (nd W b : Int)) = true := by rw [bne_iff_ne]; omega
    have HC := Lib.hid (cmpN_gt (lt_of_nd W2 h))
    have h2 : ¬ nd W a < nd W b := by omega
    go_enter Tryz.func78, Tryz.ntmps78
    go_wp2
    go_ret
    exact ⟨ret_int HC.out.symm, 0, rfl⟩
end Go.Proofs.YtmjjodficjjehabGreatDoor
namespace Go.Proofs.YtmjjodficjjehabGreatDoor
open Go Go.RowKit Nt
theorem add_word (x y i : Nat) : (dgt W x i + dgt W y i + car W x y i) % 18446744073709551616 = dgt W (x + y) i := by rw [dgt_add W0, W_eq]
theorem add_carry (x y i : Nat) : (dgt W x i + dgt W y i + car W x y i) / 18446744073709551616 = car W x y (i + 1) := by rw [car_succ W0, W_eq]
theorem put_sum (s i : Nat) : put W (s % W ^ i) i (dgt W s i) = s % W ^ (i + 1) := put_mod W2 s i
theorem mod_one (s : Nat) : s % W ^ 0 = 0 := by rw [Nat.pow_zero, Nat.mod_one]
set_option maxHeartbeats 1000000 in
theorem Add_ge (A A' : Option Addr) (c c' a b B : Nat) (w : World) (hL : nd W a ≤ 1000000000) (hL' : nd W b ≤ nd W a) (hr : Row w B A a (nd W a)) (hr' : Row w B A' b (nd W b)) (hBs : B ≤ w.heap.size) :
    Calls Tryz.prog 77 #[.slice A (nd W a) c, .slice A' (nd W b) c'] w (NumPost (a + b) w) := by
  obtain ⟨i0, hi0, hz0, hz1, hz2⟩ := info_parts (P := Tryz.prog) (e := 69) (z := .int .u64 0) (size := 1) (bytes := 8) (by kernel_rfl)
  have HR := Lib.hid hr
  have HR' := Lib.hid hr'
  have HA := Lib.hid (lt_nd (n := a) W2)
  have HB := Lib.hid (lt_nd (n := b) W2)
  clear hr hr'
  have hn : ¬ nd W a < nd W b := by omega
  go_enter Tryz.func77, Tryz.ntmps77
  go_wp2_with (at_make; go_loud (refine wpList_make_zero _ rfl (.tmp 19) (.tmp 19) _ rfl 69 i0 _ Tryz.underlying121 hi0 hz0 hz1 .i64 .i64 _ _ (nd W a + 1) rfl rfl (by omega) (by omega) (by rw [hz2]; omega) (by unfold maxLen; omega) ?_))
  rw [wcells_made]
  have HB0 := Lib.hid (Blk.new w 69 (wcells 0 (nd W a + 1)))
  have hbl : Below w.heap.size w (w.alloc (.cells (wcells 0 (nd W a + 1)) 69)) := (Below.refl _ _).alloc (Nat.le_refl _) _
  generalize w.alloc (.cells (wcells 0 (nd W a + 1)) 69) = w1 at *
  obtain ⟨g, hg⟩ : ∃ g, g = w.heap.size := ⟨_, rfl⟩
  rw [← hg] at HB0 hbl hBs ⊢
  have HG := Lib.hid hg
  clear hg
  go_loopw [6, 23] (fun cy i wr => ∃ k : Nat, k ≤ nd W a ∧ i = .int .i64 k ∧ cy = .int .u64 (car W a b k : Nat) ∧ Hid (Blk wr g 69 (wcells ((a + b) % W ^ k) (nd W a + 1))) ∧ Below g w wr) (fun _ i _ => nd W a - (intOf i).toNat)
  case atStart => exact ⟨0, Nat.zero_le _, rfl, by rw [car_zero]; rfl, by rw [mod_one]; exact HB0, hbl⟩
  case round =>
    obtain ⟨k, hk, rfl, rfl, hblk, hb⟩ := hrel
    by_cases hlt : k < nd W a
    · obtain ⟨ga, rfl, hga, hca⟩ := HR.out.at_ hlt
      have hca2 := (hb.cell (p := ⟨ga, k, none⟩) (by show ga < g; omega)).trans hca
      have hfz := hblk.out.frozen k
      have hck := hblk.out.cell k
      rw [wcells_get _ _ _ (by omega)] at hck
      have hc1 := car_le W0 a b k
      clear hca
      by_cases hlt' : k < nd W b
      · obtain ⟨gb, rfl, hgb, hcb⟩ := HR'.out.at_ hlt'
        have hcb2 := (hb.cell (p := ⟨gb, k, none⟩) (by show gb < g; omega)).trans hcb
        clear hcb
        have hadd : ∀ w, (callFunc 100 #[.int .u64 (dgt W a k : Nat), .int .u64 (dgt W b k : Nat), .int .u64 (car W a b k : Nat)]).run Tryz.prog w = .ok (.value (.tuple #[.int .u64 (dgt W (a + b) k : Nat), .int .u64 (car W a b (k + 1) : Nat)])) w := fun w => by
          rw [Tryz.bits_Add64 _ _ _ hc1 w, add_word, add_carry]
        have HS := Lib.hid hblk
        have HB1 := Lib.hid (hblk.out.set_ k (.int .u64 (dgt W (a + b) k : Nat)))
        rw [wcells_set _ _ _ _ (wd_lt _ _), put_sum] at HB1
        have hb1 := hb.setCell (p := ⟨g, k, none⟩) (Nat.le_refl _) (.int .u64 (dgt W (a + b) k : Nat))
        go_wp2_with (simp only [hadd])
        go_roundw
        case rel => exact ⟨k + 1, by omega, by go_num, rfl, HB1, hb1⟩
        case measure => simp [intOf]; omega
      · have hadd : ∀ w, (callFunc 100 #[.int .u64 (dgt W a k : Nat), .int .u64 0, .int .u64 (car W a b k : Nat)]).run Tryz.prog w = .ok (.value (.tuple #[.int .u64 (dgt W (a + b) k : Nat), .int .u64 (car W a b (k + 1) : Nat)])) w := fun w => by
          have h := Tryz.bits_Add64 (dgt W a k) (dgt W b k) _ hc1 w
          rw [add_word, add_carry] at h
          have e : dgt W b k = 0 := dgt_big W2 (by omega)
          rw [e] at h
          exact h
        have HB1 := Lib.hid (hblk.out.set_ k (.int .u64 (dgt W (a + b) k : Nat)))
        rw [wcells_set _ _ _ _ (wd_lt _ _), put_sum] at HB1
        have hb1 := hb.setCell (p := ⟨g, k, none⟩) (Nat.le_refl _) (.int .u64 (dgt W (a + b) k : Nat))
        go_wp2_with (simp only [hadd])
        go_roundw
        case rel => exact ⟨k + 1, by omega, by go_num, rfl, HB1, hb1⟩
        case measure => simp [intOf]; omega
    · obtain rfl : k = nd W a := by omega
      have hfz := hblk.out.frozen (nd W a)
      have hck := hblk.out.cell (nd W a)
      rw [wcells_get _ _ _ (by omega)] at hck
      have hB' : b < W ^ nd W a := (lt_pow_iff W2 _ _).2 hL'
      rw [car_last W2 a b _ HA.out hB']
      have hs : a + b < W ^ (nd W a + 1) := by
        have h1 := HA.out
        rw [Nat.pow_succ]
        have h2 : 2 * W ^ nd W a ≤ W ^ nd W a * W := by rw [Nat.mul_comm]; exact Nat.mul_le_mul_left _ W2
        omega
      have HB1 := hblk.out.set_ (nd W a) (.int .u64 (dgt W (a + b) (nd W a) : Nat))
      rw [wcells_set _ _ _ _ (wd_lt _ _), put_sum, Nat.mod_eq_of_lt hs] at HB1
      have HB1' := Lib.hid HB1
      have hb1 := hb.setCell (p := ⟨g, nd W a, none⟩) (Nat.le_refl _) (.int .u64 (dgt W (a + b) (nd W a) : Nat))
      have HS := Lib.hid hs
      clear HB1 hs hB'
      go_wp2_with fail
      refine (Cut_c (some ⟨g, 0, none⟩) (nd W a + 1) (nd W a + 1) (a + b) (g + 1) _ HS.out (Nat.le_refl _) (by omega) (Row.of_blk HB1'.out (by omega))).mono ?_
      rintro e w' ⟨rfl, rfl⟩
      go_wp2
      go_ret
      have hnd := nd_le W2 HS.out
      exact NumPost.mk hnd ((Row.of_blk HB1'.out HB1'.out.lt).less hnd) (by rw [← HG.out]; exact hb1)
set_option maxHeartbeats 1000000 in
theorem Add_lt (A A' : Option Addr) (c c' a b B : Nat) (w : World) (hL : nd W a ≤ 1000000000) (hL' : nd W b < nd W a) (hr : Row w B A a (nd W a)) (hr' : Row w B A' b (nd W b)) (hBs : B ≤ w.heap.size) :
    Calls Tryz.prog 77 #[.slice A' (nd W b) c', .slice A (nd W a) c] w (NumPost (a + b) w) := by
  obtain ⟨i0, hi0, hz0, hz1, hz2⟩ := info_parts (P := Tryz.prog) (e := 69) (z := .int .u64 0) (size := 1) (bytes := 8) (by kernel_rfl)
  have HR := Lib.hid hr
  have HR' := Lib.hid hr'
  have HA := Lib.hid (lt_nd (n := a) W2)
  have HB := Lib.hid (lt_nd (n := b) W2)
  clear hr hr'
  have hn : nd W b < nd W a := by omega
  go_enter Tryz.func77, Tryz.ntmps77
  go_wp2_with (at_make; go_loud (refine wpList_make_zero _ rfl (.tmp 19) (.tmp 19) _ rfl 69 i0 _ Tryz.underlying121 hi0 hz0 hz1 .i64 .i64 _ _ (nd W a + 1) rfl rfl (by omega) (by omega) (by rw [hz2]; omega) (by unfold maxLen; omega) ?_))
  rw [wcells_made]
  have HB0 := Lib.hid (Blk.new w 69 (wcells 0 (nd W a + 1)))
  have hbl : Below w.heap.size w (w.alloc (.cells (wcells 0 (nd W a + 1)) 69)) := (Below.refl _ _).alloc (Nat.le_refl _) _
  generalize w.alloc (.cells (wcells 0 (nd W a + 1)) 69) = w1 at *
  obtain ⟨g, hg⟩ : ∃ g, g = w.heap.size := ⟨_, rfl⟩
  rw [← hg] at HB0 hbl hBs ⊢
  have HG := Lib.hid hg
  clear hg
  go_loopw [6, 23] (fun cy i wr => ∃ k : Nat, k ≤ nd W a ∧ i = .int .i64 k ∧ cy = .int .u64 (car W a b k : Nat) ∧ Hid (Blk wr g 69 (wcells ((a + b) % W ^ k) (nd W a + 1))) ∧ Below g w wr) (fun _ i _ => nd W a - (intOf i).toNat)
  case atStart => exact ⟨0, Nat.zero_le _, rfl, by rw [car_zero]; rfl, by rw [mod_one]; exact HB0, hbl⟩
  case round =>
    obtain ⟨k, hk, rfl, rfl, hblk, hb⟩ := hrel
    by_cases hlt : k < nd W a
    · obtain ⟨ga, rfl, hga, hca⟩ := HR.out.at_ hlt
      have hca2 := (hb.cell (p := ⟨ga, k, none⟩) (by show ga < g; omega)).trans hca
      have hfz := hblk.out.frozen k
      have hck := hblk.out.cell k
      rw [wcells_get _ _ _ (by omega)] at hck
      have hc1 := car_le W0 a b k
      clear hca
      by_cases hlt' : k < nd W b
      · obtain ⟨gb, rfl, hgb, hcb⟩ := HR'.out.at_ hlt'
        have hcb2 := (hb.cell (p := ⟨gb, k, none⟩) (by show gb < g; omega)).trans hcb
        clear hcb
        have hadd : ∀ w, (callFunc 100 #[.int .u64 (dgt W a k : Nat), .int .u64 (dgt W b k : Nat), .int .u64 (car W a b k : Nat)]).run Tryz.prog w = .ok (.value (.tuple #[.int .u64 (dgt W (a + b) k : Nat), .int .u64 (car W a b (k + 1) : Nat)])) w := fun w => by
          rw [Tryz.bits_Add64 _ _ _ hc1 w, add_word, add_carry]
        have HS := Lib.hid hblk
        have HB1 := Lib.hid (hblk.out.set_ k (.int .u64 (dgt W (a + b) k : Nat)))
        rw [wcells_set _ _ _ _ (wd_lt _ _), put_sum] at HB1
        have hb1 := hb.setCell (p := ⟨g, k, none⟩) (Nat.le_refl _) (.int .u64 (dgt W (a + b) k : Nat))
        go_wp2_with (simp only [hadd])
        go_roundw
        case rel => exact ⟨k + 1, by omega, by go_num, rfl, HB1, hb1⟩
        case measure => simp [intOf]; omega
      · have hadd : ∀ w, (callFunc 100 #[.int .u64 (dgt W a k : Nat), .int .u64 0, .int .u64 (car W a b k : Nat)]).run Tryz.prog w = .ok (.value (.tuple #[.int .u64 (dgt W (a + b) k : Nat), .int .u64 (car W a b (k + 1) : Nat)])) w := fun w => by
          have h := Tryz.bits_Add64 (dgt W a k) (dgt W b k) _ hc1 w
          rw [add_word, add_carry] at h
          have e : dgt W b k = 0 := dgt_big W2 (by omega)
          rw [e] at h
          exact h
        have HB1 := Lib.hid (hblk.out.set_ k (.int .u64 (dgt W (a + b) k : Nat)))
        rw [wcells_set _ _ _ _ (wd_lt _ _), put_sum] at HB1
        have hb1 := hb.setCell (p := ⟨g, k, none⟩) (Nat.le_refl _) (.int .u64 (dgt W (a + b) k : Nat))
        go_wp2_with (simp only [hadd])
        go_roundw
        case rel => exact ⟨k + 1, by omega, by go_num, rfl, HB1, hb1⟩
        case measure => simp [intOf]; omega
    · obtain rfl : k = nd W a := by omega
      have hfz := hblk.out.frozen (nd W a)
      have hck := hblk.out.cell (nd W a)
      rw [wcells_get _ _ _ (by omega)] at hck
      have hB' : b < W ^ nd W a := (lt_pow_iff W2 _ _).2 (by omega)
      rw [car_last W2 a b _ HA.out hB']
      have hs : a + b < W ^ (nd W a + 1) := by
        have h1 := HA.out
        rw [Nat.pow_succ]
        have h2 : 2 * W ^ nd W a ≤ W ^ nd W a * W := by rw [Nat.mul_comm]; exact Nat.mul_le_mul_left _ W2
        omega
      have HB1 := hblk.out.set_ (nd W a) (.int .u64 (dgt W (a + b) (nd W a) : Nat))
      rw [wcells_set _ _ _ _ (wd_lt _ _), put_sum, Nat.mod_eq_of_lt hs] at HB1
      have HB1' := Lib.hid HB1
      have hb1 := hb.setCell (p := ⟨g, nd W a, none⟩) (Nat.le_refl _) (.int .u64 (dgt W (a + b) (nd W a) : Nat))
      have HS := Lib.hid hs
      clear HB1 hs hB'
      go_wp2_with fail
      refine (Cut_c (some ⟨g, 0, none⟩) (nd W a + 1) (nd W a + 1) (a + b) (g + 1) _ HS.out (Nat.le_refl _) (by omega) (Row.of_blk HB1'.out (by omega))).mono ?_
      rintro e w' ⟨rfl, rfl⟩
      go_wp2
      go_ret
      have hnd := nd_le W2 HS.out
      exact NumPost.mk hnd ((Row.of_blk HB1'.out HB1'.out.lt).less hnd) (by rw [← HG.out]; exact hb1)
theorem Add_c (A A' : Option Addr) (c c' a b B : Nat) (w : World) (hL : nd W a ≤ 1000000000) (hL' : nd W b ≤ 1000000000) (hr : Row w B A a (nd W a)) (hr' : Row w B A' b (nd W b)) (hBs : B ≤ w.heap.size) :
    Calls Tryz.prog 77 #[.slice A (nd W a) c, .slice A' (nd W b) c'] w (NumPost (a + b) w) := by
  rcases Nat.lt_or_ge (nd W a) (nd W b) with h | h
  · rw [Nat.add_comm]; exact Add_lt A' A c' c b a B w hL' h hr' hr hBs
  · exact Add_ge A A' c c' a b B w hL h hr hr' hBs
theorem sub_word (x y i : Nat) (h : y ≤ x) : (dgt W x i + 18446744073709551616 - dgt W y i - bor W x y i) % 18446744073709551616 = dgt W (x - y) i := by rw [dgt_sub W2 _ _ _ h, W_eq]
theorem sub_borrow (x y i : Nat) : (if dgt W x i < dgt W y i + bor W x y i then 1 else 0) = bor W x y (i + 1) := by rw [bor_succ W0]
set_option maxHeartbeats 1000000 in
theorem Sub_c (A A' : Option Addr) (c c' a b B : Nat) (w : World) (hba : b ≤ a) (hL : nd W a ≤ 1000000000) (hr : Row w B A a (nd W a)) (hr' : Row w B A' b (nd W b)) (hBs : B ≤ w.heap.size) :
    Calls Tryz.prog 79 #[.slice A (nd W a) c, .slice A' (nd W b) c'] w (NumPost (a - b) w) := by
  obtain ⟨i0, hi0, hz0, hz1, hz2⟩ := info_parts (P := Tryz.prog) (e := 69) (z := .int .u64 0) (size := 1) (bytes := 8) (by kernel_rfl)
  have HBA := Lib.hid hba
  have HR := Lib.hid hr
  have HR' := Lib.hid hr'
  have HA := Lib.hid (lt_nd (n := a) W2)
  have hL' := nd_mono W2 hba
  clear hr hr' hba
  go_enter Tryz.func79, Tryz.ntmps79
  go_wp2_with (at_make; go_loud (refine wpList_make_zero _ rfl (.tmp 11) (.tmp 11) _ rfl 69 i0 _ Tryz.underlying121 hi0 hz0 hz1 .i64 .i64 _ _ (nd W a) rfl rfl rfl rfl (by rw [hz2]; omega) (by unfold maxLen; omega) ?_))
  rw [wcells_made]
  have HB0 := Lib.hid (Blk.new w 69 (wcells 0 (nd W a)))
  have hbl : Below w.heap.size w (w.alloc (.cells (wcells 0 (nd W a)) 69)) := (Below.refl _ _).alloc (Nat.le_refl _) _
  generalize w.alloc (.cells (wcells 0 (nd W a)) 69) = w1 at *
  obtain ⟨g, hg⟩ : ∃ g, g = w.heap.size := ⟨_, rfl⟩
  rw [← hg] at HB0 hbl hBs ⊢
  have HG := Lib.hid hg
  clear hg
  go_loopw [6, 15] (fun cy i wr => ∃ k : Nat, k ≤ nd W a ∧ i = .int .i64 k ∧ cy = .int .u64 (bor W a b k : Nat) ∧ Hid (Blk wr g 69 (wcells ((a - b) % W ^ k) (nd W a))) ∧ Below g w wr) (fun _ i _ => nd W a - (intOf i).toNat)
  case atStart => exact ⟨0, Nat.zero_le _, rfl, by rw [bor_zero]; rfl, by rw [mod_one]; exact HB0, hbl⟩
  case round =>
    obtain ⟨k, hk, rfl, rfl, hblk, hb⟩ := hrel
    by_cases hlt : k < nd W a
    · obtain ⟨ga, rfl, hga, hca⟩ := HR.out.at_ hlt
      have hca2 := (hb.cell (p := ⟨ga, k, none⟩) (by show ga < g; omega)).trans hca
      have hfz := hblk.out.frozen k
      have hck := hblk.out.cell k
      rw [wcells_get _ _ _ (by omega)] at hck
      have hc1 := bor_le W a b k
      clear hca
      have hsub' : ∀ w, (callFunc 101 #[.int .u64 (dgt W a k : Nat), .int .u64 (dgt W b k : Nat), .int .u64 (bor W a b k : Nat)]).run Tryz.prog w = .ok (.value (.tuple #[.int .u64 (dgt W (a - b) k : Nat), .int .u64 (bor W a b (k + 1) : Nat)])) w := fun w => by
        rw [Tryz.bits_Sub64 _ _ _ hc1 w, sub_word _ _ _ HBA.out, sub_borrow]
      have HS := Lib.hid hsub'
      clear hsub'
      have HB1 := Lib.hid (hblk.out.set_ k (.int .u64 (dgt W (a - b) k : Nat)))
      rw [wcells_set _ _ _ _ (wd_lt _ _), put_sum] at HB1
      have hb1 := hb.setCell (p := ⟨g, k, none⟩) (Nat.le_refl _) (.int .u64 (dgt W (a - b) k : Nat))
      by_cases hlt' : k < nd W b
      · obtain ⟨gb, rfl, hgb, hcb⟩ := HR'.out.at_ hlt'
        have hcb2 := (hb.cell (p := ⟨gb, k, none⟩) (by show gb < g; omega)).trans hcb
        clear hcb
        have hadd := HS.out
        go_wp2_with (simp only [hadd])
        go_roundw
        case rel => exact ⟨k + 1, by omega, by go_num, rfl, HB1, hb1⟩
        case measure => simp [intOf]; omega
      · have hadd : ∀ w, (callFunc 101 #[.int .u64 (dgt W a k : Nat), .int .u64 0, .int .u64 (bor W a b k : Nat)]).run Tryz.prog w = .ok (.value (.tuple #[.int .u64 (dgt W (a - b) k : Nat), .int .u64 (bor W a b (k + 1) : Nat)])) w := fun w => by
          have h := HS.out w
          have e : dgt W b k = 0 := dgt_big W2 (by omega)
          rw [e] at h
          exact h
        go_wp2_with (simp only [hadd])
        go_roundw
        case rel => exact ⟨k + 1, by omega, by go_num, rfl, HB1, hb1⟩
        case measure => simp [intOf]; omega
    · obtain rfl : k = nd W a := by omega
      have hs : a - b < W ^ nd W a := Nat.lt_of_le_of_lt (Nat.sub_le _ _) HA.out
      have HS := Lib.hid hs
      have HB1 := hblk.out
      rw [Nat.mod_eq_of_lt hs] at HB1
      have HB1' := Lib.hid HB1
      clear HB1 hs
      go_wp2_with fail
      refine (Cut_c (some ⟨g, 0, none⟩) (nd W a) (nd W a) (a - b) (g + 1) _ HS.out (Nat.le_refl _) (by omega) (Row.of_blk HB1'.out (by omega))).mono ?_
      rintro e w' ⟨rfl, rfl⟩
      go_wp2
      go_ret
      have hnd := nd_le W2 HS.out
      exact NumPost.mk hnd ((Row.of_blk HB1'.out HB1'.out.lt).less hnd) (by rw [← HG.out]; exact hb)
end Go.Proofs.YtmjjodficjjehabGreatDoor
namespace Go.Proofs.YtmjjodficjjehabGreatDoor
open Go Go.RowKit Nt
theorem wadd_nat {a b c : Nat} (h : a + b = c) (hc : c < 18446744073709551616) : IntKind.u64.wrap ((a : Int) + (b : Int)) = (c : Int) := by
  rw [IntKind.wrap_u64, ← Int.natCast_add, h, Int.emod_eq_of_lt (by omega) (by omega)]
end Go.Proofs.YtmjjodficjjehabGreatDoor
namespace Go.Proofs.YtmjjodficjjehabGreatDoor
open Go Go.RowKit Nt
theorem below_drewN {B : Nat} {a w : World} (h : Below B a w) (n : Nat) : Below B a (w.drewN n) := ⟨h.os, h.tape, h.output, h.size, h.block⟩
end Go.Proofs.YtmjjodficjjehabGreatDoor
namespace Go.Proofs.YtmjjodficjjehabGreatDoor
open Go Go.RowKit Nt
@[irreducible] def shlV (x q r k : Nat) : Nat := x % W ^ k * 2 ^ r * W ^ q
theorem shlV_def (x q r k : Nat) : shlV x q r k = x % W ^ k * 2 ^ r * W ^ q := by unfold shlV; rfl
theorem shlV_zero (x q r : Nat) : shlV x q r 0 = 0 := by rw [shlV_def, mod_one, Nat.zero_mul, Nat.zero_mul]
theorem shl_last {x q r k : Nat} (hx : x < W ^ nd W x) (hk : k = 64 * q + r) : shlV x q r (nd W x) = x * 2 ^ k := by
  rw [shlV_def, Nat.mod_eq_of_lt hx, hk, Nat.pow_add, W_two, ← Nat.pow_mul, Nat.mul_assoc, Nat.mul_comm (2 ^ r)]
theorem int_pow2 (k : Nat) : (2 : Int) ^ k = ((2 ^ k : Nat) : Int) := by rw [Int.natCast_pow]; rfl
theorem shl_words (x q r k : Nat) (hr : r < 64) : ∃ v V1 u : Nat,
    bits .or .u64 ((dgt W (shlV x q r k) (k + q) : Nat) : Int) (IntKind.u64.wrap ((dgt W x k : Nat) * 2 ^ r)) = (v : Int) ∧ v < 18446744073709551616 ∧
    put W (shlV x q r k) (k + q) v = V1 ∧ dgt W V1 (k + q + 1) = 0 ∧
    bits .or .u64 (0 : Int) (((dgt W x k : Nat) : Int) / 2 ^ (64 - r)) = (u : Int) ∧ u < 18446744073709551616 ∧ put W V1 (k + q + 1) u = shlV x q r (k + 1) := by
  obtain ⟨h1, h2, h3, h4, h5⟩ := shl_step (e := 64) x k q r (by omega)
  rw [← W_two] at h1 h2 h3 h4 h5
  rw [shlV_def, shlV_def]
  refine ⟨_, _, dgt W x k / 2 ^ (64 - r), ?_, Nat.lt_of_lt_of_eq h2 W_eq, rfl, h3, ?_, Nat.lt_of_lt_of_eq h4 W_eq, h5⟩
  · have e : IntKind.u64.wrap ((dgt W x k : Nat) * 2 ^ r) = ((dgt W x k * 2 ^ r % W : Nat) : Int) := by
      rw [IntKind.wrap_u64, int_pow2, ← Int.natCast_mul, W_eq, Int.natCast_emod]; rfl
    rw [e, bits_or_u64_nat _ _ (wd_lt _ _) (Nat.lt_of_lt_of_eq (Nat.mod_lt _ W0) W_eq), h1]
  · rw [int_pow2, ← Int.natCast_ediv]
    have := bits_or_u64_nat 0 (dgt W x k / 2 ^ (64 - r)) (by omega) (Nat.lt_of_lt_of_eq h4 W_eq)
    rw [Nat.zero_or] at this; exact this
theorem Shl_none (A : Option Addr) (c : Nat) (k : Int) (w : World) :
    Calls Tryz.prog 74 #[.slice A 0 c, .int .i64 k] w (NumPost 0 w) := by
  go_enter Tryz.func74, Tryz.ntmps74
  go_wp2
  go_ret
  have e : nd W 0 = 0 := nd_zero _
  have := NumPost.mk (n := 0) (w := w) (w' := w) (A := none) (c := 0) (by rw [e]; exact Nat.le_refl _) (by rw [e]; exact Row.none_) (Below.refl _ _)
  rw [e] at this; exact this
set_option maxHeartbeats 1000000 in
theorem Shl_some (A : Option Addr) (c x k q r B : Nat) (w : World) (hx0 : x ≠ 0) (hk : k = 64 * q + r) (hr64 : r < 64) (hL : nd W x + q ≤ 1000000000) (hr : Row w B A x (nd W x)) (hBs : B ≤ w.heap.size) :
    Calls Tryz.prog 74 #[.slice A (nd W x) c, .int .i64 (k : Nat)] w (NumPost (x * 2 ^ k) w) := by
  obtain ⟨i0, hi0, hz0, hz1, hz2⟩ := info_parts (P := Tryz.prog) (e := 69) (z := .int .u64 0) (size := 1) (bytes := 8) (by kernel_rfl)
  have HR := Lib.hid hr
  have HA := Lib.hid (lt_nd (n := x) W2)
  have hq : (k : Int) / 64 = (q : Int) := by omega
  have hm : (k : Int) % 64 = (r : Int) := by omega
  have hkb : (k : Int) ≤ 1000000000000 := by omega
  have hn0 : nd W x ≠ 0 := fun e => hx0 ((nd_eq_zero W2).1 e)
  have hz := eqz_false hn0
  have HK := Lib.hid hk
  clear hr hk
  go_enter Tryz.func74, Tryz.ntmps74
  go_wp2_with (at_make; go_loud (refine wpList_make_zero _ rfl (.tmp 21) (.tmp 21) _ rfl 69 i0 _ Tryz.underlying121 hi0 hz0 hz1 .i64 .i64 _ _ (nd W x + q + 1) rfl rfl (by omega) (by omega) (by rw [hz2]; omega) (by unfold maxLen; omega) ?_))
  rw [wcells_made]
  have HB0 := Lib.hid (Blk.new w 69 (wcells 0 (nd W x + q + 1)))
  have hbl : Below w.heap.size w (w.alloc (.cells (wcells 0 (nd W x + q + 1)) 69)) := (Below.refl _ _).alloc (Nat.le_refl _) _
  generalize w.alloc (.cells (wcells 0 (nd W x + q + 1)) 69) = w1 at *
  obtain ⟨g, hg⟩ : ∃ g, g = w.heap.size := ⟨_, rfl⟩
  rw [← hg] at HB0 hbl hBs ⊢
  have HG := Lib.hid hg
  clear hg
  go_loopw [25] (fun i wr => ∃ k : Nat, k ≤ nd W x ∧ i = .int .i64 k ∧ Hid (Blk wr g 69 (wcells (shlV x q r k) (nd W x + q + 1))) ∧ Below g w wr) (fun i _ => nd W x - (intOf i).toNat)
  case atStart => exact ⟨0, Nat.zero_le _, rfl, by rw [shlV_zero]; exact HB0, hbl⟩
  case round =>
    obtain ⟨k, hk, rfl, hblk, hb⟩ := hrel
    by_cases hlt : k < nd W x
    · obtain ⟨ga, rfl, hga, hca⟩ := HR.out.at_ hlt
      have hca2 := (hb.cell (p := ⟨ga, k, none⟩) (by show ga < g; omega)).trans hca
      have hfz := hblk.out.frozen (k + q)
      have hck := hblk.out.cell (k + q)
      rw [wcells_get _ _ _ (by omega)] at hck
      obtain ⟨v, V1, u, e1, hv, e2, e3, e4, hu, e5⟩ := shl_words x q r k hr64
      have HB1 := hblk.out.set_ (k + q) (.int .u64 (v : Nat))
      rw [wcells_set _ _ _ _ hv, e2] at HB1
      have hb1 := hb.setCell (p := ⟨g, k + q, none⟩) (Nat.le_refl _) (.int .u64 (v : Nat))
      have hfz1 := HB1.frozen (k + q + 1)
      have hck1 := HB1.cell (k + q + 1)
      rw [wcells_get _ _ _ (by omega), e3] at hck1
      have hck1' : (wr.setCell ⟨g, k + q, none⟩ (.int .u64 (v : Nat))).cell? ⟨g, k + q + 1, none⟩ = some (.int .u64 0) := hck1
      have HB2 := Lib.hid ((HB1.drew.set_ (k + q + 1) (.int .u64 (u : Nat))).drew)
      rw [wcells_set _ _ _ _ hu, e5] at HB2
      have hb2 := (hb1.drew.setCell (p := ⟨g, k + q + 1, none⟩) (Nat.le_refl _) (.int .u64 (u : Nat))).drew
      have h64 : (64 : Int) - (r : Int) = ((64 - r : Nat) : Int) := by omega
      clear hca hck1 HB1 hb1 hv e2 e3 hu e5
      go_wp2
      go_region
      generalize wr.setCell ⟨g, k + q, none⟩ (.int .u64 (v : Nat)) = w2 at *
      go_wp2
      go_region
      go_wp2
      go_roundw
      case rel => exact ⟨k + 1, by omega, by go_num, HB2, hb2⟩
      case measure => simp [intOf]; omega
    · obtain rfl : k = nd W x := by omega
      have HB1 := hblk.out
      rw [shl_last HA.out HK.out] at HB1
      have HB1' := Lib.hid HB1
      have hs : x * 2 ^ (64 * q + r) < W ^ (nd W x + q + 1) := by
        have h1 := HA.out
        rw [Nat.add_assoc (nd W x), Nat.pow_add W]
        have h2 : (2 : Nat) ^ (64 * q + r) ≤ W ^ (q + 1) := by rw [W_two, ← Nat.pow_mul]; exact Nat.pow_le_pow_right (by omega) (by omega)
        refine Nat.lt_of_lt_of_le ((Nat.mul_lt_mul_right (Nat.two_pow_pos _)).2 h1) (Nat.mul_le_mul_left _ h2)
      rw [← HK.out] at hs
      have HS := Lib.hid hs
      clear HB1 hs
      go_wp2_with fail
      refine (Cut_c (some ⟨g, 0, none⟩) (nd W x + q + 1) (nd W x + q + 1) _ (g + 1) _ HS.out (Nat.le_refl _) (by omega) (Row.of_blk HB1'.out (by omega))).mono ?_
      rintro e w' ⟨rfl, rfl⟩
      go_wp2
      go_ret
      have hnd := nd_le W2 HS.out
      exact NumPost.mk hnd ((Row.of_blk HB1'.out HB1'.out.lt).less hnd) (by rw [← HG.out]; exact hb)
theorem Shl_c (A : Option Addr) (c x k B : Nat) (w : World) (hL : nd W x + k / 64 ≤ 1000000000) (hr : Row w B A x (nd W x)) (hBs : B ≤ w.heap.size) :
    Calls Tryz.prog 74 #[.slice A (nd W x) c, .int .i64 (k : Nat)] w (NumPost (x * 2 ^ k) w) := by
  by_cases h : x = 0
  · subst h
    have e : nd W 0 = 0 := nd_zero _
    rw [e, Nat.zero_mul]
    exact Shl_none A c _ w
  · exact Shl_some A c x k (k / 64) (k % 64) B w h (by omega) (by omega) hL hr hBs
theorem shr_words (x q r k : Nat) (hr : r < 64) : ∃ v u : Nat,
    ((dgt W x (k + q) : Nat) : Int) / 2 ^ r = (v : Int) ∧ v < 18446744073709551616 ∧
    bits .or .u64 (v : Int) (IntKind.u64.wrap (((dgt W x (k + q + 1) : Nat) : Int) * 2 ^ (64 - r))) = (u : Int) ∧ u = dgt W (x / 2 ^ (64 * q + r)) k ∧
    (dgt W x (k + q + 1) = 0 → v = dgt W (x / 2 ^ (64 * q + r)) k) := by
  have h := dgt_shr (e := 64) (x / W ^ q) r k (by omega)
  rw [← W_two] at h
  rw [dgt_skip, dgt_skip, show k + 1 + q = k + q + 1 by omega] at h
  have e : x / W ^ q / 2 ^ r = x / 2 ^ (64 * q + r) := by rw [W_two, ← Nat.pow_mul, Nat.div_div_eq_div_mul, ← Nat.pow_add]
  rw [e] at h
  have hv : dgt W x (k + q) / 2 ^ r < 2 ^ (64 - r) := by
    rw [Nat.div_lt_iff_lt_mul (Nat.two_pow_pos r), ← Nat.pow_add, show 64 - r + r = 64 by omega, ← W_two]; exact dgt_lt W0 _ _
  have hv64 : dgt W x (k + q) / 2 ^ r < 18446744073709551616 := Nat.lt_of_le_of_lt (Nat.div_le_self _ _) (wd_lt _ _)
  have hlow : dgt W x (k + q + 1) * 2 ^ (64 - r) % W = 2 ^ (64 - r) * (dgt W x (k + q + 1) % 2 ^ r) := by
    have hW : W = 2 ^ (64 - r) * 2 ^ r := by rw [W_two, ← Nat.pow_add]; congr 1; omega
    generalize dgt W x (k + q + 1) = D
    rw [hW, Nat.mul_comm, Nat.mul_mod_mul_left]
  refine ⟨dgt W x (k + q) / 2 ^ r, dgt W (x / 2 ^ (64 * q + r)) k, ?_, hv64, ?_, rfl, ?_⟩
  · rw [int_pow2, ← Int.natCast_ediv]
  · have e2 : IntKind.u64.wrap (((dgt W x (k + q + 1) : Nat) : Int) * 2 ^ (64 - r)) = ((dgt W x (k + q + 1) * 2 ^ (64 - r) % W : Nat) : Int) := by
      rw [IntKind.wrap_u64, int_pow2, ← Int.natCast_mul, W_eq, Int.natCast_emod]; rfl
    rw [e2, bits_or_u64_nat _ _ hv64 (Nat.lt_of_lt_of_eq (Nat.mod_lt _ W0) W_eq), h, hlow, or_add _ _ _ hv]
  · intro hz; rw [h, hz, Nat.zero_mul, Nat.zero_mod, Nat.add_zero]
theorem Shr_far (A : Option Addr) (c x k L : Nat) (w : World) (h : L ≤ k / 64) (hk : k ≤ 1000000000000) :
    Calls Tryz.prog 99 #[.slice A L c, .int .i64 (k : Nat)] w fun e w' => e = .returned (.slice none 0 0) ∧ w = w' := by
  obtain ⟨q, hq⟩ : ∃ q : Nat, (k : Int) / 64 = (q : Int) := ⟨k / 64, by omega⟩
  have h1 : L ≤ q := by omega
  go_enter Tryz.func99, Tryz.ntmps99
  go_wp2
  go_ret
  exact ⟨rfl, rfl⟩
set_option maxHeartbeats 1000000 in
theorem Shr_near (A : Option Addr) (c x k q r B : Nat) (w : World) (hk : k = 64 * q + r) (hr64 : r < 64) (hq' : q < nd W x) (hL : nd W x ≤ 1000000000) (hr : Row w B A x (nd W x)) (hBs : B ≤ w.heap.size) :
    Calls Tryz.prog 99 #[.slice A (nd W x) c, .int .i64 (k : Nat)] w (NumPost (x / 2 ^ k) w) := by
  obtain ⟨i0, hi0, hz0, hz1, hz2⟩ := info_parts (P := Tryz.prog) (e := 69) (z := .int .u64 0) (size := 1) (bytes := 8) (by kernel_rfl)
  obtain ⟨L, hLe⟩ : ∃ L, nd W x = q + L := ⟨nd W x - q, by omega⟩
  have HR := Lib.hid hr
  have HA := lt_nd (n := x) W2
  have hs : x / 2 ^ (64 * q + r) < W ^ L := by
    rw [Nat.pow_add, ← Nat.div_div_eq_div_mul, Nat.pow_mul, ← W_two]
    refine Nat.lt_of_le_of_lt (Nat.div_le_self _ _) ?_
    rw [Nat.div_lt_iff_lt_mul (Nat.pow_pos W0), ← Nat.pow_add, Nat.add_comm L, ← hLe]; exact HA
  have HS := Lib.hid hs
  have HND := Lib.hid (fun (h : nd W x ≤ q + L) => h)
  have hq : (k : Int) / 64 = (q : Int) := by omega
  have hm : (k : Int) % 64 = (r : Int) := by omega
  have hkb : (k : Int) ≤ 1000000000000 := by omega
  have HZ : Hid (∀ j, q + L ≤ j → dgt W x j = 0) := Lib.hid (fun j hj => dgt_big W2 (by omega))
  have HK := Lib.hid hk
  obtain ⟨M, hM⟩ : ∃ M, M = nd W x := ⟨_, rfl⟩
  rw [← hM] at HR hL ⊢
  have hql : ¬ M ≤ q := by omega
  have hqb : (q : Int) ≤ 1000000000 := by omega
  have hsub : (M : Int) - (q : Int) = (L : Int) := by omega
  have HML : Hid (M = q + L) := Lib.hid (by omega)
  have hL2 : L ≤ M := by omega
  clear hr hk hs HA hLe hq' hM HND
  go_enter Tryz.func99, Tryz.ntmps99
  go_wp2_with (at_make; go_loud (refine wpList_make_zero _ rfl (.tmp 20) (.tmp 20) _ rfl 69 i0 _ Tryz.underlying121 hi0 hz0 hz1 .i64 .i64 _ _ L rfl rfl rfl rfl (by rw [hz2]; omega) (by unfold maxLen; omega) ?_))
  rw [wcells_made]
  have HB0 := Lib.hid (Blk.new w 69 (wcells 0 L))
  have hbl : Below w.heap.size w (w.alloc (.cells (wcells 0 L) 69)) := (Below.refl _ _).alloc (Nat.le_refl _) _
  generalize w.alloc (.cells (wcells 0 L) 69) = w1 at *
  obtain ⟨g, hg⟩ : ∃ g, g = w.heap.size := ⟨_, rfl⟩
  rw [← hg] at HB0 hbl hBs ⊢
  have HG := Lib.hid hg
  clear hg
  go_loopw [24] (fun i wr => ∃ k : Nat, k ≤ L ∧ i = .int .i64 k ∧ Hid (Blk wr g 69 (wcells (x / 2 ^ (64 * q + r) % W ^ k) L)) ∧ Below g w wr) (fun i _ => L - (intOf i).toNat)
  case atStart => exact ⟨0, Nat.zero_le _, rfl, by rw [mod_one]; exact HB0, hbl⟩
  case round =>
    obtain ⟨k, hk, rfl, hblk, hb⟩ := hrel
    by_cases hlt : k < L
    · have hMq : k + q < M := by have := HML.out; omega
      obtain ⟨ga, rfl, hga, hca⟩ := HR.out.at_ hMq
      have hca2 := (hb.cell (p := ⟨ga, k + q, none⟩) (by show ga < g; omega)).trans hca
      have hfz := hblk.out.frozen k
      have hck := hblk.out.cell k
      rw [wcells_get _ _ _ (by omega)] at hck
      obtain ⟨v, u, e1, hv, e2, e3, e4⟩ := shr_words x q r k hr64
      have hv' := Lib.hid hv
      have HE3 := Lib.hid e3
      have HE4 := Lib.hid e4
      have hhb := hblk.out
      have h64 : (64 : Int) - (r : Int) = ((64 - r : Nat) : Int) := by omega
      have hLi : (M : Int) ≤ 1000000000 := by omega
      have hkq : (k : Int) + (q : Int) + 1 ≤ 1000000000 := by omega
      have hkq2 : k + q + 1 ≤ 1000000000 := by omega
      have HLh := Lib.hid hL
      clear hca e3 e4 hv hL
      by_cases hlt2 : k + q + 1 < M
      · obtain ⟨gb, egb, hgb, hcb⟩ := HR.out.at_ hlt2
        obtain rfl : ga = gb := congrArg Addr.block (Option.some.inj egb)
        have hb1 := hb.setCell (p := ⟨g, k, none⟩) (Nat.le_refl _) (.int .u64 (v : Nat))
        have hcb2 := (hb1.cell (p := ⟨ga, k + q + 1, none⟩) (by show ga < g; omega)).trans hcb
        have HB1 := hhb.set_ k (.int .u64 (v : Nat))
        have hfz1 := HB1.frozen k
        have hck1 : (wr.setCell ⟨g, k, none⟩ (.int .u64 (v : Nat))).cell? ⟨g, k, none⟩ = some (.int .u64 (v : Nat)) := by
          rw [HB1.cell, wcells_set _ _ _ _ hv'.out, wcells_get _ _ _ hlt, dgt_put W2 _ _ _ _ (by rw [W_eq]; exact hv'.out), if_pos rfl]
        have HB2 := Lib.hid ((HB1.set_ k (.int .u64 (u : Nat))).drew)
        rw [Array.setIfInBounds_setIfInBounds, wcells_set _ _ _ _ (by rw [HE3.out]; exact wd_lt _ _), HE3.out, put_sum] at HB2
        have hb2 := (hb1.setCell (p := ⟨g, k, none⟩) (Nat.le_refl _) (.int .u64 (u : Nat))).drew
        rw [← HE3.out] at HB2
        have hT : decide ((k : Int) + (q : Int) + 1 < (M : Int)) = true := decide_eq_true (by omega)
        have HLT := Lib.hid hlt
        clear hcb HB1 hb1 hhb
        go_upto_if 44 with fail
        have HA1 := Lib.hid hlt2
        have HA3 := Lib.hid hkq2
        clear hlt2 hkq2 hlt
        go_wp2
        have hlt := HLT.out
        have hlt2 := HA1.out
        go_region
        go_wp2
        go_roundw
        case rel => exact ⟨k + 1, by omega, by go_num, by rw [HE3.out] at *; exact HB2, hb2⟩
        case measure => simp [intOf]; omega
      · have hz0' : v = dgt W (x / 2 ^ (64 * q + r)) k := HE4.out (HZ.out _ (by have := HML.out; omega))
        have HZ' := Lib.hid hz0'
        have HB1 := Lib.hid (hhb.set_ k (.int .u64 (v : Nat)))
        rw [wcells_set _ _ _ _ hv'.out, hz0', put_sum] at HB1
        have hb1 := hb.setCell (p := ⟨g, k, none⟩) (Nat.le_refl _) (.int .u64 (v : Nat))
        have hT : decide ((k : Int) + (q : Int) + 1 < (M : Int)) = false := decide_eq_false (by omega)
        clear hz0' hhb
        go_upto_if 44 with fail
        have HA3 := Lib.hid hkq2
        have HA1 := Lib.hid hlt2
        clear hlt2 hkq2
        go_wp2
        go_roundw
        case rel => exact ⟨k + 1, by omega, by go_num, by rw [HZ'.out]; exact HB1, hb1⟩
        case measure => simp [intOf]; omega
    · obtain rfl : k = L := by omega
      have HB1 := hblk.out
      rw [Nat.mod_eq_of_lt HS.out, ← HK.out] at HB1
      have HB1' := Lib.hid HB1
      have HS2 := HS
      rw [← HK.out] at HS2
      clear HB1
      go_wp2_with fail
      refine (Cut_c (some ⟨g, 0, none⟩) k k _ (g + 1) _ HS2.out (Nat.le_refl _) (by omega) (Row.of_blk HB1'.out (by omega))).mono ?_
      rintro e w' ⟨rfl, rfl⟩
      go_wp2
      go_ret
      have hnd := nd_le W2 HS2.out
      exact NumPost.mk hnd ((Row.of_blk HB1'.out HB1'.out.lt).less hnd) (by rw [← HG.out]; exact hb)
theorem Shr_c (A : Option Addr) (c x k B : Nat) (w : World) (hk : k ≤ 1000000000000) (hL : nd W x ≤ 1000000000) (hr : Row w B A x (nd W x)) (hBs : B ≤ w.heap.size) :
    Calls Tryz.prog 99 #[.slice A (nd W x) c, .int .i64 (k : Nat)] w (NumPost (x / 2 ^ k) w) := by
  by_cases h : k / 64 < nd W x
  · exact Shr_near A c x k (k / 64) (k % 64) B w (by omega) (by omega) h hL hr hBs
  · have h0 : x / 2 ^ k = 0 := by
      apply Nat.div_eq_of_lt
      refine Nat.lt_of_lt_of_le (lt_nd (n := x) W2) ?_
      generalize nd W x = m at *
      rw [W_two, ← Nat.pow_mul]; exact Nat.pow_le_pow_right (by omega) (by omega)
    refine (Shr_far A c x k (nd W x) w (by omega) hk).mono ?_
    rintro e w' ⟨rfl, rfl⟩
    rw [h0]
    have e : nd W 0 = 0 := nd_zero _
    have := NumPost.mk (n := 0) (w := w) (w' := w) (A := none) (c := 0) (by rw [e]; exact Nat.le_refl _) (by rw [e]; exact Row.none_) (Below.refl _ _)
    rw [e] at this; exact this
end Go.Proofs.YtmjjodficjjehabGreatDoor
namespace Go.Proofs.YtmjjodficjjehabGreatDoor
open Go Go.RowKit Nt
theorem row_words (D v t c : Nat) (hD : D < 18446744073709551616) (hv : v < 18446744073709551616) (ht : t < 18446744073709551616) (hc : c < 18446744073709551616) : ∃ hi lo lo2 c1 hi2 nw c2 cy : Nat,
    (∀ w, Calls Tryz.prog 103 #[.int .u64 (D : Nat), .int .u64 (v : Nat)] w fun e w' => e = .returned (.tuple #[.int .u64 (hi : Nat), .int .u64 (lo : Nat)]) ∧ w = w') ∧
    (∀ w, (callFunc 100 #[.int .u64 (lo : Nat), .int .u64 (t : Nat), .int .u64 0]).run Tryz.prog w = .ok (.value (.tuple #[.int .u64 (lo2 : Nat), .int .u64 (c1 : Nat)])) w) ∧
    IntKind.u64.wrap ((hi : Int) + (c1 : Int)) = (hi2 : Int) ∧
    (∀ w, (callFunc 100 #[.int .u64 (lo2 : Nat), .int .u64 (c : Nat), .int .u64 0]).run Tryz.prog w = .ok (.value (.tuple #[.int .u64 (nw : Nat), .int .u64 (c2 : Nat)])) w) ∧
    IntKind.u64.wrap ((hi2 : Int) + (c2 : Int)) = (cy : Int) ∧
    nw < 18446744073709551616 ∧ cy < 18446744073709551616 ∧ nw + W * cy = D * v + t + c := by
  have hp := prod_lt hD hv
  have h1 := Tryz.bits_Add64 (D * v % 18446744073709551616) t 0 (by omega)
  have h2 := Tryz.bits_Add64 ((D * v % 18446744073709551616 + t + 0) % 18446744073709551616) c 0 (by omega)
  refine ⟨D * v / 18446744073709551616, D * v % 18446744073709551616, (D * v % 18446744073709551616 + t + 0) % 18446744073709551616, (D * v % 18446744073709551616 + t + 0) / 18446744073709551616,
    D * v / 18446744073709551616 + (D * v % 18446744073709551616 + t + 0) / 18446744073709551616, ((D * v % 18446744073709551616 + t + 0) % 18446744073709551616 + c + 0) % 18446744073709551616, ((D * v % 18446744073709551616 + t + 0) % 18446744073709551616 + c + 0) / 18446744073709551616,
    D * v / 18446744073709551616 + (D * v % 18446744073709551616 + t + 0) / 18446744073709551616 + ((D * v % 18446744073709551616 + t + 0) % 18446744073709551616 + c + 0) / 18446744073709551616, ?_, h1, ?_, h2, ?_, ?_, ?_, ?_⟩
  · intro w
    refine (Tryz.bits_Mul64 D v hD hv w).mono ?_
    rintro e w' ⟨rfl, rfl⟩; exact ⟨rfl, rfl⟩
  · refine wadd_nat rfl ?_
    generalize D * v = p at *; omega
  · refine wadd_nat rfl ?_
    generalize D * v = p at *; omega
  · exact Nat.mod_lt _ (by omega)
  · generalize D * v = p at *; omega
  · rw [W_eq]; generalize D * v = p at *; omega
def RowOk (V D b k j Z c : Nat) : Prop := Z + W ^ (k + j) * c = V + W ^ k * (D * (b % W ^ j)) ∧ Z < W ^ (k + nd W b) ∧ c < 18446744073709551616
theorem rowok_start {V b k D : Nat} (hV : V < W ^ (k + nd W b)) : RowOk V D b k 0 V 0 := by
  unfold RowOk
  refine ⟨?_, hV, by omega⟩
  rw [Nat.pow_zero, Nat.mod_one, Nat.mul_zero, Nat.mul_zero, Nat.mul_zero]
theorem rowok_step {V D b k j Z c nw cy : Nat} (h : RowOk V D b k j Z c) (hj : j < nd W b) (hn : nw < 18446744073709551616) (hc : cy < 18446744073709551616)
    (he : nw + W * cy = D * dgt W b j + dgt W Z (k + j) + c) : RowOk V D b k (j + 1) (put W Z (k + j) nw) cy := by
  obtain ⟨h1, h2, _⟩ := h
  refine ⟨?_, put_lt W2 (by rw [W_eq]; exact hn) h2 (by omega), hc⟩
  have hp := put_eq Z (k + j) nw W0
  rw [mod_succ, Nat.mul_add D, Nat.mul_add (W ^ k), ← Nat.add_assoc V, ← h1]
  rw [show k + (j + 1) = k + j + 1 by omega, Nat.pow_succ, Nat.mul_assoc]
  have e1 : W ^ k * (D * (W ^ j * dgt W b j)) = W ^ (k + j) * (D * dgt W b j) := by
    rw [Nat.pow_add, Nat.mul_left_comm D, Nat.mul_assoc]
  rw [e1]
  have e2 : W ^ (k + j) * nw + W ^ (k + j) * (W * cy) = W ^ (k + j) * (D * dgt W b j) + W ^ (k + j) * dgt W Z (k + j) + W ^ (k + j) * c := by
    rw [← Nat.mul_add, he, Nat.mul_add, Nat.mul_add]
  omega
theorem rowok_end {a b k Z c : Nat} (h : RowOk (a % W ^ k * b) (dgt W a k) b k (nd W b) Z c) : dgt W Z (k + nd W b) = 0 ∧ put W Z (k + nd W b) c = a % W ^ (k + 1) * b := by
  obtain ⟨h1, h2, _⟩ := h
  have hz := dgt_of_lt W2 h2 (Nat.le_refl _)
  refine ⟨hz, ?_⟩
  rw [put_new _ _ _ W0 hz, h1, Nat.mod_eq_of_lt (lt_nd W2), mod_succ, Nat.add_mul, Nat.mul_assoc]
theorem row_lt {a b k : Nat} : a % W ^ k * b < W ^ (k + nd W b) := by
  rw [Nat.pow_add]
  have h1 := mod_lt_pow W0 a k
  have h2 := lt_nd (n := b) W2
  rcases Nat.eq_zero_or_pos b with h | h
  · subst h; rw [Nat.mul_zero]; exact Nat.mul_pos (Nat.pow_pos W0) (Nat.pow_pos W0)
  · exact Nat.lt_of_lt_of_le ((Nat.mul_lt_mul_right h).2 h1) (Nat.mul_le_mul_left _ (by omega))
theorem row_slice (g k n lb : Nat) (h : k + lb ≤ n) : ∃ A : Option Addr, (lb ≠ 0 → A = some ⟨g, k, none⟩) ∧ ∀ w, (Instr.sliceAt 121 (.slice (some ⟨g, 0, none⟩) n n) (some (.int .i64 k)) (some (.int .i64 ((k : Int) + (lb : Int)))) (some (.int .i64 ((k : Int) + (lb : Int))))).run Tryz.prog w = .ok (.slice A lb lb) w := by
  refine ⟨if k + lb = k then some ⟨g, 0, none⟩ else some ⟨g, k, none⟩, fun h0 => by rw [if_neg (by omega)], fun w => ?_⟩
  have e : (((k : Int) + (lb : Int))).toNat = k + lb := by omega
  have ht : Tryz.prog.underlying 121 = some (.slice (Tryz.prog.elem 121)) := by kernel_rfl
  rw [run_sliceAt_slice (h := ht), run_slice_lhm w 121 _ _ _ ht .i64 .i64 .i64 _ _ _ (by omega) (by omega) (by omega) (by omega), e]
  have he : Tryz.prog.elem 121 = 69 := by kernel_rfl
  rw [he, Tryz.sizeOf69 w]
  simp only [Result.andThen, sliced, Int.toNat_natCast]
  rw [show k + lb - k = lb by omega]
  by_cases h1 : k + lb = k
  · rw [if_pos h1, if_pos h1]
  · rw [if_neg h1, if_neg h1, Nat.mul_one]
    simp only [Option.map]
    rw [add_plain0]
set_option maxRecDepth 100000 in
set_option maxHeartbeats 2000000 in
theorem Mul_c (A A' : Option Addr) (c c' a b B : Nat) (w : World) (hL : nd W a + nd W b ≤ 1000000000) (hr : Row w B A a (nd W a)) (hr' : Row w B A' b (nd W b)) (hBs : B ≤ w.heap.size) :
    Calls Tryz.prog 105 #[.slice A (nd W a) c, .slice A' (nd W b) c'] w (NumPost (a * b) w) := by
  obtain ⟨i0, hi0, hz0, hz1, hz2⟩ := info_parts (P := Tryz.prog) (e := 69) (z := .int .u64 0) (size := 1) (bytes := 8) (by kernel_rfl)
  have HR := Lib.hid hr
  have HR' := Lib.hid hr'
  have HA := Lib.hid (lt_nd (n := a) W2)
  obtain ⟨la, hla⟩ : ∃ la, la = nd W a := ⟨_, rfl⟩
  obtain ⟨lb, hlb⟩ : ∃ lb, lb = nd W b := ⟨_, rfl⟩
  rw [← hla] at HA
  rw [← hla, ← hlb] at hL ⊢
  rw [← hla] at HR
  rw [← hlb] at HR'
  have HLA := Lib.hid hla
  have HLB := Lib.hid hlb
  have hLi : (la : Int) + (lb : Int) ≤ 1000000000 := by omega
  have hlai : (la : Int) ≤ 1000000000 := by omega
  have hlbi : (lb : Int) ≤ 1000000000 := by omega
  clear hr hr' hla hlb
  go_enter Tryz.func105, Tryz.ntmps105
  go_wp2_with (at_make; go_loud (refine wpList_make_zero _ rfl (.tmp 19) (.tmp 19) _ rfl 69 i0 _ Tryz.underlying121 hi0 hz0 hz1 .i64 .i64 _ _ (la + lb) rfl rfl (by omega) (by omega) (by rw [hz2]; omega) (by unfold maxLen; omega) ?_))
  rw [wcells_made]
  have HB0 := Lib.hid (Blk.new w 69 (wcells 0 (la + lb)))
  have hbl : Below w.heap.size w (w.alloc (.cells (wcells 0 (la + lb)) 69)) := (Below.refl _ _).alloc (Nat.le_refl _) _
  generalize w.alloc (.cells (wcells 0 (la + lb)) 69) = w1 at *
  obtain ⟨g, hg⟩ : ∃ g, g = w.heap.size := ⟨_, rfl⟩
  rw [← hg] at HB0 hbl hBs ⊢
  have HG := Lib.hid hg
  clear hg
  go_loopw [23] (fun i wr => ∃ k : Nat, k ≤ la ∧ i = .int .i64 k ∧ Hid (Blk wr g 69 (wcells (a % W ^ k * b) (la + lb))) ∧ Below g w wr) (fun i _ => la - (intOf i).toNat)
  case atStart => exact ⟨0, Nat.zero_le _, rfl, by rw [mod_one, Nat.zero_mul]; exact HB0, hbl⟩
  case round =>
    obtain ⟨k, hk, rfl, hblk, hb⟩ := hrel
    obtain ⟨wo, rfl⟩ : ∃ wo : World, wo = wr := ⟨_, rfl⟩
    by_cases hlt : k < la
    · obtain ⟨ga, rfl, hga, hca⟩ := HR.out.at_ hlt
      have hca2 := (hb.cell (p := ⟨ga, k, none⟩) (by show ga < g; omega)).trans hca
      clear hca
      have hkl : (k : Int) + (lb : Int) ≤ 1000000000 := by omega
      by_cases hz : dgt W a k = 0
      · have hz' := eqz_true hz
        have HB1 := hblk
        rw [show a % W ^ k * b = a % W ^ (k + 1) * b by rw [mod_succ, hz, Nat.mul_zero, Nat.add_zero]] at HB1
        clear hz
        go_wp2
        go_roundw
        case rel => exact ⟨k + 1, by omega, by go_num, HB1, hb⟩
        case measure => simp [intOf]; omega
      · have hz' := eqz_false hz
        have HZ := Lib.hid hz
        have hkk : k + lb ≤ la + lb := by omega
        have HKK := Lib.hid hkk
        obtain ⟨Ar, hAr, hsl⟩ := row_slice g k (la + lb) lb hkk
        have HAr := Lib.hid hAr
        clear hz hkk hAr
        go_wp2
        have hinit := Lib.hid (rowok_start (D := dgt W a k) (row_lt (a := a) (b := b) (k := k)))
        go_loopw [8, 43] (fun cy i wr => ∃ j Z cc : Nat, j ≤ lb ∧ i = .int .i64 j ∧ cy = .int .u64 cc ∧ Hid (RowOk (a % W ^ k * b) (dgt W a k) b k j Z cc) ∧ Hid (Blk wr g 69 (wcells Z (la + lb))) ∧ Below g w wr) (fun _ i _ => lb - (intOf i).toNat)
        case atStart => exact ⟨0, _, 0, Nat.zero_le _, rfl, rfl, hinit, hblk, hb⟩
        case round =>
          obtain ⟨j, Z, cc, hj, rfl, rfl, hok, hblk2, hb2⟩ := hrel
          by_cases hltj : j < lb
          · obtain rfl : Ar = some ⟨g, k, none⟩ := HAr.out (by omega)
            obtain ⟨gb, rfl, hgb, hcb⟩ := HR'.out.at_ hltj
            have hcb2 := (hb2.cell (p := ⟨gb, j, none⟩) (by show gb < g; omega)).trans hcb
            have hfz := hblk2.out.frozen (k + j)
            have hck := hblk2.out.cell (k + j)
            rw [wcells_get _ _ _ (by have := HKK.out; omega)] at hck
            obtain ⟨hi, lo, lo2, c1, hi2, nw, c2, cy, hmul, ha1, hw1, ha2, hw2, hnw, hcy, heq⟩ := row_words (dgt W a k) (dgt W b j) (dgt W Z (k + j)) cc (wd_lt _ _) (wd_lt _ _) (wd_lt _ _) hok.out.2.2
            have HOK := Lib.hid (rowok_step hok.out (by rw [← HLB.out]; exact hltj) hnw hcy heq)
            have HB1 := Lib.hid (hblk2.out.set_ (k + j) (.int .u64 (nw : Nat)))
            rw [wcells_set _ _ _ _ hnw] at HB1
            have hb1 := hb2.setCell (p := ⟨g, k + j, none⟩) (Nat.le_refl _) (.int .u64 (nw : Nat))
            have HM := Lib.hid hmul
            clear hmul hcb heq hnw hcy
            go_wp2_with (first | simp only [ha1] | simp only [ha2] | (go_at_call 103; refine (HM.out _).mono ?_; rintro e w' ⟨rfl, rfl⟩))
            go_roundw
            case rel => exact ⟨j + 1, _, cy, by omega, by go_num, rfl, HOK, HB1, hb1⟩
            case measure => simp [intOf]; omega
          · obtain rfl : j = lb := by omega
            have hr2 := hok.out
            have e1 := rowok_end (a := a) (b := b) (k := k) (Z := Z) (c := cc) (by rw [← HLB.out]; exact hr2)
            rw [← HLB.out] at e1
            have hfz := hblk2.out.frozen (k + j)
            have hck := hblk2.out.cell (k + j)
            rw [wcells_get _ _ _ (by omega)] at hck
            have HB1 := Lib.hid (hblk2.out.set_ (k + j) (.int .u64 (cc : Nat)))
            rw [wcells_set _ _ _ _ hr2.2.2, e1.2] at HB1
            have hb1 := hb2.setCell (p := ⟨g, k + j, none⟩) (Nat.le_refl _) (.int .u64 (cc : Nat))
            have hkj : (k : Int) + (j : Int) < (la : Int) + (j : Int) := by omega
            have hkj2 : k + j < la + j := by omega
            have HLh := Lib.hid hL
            have hk1 : (k : Int) + 1 ≤ 1000000000 := by omega
            have hk2 : (k : Int) ≤ 1000000000 := by omega
            clear hr2 e1 hj hltj hL hLi hlai hlbi hsl
            go_wp2
            go_roundw
            case rel => exact ⟨k + 1, by omega, by go_num, HB1, hb1⟩
            case measure => simp [intOf]; omega
    · obtain rfl : k = la := by omega
      have HB1 := hblk.out
      rw [Nat.mod_eq_of_lt HA.out] at HB1
      have HB1' := Lib.hid HB1
      have hs : a * b < W ^ (k + lb) := by
        have := row_lt (a := a) (b := b) (k := k)
        rw [Nat.mod_eq_of_lt HA.out, ← HLB.out] at this; exact this
      have HS := Lib.hid hs
      clear HB1 hs
      go_wp2_with fail
      refine (Cut_c (some ⟨g, 0, none⟩) (k + lb) (k + lb) _ (g + 1) _ HS.out (Nat.le_refl _) (by omega) (Row.of_blk HB1'.out (by omega))).mono ?_
      rintro e w' ⟨rfl, rfl⟩
      go_wp2
      go_ret
      have hnd := nd_le W2 HS.out
      exact NumPost.mk hnd ((Row.of_blk HB1'.out HB1'.out.lt).less hnd) (by rw [← HG.out]; exact hb)
end Go.Proofs.YtmjjodficjjehabGreatDoor
namespace Go.Proofs.YtmjjodficjjehabGreatDoor
open Go Go.RowKit Nt
def Strs (w : World) (A : Option Addr) (ss : List ByteArray) : Prop := 0 < ss.length → ∃ ad, A = some ad ∧ ∀ j (h : j < ss.length), w.cell? (ad.add j) = some (.string ss[j])
theorem Strs.at_ {w : World} {A : Option Addr} {ss : List ByteArray} (h : Strs w A ss) {k : Nat} (hk : k < ss.length) : ∃ ad, A = some ad ∧ w.cell? (ad.add k) = some (.string ss[k]) := by
  obtain ⟨ad, e, hc⟩ := h (by omega); exact ⟨ad, e, hc k hk⟩
theorem block_of_add' (a : Addr) (n : Nat) : (a.add n).block = a.block := by unfold Addr.add; split <;> rfl
instance (s : ByteArray) : Decidable (May s) := inferInstanceAs (Decidable (_ ∧ _))
@[irreducible] def mayE (ss : List ByteArray) : Int := if ∀ s ∈ ss, May s then 0 else 2
theorem mayE_ok {ss : List ByteArray} (h : ∀ s ∈ ss, May s) : mayE ss = 0 := by unfold mayE; rw [if_pos h]
theorem mayE_no {ss : List ByteArray} {s : ByteArray} (h : s ∈ ss) (hs : ¬ May s) : mayE ss = 2 := by unfold mayE; rw [if_neg (fun c => hs (c s h))]
theorem u8_eqz (x : UInt8) (h : x.toNat = 0) : ((x.toNat : Int) == 0) = true := eqz_true h
theorem u8_nez (x : UInt8) (h : x.toNat ≠ 0) : ((x.toNat : Int) == 0) = false := eqz_false h
set_option maxRecDepth 100000 in
set_option maxHeartbeats 400000 in
theorem all_c (A : Option Addr) (c : Nat) (ss : List ByteArray) (w : World) (hl : ss.length ≤ 9223372036854775807) (h : Strs w A ss) :
    Calls Tryz.prog 92 #[.slice A ss.length c] w fun e w' => e = .returned (.int .i64 (mayE ss)) ∧ w = w' := by
  have HS := Lib.hid h
  clear h
  go_enter Tryz.func92, Tryz.ntmps92
  go_wp2
  go_loop [7] (fun i => ∃ k : Nat, k ≤ ss.length ∧ i = .int .i64 k ∧ Hid (∀ s ∈ ss.take k, May s)) (fun i => ss.length - (intOf i).toNat)
  case atStart => exact ⟨0, Nat.zero_le _, rfl, Lib.hid (by simp)⟩
  case round =>
    obtain ⟨k, hk, rfl, hm⟩ := hrel
    by_cases hlt : k < ss.length
    · obtain ⟨ad, rfl, hc⟩ := HS.out.at_ hlt
      have hmem : ss[k] ∈ ss := List.getElem_mem hlt
      have hnext : May ss[k] → ∀ s ∈ ss.take (k + 1), May s := fun h s hs => by
        rw [List.take_succ_eq_append_getElem hlt, List.mem_append] at hs
        rcases hs with hs | hs
        · exact hm.out s hs
        · rw [List.mem_singleton] at hs; rw [hs]; exact h
      have HM := Lib.hid hmem
      have HN := Lib.hid hnext
      clear hmem hnext
      generalize ss[k] = s at *
      by_cases h1 : 16384 < s.size
      · have HB : Hid (¬ May s) := Lib.hid (fun c => by have := c.1; omega)
        have h1' : decide ((s.size : Int) > 16384) = true := decide_eq_true (by omega)
        have h1'' : (16384 : Int) < (s.size : Int) := by omega
        go_wp2
        go_ret
        exact ⟨ret_int (mayE_no HM.out HB.out).symm, rfl⟩
      · have h1'' : ¬ (16384 : Int) < (s.size : Int) := by omega
        have h1s : s.size ≤ 16384 := by omega
        by_cases h2 : s.size = 0
        · have HG : Hid (May s) := Lib.hid ⟨by omega, fun h => by omega⟩
          have h2' : ¬ (0 : Int) < (s.size : Int) := by omega
          have h2'' : ¬ 0 < s.size := by omega
          have H2 := Lib.hid h2
          clear h2
          go_wp2
          go_round
          case rel => exact ⟨k + 1, by omega, by go_num, Lib.hid (HN.out HG.out)⟩
          case measure => simp [intOf]; omega
        · have h2' : 0 < s.size := by omega
          by_cases h3 : (s[0]'h2').toNat = 0
          · have HB : Hid (¬ May s) := Lib.hid (fun c => c.2 h2' h3)
            have h3' := u8_eqz _ h3
            have H3 := Lib.hid h3
            clear h3
            go_wp2
            go_ret
            exact ⟨ret_int (mayE_no HM.out HB.out).symm, rfl⟩
          · have HG : Hid (May s) := Lib.hid ⟨by omega, fun _ => h3⟩
            have h3' := u8_nez _ h3
            have H3 := Lib.hid h3
            clear h3
            go_wp2
            go_round
            case rel => exact ⟨k + 1, by omega, by go_num, Lib.hid (HN.out HG.out)⟩
            case measure => simp [intOf]; omega
    · obtain rfl : k = ss.length := by omega
      go_wp2
      go_ret
      have := hm.out
      rw [List.take_length] at this
      exact ⟨ret_int (mayE_ok this).symm, rfl⟩
theorem strs_new (w : World) (T : TypeId) (ss : List ByteArray) : Strs (w.alloc (.cells (ss.map Value.string).toArray T)) (some ⟨w.heap.size, 0, none⟩) ss := fun _ =>
  ⟨_, rfl, fun j h => by rw [add_plain0, World.cell?_alloc_new]; simp [h]⟩
set_option maxRecDepth 100000 in
theorem Check_c (s : ByteArray) (w : World) :
    Calls Tryz.prog 72 #[.string s] w fun e w' => e = .returned (.int .i64 (mayE [s])) ∧ Below w.heap.size w w' := by
  go_enter Tryz.func72, Tryz.ntmps72
  go_wp2_with fail
  refine (all_c _ 1 [s] _ (by simp) (strs_new w 22 [s])).mono ?_
  rintro e w' ⟨rfl, rfl⟩
  go_wp2
  go_ret
  exact ⟨rfl, (Below.refl _ _).alloc (Nat.le_refl _) _⟩
theorem words_c (n : Nat) (w : World) (hn : fits n) :
    Calls Tryz.prog 106 #[.string (natS n)] w (NumPost n w) := by
  have hz : (natS n).size ≤ 1000000000 := by rw [natS_size]; unfold fits at hn; omega
  have hr := Read_c (natS n) w hz
  rw [bytesN_natS] at hr
  have HR := Lib.hid hr
  clear hr
  go_enter Tryz.func106, Tryz.ntmps106
  go_wp2_with fail
  refine HR.out.mono ?_
  intro e w' hp
  obtain ⟨A, c, rfl, hc, hrow, hb⟩ := hp.get
  go_wp2
  go_ret
  exact NumPost.mk hc hrow hb
@[irreducible] def resS (n : Nat) : ByteArray := if fits n then natS n else ⟨#[]⟩
@[irreducible] def resE (n : Nat) : Int := if fits n then 0 else 4
theorem resS_ok {n : Nat} (h : fits n) : resS n = natS n := by unfold resS; rw [if_pos h]
theorem resE_ok {n : Nat} (h : fits n) : resE n = 0 := by unfold resE; rw [if_pos h]
theorem resS_no {n : Nat} (h : ¬ fits n) : resS n = ⟨#[]⟩ := by unfold resS; rw [if_neg h]
theorem resE_no {n : Nat} (h : ¬ fits n) : resE n = 4 := by unfold resE; rw [if_neg h]
def StrPost (s : ByteArray) (r : Int) (w : World) (e : Ending) (w' : World) : Prop := e = .returned (.tuple #[.string s, .int .i64 r]) ∧ Below w.heap.size w w'
@[irreducible] def longB (n : Nat) : Bool := decide (131072 < n)
@[local go_sem] theorem gt_long (n : Nat) : decide ((131072 : Int) < (n : Int)) = longB n := by
  unfold longB; rw [Bool.eq_iff_iff, decide_eq_true_iff, decide_eq_true_iff]; omega
theorem longB_iff (n : Nat) : longB (nd 2 n) = decide (¬ fits n) := by
  unfold longB fits
  have := bits_le n 16384
  rw [Bool.eq_iff_iff, decide_eq_true_iff, decide_eq_true_iff]; omega
set_option maxRecDepth 100000 in
theorem made_c (A : Option Addr) (c n B : Nat) (w : World) (hL : nd W n ≤ 1000000000) (hr : Row w B A n (nd W n)) (hB : B ≤ w.heap.size) :
    Calls Tryz.prog 104 #[.slice A (nd W n) c] w (StrPost (resS n) (resE n) w) := by
  have HR := Lib.hid hr
  clear hr
  by_cases h : fits n
  · have hl : longB (nd 2 n) = false := by rw [longB_iff]; simp [h]
    have HE := Lib.hid (resE_ok h)
    have HS := Lib.hid (resS_ok h)
    go_enter Tryz.func104, Tryz.ntmps104
    go_wp2_with (first | (go_at_call 97; refine (Len_c _ _ _ B _ hL HR.out).mono ?_; rintro e w' ⟨rfl, rfl⟩) | (go_at_call 98; refine (Bytes_c _ _ _ B _ hL HR.out hB).mono ?_; rintro e w' ⟨rfl, hb⟩))
    go_ret2
    exact ⟨by rw [HE.out, HS.out]; rfl, hb⟩
  · have hl : longB (nd 2 n) = true := by rw [longB_iff]; simp [h]
    have HE := Lib.hid (resE_no h)
    have HS := Lib.hid (resS_no h)
    go_enter Tryz.func104, Tryz.ntmps104
    go_wp2_with (first | (go_at_call 97; refine (Len_c _ _ _ B _ hL HR.out).mono ?_; rintro e w' ⟨rfl, rfl⟩))
    go_ret2
    exact ⟨by rw [HE.out, HS.out]; rfl, Below.refl _ _⟩
end Go.Proofs.YtmjjodficjjehabGreatDoor
namespace Go.Proofs.YtmjjodficjjehabGreatDoor
open Go Go.RowKit Nt
@[irreducible] def brB (n : Nat) : Bool := decide (nd 256 n ≤ 8)
@[irreducible] def brN (n : Nat) : Nat := if nd 256 n ≤ 8 then n else 0
theorem brB_yes {n : Nat} (h : nd 256 n ≤ 8) : brB n = true := by unfold brB; exact decide_eq_true h
theorem brB_no {n : Nat} (h : ¬ nd 256 n ≤ 8) : brB n = false := by unfold brB; exact decide_eq_false h
theorem brN_yes {n : Nat} (h : nd 256 n ≤ 8) : brN n = n := by unfold brN; rw [if_pos h]
theorem brN_no {n : Nat} (h : ¬ nd 256 n ≤ 8) : brN n = 0 := by unfold brN; rw [if_neg h]
theorem br_lt {n : Nat} : nd 256 n ≤ 8 ↔ n < 18446744073709551616 := by
  rw [← lt_pow_iff (by omega)]
@[irreducible] def preN (n k : Nat) : Nat := n / 256 ^ (nd 256 n - k)
theorem preN_zero (n : Nat) : preN n 0 = 0 := by unfold preN; rw [Nat.sub_zero]; exact Nat.div_eq_of_lt (lt_nd (by omega))
theorem preN_full (n : Nat) : preN n (nd 256 n) = n := by unfold preN; rw [Nat.sub_self, Nat.pow_zero, Nat.div_one]
theorem preN_succ (n k : Nat) (h : k < nd 256 n) : preN n (k + 1) = 256 * preN n k + dgt 256 n (nd 256 n - 1 - k) := by
  unfold preN
  obtain ⟨m, hm⟩ : ∃ m, nd 256 n = k + 1 + m := ⟨nd 256 n - k - 1, by omega⟩
  rw [hm, show k + 1 + m - (k + 1) = m by omega, show k + 1 + m - k = m + 1 by omega, show k + 1 + m - 1 - k = m by omega, div_eq_dgt (by omega) n m, Nat.add_comm]
theorem preN_le (n k : Nat) : preN n k ≤ n := by unfold preN; exact Nat.div_le_self _ _
set_option maxRecDepth 100000 in
set_option maxHeartbeats 400000 in
theorem brief_c (n : Nat) (w : World) (hf : fits n) :
    Calls Tryz.prog 102 #[.string (natS n)] w fun e w' => e = .returned (.tuple #[.int .u64 (brN n : Nat), .bool (brB n)]) ∧ w = w' := by
  have hsz := natS_size n
  unfold fits at hf
  by_cases h : nd 256 n ≤ 8
  · have HB := Lib.hid (brB_yes h)
    have HN := Lib.hid (brN_yes h)
    have hlt8 : n < 18446744073709551616 := br_lt.1 h
    have HL := Lib.hid hlt8
    have h8 : ¬ 8 < nd 256 n := by omega
    clear hlt8
    go_enter Tryz.func102, Tryz.ntmps102
    go_wp2
    go_loop [2, 10] (fun v i => ∃ k : Nat, k ≤ nd 256 n ∧ i = .int .i64 k ∧ v = .int .u64 (preN n k : Nat)) (fun _ i => nd 256 n - (intOf i).toNat)
    case atStart => exact ⟨0, Nat.zero_le _, rfl, by rw [preN_zero]; rfl⟩
    case round =>
      obtain ⟨k, hk, rfl, rfl⟩ := hrel
      by_cases hlt : k < nd 256 n
      · have hks : k < (natS n).size := by omega
        have e := natS_get n k hks
        have es := preN_succ n k hlt
        have hp1 := preN_le n (k + 1)
        have hHL := HL.out
        have hv : bits .or .u64 (IntKind.u64.wrap ((preN n k : Nat) * 256)) (IntKind.u64.wrap (((natS n)[k].toNat : Nat) : Int)) = ((preN n (k + 1) : Nat) : Int) := by
          have hb := (natS n)[k].toNat_lt
          have e1 : IntKind.u64.wrap ((preN n k : Nat) * 256) = ((256 * preN n k : Nat) : Int) := by rw [IntKind.wrap_u64]; omega
          have e2 : IntKind.u64.wrap (((natS n)[k].toNat : Nat) : Int) = (((natS n)[k].toNat : Nat) : Int) := by rw [IntKind.wrap_u64]; omega
          rw [e1, e2, bits_or_u64_nat _ _ (by omega) (by omega), es, ← e]
          have := or_hi (preN n k) (natS n)[k].toNat 8 hb
          exact congrArg Int.ofNat this
        have HV := Lib.hid hv
        have E := Lib.hid e
        have ES := Lib.hid es
        clear e es hv hp1 hHL
        go_wp2
        go_round
        case rel => exact ⟨k + 1, by omega, by go_num, by rw [HV.out]⟩
        case measure => simp [intOf]; omega
      · obtain rfl : k = nd 256 n := by omega
        rw [preN_full]
        go_wp2
        go_ret2
        exact ⟨by rw [HB.out, HN.out]; rfl, rfl⟩
  · have HB := Lib.hid (brB_no h)
    have HN := Lib.hid (brN_no h)
    have h8 : 8 < nd 256 n := by omega
    go_enter Tryz.func102, Tryz.ntmps102
    go_wp2
    go_ret2
    exact ⟨by rw [HB.out, HN.out]; rfl, rfl⟩
def ofF (n k j : Nat) : Nat := if 8 - k ≤ j ∧ j < 8 then dgt 256 n (7 - j) else 0
theorem ofF_step (n k i j : Nat) (h : i + (k + 1) = 8) (hj : j < 8) : (if j = i then dgt 256 n k else ofF n k j) = ofF n (k + 1) j := by
  unfold ofF
  by_cases h1 : j = i
  · rw [if_pos h1, if_pos (by omega)]; congr 1; omega
  · rw [if_neg h1]
    by_cases h2 : 8 - k ≤ j ∧ j < 8
    · rw [if_pos h2, if_pos (by omega)]
    · rw [if_neg h2, if_neg (by omega)]
theorem add_plainO (g k j : Nat) : (⟨g, k, none⟩ : Addr).add j = ⟨g, k + j, none⟩ := by
  unfold Addr.add; split
  · rename_i h; subst h; rfl
  · simp
theorem neqz_true {x : Nat} (h : x ≠ 0) : (((x : Nat) : Int) != 0) = true := by rw [bne_iff_ne]; omega
theorem neqz_false {x : Nat} (h : x = 0) : (((x : Nat) : Int) != 0) = false := by subst h; rfl
theorem arr_slice (g j : Nat) (h : j ≤ 8) : ∃ A : Option Addr, ((8 - j ≠ 0 → A = some ⟨g, j, none⟩) ∧ ∃ ad, A = some ad) ∧ ∀ w, (Instr.sliceAt 107 (.pointer (some ⟨g, 0, none⟩)) (some (.int .i64 j)) none none).run Tryz.prog w = .ok (.slice A (8 - j) (8 - j)) w := by
  refine ⟨if 8 = j then some ⟨g, 0, none⟩ else some ⟨g, j, none⟩, ⟨fun h0 => by rw [if_neg (by omega)], by split <;> exact ⟨_, rfl⟩⟩, fun w => ?_⟩
  have hal : Tryz.prog.arrayLen 107 = 8 := by kernel_rfl
  have ht : Tryz.prog.underlying 107 = some (.array (Tryz.prog.arrayLen 107) (Tryz.prog.elem 107)) := by kernel_rfl
  have he : Tryz.prog.elem 107 = 5 := by kernel_rfl
  rw [run_sliceAt_array_l w 107 ⟨g, 0, none⟩ ht .i64 _ (by omega) (by rw [hal]; omega), he, Tryz.sizeOf5 w, hal]
  simp only [Result.andThen, slicedAt, Int.toNat_natCast]
  by_cases h1 : 8 = j
  · rw [if_pos h1, if_pos h1]
  · rw [if_neg h1, if_neg h1, Nat.mul_one, add_plain0]
set_option maxRecDepth 100000 in
set_option maxHeartbeats 400000 in
theorem Of_n (n : Nat) (w : World) (hn : n < 18446744073709551616) :
    Calls Tryz.prog 26 #[.int .u64 (n : Nat)] w fun e w' => e = .returned (.string (natS n)) ∧ Below w.heap.size w w' := by
  have H8 := Lib.hid (br_lt.2 hn)
  have HN := Lib.hid hn
  clear hn
  go_enter Tryz.func26, Tryz.ntmps26
  go_wp2
  have h0 : (#[Value.int IntKind.u8 0, Value.int IntKind.u8 0, Value.int IntKind.u8 0, Value.int IntKind.u8 0, Value.int IntKind.u8 0, Value.int IntKind.u8 0, Value.int IntKind.u8 0, Value.int IntKind.u8 0] : Array Value) = fcells .u8 (ofF n 0) 8 := by
    rw [fcells_congr (f' := fun _ => 0) (fun j hj => by unfold ofF; rw [if_neg (by omega)])]; rfl
  rw [h0]
  have HB0 := Lib.hid (Blk.new w 107 (fcells .u8 (ofF n 0) 8))
  have hbl : Below w.heap.size w (w.alloc (.cells (fcells .u8 (ofF n 0) 8) 107)) := (Below.refl _ _).alloc (Nat.le_refl _) _
  generalize w.alloc (.cells (fcells .u8 (ofF n 0) 8) 107) = w1 at *
  obtain ⟨g, hg⟩ : ∃ g, g = w.heap.size := ⟨_, rfl⟩
  rw [← hg] at HB0 hbl ⊢
  have HG := Lib.hid hg
  clear hg h0
  go_loopw [0, 4] (fun x i wr => ∃ (k m j : Nat), x = .int .u64 m ∧ i = .int .i64 j ∧ Hid (j + k = 8) ∧ Hid (m = n / 256 ^ k) ∧ Hid (k ≤ nd 256 n) ∧ Hid (Blk wr g 107 (fcells .u8 (ofF n k) 8)) ∧ Below g w wr) (fun _ i _ => (intOf i).toNat)
  case atStart => exact ⟨0, n, 8, rfl, rfl, Lib.hid rfl, Lib.hid (by rw [Nat.pow_zero, Nat.div_one]), Lib.hid (Nat.zero_le _), HB0, hbl⟩
  case round =>
    obtain ⟨k, m, j, rfl, rfl, hj, hm, hk, hblk, hb⟩ := hrel
    by_cases h0 : m = 0
    · have hz := neqz_false h0
      have hnd : nd 256 n = k := by
        have h1 := hm.out
        rw [h0] at h1
        have h2 : n < 256 ^ k := by
          rcases Nat.lt_or_ge n (256 ^ k) with h | h
          · exact h
          · have := Nat.div_pos h (Nat.pow_pos (n := k) (show 0 < 256 by omega)); omega
        have := nd_le (b := 256) (by omega) h2
        have := hk.out; omega
      have HND := Lib.hid hnd
      obtain ⟨A, hA, hsl⟩ := arr_slice g j (by have := hj.out; omega)
      have hcv : ∀ W, W = wr → (convert 108 22 (.slice A (8 - j) (8 - j))).run Tryz.prog W = .ok (.string (natS n)) W := by
        rintro W rfl
        have hl : ((dl 256 n (nd 256 n)).reverse.map UInt8.ofNat).length = 8 - j := by simp [dl_length, hnd]; have := hj.out; omega
        rcases Nat.eq_zero_or_pos k with hk0 | hk0
        · have e0 : (dl 256 n (nd 256 n)).reverse.map UInt8.ofNat = [] := by rw [hnd, hk0]; rfl
          have h8 : 8 - j = 0 := by have := hj.out; omega
          obtain ⟨ad, rfl⟩ := hA.2
          have h := run_convert_bytes_back (P := Tryz.prog) W 108 22 5 ad (8 - j) ((dl 256 n (nd 256 n)).reverse.map UInt8.ofNat) Tryz.underlying108 Tryz.underlying5 Tryz.underlying22 (fun i hi => by rw [hl] at hi; omega)
          rw [hl, ← natS_def] at h
          exact h
        · obtain rfl := hA.1 (by have := hj.out; omega)
          have h := run_convert_bytes_back (P := Tryz.prog) W 108 22 5 ⟨g, j, none⟩ (8 - j) ((dl 256 n (nd 256 n)).reverse.map UInt8.ofNat) Tryz.underlying108 Tryz.underlying5 Tryz.underlying22 (fun i hi => by
            have hi' : i < 8 - j := by rw [← hl]; exact hi
            rw [add_plainO, hblk.out.cell, fcells_get _ _ _ _ (by omega)]
            have e := natS_get n i (by rw [natS_size, hnd]; have := hj.out; omega)
            rw [ba_get] at e
            simp only [natS_def] at e
            rw [List.getElem_toArray] at e
            rw [e]
            unfold ofF
            have hj' := hj.out
            rw [if_pos (by omega), hnd, show 7 - (j + i) = k - 1 - i by omega])
          rw [hl, ← natS_def] at h
          exact h
      have hcv' := hcv wr rfl
      have hmz := Lib.hid h0
      clear hcv h0 hnd
      go_wp2
      go_ret
      exact ⟨rfl, by rw [← HG.out]; exact hb⟩
    · have hz := neqz_true h0
      have hnd : k < nd 256 n := by
        rcases Nat.lt_or_ge k (nd 256 n) with h | h
        · exact h
        · have := (lt_pow_iff (b := 256) (by omega) k n).2 h
          have h2 := hm.out
          rw [Nat.div_eq_of_lt this] at h2; omega
      obtain ⟨i, hi⟩ : ∃ i, j = i + 1 := ⟨j - 1, by have := hj.out; have := H8.out; omega⟩
      subst hi
      have hi8 : i < 8 := by have := hj.out; omega
      have hij : ((i : Int) + 1) - 1 = (i : Int) := by omega
      have hfz := hblk.out.frozen i
      have hck := hblk.out.cell i
      rw [fcells_get _ _ _ _ hi8] at hck
      have hv : IntKind.u8.wrap (m : Int) = ((dgt 256 n k : Nat) : Int) := by rw [wrap_u8, hm.out, dgt_def]
      have hm2 : (m : Int) / 256 = ((m / 256 : Nat) : Int) := by omega
      obtain ⟨m', hm'⟩ : ∃ m', m' = m / 256 := ⟨_, rfl⟩
      rw [← hm'] at hm2
      have HM' : Hid (m' = n / 256 ^ (k + 1)) := Lib.hid (by rw [hm', hm.out, Nat.pow_succ, Nat.div_div_eq_div_mul])
      have HB1 := Lib.hid (hblk.out.set_ i (.int .u8 (dgt 256 n k : Nat)))
      rw [fcells_set, fcells_congr (f' := ofF n (k + 1)) (fun x hx => ofF_step n k i x (by have := hj.out; omega) hx)] at HB1
      have hb1 := hb.setCell (p := ⟨g, i, none⟩) (Nat.le_refl _) (.int .u8 (dgt 256 n k : Nat))
      have HJ : Hid (i + (k + 1) = 8) := Lib.hid (by have := hj.out; omega)
      have HK : Hid (k + 1 ≤ nd 256 n) := Lib.hid (by omega)
      clear h0 hnd hm'
      go_wp2
      go_roundw
      case rel => exact ⟨k + 1, m', i, rfl, rfl, HJ, HM', HK, HB1, hb1⟩
      case measure => simp [intOf]
end Go.Proofs.YtmjjodficjjehabGreatDoor
namespace Go.Proofs.YtmjjodficjjehabGreatDoor
open Go Go.RowKit Nt
/-! The order of texts. -/
def bvL (l : List UInt8) : Nat := of 256 (l.reverse.map UInt8.toNat)
theorem bvL_cons (x : UInt8) (l : List UInt8) : bvL (x :: l) = bvL l + 256 ^ l.length * x.toNat := by
  unfold bvL
  rw [List.reverse_cons, List.map_append, of_append]
  simp [of_cons, of_nil]
theorem bvL_lt (l : List UInt8) : bvL l < 256 ^ l.length := by
  have := of_lt (b := 256) (by omega) (l.reverse.map UInt8.toNat) (fun x hx => by obtain ⟨y, _, rfl⟩ := List.mem_map.1 hx; exact y.toNat_lt)
  rwa [List.length_map, List.length_reverse] at this
theorem bytesLess_iff : ∀ (l m : List UInt8), l.length = m.length → Op.bytesLess l m = decide (bvL l < bvL m)
  | [], [], _ => by simp [Op.bytesLess, bvL]
  | [], _ :: _, h => by simp at h
  | _ :: _, [], h => by simp at h
  | x :: l, y :: m, h => by
    have hl : l.length = m.length := by simpa using h
    have ih := bytesLess_iff l m hl
    have h1 := bvL_lt l
    have h2 := bvL_lt m
    rw [Op.bytesLess, ih, bvL_cons, bvL_cons, hl]
    rw [hl] at h1
    rw [Bool.eq_iff_iff, Bool.or_eq_true, Bool.and_eq_true, decide_eq_true_iff, decide_eq_true_iff, beq_iff_eq, decide_eq_true_iff, UInt8.lt_iff_toNat_lt]
    rcases Nat.lt_trichotomy x.toNat y.toNat with h3 | h3 | h3
    · have : 256 ^ m.length * (x.toNat + 1) ≤ 256 ^ m.length * y.toNat := Nat.mul_le_mul_left _ h3
      rw [Nat.mul_add] at this
      exact ⟨fun _ => by omega, fun _ => Or.inl h3⟩
    · have e : x = y := UInt8.toNat_inj.1 h3
      subst e
      constructor
      · rintro (h | ⟨_, h⟩)
        · omega
        · omega
      · intro h; exact Or.inr ⟨rfl, by omega⟩
    · have : 256 ^ m.length * (y.toNat + 1) ≤ 256 ^ m.length * x.toNat := Nat.mul_le_mul_left _ h3
      rw [Nat.mul_add] at this
      constructor
      · rintro (h | ⟨h, _⟩)
        · omega
        · subst h; omega
      · intro h; omega
theorem ba_toList (s : ByteArray) : s.toList = s.data.toList := Go.ByteArray.toList_eq s
theorem natS_less (a b : Nat) (h : nd 256 a = nd 256 b) : Op.bytesLess (natS a).toList (natS b).toList = decide (a < b) := by
  have e : ∀ n, bvL (natS n).toList = n := fun n => by rw [ba_toList]; exact bytesN_natS n
  have hl : (natS a).toList.length = (natS b).toList.length := by
    rw [ba_toList, ba_toList, Array.length_toList, Array.length_toList]
    exact (natS_size a).trans (h.trans (natS_size b).symm)
  rw [bytesLess_iff _ _ hl, e, e]
theorem natS_list_eq (a b : Nat) : (natS a).toList = (natS b).toList ↔ a = b := by
  constructor
  · intro h
    rw [ba_toList, ba_toList] at h
    exact natS_inj (ByteArray.ext (Array.toList_inj.1 h))
  · rintro rfl; rfl
theorem isNaN_nat (s : ByteArray) (w : World) :
    Calls Tryz.prog 118 #[.string s] w fun e w' => e = .returned (.bool false) ∧ w = w' := by
  go_enter Tryz.func118, Tryz.ntmps118
  go_wp2
  go_ret
  exact ⟨rfl, rfl⟩
set_option maxRecDepth 100000 in
theorem Compare_nat (a b : Nat) (w : World) (h : nd 256 a = nd 256 b) :
    Calls Tryz.prog 113 #[.string (natS a), .string (natS b)] w fun e w' => e = .returned (.int .i64 (cmpN a b)) ∧ w = w' := by
  have h1 := natS_less a b h
  have h2 : ((natS a).toList == (natS b).toList) = decide (a = b) := by
    rw [Bool.eq_iff_iff, beq_iff_eq, decide_eq_true_iff, natS_list_eq]
  rcases Nat.lt_trichotomy a b with hlt | heq | hgt
  · have e1 : decide (a < b) = true := decide_eq_true hlt
    rw [e1] at h1
    have HC := Lib.hid (cmpN_lt hlt)
    clear h2 hlt
    go_enter Tryz.func113, Tryz.ntmps113
    go_wp2_with (go_at_call 118; refine (isNaN_nat _ _).mono ?_; rintro e w' ⟨rfl, rfl⟩)
    go_ret
    exact ⟨ret_int HC.out.symm, rfl⟩
  · subst heq
    have e1 : decide (a < a) = false := decide_eq_false (by omega)
    rw [e1] at h1
    have HC := Lib.hid (cmpN_eq a)
    clear h2
    go_enter Tryz.func113, Tryz.ntmps113
    go_wp2_with (go_at_call 118; refine (isNaN_nat _ _).mono ?_; rintro e w' ⟨rfl, rfl⟩)
    go_ret
    exact ⟨ret_int HC.out.symm, rfl⟩
  · have e1 : decide (a < b) = false := decide_eq_false (by omega)
    have e2 : decide (a = b) = false := decide_eq_false (by omega)
    rw [e1] at h1
    rw [e2] at h2
    have h3 : ¬ (natS a).toList = (natS b).toList := fun c => by rw [natS_list_eq] at c; omega
    have HC := Lib.hid (cmpN_gt hgt)
    clear e1 e2
    go_enter Tryz.func113, Tryz.ntmps113
    go_wp2_with (go_at_call 118; refine (isNaN_nat _ _).mono ?_; rintro e w' ⟨rfl, rfl⟩)
    go_ret
    exact ⟨ret_int HC.out.symm, rfl⟩
theorem may2 {a b : Nat} (ha : fits a) (hb : fits b) : mayE [natS a, natS b] = 0 := mayE_ok (fun s hs => by
  rcases List.mem_cons.1 hs with rfl | hs
  · exact (may_natS a).2 ha
  · rw [List.mem_singleton.1 hs]; exact (may_natS b).2 hb)
theorem may1 {a : Nat} (ha : fits a) : mayE [natS a] = 0 := mayE_ok (fun s hs => by rw [List.mem_singleton.1 hs]; exact (may_natS a).2 ha)
theorem may1_no {s : ByteArray} (h : ¬ May s) : mayE [s] = 2 := mayE_no (List.mem_singleton.2 rfl) h
set_option maxRecDepth 100000 in
theorem Small_c (n : Nat) (w : World) (hf : fits n) :
    Calls Tryz.prog 88 #[.string (natS n)] w fun e w' => e = .returned (.tuple #[.int .u64 (brN n : Nat), .bool (brB n)]) ∧ Below w.heap.size w w' := by
  have hm := may1 hf
  go_enter Tryz.func88, Tryz.ntmps88
  go_wp2_with (first | (go_at_call 72; refine (Check_c _ _).mono ?_; rintro e w1 ⟨rfl, hb⟩) | (go_at_call 102; refine (brief_c n _ hf).mono ?_; rintro e w' ⟨rfl, rfl⟩))
  go_ret2
  exact ⟨rfl, hb⟩
def IntPost (a b : Int) (w : World) (e : Ending) (w' : World) : Prop := e = .returned (.tuple #[.int .i64 a, .int .i64 b]) ∧ Below w.heap.size w w'
theorem compareInt_nd (a b : Nat) (h : nd 256 a ≠ nd 256 b) : Go.Lib.compareInt (nd 256 a : Nat) (nd 256 b : Nat) = cmpN a b := by
  unfold Go.Lib.compareInt
  rcases Nat.lt_or_gt_of_ne h with h1 | h1
  · rw [if_pos (by omega), cmpN_lt (lt_of_nd (by omega) h1)]
  · rw [if_neg (by omega), if_pos (by omega), cmpN_gt (lt_of_nd (by omega) h1)]
set_option maxRecDepth 100000 in
theorem NCmp_c (a b : Nat) (w : World) (ha : fits a) (hb : fits b) :
    Calls Tryz.prog 91 #[.string (natS a), .string (natS b)] w (IntPost (cmpN a b) 0 w) := by
  have hm := may2 ha hb
  have hsa := natS_size a
  have hsb := natS_size b
  by_cases h : nd 256 a = nd 256 b
  · have hz : ((nd 256 a : Int) != (nd 256 b : Int)) = false := by rw [h]; simp
    have H := Lib.hid h
    clear h
    go_enter Tryz.func91, Tryz.ntmps91
    go_wp2_with (first | (go_at_call 92; refine (all_c _ 2 [natS a, natS b] _ (by simp) (strs_new w 22 [natS a, natS b])).mono ?_; rintro e w' ⟨rfl, rfl⟩) | (go_at_call 113; refine (Compare_nat a b _ H.out).mono ?_; rintro e w' ⟨rfl, rfl⟩))
    go_ret2
    exact ⟨rfl, (Below.refl _ _).alloc (Nat.le_refl _) _⟩
  · have hz : ((nd 256 a : Int) != (nd 256 b : Int)) = true := by rw [bne_iff_ne]; omega
    have H := Lib.hid (compareInt_nd a b h)
    clear h
    go_enter Tryz.func91, Tryz.ntmps91
    go_wp2_with (first | (go_at_call 92; refine (all_c _ 2 [natS a, natS b] _ (by simp) (strs_new w 22 [natS a, natS b])).mono ?_; rintro e w' ⟨rfl, rfl⟩) | (go_at_call 112; refine (Tryz.cmp_Compare_int _ _ _).mono ?_; rintro e w' ⟨rfl, rfl⟩))
    go_ret2
    exact ⟨by rw [← H.out]; rfl, (Below.refl _ _).alloc (Nat.le_refl _) _⟩
end Go.Proofs.YtmjjodficjjehabGreatDoor
namespace Go.Proofs.YtmjjodficjjehabGreatDoor
open Go Go.RowKit Nt
theorem fits_words {n : Nat} (h : fits n) : nd W n ≤ 2048 := by
  unfold fits at h; rw [← words_bytes]; omega
theorem mul_words (a b : Nat) : nd W (a * b) ≤ nd W a + nd W b := by
  refine nd_le W2 ?_
  rw [Nat.pow_add]
  have h1 := lt_nd (n := a) W2
  have h2 := lt_nd (n := b) W2
  rcases Nat.eq_zero_or_pos b with h | h
  · subst h; rw [Nat.mul_zero]; exact Nat.mul_pos (Nat.pow_pos W0) (Nat.pow_pos W0)
  · exact Nat.lt_of_lt_of_le ((Nat.mul_lt_mul_right h).2 h1) (Nat.mul_le_mul_left _ (by omega))
theorem brB_true {n : Nat} (h : brB n = true) : nd 256 n ≤ 8 := by unfold brB at h; exact of_decide_eq_true h
end Go.Proofs.YtmjjodficjjehabGreatDoor
namespace Go.Proofs.YtmjjodficjjehabGreatDoor
open Go Go.RowKit Nt
def SB (w w' : World) : Prop := Below w.heap.size w w'
end Go.Proofs.YtmjjodficjjehabGreatDoor
namespace Go.Proofs.YtmjjodficjjehabGreatDoor
open Go Go.RowKit Nt
theorem fits_le {m n : Nat} (h : fits n) (hm : m ≤ n) : fits m := by unfold fits at *; exact Nat.le_trans (nd_mono (by omega) hm) h
theorem natS_empty {n : Nat} (h : n = 0) : (natS n).toList = [] := by subst h; rw [natS_zero, ba_toList]
theorem natS_full {n : Nat} (h : n ≠ 0) : ¬ (natS n).toList = [] := fun c => by
  rw [ba_toList] at c
  have h1 : (natS n).size = 0 := by show (natS n).data.size = 0; rw [← Array.length_toList, c]; rfl
  rw [natS_size, nd_eq_zero (by omega)] at h1; exact h h1
theorem natS_full2 {n : Nat} (h : n ≠ 0) : (natS n).toList.isEmpty = false := by
  have := natS_full h
  cases h2 : (natS n).toList with
  | nil => exact absurd h2 this
  | cons x l => rfl
theorem cmp_neg {a b : Nat} (h : a < b) : decide (cmpN a b < 0) = true := by rw [cmpN_lt h]; rfl
theorem cmp_pos {a b : Nat} (h : b ≤ a) : decide (cmpN a b < 0) = false := by
  rcases Nat.eq_or_lt_of_le h with h1 | h1
  · subst h1; rw [cmpN_eq]; rfl
  · rw [cmpN_gt h1]; rfl
theorem mul_long {a b : Nat} (ha : a ≠ 0) (hb : b ≠ 0) : nd 256 a - 1 + (nd 256 b - 1) < nd 256 (a * b) := by
  have h1 : nd 256 a ≠ 0 := fun c => ha ((nd_eq_zero (by omega)).1 c)
  have h2 : nd 256 b ≠ 0 := fun c => hb ((nd_eq_zero (by omega)).1 c)
  refine (pow_le_iff (by omega) _ _).1 ?_
  rw [Nat.pow_add]
  exact Nat.mul_le_mul ((pow_le_iff (by omega) _ _).2 (by omega)) ((pow_le_iff (by omega) _ _).2 (by omega))
theorem small_prod {x y : Nat} (h : x * y < 18446744073709551616) : x * y / 18446744073709551616 = 0 ∧ x * y % 18446744073709551616 = x * y := ⟨Nat.div_eq_of_lt h, Nat.mod_eq_of_lt h⟩
@[irreducible] def longI (z : Int) : Bool := decide (131072 < z)
@[local go_sem] theorem gt_longI (z : Int) : decide ((131072 : Int) < z) = longI z := by unfold longI; rfl
set_option maxRecDepth 100000 in
theorem NMul_small (a b : Nat) (w : World) (ha : fits a) (hb : fits b) (h1 : brB a = true) (h2 : brB b = true) (h3 : a * b < 18446744073709551616) :
    Calls Tryz.prog 82 #[.string (natS a), .string (natS b)] w (StrPost (natS (a * b)) 0 w) := by
  have hm := may2 ha hb
  have e1 := brN_yes (brB_true h1)
  have e2 := brN_yes (brB_true h2)
  have hmul := fun w => Tryz.bits_Mul64 a b (br_lt.1 (brB_true h1)) (br_lt.1 (brB_true h2)) w
  obtain ⟨q1, q2⟩ := small_prod h3
  rw [q1, q2] at hmul
  have HM := Lib.hid hmul
  have HP := Lib.hid h3
  clear hmul q1 q2 h3
  go_enter Tryz.func82, Tryz.ntmps82
  go_wp2_with (first
    | (go_at_call 92; refine (all_c _ 2 [natS a, natS b] _ (by simp) (strs_new w 22 [natS a, natS b])).mono ?_; rintro e w' ⟨rfl, rfl⟩)
    | (go_at_call 102; refine (brief_c _ _ (by assumption)).mono ?_; rintro e w' ⟨rfl, rfl⟩)
    | (go_at_call 103; refine (HM.out _).mono ?_; rintro e w' ⟨rfl, rfl⟩)
    | (go_at_call 26; refine (Of_n _ _ HP.out).mono ?_; rintro e w' ⟨rfl, hb2⟩))
  go_ret2
  exact ⟨rfl, ((Below.refl _ _).alloc (Nat.le_refl _) _).trans (hb2.mono (by simp))⟩
theorem mul_cases (a b : Nat) : (brB a = true ∧ brB b = true ∧ a * b < 18446744073709551616) ∨ brB a = false ∨ (brB a = true ∧ brB b = false) ∨ (brB a = true ∧ brB b = true ∧ ¬ a * b < 18446744073709551616) := by
  by_cases h3 : a * b < 18446744073709551616 <;> cases brB a <;> cases brB b <;> simp [h3]
theorem big_prod {a b : Nat} (h1 : brB a = true) (h2 : brB b = true) (h : ¬ a * b < 18446744073709551616) : ∃ hi lo : Nat, ((hi : Int) == 0) = false ∧
    ∀ w, Calls Tryz.prog 103 #[.int .u64 (a : Nat), .int .u64 (b : Nat)] w fun e w' => e = .returned (.tuple #[.int .u64 (hi : Nat), .int .u64 (lo : Nat)]) ∧ w' = w :=
  ⟨_, _, eqz_false (by have := Nat.div_pos (a := a * b) (b := 18446744073709551616) (by omega) (by omega); omega), fun w => Tryz.bits_Mul64 a b (br_lt.1 (brB_true h1)) (br_lt.1 (brB_true h2)) w⟩
theorem mul_test (a b : Nat) (ha : fits a) (hb : fits b) : (a = 0 ∨ b = 0 ∨ longI (8 * ((nd 256 a : Int) - 1) + 8 * ((nd 256 b : Int) - 1)) = false) ∨ (a ≠ 0 ∧ b ≠ 0 ∧ longI (8 * ((nd 256 a : Int) - 1) + 8 * ((nd 256 b : Int) - 1)) = true ∧ ¬ fits (a * b)) := by
  by_cases h1 : a = 0
  · exact Or.inl (Or.inl h1)
  by_cases h2 : b = 0
  · exact Or.inl (Or.inr (Or.inl h2))
  by_cases h3 : 131072 < 8 * ((nd 256 a : Int) - 1) + 8 * ((nd 256 b : Int) - 1)
  · refine Or.inr ⟨h1, h2, by unfold longI; exact decide_eq_true h3, fun c => ?_⟩
    have := mul_long h1 h2
    unfold fits at c; omega
  · exact Or.inl (Or.inr (Or.inr (by unfold longI; exact decide_eq_false h3)))
set_option maxRecDepth 100000 in
set_option maxHeartbeats 2000000 in
theorem NMul_c (a b : Nat) (w : World) (ha : fits a) (hb : fits b) :
    Calls Tryz.prog 82 #[.string (natS a), .string (natS b)] w (StrPost (resS (a * b)) (resE (a * b)) w) := by
  have hm := may2 ha hb
  have hza := natS_size a
  have hzb := natS_size b
  have hna : nd 256 a ≤ 16384 := ha
  have hnb : nd 256 b ≤ 16384 := hb
  have hwa := fits_words ha
  have hwb := fits_words hb
  have hwm := mul_words a b
  rcases mul_cases a b with ⟨h1, h2, h3⟩ | h | ⟨h1, h2⟩ | ⟨h1, h2, h3⟩
  case' inl =>
    have hf : fits (a * b) := by have := br_lt.2 h3; unfold fits; omega
    rw [resS_ok hf, resE_ok hf]
    exact NMul_small a b w ha hb h1 h2 h3
  case' inr.inl =>
    go_enter Tryz.func82, Tryz.ntmps82
    go_upto_region 10 with (first
      | (go_at_call 92; refine (all_c _ 2 [natS a, natS b] _ (by simp) (strs_new w 22 [natS a, natS b])).mono ?_; rintro e w' ⟨rfl, rfl⟩)
      | (go_at_call 102; refine (brief_c _ _ (by assumption)).mono ?_; rintro e w' ⟨rfl, rfl⟩))
  case' inr.inr.inl =>
    go_enter Tryz.func82, Tryz.ntmps82
    go_upto_region 10 with (first
      | (go_at_call 92; refine (all_c _ 2 [natS a, natS b] _ (by simp) (strs_new w 22 [natS a, natS b])).mono ?_; rintro e w' ⟨rfl, rfl⟩)
      | (go_at_call 102; refine (brief_c _ _ (by assumption)).mono ?_; rintro e w' ⟨rfl, rfl⟩))
  case' inr.inr.inr =>
    have e1 := brN_yes (brB_true h1)
    have e2 := brN_yes (brB_true h2)
    obtain ⟨hi, lo, hz, hmul⟩ := big_prod h1 h2 h3
    have HM := Lib.hid hmul
    clear hmul h3
    go_enter Tryz.func82, Tryz.ntmps82
    go_upto_region 10 with (first
      | (go_at_call 92; refine (all_c _ 2 [natS a, natS b] _ (by simp) (strs_new w 22 [natS a, natS b])).mono ?_; rintro e w' ⟨rfl, rfl⟩)
      | (go_at_call 102; refine (brief_c _ _ (by assumption)).mono ?_; rintro e w' ⟨rfl, rfl⟩)
      | (go_at_call 103; refine (HM.out _).mono ?_; rintro e w' ⟨rfl, rfl⟩))
  all_goals
    have hbw : Below w.heap.size w (w.alloc (.cells #[.string (natS a), .string (natS b)] 22)) := (Below.refl _ _).alloc (Nat.le_refl _) _
    generalize w.alloc (.cells #[.string (natS a), .string (natS b)] 22) = w1 at *
    rcases mul_test a b ha hb with h0 | ⟨h1, h2, h3, h4⟩
    · rcases h0 with h0 | h0 | h0
      case' inl => have hE := natS_empty h0
      case' inr.inl => have hE := natS_empty h0
      all_goals
        have HO := Lib.hid h0
        have HHm := Lib.hid hwm
        clear h0 hwm
      case' inr.inr => have hE := HO.out
      all_goals
        go_upto_region 13 with fail
      all_goals
        go_wp2_with fail
        refine (words_c a _ ha).mono ?_
        intro e w2 hp
        obtain ⟨A1, c1, rfl, hc1, hr1, hb2⟩ := hp.get
        have HR1 := Lib.hid hr1
        clear hr1 hp
        go_wp2_with fail
        refine (words_c b _ hb).mono ?_
        intro e w3 hp
        obtain ⟨A2, c2, rfl, hc2, hr2, hb3⟩ := hp.get
        have HR2 := Lib.hid hr2
        clear hr2 hp
        go_wp2_with fail
        refine (Mul_c A1 A2 c1 c2 a b w3.heap.size w3 (by omega) ((HR1.out.below hb3).more hb3.size) HR2.out (Nat.le_refl _)).mono ?_
        intro e w4 hp
        obtain ⟨A3, c3, rfl, hc3, hr3, hb4⟩ := hp.get
        have HR3 := Lib.hid hr3
        clear hr3 hp
        go_wp2_with fail
        refine (made_c A3 c3 (a * b) w4.heap.size w4 (by have := HHm.out; omega) HR3.out (Nat.le_refl _)).mono ?_
        rintro e w5 ⟨rfl, hb5⟩
        go_wp2_with fail
        go_ret2
        exact ⟨rfl, hbw.trans ((hb2.mono hbw.size).trans ((hb3.mono (Nat.le_trans hbw.size hb2.size)).trans ((hb4.mono (Nat.le_trans hbw.size (Nat.le_trans hb2.size hb3.size))).trans (hb5.mono (Nat.le_trans hbw.size (Nat.le_trans hb2.size (Nat.le_trans hb3.size hb4.size)))))))⟩
    · have n1 := natS_full h1
      have n2 := natS_full h2
      have m1 := natS_full2 h1
      have m2 := natS_full2 h2
      have R1 := Lib.hid (resS_no h4)
      have R2 := Lib.hid (resE_no h4)
      go_wp2_with fail
      go_ret2
      exact ⟨by rw [R1.out, R2.out]; rfl, hbw⟩
end Go.Proofs.YtmjjodficjjehabGreatDoor
namespace Go.Proofs.YtmjjodficjjehabGreatDoor
open Go Go.RowKit Nt
theorem below_chain {a b c : World} (h1 : Below a.heap.size a b) (h2 : Below b.heap.size b c) : Below a.heap.size a c := h1.trans (h2.mono h1.size)
theorem nne_true {x : Nat} (h : x ≠ 0) : (((x : Nat) : Int) != 0) = true := by rw [bne_iff_ne]; omega
theorem nne_false {x : Nat} (h : x = 0) : (((x : Nat) : Int) != 0) = false := by subst h; rfl
def Own (w : World) (B : Nat) (T : TypeId) (k : IntKind) (v : Value) (l : List Nat) : Prop := w.ownsRow B T 1 v l.length (l.map (fun (x : Nat) => Value.int k (x : Int)))
theorem Own.nil (w : World) (B : Nat) (T : TypeId) (k : IntKind) : Own w B T k (.slice none 0 0) [] := World.ownsRow_nil w B T 1
theorem Own.form {w : World} {B : Nat} {T : TypeId} {k : IntKind} {v : Value} {l : List Nat} (h : Own w B T k v l) :
    (v = .slice none 0 0 ∧ l = []) ∨ ∃ g cap cs, v = .slice (some ⟨g, 0, none⟩) l.length cap ∧ B ≤ g ∧ g < w.heap.size ∧ Blk w g T cs ∧ l.length ≤ cap ∧ cap ≤ 9223372036854775807 ∧ ∀ j, (hj : j < l.length) → cs[j]? = some (.int k (l[j] : Nat)) := by
  rcases h.2 with ⟨rfl, h0⟩ | ⟨g, cap, cur, rfl, hB, hh, hn, hm, hs, ht⟩
  · exact Or.inl ⟨rfl, List.eq_nil_of_length_eq_zero h0⟩
  · refine Or.inr ⟨g, cap, cur, rfl, hB, Blk.lt hh, hh, hn, by simpa [maxLen] using hm, fun j hj => ?_⟩
    have e := congrArg (fun x => x[j]?) ht
    simp only [Nat.mul_one] at e
    rw [List.getElem?_take, if_pos hj, List.getElem?_map, List.getElem?_eq_getElem hj] at e
    rw [← Array.getElem?_toList]; exact e
theorem Own.cell {w : World} {B : Nat} {T : TypeId} {k : IntKind} {v : Value} {l : List Nat} (h : Own w B T k v l) {j : Nat} (hj : j < l.length) :
    ∃ g cap, v = .slice (some ⟨g, 0, none⟩) l.length cap ∧ B ≤ g ∧ g < w.heap.size ∧ w.cell? ⟨g, j, none⟩ = some (.int k (l[j] : Nat)) ∧ w.frozen? ⟨g, j, none⟩ = false := by
  rcases h.form with ⟨_, rfl⟩ | ⟨g, cap, cs, rfl, hB, hg, hb, _, _, hc⟩
  · simp at hj
  · exact ⟨g, cap, rfl, hB, hg, by rw [hb.cell, hc j hj], hb.frozen j⟩
theorem Own.below {w w' : World} {B B' : Nat} {T : TypeId} {k : IntKind} {v : Value} {l : List Nat} (h : Own w B T k v l) (hb : Below B' w w') (hB : ∀ g, v.ownBlock = some g → g < B') : Own w' B T k v l := by
  rcases h.2 with ⟨rfl, h0⟩ | ⟨g, cap, cur, rfl, hB1, hh, hn, hm, hs, ht⟩
  · exact ⟨h.1, Or.inl ⟨rfl, h0⟩⟩
  · exact ⟨h.1, Or.inr ⟨g, cap, cur, rfl, hB1, (hb.block g (hB g rfl)).trans hh, hn, hm, hs, ht⟩⟩
theorem Own.base {w : World} {B B' : Nat} {T : TypeId} {k : IntKind} {v : Value} {l : List Nat} (h : Own w B T k v l) (hB : B' ≤ B) : Own w B' T k v l := by
  rcases h.2 with ⟨rfl, h0⟩ | ⟨g, cap, cur, rfl, hB1, hh, hn, hm, hs, ht⟩
  · exact ⟨h.1, Or.inl ⟨rfl, h0⟩⟩
  · exact ⟨h.1, Or.inr ⟨g, cap, cur, rfl, by omega, hh, hn, hm, hs, ht⟩⟩
theorem Own.lt {w : World} {B : Nat} {T : TypeId} {k : IntKind} {v : Value} {l : List Nat} (h : Own w B T k v l) : ∀ g, v.ownBlock = some g → B ≤ g ∧ g < w.heap.size := World.ownsRow.lt h
theorem Own.whole {w w' : World} {B : Nat} {T : TypeId} {k : IntKind} {v : Value} {l : List Nat} (h : Own w B T k v l) (hb : Below w.heap.size w w') : Own w' B T k v l := h.below hb fun g e => (h.lt g e).2
theorem Own.drewN {w : World} {B : Nat} {T : TypeId} {k : IntKind} {v : Value} {l : List Nat} (h : Own w B T k v l) (n : Nat) : Own (w.drewN n) B T k v l := h
theorem Own.len {w : World} {B : Nat} {T : TypeId} {k : IntKind} {v : Value} {l : List Nat} (h : Own w B T k v l) : ∃ A c, v = .slice A l.length c ∧ l.length ≤ c := by
  rcases h.form with ⟨rfl, rfl⟩ | ⟨g, cap, cs, rfl, _, _, _, hc, _⟩
  · exact ⟨none, 0, rfl, Nat.le_refl _⟩
  · exact ⟨_, _, rfl, hc⟩
def Frm (w0 w' : World) (v : Value) : Prop := ∀ k, k < w0.heap.size → some k ≠ v.ownBlock → w'.heap[k]? = w0.heap[k]?
theorem Frm.cell {w0 w' : World} {v : Value} (h : Frm w0 w' v) {p : Addr} (hp : p.block < w0.heap.size) (hne : some p.block ≠ v.ownBlock) : w'.cell? p = w0.cell? p := World.cell?_of_block (h p.block hp hne)
end Go.Proofs.YtmjjodficjjehabGreatDoor
namespace Go.Proofs.YtmjjodficjjehabGreatDoor
open Go Go.RowKit Nt
@[irreducible] def KA : Nat := 9223372036854775808
@[irreducible] def KB : Nat := 10
@[irreducible] def KQ : Nat := 13176245766935394011
end Go.Proofs.YtmjjodficjjehabGreatDoor
namespace Go.Proofs.YtmjjodficjjehabGreatDoor
open Go Go.RowKit Nt
set_option maxRecDepth 100000 in
theorem NLen_c (n : Nat) (w : World) (hf : fits n) :
    Calls Tryz.prog 108 #[.string (natS n)] w (IntPost (nd 2 n : Nat) 0 w) := by
  have hm := may1 hf
  by_cases h0 : n = 0
  · have hE := natS_empty h0
    have HZ := Lib.hid (show nd 2 n = 0 by rw [h0, nd_zero])
    clear h0
    go_enter Tryz.func108, Tryz.ntmps108
    go_wp2_with (go_at_call 72; refine (Check_c _ _).mono ?_; rintro e w1 ⟨rfl, hb⟩)
    go_ret2
    exact ⟨by rw [HZ.out]; rfl, hb⟩
  · have hE := natS_full h0
    have hE2 := natS_full2 h0
    have hsz := natS_size n
    obtain ⟨L, hL⟩ : ∃ L, nd 256 n = L + 1 := ⟨nd 256 n - 1, by
      rcases Nat.eq_zero_or_pos (nd 256 n) with h | h
      · exact absurd ((nd_eq_zero (by omega)).1 h) h0
      · omega⟩
    have HT := Lib.hid (nd_top (b := 2) (c := 256) (e := 8) (by omega) (by omega) (by rfl) n h0)
    have hp : 0 < (natS n).size := by omega
    have hg := natS_get n 0 hp
    unfold fits at hf
    rw [hL] at hsz hg HT hf
    have hlt : (natS n)[0].toNat < 256 := (natS n)[0].toNat_lt
    have hbl := bitLen_nd (x := (natS n)[0].toNat) (by omega)
    have hle : nd 2 (natS n)[0].toNat ≤ 8 := nd_le (by omega) (by omega)
    have hfin : 8 * (L : Int) + (Go.Lib.bitLen (natS n)[0].toNat : Int) = (nd 2 n : Int) := by
      have h1 := HT.out
      rw [Nat.add_sub_cancel, Nat.sub_zero] at hg
      rw [Nat.add_sub_cancel, ← hg] at h1
      rw [hbl, h1]; omega
    have hle2 : Go.Lib.bitLen (natS n)[0].toNat ≤ 8 := by rw [hbl]; exact hle
    have HF := Lib.hid hfin
    clear hfin hg hbl hle h0
    go_enter Tryz.func108, Tryz.ntmps108
    go_wp2_with (first | (go_at_call 72; refine (Check_c _ _).mono ?_; rintro e w1 ⟨rfl, hb⟩) | (go_at_call 115; refine (Tryz.bits_Len8 _ _ (by omega) (by omega)).mono ?_; rintro e w' ⟨rfl, rfl⟩))
    go_ret2
    refine ⟨?_, hb⟩
    have h2 := HF.out
    simp only [Int.toNat_natCast]
    rw [← h2]; rfl
end Go.Proofs.YtmjjodficjjehabGreatDoor
namespace Go.Proofs.YtmjjodficjjehabGreatDoor
open Go Go.RowKit Nt
theorem nd_mul_pow {a j : Nat} (ha : a ≠ 0) : nd 2 (a * 2 ^ j) = nd 2 a + j := by
  obtain ⟨m, hm⟩ : ∃ m, nd 2 a = m + 1 := ⟨nd 2 a - 1, by
    rcases Nat.eq_zero_or_pos (nd 2 a) with h | h
    · exact absurd ((nd_eq_zero (by omega)).1 h) ha
    · omega⟩
  have h1 := lt_nd (b := 2) (n := a) (by omega)
  have h2 := (pow_le_iff (b := 2) (by omega) m a).2 (by omega)
  rw [hm] at h1
  rw [hm, show m + 1 + j = m + j + 1 by omega]
  refine nd_unique (by omega) ?_ ?_
  · rw [Nat.pow_add]; exact Nat.mul_le_mul_right _ h2
  · rw [show m + j + 1 = m + 1 + j by omega, Nat.pow_add]; exact (Nat.mul_lt_mul_right (Nat.two_pow_pos j)).2 h1
theorem fits_shift {a j : Nat} (ha : a ≠ 0) : fits (a * 2 ^ j) ↔ nd 2 a + j ≤ 131072 := by
  unfold fits
  rw [← bits_le, nd_mul_pow ha]
set_option maxRecDepth 100000 in
theorem NShift_stay (a : Nat) (w : World) (hf : fits a) (ha : a ≠ 0) :
    Calls Tryz.prog 87 #[.string (natS a), .int .i64 0] w (StrPost (natS a) 0 w) := by
  have hE := natS_full ha
  have hE2 := natS_full2 ha
  go_enter Tryz.func87, Tryz.ntmps87
  go_wp2_with (go_at_call 108; refine (NLen_c _ _ hf).mono ?_; rintro e w1 ⟨rfl, hb⟩)
  go_ret2
  exact ⟨rfl, hb⟩
theorem bits_131072 {a : Nat} (hf : fits a) : nd 2 a ≤ 131072 := (bits_le a 16384).2 hf
set_option maxRecDepth 100000 in
theorem NShift_far (a : Nat) (k : Int) (w : World) (hf : fits a) (ha : a ≠ 0) (hk : k < 0) (hk2 : k ≤ -(nd 2 a : Int)) :
    Calls Tryz.prog 87 #[.string (natS a), .int .i64 k] w (StrPost ⟨#[]⟩ 0 w) := by
  have hE := natS_full ha
  have hE2 := natS_full2 ha
  have hz : (k == 0) = false := by rw [beq_eq_false_iff_ne]; omega
  have hl := bits_131072 hf
  have hw : wrap64 (-(nd 2 a : Int)) = -(nd 2 a : Int) := IntWalk.wrap64_in _ (by omega)
  go_enter Tryz.func87, Tryz.ntmps87
  go_wp2_with (go_at_call 108; refine (NLen_c _ _ hf).mono ?_; rintro e w1 ⟨rfl, hb⟩)
  go_ret2
  exact ⟨rfl, hb⟩
set_option maxRecDepth 100000 in
set_option maxHeartbeats 1000000 in
theorem NShift_down (a j : Nat) (w : World) (hf : fits a) (ha : a ≠ 0) (hj : 0 < j) (hj2 : j < nd 2 a) :
    Calls Tryz.prog 87 #[.string (natS a), .int .i64 (-(j : Int))] w (StrPost (natS (a / 2 ^ j)) 0 w) := by
  have hE := natS_full ha
  have hE2 := natS_full2 ha
  have hl := bits_131072 hf
  obtain ⟨z, hz⟩ : ∃ z : Int, z = -(j : Int) := ⟨_, rfl⟩
  have z1 : (z == 0) = false := by rw [beq_eq_false_iff_ne]; omega
  have z2 : z < 0 := by omega
  have z3 : ¬ z ≤ -(nd 2 a : Int) := by omega
  have hw : wrap64 (-(nd 2 a : Int)) = -(nd 2 a : Int) := IntWalk.wrap64_in _ (by omega)
  have hw2 : wrap64 (-z) = (j : Int) := by rw [IntWalk.wrap64_in _ (by omega)]; omega
  have hfd := fits_le hf (Nat.div_le_self a (2 ^ j))
  have R1 := Lib.hid (resS_ok hfd)
  have R2 := Lib.hid (resE_ok hfd)
  have hwa := Lib.hid (fits_words hf)
  have hwd := Lib.hid (fits_words hfd)
  have HJ := Lib.hid (show j ≤ 1000000000000 by omega)
  rw [← hz]
  clear hz hj hj2 hl ha hfd
  go_enter Tryz.func87, Tryz.ntmps87
  go_upto_region 9 with (go_at_call 108; refine (NLen_c _ _ hf).mono ?_; rintro e w1 ⟨rfl, hb1⟩)
  go_wp2_with fail
  refine (words_c a _ hf).mono ?_
  intro e w2 hp
  obtain ⟨A1, c1, rfl, hc1, hr1, hb2⟩ := hp.get
  have HR1 := Lib.hid hr1
  clear hr1 hp
  go_wp2_with fail
  refine (Shr_c A1 c1 a j w2.heap.size w2 HJ.out (by have := hwa.out; omega) HR1.out (Nat.le_refl _)).mono ?_
  intro e w3 hp
  obtain ⟨A2, c2, rfl, hc2, hr2, hb3⟩ := hp.get
  have HR2 := Lib.hid hr2
  clear hr2 hp
  go_wp2_with fail
  refine (made_c A2 c2 (a / 2 ^ j) w3.heap.size w3 (by have := hwd.out; omega) HR2.out (Nat.le_refl _)).mono ?_
  rintro e w4 ⟨rfl, hb4⟩
  go_wp2_with fail
  go_ret2
  exact ⟨by rw [R1.out, R2.out]; rfl, below_chain hb1 (below_chain hb2 (below_chain hb3 hb4))⟩
set_option maxRecDepth 100000 in
set_option maxHeartbeats 1000000 in
theorem NShift_up (a j : Nat) (w : World) (hf : fits a) (ha : a ≠ 0) (hj : 0 < j) (hj2 : fits (a * 2 ^ j)) :
    Calls Tryz.prog 87 #[.string (natS a), .int .i64 (j : Nat)] w (StrPost (natS (a * 2 ^ j)) 0 w) := by
  have hE := natS_full ha
  have hE2 := natS_full2 ha
  have hl := bits_131072 hf
  have R1 := Lib.hid (resS_ok hj2)
  have R2 := Lib.hid (resE_ok hj2)
  have hwm := Lib.hid (fits_words hj2)
  have hwa := Lib.hid (fits_words hf)
  rw [fits_shift ha] at hj2
  have hj3 : j ≤ 131072 := by omega
  have z1 : ((j : Int) == 0) = false := by rw [beq_eq_false_iff_ne]; omega
  have z2 : ¬ (j : Int) < 0 := by omega
  have hw : wrap64 (131072 - (nd 2 a : Int)) = 131072 - (nd 2 a : Int) := IntWalk.wrap64_in _ (by omega)
  have hT2 : ¬ (131072 : Int) - (nd 2 a : Int) < (j : Int) := by omega
  have HJ := Lib.hid (show nd W a + j / 64 ≤ 1000000000 by have := hwa.out; omega)
  clear hj2 hj3
  go_enter Tryz.func87, Tryz.ntmps87
  go_upto_region 12 with (go_at_call 108; refine (NLen_c _ _ hf).mono ?_; rintro e w1 ⟨rfl, hb1⟩)
  go_wp2_with fail
  refine (words_c a _ hf).mono ?_
  intro e w2 hp
  obtain ⟨A1, c1, rfl, hc1, hr1, hb2⟩ := hp.get
  have HR1 := Lib.hid hr1
  clear hr1 hp
  go_wp2_with fail
  refine (Shl_c A1 c1 a j w2.heap.size w2 HJ.out HR1.out (Nat.le_refl _)).mono ?_
  intro e w3 hp
  obtain ⟨A2, c2, rfl, hc2, hr2, hb3⟩ := hp.get
  have HR2 := Lib.hid hr2
  clear hr2 hp
  go_wp2_with fail
  refine (made_c A2 c2 (a * 2 ^ j) w3.heap.size w3 (by have := hwm.out; omega) HR2.out (Nat.le_refl _)).mono ?_
  rintro e w4 ⟨rfl, hb4⟩
  go_wp2_with fail
  go_ret2
  exact ⟨by rw [R1.out, R2.out]; rfl, below_chain hb1 (below_chain hb2 (below_chain hb3 hb4))⟩
end Go.Proofs.YtmjjodficjjehabGreatDoor
namespace Go.Proofs.YtmjjodficjjehabGreatDoor
open Go Go.RowKit Nt
theorem byte_bit (n q r : Nat) (hr : r < 8) : dgt 256 n q / 2 ^ r % 2 = dgt 2 n (8 * q + r) := by
  have := dgt_in (b := 2) (e := 8) (by omega) n q r hr
  rw [show (2 : Nat) ^ 8 = 256 from rfl, dgt_def 2 (dgt 256 n q)] at this
  exact this
theorem and_one_u8 (q : Nat) (hq : q < 256) : bits BinOp.and IntKind.u8 (q : Int) 1 = ((q % 2 : Nat) : Int) := by
  have h1 : (BitVec.ofInt 8 (q : Int)).toNat = q := by
    rw [BitVec.ofInt_natCast, BitVec.toNat_ofNat]; exact Nat.mod_eq_of_lt (by omega)
  have h2 : (BitVec.ofInt 8 (1 : Int)).toNat = 1 := by decide
  show IntKind.u8.wrap ((BitVec.ofInt 8 (q : Int) &&& BitVec.ofInt 8 (1 : Int)).toNat : Int) = _
  rw [BitVec.toNat_and, h1, h2, Nat.and_one_is_mod, wrap_u8]
  omega
def BitPost (b : Nat) (r : Int) (w : World) (e : Ending) (w' : World) : Prop := e = .returned (.tuple #[.int .u8 (b : Nat), .int .i64 r]) ∧ Below w.heap.size w w'
theorem bit_above {n i : Nat} (h : ¬ i / 8 < nd 256 n) : dgt 2 n i = 0 := by
  refine dgt_big (by omega) ?_
  have := bytes_bits n
  omega
set_option maxRecDepth 100000 in
theorem NBit_c (n i : Nat) (w : World) (hf : fits n) (hi : i ≤ 9223372036854775807) :
    Calls Tryz.prog 111 #[.string (natS n), .int .i64 (i : Nat)] w (BitPost (dgt 2 n i) 0 w) := by
  have hm := may1 hf
  have hsz := natS_size n
  have hL : nd 256 n ≤ 16384 := hf
  have hi0 : ¬ (i : Int) < 0 := by omega
  by_cases hq : i / 8 < nd 256 n
  · obtain ⟨x, hx⟩ : ∃ x, nd 256 n = x + 1 + i / 8 := ⟨nd 256 n - 1 - i / 8, by omega⟩
    have hxs : x < (natS n).size := by omega
    have hg := natS_get n x hxs
    rw [show nd 256 n - 1 - x = i / 8 by omega] at hg
    have hbb := byte_bit n (i / 8) (i % 8) (by omega)
    rw [show 8 * (i / 8) + i % 8 = i by omega, ← hg] at hbb
    have hb8 := (natS n)[x].toNat_lt
    have HB := Lib.hid hbb
    obtain ⟨v, hv⟩ : ∃ v, v = (natS n)[x].toNat / 2 ^ (i % 8) := ⟨_, rfl⟩
    have hv2 : v < 256 := by rw [hv]; exact Nat.lt_of_le_of_lt (Nat.div_le_self _ _) hb8
    have hvI : ((natS n)[x].toNat : Int) / 2 ^ (i % 8) = (v : Int) := by rw [hv, int_pow2, Int.natCast_ediv]
    have hand := and_one_u8 v hv2
    rw [hv, hbb] at hand
    rw [← hv] at hand
    obtain ⟨q, hq1⟩ : ∃ q, i / 8 = q := ⟨_, rfl⟩
    obtain ⟨r, hr1⟩ : ∃ r, i % 8 = r := ⟨_, rfl⟩
    rw [hq1] at hx hq
    rw [hr1] at hvI
    have hqI : (i : Int) / 8 = (q : Int) := by omega
    have hrI : (i : Int) % 8 = (r : Int) := by omega
    have hr8 : r < 8 := by omega
    have hxI : (nd 256 n : Int) - 1 - (q : Int) = (x : Int) := by omega
    have hqL : ¬ (nd 256 n : Int) ≤ (q : Int) := by omega
    clear hv hbb hg hq1 hr1 hx hf
    go_enter Tryz.func111, Tryz.ntmps111
    go_wp2_with (go_at_call 72; refine (Check_c _ _).mono ?_; rintro e w1 ⟨rfl, hb⟩)
    go_ret2
    exact ⟨rfl, hb⟩
  · have HZ := Lib.hid (bit_above hq)
    have hqI : (nd 256 n : Int) ≤ (i : Int) / 8 := by omega
    go_enter Tryz.func111, Tryz.ntmps111
    go_wp2_with (go_at_call 72; refine (Check_c _ _).mono ?_; rintro e w1 ⟨rfl, hb⟩)
    go_ret2
    exact ⟨by rw [HZ.out]; rfl, hb⟩
end Go.Proofs.YtmjjodficjjehabGreatDoor
