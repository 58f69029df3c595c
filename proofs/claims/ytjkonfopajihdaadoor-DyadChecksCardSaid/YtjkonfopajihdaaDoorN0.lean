/- Plain facts about natural numbers by their digits to a base. -/
import Derived.IntWalk
set_option linter.unusedSimpArgs false
set_option linter.unusedVariables false
namespace Nt

/-- How many digits n has to the base b. -/
def nd (b n : Nat) : Nat := if h : n = 0 ∨ b ≤ 1 then 0 else nd b (n / b) + 1
termination_by n
decreasing_by exact Nat.div_lt_self (by omega) (by omega)
theorem nd_zero (b : Nat) : nd b 0 = 0 := by unfold nd; simp
theorem nd_step {b n : Nat} (hb : 2 ≤ b) (hn : n ≠ 0) : nd b n = nd b (n / b) + 1 := by
  rw [nd, dif_neg (by omega)]
theorem lt_pow_iff {b : Nat} (hb : 2 ≤ b) : ∀ (k n : Nat), n < b ^ k ↔ nd b n ≤ k := by
  intro k
  induction k with
  | zero =>
    intro n
    rw [Nat.pow_zero]
    constructor
    · intro h; have : n = 0 := by omega
      subst this; rw [nd_zero]; exact Nat.le_refl _
    · intro h
      rcases Nat.eq_zero_or_pos n with h0 | h0
      · omega
      · rw [nd_step hb (by omega)] at h; omega
  | succ k ih =>
    intro n
    rcases Nat.eq_zero_or_pos n with h0 | h0
    · subst h0; rw [nd_zero]
      exact ⟨fun _ => by omega, fun _ => Nat.pow_pos (by omega)⟩
    · rw [nd_step hb (by omega), Nat.pow_succ]
      have e := ih (n / b)
      rw [Nat.div_lt_iff_lt_mul (by omega)] at e
      rw [e]; omega
theorem nd_le {b n k : Nat} (hb : 2 ≤ b) (h : n < b ^ k) : nd b n ≤ k := (lt_pow_iff hb k n).1 h
theorem lt_nd {b n : Nat} (hb : 2 ≤ b) : n < b ^ nd b n := (lt_pow_iff hb _ _).2 (Nat.le_refl _)
theorem pow_le_iff {b : Nat} (hb : 2 ≤ b) (k n : Nat) : b ^ k ≤ n ↔ k < nd b n := by
  have := lt_pow_iff hb k n; omega
theorem nd_eq_zero {b n : Nat} (hb : 2 ≤ b) : nd b n = 0 ↔ n = 0 := by
  constructor
  · intro h; have := (lt_pow_iff hb 0 n).2 (by omega); simpa using this
  · rintro rfl; exact nd_zero _
theorem nd_mono {b m n : Nat} (hb : 2 ≤ b) (h : m ≤ n) : nd b m ≤ nd b n := nd_le hb (Nat.lt_of_le_of_lt h (lt_nd hb))
theorem nd_pow {b c e : Nat} (hb : 2 ≤ b) (he : 0 < e) (hc : c = b ^ e) (n k : Nat) : nd b n ≤ e * k ↔ nd c n ≤ k := by
  have hc2 : 2 ≤ c := by
    subst hc; obtain ⟨f, rfl⟩ : ∃ f, e = f + 1 := ⟨e - 1, by omega⟩
    rw [Nat.pow_succ]; have := Nat.pow_pos (n := f) (show 0 < b by omega); exact Nat.le_trans hb (Nat.le_mul_of_pos_left _ this)
  rw [← lt_pow_iff hb, ← lt_pow_iff hc2, hc, Nat.pow_mul]

/-- The digit i of n to the base b. -/
@[irreducible] def dgt (b n i : Nat) : Nat := n / b ^ i % b
theorem dgt_def (b n i : Nat) : dgt b n i = n / b ^ i % b := by unfold dgt; rfl
theorem dgt_lt {b : Nat} (hb : 0 < b) (n i : Nat) : dgt b n i < b := by rw [dgt_def]; exact Nat.mod_lt _ hb
theorem mod_succ (b n i : Nat) : n % b ^ (i + 1) = n % b ^ i + b ^ i * dgt b n i := by rw [dgt_def]; exact Nat.mod_pow_succ
theorem dgt_big {b n i : Nat} (hb : 2 ≤ b) (h : nd b n ≤ i) : dgt b n i = 0 := by
  rw [dgt_def, Nat.div_eq_of_lt ((lt_pow_iff hb i n).2 h), Nat.zero_mod]
theorem dgt_top {b n : Nat} (hb : 2 ≤ b) (h : n ≠ 0) : dgt b n (nd b n - 1) ≠ 0 := by
  have h0 : nd b n ≠ 0 := fun c => h ((nd_eq_zero hb).1 c)
  have h1 : b ^ (nd b n - 1) ≤ n := (pow_le_iff hb _ _).2 (by omega)
  have h2 := lt_nd (b := b) (n := n) hb
  rw [dgt_def]
  have e : b ^ nd b n = b ^ (nd b n - 1) * b := by rw [← Nat.pow_succ]; congr 1; omega
  have h3 : n / b ^ (nd b n - 1) < b := by
    rw [Nat.div_lt_iff_lt_mul (Nat.pow_pos (by omega)), Nat.mul_comm, ← e]; exact h2
  have h4 : 1 ≤ n / b ^ (nd b n - 1) := (Nat.le_div_iff_mul_le (Nat.pow_pos (by omega))).2 (by omega)
  rw [Nat.mod_eq_of_lt h3]; omega
theorem div_eq_dgt {b : Nat} (hb : 0 < b) (n i : Nat) : n / b ^ i = dgt b n i + b * (n / b ^ (i + 1)) := by
  rw [dgt_def, Nat.pow_succ, ← Nat.div_div_eq_div_mul]; exact (Nat.mod_add_div _ _).symm
theorem mod_eq_of_digits {b : Nat} (n m : Nat) : ∀ L, (∀ i, i < L → dgt b n i = dgt b m i) → n % b ^ L = m % b ^ L := by
  intro L
  induction L with
  | zero => intro _; simp [Nat.mod_one]
  | succ L ih =>
    intro h
    rw [mod_succ, mod_succ, ih (fun i hi => h i (by omega)), h L (by omega)]
theorem dgt_mod {b : Nat} (n : Nat) {i L : Nat} (h : i < L) : dgt b (n % b ^ L) i = dgt b n i := by
  rw [dgt_def, dgt_def]
  obtain ⟨d, rfl⟩ : ∃ d, L = i + 1 + d := ⟨L - i - 1, by omega⟩
  rw [show b ^ (i + 1 + d) = b ^ i * (b * b ^ d) by rw [Nat.pow_add, Nat.pow_succ, Nat.mul_assoc], Nat.mod_mul_right_div_self, Nat.mod_mul_right_mod]
theorem dgt_add_mul {b : Nat} (hb : 0 < b) (n m : Nat) {i L : Nat} (h : i < L) : dgt b (n + b ^ L * m) i = dgt b n i := by
  rw [← dgt_mod (n + b ^ L * m) h, Nat.add_mul_mod_self_left, dgt_mod n h]
theorem dgt_of_lt {b n i L : Nat} (hb : 2 ≤ b) (h : n < b ^ L) (hi : L ≤ i) : dgt b n i = 0 := dgt_big hb (Nat.le_trans (nd_le hb h) hi)
theorem dgt_shift {b : Nat} (hb : 0 < b) (n m L i : Nat) (hn : n < b ^ L) (h : L ≤ i) : dgt b (n + b ^ L * m) i = dgt b m (i - L) := by
  rw [dgt_def, dgt_def]
  obtain ⟨d, rfl⟩ : ∃ d, i = L + d := ⟨i - L, by omega⟩
  rw [Nat.pow_add, ← Nat.div_div_eq_div_mul, Nat.add_mul_div_left _ _ (Nat.pow_pos hb), Nat.div_eq_of_lt hn, Nat.zero_add]; congr 3; omega
/-- The number with another digit at the place i. -/
def put (b n i v : Nat) : Nat := n % b ^ i + b ^ i * (v + b * (n / b ^ (i + 1)))
theorem dgt_put {b : Nat} (hb : 2 ≤ b) (n i v j : Nat) (hv : v < b) : dgt b (put b n i v) j = if j = i then v else dgt b n j := by
  unfold put
  have hp : n % b ^ i < b ^ i := Nat.mod_lt _ (Nat.pow_pos (by omega))
  by_cases h : j = i
  · subst h; rw [if_pos rfl, dgt_shift (by omega) _ _ _ _ hp (Nat.le_refl _), dgt_def, Nat.sub_self, Nat.pow_zero, Nat.div_one, Nat.add_mul_mod_self_left, Nat.mod_eq_of_lt hv]
  · rw [if_neg h]
    by_cases h1 : j < i
    · rw [dgt_add_mul (by omega) _ _ h1, dgt_mod _ h1]
    · rw [dgt_shift (by omega) _ _ _ _ hp (by omega)]
      have e := dgt_shift (b := b) (by omega) v (n / b ^ (i + 1)) 1 (j - i) (by rw [Nat.pow_one]; exact hv) (by omega)
      rw [Nat.pow_one] at e
      rw [e, dgt_def, dgt_def, Nat.div_div_eq_div_mul, ← Nat.pow_add]; congr 3; omega
/-- The L lowest digits. -/
def dl (b n L : Nat) : List Nat := (List.range L).map (dgt b n)
theorem dl_length (b n L : Nat) : (dl b n L).length = L := by simp [dl]
theorem dl_get? (b n L i : Nat) (h : i < L) : (dl b n L)[i]? = some (dgt b n i) := by
  unfold dl; rw [List.getElem?_map, List.getElem?_range h]; rfl
theorem dl_succ (b n L : Nat) : dl b n (L + 1) = dl b n L ++ [dgt b n L] := by simp [dl, List.range_succ]
theorem dl_congr {b n m L : Nat} (h : ∀ i, i < L → dgt b n i = dgt b m i) : dl b n L = dl b m L := by
  unfold dl; apply List.map_congr_left; intro i hi; exact h i (List.mem_range.1 hi)
theorem dl_set {b : Nat} (hb : 2 ≤ b) (n L i v : Nat) (hv : v < b) : (dl b n L).set i v = dl b (put b n i v) L := by
  apply List.ext_getElem?
  intro j
  rw [List.getElem?_set]
  by_cases hj : j < L
  · rw [dl_get? b (put b n i v) L j hj, dgt_put hb n i v j hv]
    by_cases h : j = i
    · subst h; rw [if_pos rfl, if_pos (by rw [dl_length]; exact hj), if_pos rfl]
    · rw [if_neg (fun c => h c.symm), if_neg h, dl_get? b n L j hj]
  · rw [List.getElem?_eq_none (l := dl b (put b n i v) L) (by rw [dl_length]; omega)]
    by_cases h : i = j
    · subst h; rw [if_pos rfl, if_neg (by rw [dl_length]; omega)]
    · rw [if_neg h, List.getElem?_eq_none (by rw [dl_length]; omega)]
theorem dl_mod (b n L : Nat) : dl b (n % b ^ L) L = dl b n L := dl_congr fun _ hi => dgt_mod _ hi
/-- The number of these digits, the lowest first. -/
def of (b : Nat) (l : List Nat) : Nat := l.foldr (fun x a => x + b * a) 0
theorem of_nil (b : Nat) : of b [] = 0 := rfl
theorem of_cons (b x : Nat) (l : List Nat) : of b (x :: l) = x + b * of b l := rfl
theorem of_append (b : Nat) (l m : List Nat) : of b (l ++ m) = of b l + b ^ l.length * of b m := by
  induction l with
  | nil => simp [of_nil]
  | cons x l ih => rw [List.cons_append, of_cons, of_cons, ih, List.length_cons, Nat.pow_succ, Nat.mul_add, Nat.add_assoc, ← Nat.mul_assoc, Nat.mul_comm b (b ^ l.length)]
theorem of_lt {b : Nat} (hb : 0 < b) (l : List Nat) (h : ∀ x ∈ l, x < b) : of b l < b ^ l.length := by
  induction l with
  | nil => simp [of_nil]
  | cons x l ih =>
    have h1 := ih (fun y hy => h y (List.mem_cons_of_mem _ hy))
    have h2 := h x (List.mem_cons_self ..)
    rw [of_cons, List.length_cons, Nat.pow_succ]
    have : b * (of b l + 1) ≤ b ^ l.length * b := by rw [Nat.mul_comm]; exact Nat.mul_le_mul_right _ h1
    rw [Nat.mul_add] at this; omega
theorem of_dl (b n L : Nat) : of b (dl b n L) = n % b ^ L := by
  induction L with
  | zero => simp [dl, of_nil, Nat.mod_one]
  | succ L ih => rw [dl_succ, of_append, ih, dl_length, mod_succ]; simp [of_cons, of_nil]
theorem dgt_of {b : Nat} (hb : 2 ≤ b) (l : List Nat) (h : ∀ x ∈ l, x < b) (i : Nat) (hi : i < l.length) : dgt b (of b l) i = l[i] := by
  have e : l = l.take i ++ l[i] :: l.drop (i + 1) := by rw [List.getElem_cons_drop, List.take_append_drop]
  have hl : (l.take i).length = i := by simp; omega
  have h1 : of b (l.take i) < b ^ i := by
    have := of_lt (b := b) (by omega) (l.take i) (fun x hx => h x (List.mem_of_mem_take hx)); rwa [hl] at this
  have h2 : of b l = of b (l.take i) + b ^ i * (l[i] + b * of b (l.drop (i + 1))) := by
    conv => lhs; rw [e]
    rw [of_append, of_cons, hl]
  rw [h2, dgt_shift (by omega) _ _ _ _ h1 (Nat.le_refl _), dgt_def, Nat.sub_self, Nat.pow_zero, Nat.div_one, Nat.add_mul_mod_self_left, Nat.mod_eq_of_lt (h _ (List.getElem_mem hi))]
theorem dl_of {b : Nat} (hb : 2 ≤ b) (l : List Nat) (h : ∀ x ∈ l, x < b) : dl b (of b l) l.length = l := by
  apply List.ext_getElem
  · rw [dl_length]
  · intro i h1 h2
    have := dl_get? b (of b l) l.length i h2
    rw [List.getElem?_eq_getElem h1] at this
    rw [Option.some.inj this, dgt_of hb l h i h2]
theorem eq_of_digits {b n m L : Nat} (hn : n < b ^ L) (hm : m < b ^ L) (h : ∀ i, i < L → dgt b n i = dgt b m i) : n = m := by
  have := mod_eq_of_digits n m L h
  rwa [Nat.mod_eq_of_lt hn, Nat.mod_eq_of_lt hm] at this

/-! Sums, differences. -/
/-- What is carried to the place i. -/
@[irreducible] def car (b x y i : Nat) : Nat := (x % b ^ i + y % b ^ i) / b ^ i
theorem car_def (b x y i : Nat) : car b x y i = (x % b ^ i + y % b ^ i) / b ^ i := by unfold car; rfl
theorem car_zero (b x y : Nat) : car b x y 0 = 0 := by rw [car_def]; simp [Nat.mod_one]
theorem car_le {b : Nat} (hb : 0 < b) (x y i : Nat) : car b x y i ≤ 1 := by
  rw [car_def]
  have h1 : x % b ^ i < b ^ i := Nat.mod_lt _ (Nat.pow_pos hb)
  have h2 : y % b ^ i < b ^ i := Nat.mod_lt _ (Nat.pow_pos hb)
  have : (x % b ^ i + y % b ^ i) / b ^ i < 2 := by rw [Nat.div_lt_iff_lt_mul (Nat.pow_pos hb)]; omega
  omega
theorem car_succ {b : Nat} (hb : 0 < b) (x y i : Nat) : car b x y (i + 1) = (dgt b x i + dgt b y i + car b x y i) / b := by
  rw [car_def, car_def, mod_succ, mod_succ]
  have e : x % b ^ i + b ^ i * dgt b x i + (y % b ^ i + b ^ i * dgt b y i) = (x % b ^ i + y % b ^ i) + b ^ i * (dgt b x i + dgt b y i) := by rw [Nat.mul_add]; omega
  rw [e, Nat.pow_succ, ← Nat.div_div_eq_div_mul, Nat.add_mul_div_left _ _ (Nat.pow_pos hb)]; congr 1; omega
theorem dgt_add {b : Nat} (hb : 0 < b) (x y i : Nat) : dgt b (x + y) i = (dgt b x i + dgt b y i + car b x y i) % b := by
  have e : x + y = (x % b ^ i + y % b ^ i) + b ^ i * (x / b ^ i + y / b ^ i) := by
    have h1 := Nat.mod_add_div x (b ^ i); have h2 := Nat.mod_add_div y (b ^ i); rw [Nat.mul_add]; omega
  rw [dgt_def, e, Nat.add_mul_div_left _ _ (Nat.pow_pos hb), car_def, dgt_def, dgt_def]
  rw [Nat.add_comm]
  simp [Nat.add_mod]
theorem car_last {b : Nat} (hb : 2 ≤ b) (x y L : Nat) (hx : x < b ^ L) (hy : y < b ^ L) : car b x y L = dgt b (x + y) L := by
  rw [dgt_add (by omega), dgt_of_lt hb hx (Nat.le_refl _), dgt_of_lt hb hy (Nat.le_refl _), Nat.zero_add, Nat.mod_eq_of_lt]
  have := car_le (b := b) (by omega) x y L; omega
/-- What is borrowed at the place i. -/
@[irreducible] def bor (b x y i : Nat) : Nat := if x % b ^ i < y % b ^ i then 1 else 0
theorem bor_def (b x y i : Nat) : bor b x y i = if x % b ^ i < y % b ^ i then 1 else 0 := by unfold bor; rfl
theorem bor_zero (b x y : Nat) : bor b x y 0 = 0 := by rw [bor_def]; simp [Nat.mod_one]
theorem bor_le (b x y i : Nat) : bor b x y i ≤ 1 := by rw [bor_def]; split <;> omega
theorem bor_succ {b : Nat} (hb : 0 < b) (x y i : Nat) : bor b x y (i + 1) = if dgt b x i < dgt b y i + bor b x y i then 1 else 0 := by
  have h1 : x % b ^ i < b ^ i := Nat.mod_lt _ (Nat.pow_pos hb)
  have h2 : y % b ^ i < b ^ i := Nat.mod_lt _ (Nat.pow_pos hb)
  rw [bor_def, mod_succ, mod_succ]
  have hbi := bor_def b x y i
  generalize x % b ^ i = p at *
  generalize y % b ^ i = q at *
  rcases Nat.lt_trichotomy (dgt b x i) (dgt b y i) with h | h | h
  · have := Nat.mul_le_mul_left (b ^ i) h
    rw [Nat.mul_succ] at this
    rw [if_pos (by omega), if_pos (by omega)]
  · rw [h, hbi]
    by_cases h3 : p < q
    · rw [if_pos h3, if_pos (by omega), if_pos (by omega)]
    · rw [if_neg h3, if_neg (by omega), if_neg (by omega)]
  · have := Nat.mul_le_mul_left (b ^ i) h
    rw [Nat.mul_succ] at this
    have h4 := bor_le b x y i
    rw [if_neg (by omega), if_neg (by omega)]
theorem dgt_sub {b : Nat} (hb : 2 ≤ b) (x y i : Nat) (h : y ≤ x) : dgt b (x - y) i = (dgt b x i + b - dgt b y i - bor b x y i) % b := by
  obtain ⟨z, rfl⟩ : ∃ z, x = y + z := ⟨x - y, by omega⟩
  rw [Nat.add_sub_cancel_left, dgt_add (by omega)]
  have hc : bor b (y + z) y i = car b y z i := by
    rw [bor_def, car_def]
    have h1 : y % b ^ i < b ^ i := Nat.mod_lt _ (Nat.pow_pos (by omega))
    have h2 : z % b ^ i < b ^ i := Nat.mod_lt _ (Nat.pow_pos (by omega))
    rw [Nat.add_mod]
    generalize y % b ^ i = p at *
    generalize z % b ^ i = q at *
    by_cases h3 : p + q < b ^ i
    · rw [Nat.mod_eq_of_lt h3, Nat.div_eq_of_lt h3, if_neg (by omega)]
    · have e : (p + q) % b ^ i = p + q - b ^ i := by rw [Nat.mod_eq_sub_mod (by omega), Nat.mod_eq_of_lt (by omega)]
      have e2 : (p + q) / b ^ i = 1 := by
        rw [Nat.div_eq_of_lt_le] <;> omega
      rw [e, e2, if_pos (by omega)]
  rw [hc]
  have h1 := dgt_lt (b := b) (by omega) y i
  have h2 := dgt_lt (b := b) (by omega) z i
  have h3 := car_le (b := b) (by omega) y z i
  by_cases h4 : dgt b y i + dgt b z i + car b y z i < b
  · rw [Nat.mod_eq_of_lt h4]
    rw [show dgt b y i + dgt b z i + car b y z i + b - dgt b y i - car b y z i = dgt b z i + b by omega, Nat.add_mod_right, Nat.mod_eq_of_lt h2]
  · have e : (dgt b y i + dgt b z i + car b y z i) % b = dgt b y i + dgt b z i + car b y z i - b := by rw [Nat.mod_eq_sub_mod (by omega), Nat.mod_eq_of_lt (by omega)]
    rw [e, show dgt b y i + dgt b z i + car b y z i - b + b - dgt b y i - car b y z i = dgt b z i by omega, Nat.mod_eq_of_lt h2]
theorem bor_last {b : Nat} (hb : 2 ≤ b) (x y L : Nat) (hx : x < b ^ L) (hy : y < b ^ L) : bor b x y L = if x < y then 1 else 0 := by
  rw [bor_def, Nat.mod_eq_of_lt hx, Nat.mod_eq_of_lt hy]
end Nt
