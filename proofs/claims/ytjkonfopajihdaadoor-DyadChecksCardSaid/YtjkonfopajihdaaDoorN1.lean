/- Plain facts about numbers by their digits: products, shifts, division by one digit. -/
import Derived.Test.YtjkonfopajihdaaDoorN0
set_option linter.unusedSimpArgs false
set_option linter.unusedVariables false
namespace Nt

theorem put_eq {b : Nat} (n i v : Nat) (hb : 0 < b) : put b n i v + b ^ i * dgt b n i = n + b ^ i * v := by
  have h := Nat.mod_add_div n (b ^ i)
  rw [div_eq_dgt hb, Nat.mul_add] at h
  unfold put
  rw [Nat.mul_add]; omega
theorem put_lt {b : Nat} (hb : 2 ≤ b) {n i v L : Nat} (hv : v < b) (hn : n < b ^ L) (hi : i < L) : put b n i v < b ^ L := by
  have hp : 0 < b ^ L := Nat.pow_pos (by omega)
  have : put b n i v % b ^ L = put b n i v := by
    unfold put
    obtain ⟨d, rfl⟩ : ∃ d, L = i + (1 + d) := ⟨L - i - 1, by omega⟩
    apply Nat.mod_eq_of_lt
    have h1 : n % b ^ i < b ^ i := Nat.mod_lt _ (Nat.pow_pos (by omega))
    have h2 : n / b ^ (i + 1) < b ^ d := by
      rw [Nat.div_lt_iff_lt_mul (Nat.pow_pos (by omega)), ← Nat.pow_add]; rwa [show d + (i + 1) = i + (1 + d) by omega]
    have e1 : b ^ (i + (1 + d)) = b ^ i * (b * b ^ d) := by rw [Nat.pow_add, Nat.pow_add, Nat.pow_one]
    rw [e1]
    generalize n / b ^ (i + 1) = q at *
    generalize n % b ^ i = p at *
    generalize b ^ d = s at *
    generalize b ^ i = t at *
    have h3 : v + b * q < b * s := by
      have : b * (q + 1) ≤ b * s := Nat.mul_le_mul_left _ h2
      rw [Nat.mul_add] at this; omega
    have h4 : t * (v + b * q + 1) ≤ t * (b * s) := Nat.mul_le_mul_left _ h3
    rw [Nat.mul_add _ _ 1] at h4; omega
  rw [← this]; exact Nat.mod_lt _ hp
theorem put_new {b : Nat} (n i v : Nat) (hb : 0 < b) (h : dgt b n i = 0) : put b n i v = n + b ^ i * v := by
  have := put_eq n i v hb; rw [h] at this; omega
theorem mod_lt_pow {b : Nat} (hb : 0 < b) (n i : Nat) : n % b ^ i < b ^ i := Nat.mod_lt _ (Nat.pow_pos hb)
theorem dgt_mod_ge {b : Nat} (hb : 2 ≤ b) (n i : Nat) : dgt b (n % b ^ i) i = 0 := dgt_of_lt hb (mod_lt_pow (by omega) n i) (Nat.le_refl _)
theorem put_mod {b : Nat} (hb : 2 ≤ b) (n i : Nat) : put b (n % b ^ i) i (dgt b n i) = n % b ^ (i + 1) := by
  rw [put_new _ _ _ (by omega) (dgt_mod_ge hb n i), mod_succ]

/-! A number times a digit, and one more. -/
@[irreducible] def mca (b x y m i : Nat) : Nat := (x % b ^ i * y + m) / b ^ i
theorem mca_def (b x y m i : Nat) : mca b x y m i = (x % b ^ i * y + m) / b ^ i := by unfold mca; rfl
theorem mca_zero (b x y m : Nat) : mca b x y m 0 = m := by rw [mca_def]; simp [Nat.mod_one]
theorem mca_succ {b : Nat} (hb : 0 < b) (x y m i : Nat) : mca b x y m (i + 1) = (dgt b x i * y + mca b x y m i) / b := by
  rw [mca_def, mca_def, mod_succ, Nat.add_mul, Nat.pow_succ, ← Nat.div_div_eq_div_mul]
  rw [show x % b ^ i * y + b ^ i * dgt b x i * y + m = (x % b ^ i * y + m) + b ^ i * (dgt b x i * y) by rw [Nat.mul_assoc]; omega, Nat.add_mul_div_left _ _ (Nat.pow_pos hb)]
  congr 1; omega
theorem mca_lt {b : Nat} (hb : 0 < b) (x y m i : Nat) (hy : y < b) (hm : m < b) : mca b x y m i < b := by
  rw [mca_def, Nat.div_lt_iff_lt_mul (Nat.pow_pos hb)]
  have h1 := mod_lt_pow hb x i
  have h2 : x % b ^ i * y ≤ x % b ^ i * (b - 1) := Nat.mul_le_mul_left _ (by omega)
  have h3 : (x % b ^ i + 1) * (b - 1) ≤ b ^ i * (b - 1) := Nat.mul_le_mul_right _ h1
  rw [Nat.add_mul, Nat.one_mul] at h3
  have h4 : b ^ i * (b - 1) + b ^ i = b * b ^ i := by
    rw [Nat.mul_comm b, ← Nat.mul_succ]; congr 1; omega
  have := Nat.pow_pos (n := i) hb
  omega
theorem dgt_mca {b : Nat} (hb : 0 < b) (x y m i : Nat) : dgt b (x * y + m) i = (dgt b x i * y + mca b x y m i) % b := by
  have e : x * y + m = (x % b ^ i * y + m) + b ^ i * (x / b ^ i * y) := by
    have h1 := Nat.mod_add_div x (b ^ i)
    have h2 : x * y = (x % b ^ i + b ^ i * (x / b ^ i)) * y := by rw [h1]
    rw [h2, Nat.add_mul, Nat.mul_assoc]; omega
  rw [dgt_def, e, Nat.add_mul_div_left _ _ (Nat.pow_pos hb), mca_def, dgt_def]
  rw [Nat.add_comm]
  simp [Nat.add_mod, Nat.mul_mod]
theorem mca_last {b : Nat} (hb : 2 ≤ b) (x y m L : Nat) (hx : x < b ^ L) (hy : y < b) (hm : m < b) : mca b x y m L = dgt b (x * y + m) L := by
  rw [dgt_mca (by omega), dgt_of_lt hb hx (Nat.le_refl _), Nat.zero_mul, Nat.zero_add, Nat.mod_eq_of_lt (mca_lt (by omega) _ _ _ _ hy hm)]
/-- Two halves of a product and a number more. -/
theorem two_mod (b p m : Nat) : (p % b + m) % b = (p + m) % b := by simp [Nat.add_mod]
theorem two_div {b : Nat} (hb : 0 < b) (p m : Nat) : p / b + (p % b + m) / b = (p + m) / b := by
  have h := Nat.mod_add_div p b
  have : p + m = (p % b + m) + b * (p / b) := by omega
  rw [this, Nat.add_mul_div_left _ _ hb]; omega
theorem prod_lt {b w v : Nat} (hw : w < b) (hv : v < b) : w * v + b + b ≤ b * b + 1 := by
  have h1 : (w + 1) * (v + 1) ≤ b * b := Nat.mul_le_mul hw hv
  have h2 : w * v ≤ (b - 1) * (b - 1) := Nat.mul_le_mul (by omega) (by omega)
  have h3 : (b - 1) * (b - 1) + (b - 1) = (b - 1) * b := by rw [← Nat.mul_succ]; congr 1; omega
  have h4 : (b - 1) * b + b = b * b := by rw [← Nat.succ_mul]; congr 1; omega
  omega

/-! Division by one digit. -/
theorem take_rest {b : Nat} (hb : 0 < b) (x y i : Nat) : ((x / b ^ (i + 1)) % y * b + dgt b x i) % y = x / b ^ i % y := by
  rw [div_eq_dgt hb x i]
  rw [Nat.add_comm, Nat.mul_comm b]
  simp [Nat.add_mod, Nat.mul_mod]
theorem take_quo {b : Nat} (hb : 0 < b) (x y i : Nat) (hy : 0 < y) : ((x / b ^ (i + 1)) % y * b + dgt b x i) / y = dgt b (x / y) i := by
  have h1 := dgt_lt hb x i
  have h2 : x / b ^ (i + 1) % y < y := Nat.mod_lt _ hy
  rw [dgt_def b (x / y), Nat.div_div_eq_div_mul, Nat.mul_comm y, ← Nat.div_div_eq_div_mul, div_eq_dgt hb x i]
  have h3 := Nat.mod_add_div (x / b ^ (i + 1)) y
  generalize x / b ^ (i + 1) = X at *
  generalize dgt b x i = d at *
  have e : d + b * X = (X % y * b + d) + y * (b * (X / y)) := by
    have : b * X = b * (X % y + y * (X / y)) := by rw [h3]
    rw [this, Nat.mul_add, Nat.mul_left_comm, Nat.mul_comm b (X % y)]; omega
  have h4 : (X % y * b + d) / y < b := by
    rw [Nat.div_lt_iff_lt_mul hy]
    have : (X % y + 1) * b ≤ y * b := Nat.mul_le_mul_right _ h2
    rw [Nat.add_mul] at this; rw [Nat.mul_comm b y]; omega
  rw [e, Nat.add_mul_div_left _ _ hy, Nat.add_mul_mod_self_left, Nat.mod_eq_of_lt h4]

/-! Shifts: the base is two to the power e. -/
theorem pow_pow (e i : Nat) : (2 ^ e) ^ i = 2 ^ (e * i) := (Nat.pow_mul ..).symm
theorem dgt_shr {e : Nat} (x s i : Nat) (hs : s ≤ e) : dgt (2 ^ e) (x / 2 ^ s) i = dgt (2 ^ e) x i / 2 ^ s + dgt (2 ^ e) x (i + 1) * 2 ^ (e - s) % 2 ^ e := by
  have hb : 0 < 2 ^ e := Nat.two_pow_pos e
  have h1 := dgt_lt hb x i
  have h2 := div_eq_dgt hb x i
  have h3 := div_eq_dgt hb x (i + 1)
  have e1 : x / 2 ^ s / (2 ^ e) ^ i = x / (2 ^ e) ^ i / 2 ^ s := by rw [Nat.div_div_eq_div_mul, Nat.div_div_eq_div_mul, Nat.mul_comm]
  rw [dgt_def (2 ^ e) (x / 2 ^ s), e1, h2]
  generalize dgt (2 ^ e) x i = d at *
  have he : 2 ^ e = 2 ^ s * 2 ^ (e - s) := by rw [← Nat.pow_add]; congr 1; omega
  have e2 : d + 2 ^ e * (x / (2 ^ e) ^ (i + 1)) = d + 2 ^ s * (2 ^ (e - s) * (x / (2 ^ e) ^ (i + 1))) := by rw [← Nat.mul_assoc, ← he]
  rw [e2, Nat.add_mul_div_left _ _ (Nat.two_pow_pos s), h3]
  have h4 : d / 2 ^ s < 2 ^ (e - s) := by
    rw [Nat.div_lt_iff_lt_mul (Nat.two_pow_pos s), Nat.mul_comm, ← he]; exact h1
  generalize dgt (2 ^ e) x (i + 1) = c at *
  generalize d / 2 ^ s = f at *
  rw [Nat.mul_add, ← Nat.mul_assoc, Nat.mul_comm (2 ^ (e - s)) (2 ^ e), Nat.mul_assoc, ← Nat.add_assoc, Nat.add_mul_mod_self_left]
  have h5 : 2 ^ (e - s) * c % 2 ^ e = 2 ^ (e - s) * (c % 2 ^ s) := by
    have : 2 ^ e = 2 ^ (e - s) * 2 ^ s := by rw [Nat.mul_comm]; exact he
    rw [this, Nat.mul_mod_mul_left]
  rw [Nat.mul_comm c, h5, Nat.add_mod, h5]
  have h6 : c % 2 ^ s < 2 ^ s := Nat.mod_lt _ (Nat.two_pow_pos s)
  have h7 : 2 ^ (e - s) * (c % 2 ^ s + 1) ≤ 2 ^ (e - s) * 2 ^ s := Nat.mul_le_mul_left _ h6
  rw [Nat.mul_add, Nat.mul_comm (2 ^ (e - s)) (2 ^ s), ← he] at h7
  have h8 : 2 ^ (e - s) ≤ 2 ^ e := Nat.pow_le_pow_right (by omega) (by omega)
  rw [Nat.mod_eq_of_lt (a := f) (by omega), Nat.mod_eq_of_lt]; omega
theorem dgt_skip {b : Nat} (x k i : Nat) : dgt b (x / b ^ k) i = dgt b x (i + k) := by
  rw [dgt_def, dgt_def, Nat.div_div_eq_div_mul, ← Nat.pow_add, Nat.add_comm]
theorem or_add (x y s : Nat) (hx : x < 2 ^ s) : x ||| (2 ^ s * y) = x + 2 ^ s * y := by
  rw [Nat.or_comm, Nat.add_comm, Nat.two_pow_add_eq_or_of_lt hx]
/-- A digit to a base inside a digit to a power of it. -/
theorem dgt_in {b e : Nat} (hb : 0 < b) (n i j : Nat) (hj : j < e) : dgt b (dgt (b ^ e) n i) j = dgt b n (e * i + j) := by
  rw [dgt_def (b ^ e), dgt_mod _ hj, ← Nat.pow_mul, dgt_skip, Nat.add_comm]
/-- A step of a shift to the left: the base is two to the power e. -/
theorem shl_step {e : Nat} (x k q r : Nat) (hr : r ≤ e) :
    let b := 2 ^ e
    let V := x % b ^ k * 2 ^ r * b ^ q
    let D := dgt b x k
    (dgt b V (k + q) ||| (D * 2 ^ r % b)) = dgt b V (k + q) + D * 2 ^ r % b ∧ dgt b V (k + q) + D * 2 ^ r % b < b ∧
    dgt b (put b V (k + q) (dgt b V (k + q) + D * 2 ^ r % b)) (k + q + 1) = 0 ∧ D / 2 ^ (e - r) < b ∧
    put b (put b V (k + q) (dgt b V (k + q) + D * 2 ^ r % b)) (k + q + 1) (D / 2 ^ (e - r)) = x % b ^ (k + 1) * 2 ^ r * b ^ q := by
  intro b V D
  have hb0 : 0 < b := Nat.two_pow_pos e
  rcases Nat.eq_zero_or_pos e with he0 | he0
  · subst he0
    have hr0 : r = 0 := by omega
    subst hr0
    have hb1 : b = 1 := rfl
    have hD : D = 0 := by show dgt b x k = 0; rw [dgt_def, hb1, Nat.mod_one]
    have hV : V = 0 := by show x % b ^ k * 2 ^ 0 * b ^ q = 0; rw [hb1]; simp [Nat.mod_one]
    have hd : ∀ n i, dgt b n i = 0 := fun n i => by rw [dgt_def, hb1, Nat.mod_one]
    refine ⟨by rw [hd, hD]; simp, by rw [hd, hD, hb1]; simp, hd _ _, by rw [hD, hb1]; simp, ?_⟩
    rw [hd, hD, hV]
    unfold put
    simp [hb1, Nat.mod_one]
  have hb : 2 ≤ b := by
    show 2 ≤ 2 ^ e
    have : 2 ^ 1 ≤ 2 ^ e := Nat.pow_le_pow_right (by omega) he0
    simpa using this
  have hbe : b = 2 ^ r * 2 ^ (e - r) := by show 2 ^ e = _; rw [← Nat.pow_add]; congr 1; omega
  have hm := mod_lt_pow hb0 x k
  have hDb : D < b := dgt_lt hb0 x k
  have hVq : V = x % b ^ k * 2 ^ r * b ^ q := rfl
  have hVlt : x % b ^ k * 2 ^ r < b ^ k * 2 ^ r := (Nat.mul_lt_mul_right (Nat.two_pow_pos r)).2 hm
  have hh : dgt b V (k + q) = x % b ^ k * 2 ^ r / b ^ k := by
    rw [dgt_def, hVq, Nat.pow_add, ← Nat.div_div_eq_div_mul, Nat.div_div_eq_div_mul, Nat.mul_comm (b ^ k), ← Nat.div_div_eq_div_mul, Nat.mul_div_cancel _ (Nat.pow_pos hb0), Nat.mod_eq_of_lt]
    rw [Nat.div_lt_iff_lt_mul (Nat.pow_pos hb0)]
    refine Nat.lt_of_lt_of_le hVlt ?_
    rw [Nat.mul_comm]; exact Nat.mul_le_mul_right _ (Nat.pow_le_pow_right (by omega) hr)
  have hhr : dgt b V (k + q) < 2 ^ r := by
    rw [hh, Nat.div_lt_iff_lt_mul (Nat.pow_pos hb0), Nat.mul_comm (2 ^ r)]; exact hVlt
  have hlow : D * 2 ^ r % b = 2 ^ r * (D % 2 ^ (e - r)) := by rw [hbe, Nat.mul_comm D, Nat.mul_mod_mul_left]
  have hhi : D / 2 ^ (e - r) = D * 2 ^ r / b := by
    rw [hbe, Nat.mul_comm D, Nat.mul_div_mul_left _ _ (Nat.two_pow_pos r)]
  have hsum : dgt b V (k + q) + D * 2 ^ r % b < b := by
    rw [hlow]
    have h1 : D % 2 ^ (e - r) < 2 ^ (e - r) := Nat.mod_lt _ (Nat.two_pow_pos _)
    have h2 : 2 ^ r * (D % 2 ^ (e - r) + 1) ≤ 2 ^ r * 2 ^ (e - r) := Nat.mul_le_mul_left _ h1
    rw [← hbe, Nat.mul_add] at h2; omega
  have hVM : V < b ^ (k + q + 1) := by
    rw [hVq, Nat.pow_succ, Nat.pow_add, Nat.mul_right_comm (b ^ k)]
    refine (Nat.mul_lt_mul_right (Nat.pow_pos hb0)).2 (Nat.lt_of_lt_of_le hVlt (Nat.mul_le_mul_left _ (Nat.pow_le_pow_right (by omega) hr)))
  have hz : dgt b (put b V (k + q) (dgt b V (k + q) + D * 2 ^ r % b)) (k + q + 1) = 0 := by
    rw [dgt_put hb _ _ _ _ hsum, if_neg (by omega)]; exact dgt_of_lt hb hVM (Nat.le_refl _)
  refine ⟨?_, hsum, hz, Nat.lt_of_le_of_lt (Nat.div_le_self _ _) hDb, ?_⟩
  · rw [hlow]; exact or_add _ _ _ hhr
  · rw [put_new _ _ _ hb0 hz]
    have h1 := put_eq V (k + q) (dgt b V (k + q) + D * 2 ^ r % b) hb0
    rw [Nat.mul_add] at h1
    have h2 : put b V (k + q) (dgt b V (k + q) + D * 2 ^ r % b) = V + b ^ (k + q) * (D * 2 ^ r % b) := by omega
    rw [h2, hhi, Nat.pow_succ, Nat.add_assoc, Nat.mul_assoc, ← Nat.mul_add, Nat.mod_add_div]
    rw [mod_succ, Nat.add_mul, Nat.add_mul, hVq, Nat.pow_add]
    congr 1
    show b ^ k * b ^ q * (D * 2 ^ r) = b ^ k * D * 2 ^ r * b ^ q
    rw [Nat.mul_assoc, Nat.mul_assoc, Nat.mul_assoc, Nat.mul_comm (b ^ q), Nat.mul_assoc]
end Nt
