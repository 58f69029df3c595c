/- Plain facts: sums, differences, products digit by digit to the base 256. -/
import Derived.Test.YtjcicbnjoffbhaaN2
set_option linter.unusedSimpArgs false
set_option linter.unusedVariables false
namespace Nt

theorem plus_end {x y k : Nat} (hx : nd 256 x ≤ k) (hy : nd 256 y ≤ k) (hc : car 256 x y k = 0) : of 256 (dl 256 (x + y) k) = x + y := by
  have h1 := (lt_pow_iff (b := 256) (by omega) k x).2 hx
  have h2 := (lt_pow_iff (b := 256) (by omega) k y).2 hy
  rw [car_def, Nat.mod_eq_of_lt h1, Nat.mod_eq_of_lt h2] at hc
  rw [of_dl]
  exact Nat.mod_eq_of_lt ((Nat.div_eq_zero_iff_lt (Nat.pow_pos (by omega))).1 hc)
theorem car_far {x y k : Nat} (hx : nd 256 x < k) (hy : nd 256 y < k) : car 256 x y k = 0 := by
  obtain ⟨m, rfl⟩ : ∃ m, k = m + 1 := ⟨k - 1, by omega⟩
  rw [car_succ (by omega), dgt_big (b := 256) (by omega) (show nd 256 x ≤ m by omega), dgt_big (b := 256) (by omega) (show nd 256 y ≤ m by omega)]
  have := car_le (b := 256) (by omega) x y m
  omega
theorem dl_lt256 (n k : Nat) : ∀ x ∈ dl 256 n k, x < 256 := fun x hx => by
  obtain ⟨i, hi, rfl⟩ := List.getElem_of_mem hx
  rw [dl_length] at hi
  have e := dl_get? 256 n k i hi
  rw [List.getElem?_eq_getElem (by rw [dl_length]; exact hi)] at e
  rw [Option.some.inj e]
  exact dgt_lt (by omega) _ _
theorem dl_get (b n L i : Nat) (h : i < (dl b n L).length) : (dl b n L)[i] = dgt b n i := by
  have e := dl_get? b n L i (by rwa [dl_length] at h)
  rw [List.getElem?_eq_getElem h] at e
  exact Option.some.inj e
/-- A digit of a difference, by Go's steps. -/
theorem sub_step (x y k : Nat) (h : y ≤ x) :
    (dgt 256 x k < dgt 256 y k + bor 256 x y k → dgt 256 (x - y) k + dgt 256 y k + bor 256 x y k = dgt 256 x k + 256 ∧ bor 256 x y (k + 1) = 1) ∧
    (¬ dgt 256 x k < dgt 256 y k + bor 256 x y k → dgt 256 (x - y) k + dgt 256 y k + bor 256 x y k = dgt 256 x k ∧ bor 256 x y (k + 1) = 0) := by
  have h1 := dgt_sub (b := 256) (by omega) x y k h
  have h2 := bor_succ (b := 256) (by omega) x y k
  have h3 := bor_le 256 x y k
  have h4 := dgt_lt (b := 256) (by omega) x k
  have h5 := dgt_lt (b := 256) (by omega) y k
  refine ⟨fun c => ?_, fun c => ?_⟩
  · rw [if_pos c] at h2
    exact ⟨by omega, h2⟩
  · rw [if_neg c] at h2
    exact ⟨by omega, h2⟩
theorem sub_end {x y : Nat} (h : y ≤ x) : of 256 (dl 256 (x - y) (nd 256 x)) = x - y := by
  rw [of_dl]
  exact Nat.mod_eq_of_lt (Nat.lt_of_le_of_lt (Nat.sub_le _ _) (lt_nd (by omega)))
/-- The rows of a product so far: Z with what is carried. -/
def tms (x y i k Z more : Nat) : Prop := Z + 256 ^ (i + k) * more = x % 256 ^ i * y + 256 ^ i * (dgt 256 x i * (y % 256 ^ k))
theorem tms_first (x y i : Nat) : tms x y i 0 (x % 256 ^ i * y) 0 := by
  unfold tms; rw [Nat.pow_zero, Nat.mod_one, Nat.mul_zero, Nat.mul_zero, Nat.mul_zero]
theorem tms_step {x y i k Z more s : Nat} (h : tms x y i k Z more) (hs : s = more + dgt 256 Z (i + k) + dgt 256 x i * dgt 256 y k) :
    tms x y i (k + 1) (put 256 Z (i + k) (s % 256)) (s / 256) := by
  unfold tms at h ⊢
  have h1 := put_eq (b := 256) Z (i + k) (s % 256) (by omega)
  have h2 := Nat.mod_add_div s 256
  rw [mod_succ, Nat.mul_add, Nat.mul_add, show i + (k + 1) = (i + k) + 1 by omega, Nat.pow_succ]
  have h3 : 256 ^ (i + k) * s = 256 ^ (i + k) * more + 256 ^ (i + k) * dgt 256 Z (i + k) + 256 ^ (i + k) * (dgt 256 x i * dgt 256 y k) := by rw [hs, Nat.mul_add, Nat.mul_add]
  have h4 : 256 ^ (i + k) * s = 256 ^ (i + k) * (s % 256) + 256 ^ (i + k) * 256 * (s / 256) := by
    rw [Nat.mul_assoc, ← Nat.mul_add, h2]
  have h5 : 256 ^ i * (dgt 256 x i * (256 ^ k * dgt 256 y k)) = 256 ^ (i + k) * (dgt 256 x i * dgt 256 y k) := by
    rw [Nat.pow_add, Nat.mul_left_comm (dgt 256 x i), Nat.mul_assoc]
  rw [h5]
  omega
theorem tms_last {x y i k Z : Nat} (h : tms x y i k Z 0) (hk : nd 256 y ≤ k) : Z = x % 256 ^ (i + 1) * y := by
  unfold tms at h
  rw [Nat.mul_zero, Nat.add_zero, Nat.mod_eq_of_lt ((lt_pow_iff (b := 256) (by omega) k y).2 hk)] at h
  rw [h, mod_succ, Nat.add_mul, Nat.mul_assoc]
theorem tms_more {x y i k Z more : Nat} (h : tms x y i k Z more) (hk : nd 256 y ≤ k) (hm : more ≠ 0) : k ≤ nd 256 y := by
  unfold tms at h
  have hy := (lt_pow_iff (b := 256) (by omega) k y).2 hk
  rw [Nat.mod_eq_of_lt hy] at h
  have h1 : x % 256 ^ i * y + 256 ^ i * (dgt 256 x i * y) = x % 256 ^ (i + 1) * y := by rw [mod_succ, Nat.add_mul, Nat.mul_assoc]
  have h2 : x % 256 ^ (i + 1) < 256 ^ (i + 1) := Nat.mod_lt _ (Nat.pow_pos (by omega))
  have h3 : y < 256 ^ nd 256 y := lt_nd (by omega)
  have h4 : x % 256 ^ (i + 1) * y < 256 ^ (i + 1) * 256 ^ nd 256 y := Nat.mul_lt_mul'' h2 h3
  have h5 : 256 ^ (i + k) * 1 ≤ 256 ^ (i + k) * more := Nat.mul_le_mul_left _ (by omega)
  rw [← Nat.pow_add] at h4
  have h6 : 256 ^ (i + k) < 256 ^ (i + 1 + nd 256 y) := by omega
  have := (Nat.pow_lt_pow_iff_right (by omega : 1 < 256)).1 h6
  omega
theorem tms_next {more d x y : Nat} (hm : more ≤ 255) (hd : d < 256) (hx : x < 256) (hy : y < 256) : more + d + x * y ≤ 65535 ∧ (more + d + x * y) / 256 ≤ 255 ∧ x * y ≤ 65025 := by
  have h : x * y ≤ 255 * 255 := Nat.mul_le_mul (by omega) (by omega)
  omega
theorem tms_all (x y : Nat) : x % 256 ^ nd 256 x * y = x * y := by rw [Nat.mod_eq_of_lt (lt_nd (by omega))]
theorem tms_fits (x y : Nat) : of 256 (dl 256 (x * y) (nd 256 x + nd 256 y + 1)) = x * y := by
  rw [of_dl]
  refine Nat.mod_eq_of_lt ?_
  have h := Nat.mul_lt_mul'' (lt_nd (b := 256) (n := x) (by omega)) (lt_nd (b := 256) (n := y) (by omega))
  rw [← Nat.pow_add] at h
  exact Nat.lt_of_lt_of_le h (Nat.pow_le_pow_right (by omega) (by omega))
theorem two_of (n : Nat) : of 256 ((List.range (n / 8 + 1)).map fun j => if j = n / 8 then 2 ^ (n % 8) else 0) = 2 ^ n := by
  rw [List.range_succ, List.map_append, of_append]
  have h : of 256 ((List.range (n / 8)).map fun j => if j = n / 8 then 2 ^ (n % 8) else 0) = 0 := by
    have : ∀ m, m ≤ n / 8 → of 256 ((List.range m).map fun j => if j = n / 8 then 2 ^ (n % 8) else 0) = 0 := by
      intro m
      induction m with
      | zero => intro _; rfl
      | succ m ih =>
        intro hm
        rw [List.range_succ, List.map_append, of_append, ih (by omega), List.map_singleton]
        rw [show (if m = n / 8 then 2 ^ (n % 8) else 0) = 0 from if_neg (by omega)]
        simp [of_cons, of_nil]
    exact this _ (Nat.le_refl _)
  rw [h, List.length_map, List.length_range]
  simp only [List.map_cons, List.map_nil, if_true, of_cons, of_nil, Nat.mul_zero, Nat.add_zero, Nat.zero_add]
  rw [show (256 : Nat) = 2 ^ 8 by rfl, ← Nat.pow_mul, ← Nat.pow_add]
  congr 1
  omega
end Nt
