/- Plain facts: a division of two words by one (Knuth's way by half words). -/
import Derived.Test.YtjkonfopajihdaaDoorN2
set_option linter.unusedSimpArgs false
set_option linter.unusedVariables false
namespace Nt

/-- What holds of a guess and its rest. -/
def Gss (u c yh yl q r : Nat) : Prop := u = q * yh + r ∧ (u * 4294967296 + c) / (yh * 4294967296 + yl) ≤ q ∧ q ≤ 4294967297 ∧ r < 4294967296
section
variable {u c yh yl q r : Nat}
theorem gss_start (hu : u < yh * 4294967296 + yl) (hc : c < 4294967296) (hl : yl < 4294967296) (h1 : 2147483648 ≤ yh) (h2 : yh < 4294967296) : Gss u c yh yl (u / yh) (u - u / yh * yh) := by
  have hd := Nat.div_add_mod u yh
  have hm := Nat.mod_lt u (show 0 < yh by omega)
  rw [Nat.mul_comm] at hd
  refine ⟨by omega, ?_, ?_, by omega⟩
  · rw [Nat.le_div_iff_mul_le (by omega)]
    have h3 := Nat.div_mul_le_self (u * 4294967296 + c) (yh * 4294967296 + yl)
    generalize (u * 4294967296 + c) / (yh * 4294967296 + yl) = Q at *
    rw [Nat.mul_add, ← Nat.mul_assoc] at h3
    generalize Q * yh = p at *
    have := Nat.zero_le (Q * yl)
    omega
  · have h3 : u / yh < 4294967298 := by
      rw [Nat.div_lt_iff_lt_mul (by omega)]; omega
    omega
theorem gss_more (h : Gss u c yh yl q r) (hu : u < yh * 4294967296 + yl) (hc : c < 4294967296) (h2 : yh < 4294967296) (ht : 4294967296 ≤ q ∨ 4294967296 * r + c < q * yl) : (u * 4294967296 + c) / (yh * 4294967296 + yl) < q := by
  obtain ⟨e, _, _, hr⟩ := h
  rw [Nat.div_lt_iff_lt_mul (by omega)]
  rcases ht with ht | ht
  · have : 4294967296 * (yh * 4294967296 + yl) ≤ q * (yh * 4294967296 + yl) := Nat.mul_le_mul_right _ ht
    omega
  · rw [Nat.mul_add, ← Nat.mul_assoc]
    generalize q * yh = p at *
    generalize q * yl = o at *
    omega
theorem gss_next (h : Gss u c yh yl q r) (hu : u < yh * 4294967296 + yl) (hc : c < 4294967296) (h2 : yh < 4294967296) (ht : 4294967296 ≤ q ∨ 4294967296 * r + c < q * yl) :
    1 ≤ q ∧ u = (q - 1) * yh + (r + yh) ∧ (u * 4294967296 + c) / (yh * 4294967296 + yl) ≤ q - 1 ∧ q - 1 ≤ 4294967296 := by
  have hm := gss_more h hu hc h2 ht
  obtain ⟨e, _, hq, hr⟩ := h
  generalize (u * 4294967296 + c) / (yh * 4294967296 + yl) = Q at *
  refine ⟨by omega, ?_, by omega, by omega⟩
  obtain ⟨p, rfl⟩ : ∃ p, q = p + 1 := ⟨q - 1, by omega⟩
  rw [Nat.add_sub_cancel, e, Nat.add_mul]; omega
theorem gss_end (e : u = q * yh + r) (hQ : (u * 4294967296 + c) / (yh * 4294967296 + yl) ≤ q) (hy : 0 < yh) (ht : q * yl ≤ 4294967296 * r + c) : q = (u * 4294967296 + c) / (yh * 4294967296 + yl) := by
  apply Nat.le_antisymm _ hQ
  rw [Nat.le_div_iff_mul_le (by omega), Nat.mul_add, ← Nat.mul_assoc]
  clear hQ
  generalize q * yh = p at *
  generalize q * yl = o at *
  omega
theorem gss_far (hq : q ≤ 4294967296) (hl : yl < 4294967296) (hr : 4294967296 ≤ r) : q * yl ≤ 4294967296 * r + c := by
  have h1 : q * yl ≤ 4294967296 * yl := Nat.mul_le_mul_right _ hq
  have h2 : 4294967296 * yl ≤ 4294967296 * r := Nat.mul_le_mul_left _ (by omega)
  omega
end
/-- Two digits of a quotient, one behind the other. -/
theorem two_stepsB (B u c d y : Nat) (hy : 0 < y) (hd : d < B) :
    (u * B + c) / y * B + ((u * B + c) % y * B + d) / y = (u * (B * B) + (c * B + d)) / y ∧
    ((u * B + c) % y * B + d) % y = (u * (B * B) + (c * B + d)) % y := by
  have h := Nat.div_add_mod (u * B + c) y
  generalize hQ : (u * B + c) / y = Q at *
  generalize hR : (u * B + c) % y = R at *
  have e : u * (B * B) + (c * B + d) = (R * B + d) + y * (Q * B) := by
    rw [← Nat.mul_assoc, ← Nat.mul_assoc, ← Nat.add_assoc, ← Nat.add_mul, ← h, Nat.add_mul]
    omega
  rw [e, Nat.add_mul_div_left _ _ hy, Nat.add_mul_mod_self_left]
  exact ⟨Nat.add_comm _ _, rfl⟩
theorem two_steps (u c d y : Nat) (hy : 0 < y) (hd : d < 4294967296) :
    (u * 4294967296 + c) / y * 4294967296 + ((u * 4294967296 + c) % y * 4294967296 + d) / y = (u * 18446744073709551616 + (c * 4294967296 + d)) / y ∧
    ((u * 4294967296 + c) % y * 4294967296 + d) % y = (u * 18446744073709551616 + (c * 4294967296 + d)) % y :=
  two_stepsB 4294967296 u c d y hy hd
/-- The divisor and the number times the same power. -/
theorem scale_div (x y p : Nat) (hp : 0 < p) : x * p / (y * p) = x / y ∧ x * p % (y * p) / p = x % y := by
  refine ⟨Nat.mul_div_mul_right _ _ hp, ?_⟩
  rw [Nat.mul_mod_mul_right, Nat.mul_div_cancel _ hp]
/-- The highest words of a number that is shifted. -/
theorem shl_two (hi lo s : Nat) (hs : s ≤ 64) (hlo : lo < 18446744073709551616) (hhi : hi * 2 ^ s < 18446744073709551616) :
    (hi * 2 ^ s) ||| (lo / 2 ^ (64 - s)) = hi * 2 ^ s + lo / 2 ^ (64 - s) ∧ hi * 2 ^ s + lo / 2 ^ (64 - s) < 18446744073709551616 ∧
    (hi * 2 ^ s + lo / 2 ^ (64 - s)) * 18446744073709551616 + lo * 2 ^ s % 18446744073709551616 = (hi * 18446744073709551616 + lo) * 2 ^ s := by
  have e : (18446744073709551616 : Nat) = 2 ^ s * 2 ^ (64 - s) := by
    rw [← Nat.pow_add, show s + (64 - s) = 64 by omega]
  have h1 : lo / 2 ^ (64 - s) < 2 ^ s := by
    rw [Nat.div_lt_iff_lt_mul (Nat.two_pow_pos _), ← e]; exact hlo
  have h2 : hi * 2 ^ s + lo / 2 ^ (64 - s) < 18446744073709551616 := by
    rw [e] at hhi ⊢
    rw [Nat.mul_comm] at hhi
    have := (Nat.mul_lt_mul_left (Nat.two_pow_pos s)).1 hhi
    have h3 : 2 ^ s * (hi + 1) ≤ 2 ^ s * 2 ^ (64 - s) := Nat.mul_le_mul_left _ this
    rw [Nat.mul_add, Nat.mul_comm] at h3
    omega
  refine ⟨?_, h2, ?_⟩
  · rw [Nat.mul_comm]; exact (Nat.two_pow_add_eq_or_of_lt h1 hi).symm
  · have h4 : lo * 2 ^ s % 18446744073709551616 = lo % 2 ^ (64 - s) * 2 ^ s := by
      rw [show (18446744073709551616 : Nat) = 2 ^ (64 - s) * 2 ^ s by rw [e, Nat.mul_comm], Nat.mul_mod_mul_right]
    have h5 := Nat.div_add_mod lo (2 ^ (64 - s))
    rw [h4, Nat.add_mul, Nat.add_mul]
    have h6 : lo / 2 ^ (64 - s) * 18446744073709551616 = 2 ^ (64 - s) * (lo / 2 ^ (64 - s)) * 2 ^ s := by rw [e, Nat.mul_assoc, Nat.mul_comm (2 ^ (64 - s)), Nat.mul_assoc, Nat.mul_comm (2 ^ s)]
    have h7 : lo * 2 ^ s = 2 ^ (64 - s) * (lo / 2 ^ (64 - s)) * 2 ^ s + lo % 2 ^ (64 - s) * 2 ^ s := by rw [← Nat.add_mul, h5]
    rw [h6, h7, Nat.mul_right_comm]; omega
end Nt
