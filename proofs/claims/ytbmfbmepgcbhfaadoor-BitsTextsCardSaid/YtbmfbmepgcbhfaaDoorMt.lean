/- Plain arithmetic: factors of two, binary digits. No program stands here. -/
import Derived.Lib.TrailingZeros
import Derived.Shelf.Strconv.Itoa0
set_option linter.unusedSimpArgs false
set_option linter.unusedVariables false
namespace Go.Proofs.YtbmfbmepgcbhfaaDoor
open Go

theorem ctzFrom_more : ∀ (f x : Nat), 0 < x → x < 2 ^ f → Lib.ctzFrom (f + 1) x = Lib.ctzFrom f x
  | 0, x, h0, h => by simp at h; omega
  | f + 1, x, h0, h => by
    have hp := Nat.pow_succ (n := 2) (m := f)
    by_cases c : x % 2 = 1
    · simp only [Lib.ctzFrom, if_pos c]
    · have ih := ctzFrom_more f (x / 2) (by omega) (by omega)
      rw [Lib.ctzFrom, if_neg c, ih, Lib.ctzFrom, if_neg c]

def tz (m : Nat) : Nat := Lib.ctz 64 m
def od (m : Nat) : Nat := m / 2 ^ tz m
theorem tz_odd {m : Nat} (h : m % 2 = 1) : tz m = 0 := by
  unfold tz Lib.ctz
  rw [if_neg (by omega), Lib.ctzFrom, if_pos h]
theorem tz_even {m : Nat} (h0 : 0 < m) (hm : m < 18446744073709551616) (h : m % 2 = 0) : tz m = tz (m / 2) + 1 := by
  unfold tz Lib.ctz
  rw [if_neg (by omega), if_neg (by omega), show (64 : Nat) = 63 + 1 from rfl, Lib.ctzFrom, if_neg (by omega), ctzFrom_more 63 (m / 2) (by omega) (by omega)]
  omega
theorem od_odd {m : Nat} (h : m % 2 = 1) : od m = m := by unfold od; rw [tz_odd h]; simp
theorem od_even {m : Nat} (h0 : 0 < m) (hm : m < 18446744073709551616) (h : m % 2 = 0) : od m = od (m / 2) := by
  unfold od
  rw [tz_even h0 hm h, Nat.pow_succ, Nat.mul_comm, Nat.div_div_eq_div_mul]
theorem tz_spec {m : Nat} (h0 : 0 < m) (hm : m < 18446744073709551616) : od m * 2 ^ tz m = m ∧ od m % 2 = 1 ∧ tz m < 64 := by
  obtain ⟨q, hq, hk⟩ := Lib.ctzFrom_spec 64 m h0 (by omega)
  have e : tz m = Lib.ctzFrom 64 m := by unfold tz Lib.ctz; rw [if_neg (by omega)]
  have e2 : od m = 2 * q + 1 := by
    unfold od; rw [e]
    have hp := Nat.two_pow_pos (Lib.ctzFrom 64 m)
    generalize Lib.ctzFrom 64 m = k at hq hp ⊢
    rw [hq, Nat.mul_comm, Nat.mul_div_cancel _ hp]
  refine ⟨?_, by omega, by omega⟩
  rw [e2, e, Nat.mul_comm]; exact hq.symm
theorem od_pos {m : Nat} (h0 : 0 < m) (hm : m < 18446744073709551616) : 0 < od m := by have := (tz_spec h0 hm).2.1; omega
theorem od_le {m : Nat} : od m ≤ m := Nat.div_le_self _ _

theorem bl_spec : ∀ (f m : Nat), m < 2 ^ f → m < 2 ^ Lib.bitLenAux f m ∧ (0 < m → 2 ^ Lib.bitLenAux f m ≤ 2 * m) ∧ Lib.bitLenAux f m ≤ f
  | 0, m, h => by simp at h; subst h; simp [Lib.bitLenAux]
  | f + 1, m, h => by
    rw [Lib.bitLenAux]
    by_cases c : m = 0
    · rw [if_pos c]; subst c; simp
    · rw [if_neg c]
      have hp := Nat.pow_succ (n := 2) (m := f)
      obtain ⟨h1, h2, h3⟩ := bl_spec f (m / 2) (by omega)
      rw [Nat.add_comm 1, Nat.pow_succ]
      refine ⟨by omega, fun _ => ?_, by omega⟩
      by_cases c2 : m / 2 = 0
      · have : m = 1 := by omega
        subst this
        have e : Lib.bitLenAux f (1 / 2) = 0 := by cases f <;> simp [Lib.bitLenAux]
        rw [e]; decide
      · have := h2 (by omega); omega
theorem bl_zero : Lib.bitLen 0 = 0 := by decide
theorem bl_lt {m : Nat} (h : m < 18446744073709551616) : m < 2 ^ Lib.bitLen m := (bl_spec 64 m h).1
theorem bl_ge {m : Nat} (h : m < 18446744073709551616) (h0 : 0 < m) : 2 ^ Lib.bitLen m ≤ 2 * m := (bl_spec 64 m h).2.1 h0
theorem bl_le {m : Nat} (h : m < 18446744073709551616) : Lib.bitLen m ≤ 64 := (bl_spec 64 m h).2.2
theorem bl_pos {m : Nat} (h0 : 0 < m) : 0 < Lib.bitLen m := by
  unfold Lib.bitLen Lib.bitLenAux; rw [if_neg (by omega)]; omega
/-- m has at most k digits just if it is below 2^k. -/
theorem bl_le_iff {m k : Nat} (h : m < 18446744073709551616) : Lib.bitLen m ≤ k ↔ m < 2 ^ k := by
  constructor
  · intro c; exact Nat.lt_of_lt_of_le (bl_lt h) (Nat.pow_le_pow_right (by decide) c)
  · intro c
    by_cases h0 : 0 < m
    · have g := bl_ge h h0
      apply Nat.le_of_not_lt
      intro d
      have e : 2 ^ (k + 1) ≤ 2 ^ Lib.bitLen m := Nat.pow_le_pow_right (by decide) d
      rw [Nat.pow_succ] at e
      omega
    · have : m = 0 := by omega
      subst this; exact Nat.zero_le _
end Go.Proofs.YtbmfbmepgcbhfaaDoor
