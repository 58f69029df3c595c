/- Plain facts: long division, a word at a time. -/
import Derived.Test.YtjcicbnjoffbhaaN2
set_option linter.unusedSimpArgs false
set_option linter.unusedVariables false
namespace Nt

/-- The guess is not too small. -/
theorem est_hi {U v k m q : Nat} (hv : W ^ m ≤ v) (h : q * (W ^ k * v) ≤ U) : q ≤ U / W ^ (k + m) / (v / W ^ m) := by
  have hV : 0 < v / W ^ m := Nat.div_pos hv (Nat.pow_pos W0)
  rw [Nat.le_div_iff_mul_le hV, Nat.le_div_iff_mul_le (Nat.pow_pos W0)]
  have h1 : v / W ^ m * W ^ m ≤ v := Nat.div_mul_le_self _ _
  have h2 : q * (W ^ k * (v / W ^ m * W ^ m)) ≤ q * (W ^ k * v) := Nat.mul_le_mul_left _ (Nat.mul_le_mul_left _ h1)
  refine Nat.le_trans (Nat.le_of_eq ?_) (Nat.le_trans h2 h)
  rw [Nat.pow_add, Nat.mul_assoc, Nat.mul_left_comm (v / W ^ m)]
/-- The guess is too great by one at most. -/
theorem est_lo {U v k m g : Nat} (hv : W ^ (m + 1) ≤ v) (hg : g ≤ W) (h : g * (v / W ^ m) ≤ U / W ^ (k + m)) : g * (W ^ k * v) ≤ U + W ^ k * v := by
  have h1 := Nat.mod_add_div v (W ^ m)
  have h2 : v % W ^ m < W ^ m := Nat.mod_lt _ (Nat.pow_pos W0)
  have h3 : g * (v / W ^ m) * W ^ (k + m) ≤ U := by
    rwa [Nat.le_div_iff_mul_le (Nat.pow_pos W0)] at h
  have h4 : g * (v % W ^ m) ≤ W * W ^ m := Nat.mul_le_mul hg (Nat.le_of_lt h2)
  have h5 : W * W ^ m = W ^ (m + 1) := by rw [Nat.pow_succ, Nat.mul_comm]
  have h6 : g * (W ^ k * v) = W ^ k * (g * (v % W ^ m)) + g * (v / W ^ m) * W ^ (k + m) := by
    conv => lhs; rw [← h1]
    rw [Nat.mul_add, Nat.mul_add, Nat.pow_add]
    congr 1
    · rw [Nat.mul_left_comm]
    · rw [Nat.mul_assoc, Nat.mul_left_comm (v / W ^ m), Nat.mul_comm (v / W ^ m)]
  have h7 : W ^ k * (g * (v % W ^ m)) ≤ W ^ k * v := Nat.mul_le_mul_left _ (by omega)
  omega
/-- The guess where the highest words are the same. -/
theorem est_top {U v k n x y : Nat} (hx : x = v / W ^ n) (hy : y = U / W ^ (k + n + 1)) (hxy : x ≤ y) (hn : W ≤ 2 * x) : (W - 2) * (W ^ k * v) ≤ U := by
  have h1 := Nat.mod_add_div v (W ^ n)
  have h2 : v % W ^ n < W ^ n := Nat.mod_lt _ (Nat.pow_pos W0)
  have h3 : y * W ^ (k + n + 1) ≤ U := by rw [hy]; exact Nat.div_mul_le_self _ _
  rw [← hx] at h1
  have hv : v ≤ W ^ n * (x + 1) := by rw [Nat.mul_add]; omega
  have h4 : (W - 2) * (x + 1) ≤ x * W := by
    obtain ⟨c, hc⟩ : ∃ c, W = c + 2 := ⟨W - 2, by have := W2; omega⟩
    rw [hc] at hn ⊢
    rw [Nat.add_sub_cancel, Nat.mul_add, Nat.mul_add, Nat.mul_comm c x]; omega
  calc (W - 2) * (W ^ k * v) ≤ (W - 2) * (W ^ k * (W ^ n * (x + 1))) := Nat.mul_le_mul_left _ (Nat.mul_le_mul_left _ hv)
    _ = W ^ (k + n) * ((W - 2) * (x + 1)) := by rw [Nat.pow_add]; simp only [Nat.mul_left_comm, Nat.mul_comm, Nat.mul_assoc]
    _ ≤ W ^ (k + n) * (x * W) := Nat.mul_le_mul_left _ h4
    _ = x * W ^ (k + n + 1) := by rw [Nat.pow_succ]; simp only [Nat.mul_left_comm, Nat.mul_comm, Nat.mul_assoc]
    _ ≤ y * W ^ (k + n + 1) := Nat.mul_le_mul_right _ hxy
    _ ≤ U := h3
/-- What the guess of a digit is. -/
def guessN (u2 u1 u0 v1 v0 : Nat) : Nat := if v1 ≤ u2 then W - 1 else ((u2 * W + u1) * W + u0) / (v1 * W + v0)
theorem turn3 (a b c w : Nat) : a + w * (b + w * c) = (c * w + b) * w + a := by
  rw [Nat.mul_comm (c * w + b) w, Nat.mul_comm c w, Nat.add_comm (w * c) b, Nat.add_comm _ a]
theorem turn2 (a b w : Nat) : a + w * b = b * w + a := by rw [Nat.mul_comm b w, Nat.add_comm _ a]
theorem three (U j : Nat) (h : U < W ^ (j + 3)) : U / W ^ j = (dgt W U (j + 2) * W + dgt W U (j + 1)) * W + dgt W U j := by
  have e1 := div_eq_dgt W0 U j
  have e2 := div_eq_dgt W0 U (j + 1)
  have e3 := div_eq_dgt W0 U (j + 2)
  have e4 : U / W ^ (j + 2 + 1) = 0 := Nat.div_eq_of_lt h
  rw [e4, Nat.mul_zero] at e3
  have e5 : U / W ^ (j + 1 + 1) = dgt W U (j + 2) := e3.trans (Nat.add_zero _)
  rw [e5] at e2
  rw [e2] at e1
  rw [e1]
  exact turn3 _ _ _ _
theorem two_w (v j : Nat) (h : v < W ^ (j + 2)) : v / W ^ j = dgt W v (j + 1) * W + dgt W v j := by
  have e1 := div_eq_dgt W0 v j
  have e2 := div_eq_dgt W0 v (j + 1)
  have e4 : v / W ^ (j + 1 + 1) = 0 := Nat.div_eq_of_lt h
  rw [e4, Nat.mul_zero] at e2
  rw [e2.trans (Nat.add_zero _)] at e1
  rw [e1]
  exact turn2 _ _ _
theorem top_w (v j : Nat) (h : v < W ^ (j + 1)) : v / W ^ j = dgt W v j := by
  have e := div_eq_dgt W0 v j
  rw [Nat.div_eq_of_lt h, Nat.mul_zero] at e
  exact e.trans (Nat.add_zero _)
/-- The guess is the digit, or one more. -/
theorem guess_ok {U v k m : Nat} (hv : v < W ^ (m + 2)) (hn : W ^ (m + 2) ≤ 2 * v) (hU : U < W * (W ^ k * v)) :
    guessN (dgt W U (k + m + 2)) (dgt W U (k + m + 1)) (dgt W U (k + m)) (dgt W v (m + 1)) (dgt W v m) < W ∧
    (U / (W ^ k * v) = guessN (dgt W U (k + m + 2)) (dgt W U (k + m + 1)) (dgt W U (k + m)) (dgt W v (m + 1)) (dgt W v m) ∨
     U / (W ^ k * v) + 1 = guessN (dgt W U (k + m + 2)) (dgt W U (k + m + 1)) (dgt W U (k + m)) (dgt W v (m + 1)) (dgt W v m)) := by
  have hp := Nat.pow_pos (n := m) W0
  have hpk := Nat.pow_pos (n := k) W0
  have hw := W2
  have hv0 : W ^ (m + 1) ≤ v := by
    have : W ^ (m + 2) = W ^ (m + 1) * W := Nat.pow_succ ..
    have h2 : W ^ (m + 1) * 2 ≤ W ^ (m + 1) * W := Nat.mul_le_mul_left _ hw
    omega
  have hv1 : W ^ m ≤ v := Nat.le_trans (Nat.pow_le_pow_right W0 (by omega)) hv0
  have hvp : 0 < v := Nat.lt_of_lt_of_le hp hv1
  have hV : 0 < W ^ k * v := Nat.mul_pos hpk hvp
  have hUW : U < W ^ (k + m + 3) := by
    refine Nat.lt_trans hU ?_
    have : W ^ (k + m + 3) = W * (W ^ k * W ^ (m + 2)) := by
      rw [← Nat.pow_add, ← Nat.pow_succ', show (k + (m + 2)).succ = k + m + 3 by omega]
    rw [this]
    exact (Nat.mul_lt_mul_left W0).2 ((Nat.mul_lt_mul_left hpk).2 hv)
  obtain ⟨q, hq⟩ : ∃ q, q = U / (W ^ k * v) := ⟨_, rfl⟩
  have hqle : q * (W ^ k * v) ≤ U := by rw [hq]; exact Nat.div_mul_le_self _ _
  have hqlt : U < (q + 1) * (W ^ k * v) := by
    rw [hq]
    have := Nat.lt_mul_div_succ U hV
    rwa [Nat.mul_comm] at this
  have hqW : q < W := by
    rw [hq, Nat.div_lt_iff_lt_mul hV]; exact hU
  rw [← hq]
  -- one bound suffices
  have main : ∀ g, g ≤ W → q ≤ g → g * (W ^ k * v) ≤ U + W ^ k * v → q = g ∨ q + 1 = g := fun g _ h1 h2 => by
    have h3 : g * (W ^ k * v) < (q + 2) * (W ^ k * v) := by
      have : (q + 2) * (W ^ k * v) = (q + 1) * (W ^ k * v) + W ^ k * v := by rw [← Nat.succ_mul]
      omega
    have := Nat.lt_of_mul_lt_mul_right h3
    omega
  unfold guessN
  by_cases hc : dgt W v (m + 1) ≤ dgt W U (k + m + 2)
  · rw [if_pos hc]
    refine ⟨by omega, main _ (by omega) (by omega) ?_⟩
    have hx : dgt W v (m + 1) = v / W ^ (m + 1) := (top_w v (m + 1) hv).symm
    have hy : dgt W U (k + m + 2) = U / W ^ (k + (m + 1) + 1) := (top_w U (k + m + 2) hUW).symm
    have hn2 : W ≤ 2 * dgt W v (m + 1) := by
      rw [hx]
      have h1 := Nat.lt_mul_div_succ v (Nat.pow_pos (n := m + 1) W0)
      have h2 : W ^ (m + 2) = W ^ (m + 1) * W := Nat.pow_succ ..
      have h3 : W ^ (m + 1) * W < W ^ (m + 1) * (2 * (v / W ^ (m + 1) + 1)) := by
        rw [← h2, Nat.mul_left_comm]; omega
      have h4 := Nat.lt_of_mul_lt_mul_left h3
      have h5 : W % 2 = 0 := by rw [W_eq]
      omega
    have ht := est_top (U := U) (v := v) (k := k) (n := m + 1) hx hy hc hn2
    have : (W - 1) * (W ^ k * v) = (W - 2) * (W ^ k * v) + W ^ k * v := by
      rw [← Nat.succ_mul]; congr 1; omega
    omega
  · rw [if_neg hc]
    have e1 := three U (k + m) hUW
    have e2 := two_w v m hv
    rw [← e1, ← e2]
    have hV2 : 0 < v / W ^ m := Nat.div_pos hv1 hp
    have h1 := est_hi (q := q) (k := k) hv1 hqle
    have hgle : U / W ^ (k + m) / (v / W ^ m) * (v / W ^ m) ≤ U / W ^ (k + m) := Nat.div_mul_le_self _ _
    have hgW : U / W ^ (k + m) / (v / W ^ m) < W := by
      rw [Nat.div_lt_iff_lt_mul hV2, e1, e2]
      have hu1 := dgt_lt W0 U (k + m + 1)
      have hu0 := dgt_lt W0 U (k + m)
      have h2 : dgt W U (k + m + 2) + 1 ≤ dgt W v (m + 1) := by omega
      have h3 : (dgt W U (k + m + 2) + 1) * W * W ≤ dgt W v (m + 1) * W * W := Nat.mul_le_mul_right _ (Nat.mul_le_mul_right _ h2)
      have h4 : dgt W U (k + m + 1) * W + W ≤ W * W := by
        have := Nat.mul_le_mul_right W (show dgt W U (k + m + 1) + 1 ≤ W from hu1)
        rwa [Nat.add_mul, Nat.one_mul] at this
      rw [Nat.add_mul, Nat.add_mul, Nat.one_mul] at h3
      rw [Nat.add_mul, Nat.mul_add, Nat.mul_comm W (dgt W v (m + 1) * W)]
      have := Nat.zero_le (W * dgt W v m)
      omega
    exact ⟨hgW, main _ (by omega) h1 (est_lo hv0 (by omega) hgle)⟩
end Nt
