/- Plain facts: long division: subtracting a multiple, adding back, a step of the whole. -/
import Derived.Test.YtjcicbnjoffbhaaN54
set_option linter.unusedSimpArgs false
set_option linter.unusedVariables false
namespace Nt

/-- A multiple is being taken away: the words up to i are done. -/
def subI (U v q k i Z c b : Nat) : Prop := Z + W ^ k * (q * (v % W ^ i)) = U + W ^ (k + i) * (b + c)
theorem subI_first (U v q k : Nat) : subI U v q k 0 U 0 0 := by
  unfold subI; rw [Nat.pow_zero, Nat.mod_one, Nat.mul_zero, Nat.mul_zero, Nat.add_zero, Nat.mul_zero, Nat.add_zero]
theorem subI_step {U v q k i Z c b s d b' : Nat} (h : subI U v q k i Z c b) (hs : s = q * dgt W v i + c) (hd : d + s % W + b = dgt W Z (k + i) + W * b') :
    subI U v q k (i + 1) (put W Z (k + i) d) (s / W) b' := by
  unfold subI at h ⊢
  have h1 := put_eq (b := W) Z (k + i) d W0
  have h2 := Nat.mod_add_div s W
  have h3 : W ^ k * (q * (v % W ^ (i + 1))) = W ^ k * (q * (v % W ^ i)) + W ^ (k + i) * (q * dgt W v i) := by
    rw [mod_succ, Nat.mul_add, Nat.mul_add, Nat.pow_add]
    congr 1
    rw [Nat.mul_left_comm q, Nat.mul_assoc]
  have h4 : W ^ (k + (i + 1)) * (b' + s / W) = W ^ (k + i) * (W * b') + W ^ (k + i) * (W * (s / W)) := by
    rw [← Nat.add_assoc, Nat.pow_succ, Nat.mul_assoc, Nat.mul_add, Nat.mul_add]
  have h5 : W ^ (k + i) * d + W ^ (k + i) * (s % W) + W ^ (k + i) * b = W ^ (k + i) * dgt W Z (k + i) + W ^ (k + i) * (W * b') := by
    rw [← Nat.mul_add, ← Nat.mul_add, ← Nat.mul_add, hd]
  have h6 : W ^ (k + i) * (s % W) + W ^ (k + i) * (W * (s / W)) = W ^ (k + i) * (q * dgt W v i) + W ^ (k + i) * c := by
    rw [← Nat.mul_add, ← Nat.mul_add, h2, hs]
  rw [Nat.mul_add] at h
  rw [h3, h4]
  omega
theorem subI_carry {q y c s : Nat} (hq : q < W) (hy : y < W) (hc : c < W) (hs : s = q * y + c) : s / W < W ∧ s < W * W := by
  have h1 : q * y ≤ (W - 1) * (W - 1) := Nat.mul_le_mul (by omega) (by omega)
  have h2 : (W - 1) * (W - 1) + (W - 1) + (W - 1) + 1 = W * W := by
    obtain ⟨x, hx⟩ : ∃ x, W = x + 1 := ⟨W - 1, by have := W0; omega⟩
    rw [hx, Nat.add_sub_cancel, Nat.add_mul, Nat.mul_add]; omega
  have h3 : s < W * W := by omega
  exact ⟨by rw [Nat.div_lt_iff_lt_mul W0]; exact h3, h3⟩
theorem subI_last {U v q k n Z b : Nat} (h : subI U v q k (n + 1) Z 0 b) (hv : v < W ^ n) : Z + W ^ k * (q * v) = U + W ^ (k + n + 1) * b := by
  unfold subI at h
  rw [Nat.mod_eq_of_lt (Nat.lt_trans hv (Nat.pow_lt_pow_right W2 (by omega)))] at h
  exact h
/-- The divisor is being added back. -/
def addI (U v k i Z c : Nat) : Prop := Z + W ^ (k + i) * c = U + W ^ k * (v % W ^ i)
theorem addI_first (U v k : Nat) : addI U v k 0 U 0 := by
  unfold addI; rw [Nat.pow_zero, Nat.mod_one, Nat.mul_zero, Nat.mul_zero]
theorem addI_step {U v k i Z c d c' : Nat} (h : addI U v k i Z c) (hd : d + W * c' = dgt W Z (k + i) + dgt W v i + c) :
    addI U v k (i + 1) (put W Z (k + i) d) c' := by
  unfold addI at h ⊢
  have h1 := put_eq (b := W) Z (k + i) d W0
  have h3 : W ^ k * (v % W ^ (i + 1)) = W ^ k * (v % W ^ i) + W ^ (k + i) * dgt W v i := by
    rw [mod_succ, Nat.mul_add, Nat.pow_add, Nat.mul_assoc]
  have h4 : W ^ (k + (i + 1)) * c' = W ^ (k + i) * (W * c') := by rw [← Nat.add_assoc, Nat.pow_succ, Nat.mul_assoc]
  have h5 : W ^ (k + i) * d + W ^ (k + i) * (W * c') = W ^ (k + i) * dgt W Z (k + i) + W ^ (k + i) * dgt W v i + W ^ (k + i) * c := by
    rw [← Nat.mul_add, ← Nat.mul_add, ← Nat.mul_add, hd]
  rw [h3, h4]
  omega
theorem addI_last {U v k n Z c : Nat} (h : addI U v k (n + 1) Z c) (hv : v < W ^ n) : Z + W ^ (k + n + 1) * c = U + W ^ k * v := by
  unfold addI at h
  rw [Nat.mod_eq_of_lt (Nat.lt_trans hv (Nat.pow_lt_pow_right W2 (by omega)))] at h
  exact h
/-- What stands behind a digit's step: no borrow. -/
theorem step_fine {U v q k n Z g : Nat} (hg : q = g ∨ q + 1 = g) (hq : q = U / (W ^ k * v)) (hv : 0 < v) (h : Z + W ^ k * (g * v) = U) : q = g ∧ Z = U % (W ^ k * v) := by
  have hV : 0 < W ^ k * v := Nat.mul_pos (Nat.pow_pos W0) hv
  have h1 := Nat.mod_add_div U (W ^ k * v)
  have h2 := Nat.mod_lt U hV
  rw [← hq] at h1
  rw [Nat.mul_left_comm] at h
  rcases hg with rfl | hg
  · refine ⟨rfl, ?_⟩
    rw [Nat.mul_comm (W ^ k * v)] at h1; omega
  · rw [← hg, Nat.add_mul] at h
    rw [Nat.mul_comm (W ^ k * v)] at h1; omega
/-- .. a borrow, and the divisor added back. -/
theorem step_back {U v q k n Z Z' g c : Nat} (hg : q = g ∨ q + 1 = g) (hq : q = U / (W ^ k * v)) (hv0 : 0 < v) (hv : v < W ^ n) (hU : U < W ^ (k + n + 1)) (hZ : Z < W ^ (k + n + 1)) (hZ' : Z' < W ^ (k + n + 1)) (hc : c ≤ 1)
    (h : Z + W ^ k * (g * v) = U + W ^ (k + n + 1)) (hb : Z' + W ^ (k + n + 1) * c = Z + W ^ k * v) : q + 1 = g ∧ Z' = U % (W ^ k * v) := by
  have hV : 0 < W ^ k * v := Nat.mul_pos (Nat.pow_pos W0) hv0
  have h1 := Nat.mod_add_div U (W ^ k * v)
  have h2 := Nat.mod_lt U hV
  rw [← hq] at h1
  rw [Nat.mul_left_comm] at h
  have h3 : W ^ k * v < W ^ (k + n + 1) := by
    rw [Nat.add_assoc, Nat.pow_add]
    exact (Nat.mul_lt_mul_left (Nat.pow_pos W0)).2 (Nat.lt_trans hv (Nat.pow_lt_pow_right W2 (by omega)))
  rw [Nat.mul_comm (W ^ k * v)] at h1
  rcases hg with rfl | hg
  · omega
  · refine ⟨hg, ?_⟩
    rw [← hg, Nat.add_mul, Nat.one_mul] at h
    generalize W ^ (k + n + 1) = M at *
    generalize W ^ k * v = V at *
    generalize q * V = S at *
    have : c = 0 ∨ c = 1 := by omega
    rcases this with rfl | rfl
    · omega
    · omega
/-- The whole so far: the words above k are done. -/
def divI (A v Q U k : Nat) : Prop := A = U + v * (W ^ k * Q) ∧ U < W ^ k * v
theorem divI_step {A v Q U k q : Nat} (h : divI A v Q U (k + 1)) (hq : q = U / (W ^ k * v)) (hv : 0 < v) : divI A v (q + W * Q) (U % (W ^ k * v)) k := by
  have hV : 0 < W ^ k * v := Nat.mul_pos (Nat.pow_pos W0) hv
  have h1 := Nat.mod_add_div U (W ^ k * v)
  refine ⟨?_, Nat.mod_lt _ hV⟩
  rw [← hq] at h1
  obtain ⟨h2, _⟩ := h
  have h3 : v * (W ^ k * (q + W * Q)) = W ^ k * v * q + v * (W ^ (k + 1) * Q) := by
    rw [Nat.mul_add, Nat.mul_add, Nat.pow_succ, Nat.mul_assoc (W ^ k) W, Nat.mul_left_comm v, Nat.mul_assoc (W ^ k) v]
  rw [h3]; omega
theorem divI_lt {A v Q U k : Nat} (h : divI A v Q U (k + 1)) : U < W * (W ^ k * v) := by
  have := h.2
  rwa [Nat.pow_succ, Nat.mul_comm (W ^ k) W, Nat.mul_assoc] at this
theorem divI_end {a b A v Q U by_ : Nat} (h : divI A v Q U 0) (hA : A = a * 2 ^ by_) (hv : v = b * 2 ^ by_) (hb : 0 < b) : Q = a / b ∧ U / 2 ^ by_ = a % b := by
  obtain ⟨h1, h2⟩ := h
  rw [Nat.pow_zero, Nat.one_mul] at h1 h2
  have hp := Nat.two_pow_pos by_
  generalize 2 ^ by_ = p at *
  subst hA hv
  have hU : U / p < b := by rw [Nat.div_lt_iff_lt_mul hp]; exact h2
  have e1 : U = p * (U / p) := by
    have h3 := Nat.mod_add_div U p
    have h4 : U % p = 0 := by
      have h5 : (U + b * p * Q) % p = 0 := by rw [← h1]; exact Nat.mul_mod_left _ _
      rw [Nat.mul_right_comm, Nat.add_mul_mod_self_right] at h5
      exact h5
    omega
  have e2 : a = U / p + b * Q := by
    refine Nat.eq_of_mul_eq_mul_right hp ?_
    rw [h1, Nat.add_mul, Nat.mul_right_comm b Q p]
    congr 1
    rw [Nat.mul_comm]; exact e1
  have e3 : a / b = Q := by
    rw [e2, Nat.add_mul_div_left _ _ hb, Nat.div_eq_of_lt hU, Nat.zero_add]
  refine ⟨e3.symm, ?_⟩
  rw [e2, Nat.add_mul_mod_self_left, Nat.mod_eq_of_lt hU]
/-- The guess's loop. -/
def gueI (u2 u1 u0 v1 v0 q r : Nat) : Prop := q * v1 + r = u2 * W + u1 ∧ ((u2 * W + u1) * W + u0) / (v1 * W + v0) ≤ q ∧ q < W
theorem gue_first {u2 u1 u0 v1 v0 : Nat} (h : u2 < v1) (h1 : u1 < W) (h0 : u0 < W) : gueI u2 u1 u0 v1 v0 ((u2 * W + u1) / v1) ((u2 * W + u1) % v1) := by
  have hv : 0 < v1 := by omega
  have e1 := Nat.mod_add_div (u2 * W + u1) v1
  have hV : 0 < v1 * W + v0 := by have := Nat.mul_pos hv W0; omega
  refine ⟨by rw [Nat.mul_comm]; omega, ?_, ?_⟩
  · rw [← Nat.lt_succ_iff, Nat.div_lt_iff_lt_mul hV]
    have h2 := Nat.lt_mul_div_succ (u2 * W + u1) hv
    have h3 : (u2 * W + u1 + 1) * W ≤ v1 * ((u2 * W + u1) / v1 + 1) * W := Nat.mul_le_mul_right _ h2
    rw [Nat.add_mul, Nat.one_mul] at h3
    have h4 : ((u2 * W + u1) / v1).succ * (v1 * W + v0) = v1 * ((u2 * W + u1) / v1 + 1) * W + ((u2 * W + u1) / v1 + 1) * v0 := by
      rw [Nat.mul_add, ← Nat.mul_assoc, Nat.mul_comm v1]
    rw [h4]
    omega
  · rw [Nat.div_lt_iff_lt_mul hv]
    have h2 : (u2 + 1) * W ≤ v1 * W := Nat.mul_le_mul_right _ h
    rw [Nat.add_mul, Nat.one_mul] at h2
    rw [Nat.mul_comm W]; omega
theorem gue_done {u2 u1 u0 v1 v0 q r : Nat} (h : gueI u2 u1 u0 v1 v0 q r) (hv : 0 < v1) (ht : q * v0 ≤ r * W + u0) : q = ((u2 * W + u1) * W + u0) / (v1 * W + v0) := by
  obtain ⟨h1, h2, _⟩ := h
  have hV : 0 < v1 * W + v0 := by have := Nat.mul_pos hv W0; omega
  refine Nat.le_antisymm ?_ h2
  rw [Nat.le_div_iff_mul_le hV, ← h1]
  have : q * (v1 * W + v0) = q * v1 * W + q * v0 := by rw [Nat.mul_add, Nat.mul_assoc]
  rw [this, Nat.add_mul]; omega
theorem gue_next {u2 u1 u0 v1 v0 q r : Nat} (h : gueI u2 u1 u0 v1 v0 q r) (hv : 0 < v1) (ht : r * W + u0 < q * v0) : 0 < q ∧ gueI u2 u1 u0 v1 v0 (q - 1) (r + v1) := by
  obtain ⟨h1, h2, h3⟩ := h
  have hq : 0 < q := by
    rcases Nat.eq_zero_or_pos q with c | c
    · rw [c, Nat.zero_mul] at ht; omega
    · exact c
  have hV : 0 < v1 * W + v0 := by have := Nat.mul_pos hv W0; omega
  obtain ⟨x, rfl⟩ : ∃ x, q = x + 1 := ⟨q - 1, by omega⟩
  refine ⟨hq, ?_, ?_, ?_⟩
  · rw [Nat.add_sub_cancel]; rw [Nat.add_mul, Nat.one_mul] at h1; omega
  · rw [Nat.add_sub_cancel, ← Nat.lt_succ_iff, Nat.div_lt_iff_lt_mul hV, ← h1]
    have : x.succ * (v1 * W + v0) = (x + 1) * v1 * W + (x + 1) * v0 := by rw [Nat.mul_add, Nat.mul_assoc]
    rw [this, Nat.add_mul ((x + 1) * v1)]; omega
  · omega
theorem gue_full {u0 v0 q r : Nat} (hq : q < W) (hv : v0 < W) (hr : W ≤ r) : q * v0 ≤ r * W + u0 := by
  have h1 : q * v0 ≤ W * W := Nat.mul_le_mul (by omega) (by omega)
  have h2 : W * W ≤ r * W := Nat.mul_le_mul_right _ hr
  omega
/-- The product's two words tell the test. -/
theorem two_words {p r u0 : Nat} (hu : u0 < W) : p ≤ r * W + u0 ↔ p / W < r ∨ (p / W = r ∧ p % W ≤ u0) := by
  have h := Nat.mod_add_div p W
  have h2 := Nat.mod_lt p W0
  constructor
  · intro h1
    rcases Nat.lt_trichotomy (p / W) r with c | c | c
    · exact Or.inl c
    · refine Or.inr ⟨c, ?_⟩
      rw [c, Nat.mul_comm W] at h; omega
    · have h3 : W * (r + 1) ≤ W * (p / W) := Nat.mul_le_mul_left _ c
      rw [Nat.mul_add, Nat.mul_comm W r] at h3; omega
  · rintro (c | ⟨c, d⟩)
    · have h3 : W * (p / W + 1) ≤ W * r := Nat.mul_le_mul_left _ c
      rw [Nat.mul_add, Nat.mul_comm W r] at h3; omega
    · rw [c, Nat.mul_comm W] at h; omega
/-- The divisor with its highest bit set. -/
theorem normed {b n s : Nat} (hn : nd W b = n + 1) (hs : nd 2 (dgt W b n) + s = 64) : b * 2 ^ s < W ^ (n + 1) ∧ W ^ (n + 1) ≤ 2 * (b * 2 ^ s) := by
  have hb : b < W ^ (n + 1) := by rw [← hn]; exact lt_nd W2
  have h1 := Nat.mod_add_div b (W ^ n)
  rw [top_w b n hb] at h1
  have h2 := Nat.mod_lt b (Nat.pow_pos (n := n) W0)
  have ht0 : dgt W b n ≠ 0 := by
    have := dgt_top (b := W) (n := b) W2 (fun c => by rw [c, nd_zero] at hn; omega)
    rwa [hn, Nat.add_sub_cancel] at this
  generalize dgt W b n = t at *
  have h3 : t < 2 ^ nd 2 t := lt_nd (by omega)
  have hnz : nd 2 t ≠ 0 := fun c => ht0 ((nd_eq_zero (by omega)).1 c)
  have h4 : 2 ^ (nd 2 t - 1) ≤ t := (pow_le_iff (by omega) _ _).2 (by omega)
  have h5 : 2 ^ nd 2 t = 2 ^ (nd 2 t - 1) * 2 := by rw [← Nat.pow_succ]; congr 1; omega
  have hW : 2 ^ nd 2 t * 2 ^ s = W := by rw [← Nat.pow_add, hs, W_eq]
  have h6 : (t + 1) * 2 ^ s ≤ W := by rw [← hW]; exact Nat.mul_le_mul_right _ h3
  have h7 : W ≤ 2 * t * 2 ^ s := by rw [← hW]; exact Nat.mul_le_mul_right _ (by rw [h5]; omega)
  have hp := Nat.two_pow_pos s
  constructor
  · have h8 : b < W ^ n * (t + 1) := by rw [Nat.mul_add]; omega
    have h9 : b * 2 ^ s < W ^ n * (t + 1) * 2 ^ s := (Nat.mul_lt_mul_right hp).2 h8
    rw [Nat.mul_assoc] at h9
    refine Nat.lt_of_lt_of_le h9 ?_
    rw [Nat.pow_succ]
    exact Nat.mul_le_mul_left _ h6
  · rw [Nat.pow_succ]
    have h8 : W ^ n * t ≤ b := Nat.le_trans (Nat.le_add_left _ _) (Nat.le_of_eq h1)
    have h9 : W ^ n * W ≤ W ^ n * (2 * t * 2 ^ s) := Nat.mul_le_mul_left _ h7
    refine Nat.le_trans h9 ?_
    have h10 : W ^ n * (2 * t * 2 ^ s) = 2 * (W ^ n * t * 2 ^ s) := by
      rw [Nat.mul_assoc 2, Nat.mul_left_comm, Nat.mul_assoc (W ^ n)]
    rw [h10]
    exact Nat.mul_le_mul_left _ (Nat.mul_le_mul_right _ h8)
end Nt
