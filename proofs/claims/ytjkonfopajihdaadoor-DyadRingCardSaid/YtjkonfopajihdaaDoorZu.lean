/- Texts put together: D47 D48. -/
import Derived.Test.YtjkonfopajihdaaDoorZt
set_option linter.unusedSimpArgs false
set_option linter.unusedVariables false
namespace Go.Proofs.YtjkonfopajihdaaDoor
open Go Go.RowKit Nt

@[irreducible] def EE : Nat := 4194304
theorem EE_eq : EE = 4194304 := by unfold EE; rfl
/-- The value times 2 to the power EE. -/
def iv (d : Dy) : Int := sgnd d.g (d.n * 2 ^ (d.x + EE).toNat)
theorem iv_zero : iv Dy.zero = 0 := by
  unfold iv Dy.zero sgnd
  simp
theorem sgnd_abs (g : Bool) (m : Nat) : (sgnd g m).natAbs = m := by unfold sgnd; cases g <;> simp
theorem sgnd_neg {g : Bool} {m : Nat} (h : m ≠ 0) : decide (sgnd g m < 0) = g := by unfold sgnd; cases g <;> simp <;> omega
/-- What is made of a whole number over 2 to the power k. -/
def mkZ (z : Int) (k : Nat) : Dy := mkD (decide (z < 0)) z.natAbs (-(k : Int))
def mkZE (z : Int) (k : Nat) : Int := mkE z.natAbs (-(k : Int))
theorem mk_toZ (g : Bool) (n : Nat) (x : Int) (k : Nat) (h : -(k : Int) ≤ x) : mkD g n x = mkZ (sgnd g (n * 2 ^ (x + k).toNat)) k ∧ mkE n x = mkZE (sgnd g (n * 2 ^ (x + k).toNat)) k := by
  obtain ⟨j, hj⟩ : ∃ j, j = (x + k).toNat := ⟨_, rfl⟩
  rw [← hj]
  have e : -(k : Int) = x - (j : Int) := by omega
  have hs := mkD_shift g n j x
  unfold mkZ mkZE
  rw [sgnd_abs, e, hs.2]
  by_cases h0 : n = 0
  · subst h0; rw [Nat.zero_mul, mkD_zero, mkD_zero]; exact ⟨rfl, rfl⟩
  · have h1 : n * 2 ^ j ≠ 0 := Nat.mul_ne_zero h0 (Nat.pos_iff_ne_zero.1 (Nat.two_pow_pos j))
    rw [sgnd_neg h1, hs.1]; exact ⟨rfl, rfl⟩
theorem mkZ_scale (z : Int) (k m : Nat) : mkZ z k = mkZ (z * 2 ^ m) (k + m) ∧ mkZE z k = mkZE (z * 2 ^ m) (k + m) := by
  have hp : (0 : Int) < 2 ^ m := Int.pow_pos (by omega)
  have h := mk_toZ (decide (z < 0)) z.natAbs (-(k : Int)) (k + m) (by omega)
  have e : sgnd (decide (z < 0)) (z.natAbs * 2 ^ (-(k : Int) + ((k + m : Nat) : Int)).toNat) = z * 2 ^ m := by
    rw [show (-(k : Int) + ((k + m : Nat) : Int)).toNat = m by omega]
    unfold sgnd
    rw [Int.natCast_mul, Int.natCast_pow]
    by_cases hz : z < 0
    · rw [decide_eq_true hz, if_pos rfl, ← Int.neg_mul]
      rw [show -((z.natAbs : Nat) : Int) = z by omega]; rfl
    · rw [decide_eq_false hz, if_neg (by decide), show ((z.natAbs : Nat) : Int) = z by omega]; rfl
  rw [e] at h
  exact h
theorem mkZE_b (z : Int) (k : Nat) : mkZE z k = 0 ∨ mkZE z k = 4 := by
  unfold mkZE
  by_cases h : mkOk3 z.natAbs (-(k : Int))
  · exact Or.inl (mkE_ok h)
  · exact Or.inr (mkE_no h)
/-- A Dyad is made of its value. -/
theorem iv_mk {d : Dy} (h : d.Ok) : mkZ (iv d) EE = d ∧ mkZE (iv d) EE = 0 := by
  rcases h with rfl | h
  · rw [iv_zero]; unfold mkZ mkZE; exact ⟨mkD_zero _ _, mkE_zero _⟩
  · have h1 := mkD_self h
    have h2 := mk_toZ d.g d.n d.x EE (by rw [EE_eq]; have := h.2.2; omega)
    unfold iv
    rw [← h2.1, ← h2.2]; exact h1
theorem iv_inj {a b : Dy} (ha : a.Ok) (hb : b.Ok) (h : iv a = iv b) : a = b := by
  rw [← (iv_mk ha).1, h, (iv_mk hb).1]
/-- What is made where that may be has just that value. -/
theorem mk_iv {z : Int} (h : mkZE z EE = 0) : iv (mkZ z EE) = z := by
  have hk : mkOk3 z.natAbs (-(EE : Int)) := by
    by_cases c : mkOk3 z.natAbs (-(EE : Int))
    · exact c
    · unfold mkZE at h; rw [mkE_no c] at h; exact absurd h (by decide)
  unfold mkZ
  by_cases h0 : z.natAbs = 0
  · have : z = 0 := by omega
    subst this
    rw [show (0 : Int).natAbs = 0 from rfl, mkD_zero, iv_zero]
  · rw [mkD_ok h0 hk]
    unfold iv
    show sgnd (decide (z < 0)) (odN z.natAbs * 2 ^ (-(EE : Int) + (lowN z.natAbs : Int) + (EE : Int)).toNat) = z
    rw [show (-(EE : Int) + (lowN z.natAbs : Int) + (EE : Int)).toNat = lowN z.natAbs by omega, ← (odN_spec h0).2]
    unfold sgnd
    by_cases hz : z < 0
    · rw [decide_eq_true hz, if_pos rfl]; omega
    · rw [decide_eq_false hz, if_neg (by decide)]; omega
/-- And over another power. -/
theorem mk_iv2 {z : Int} {m : Nat} (h : mkZE z (EE + m) = 0) : iv (mkZ z (EE + m)) * 2 ^ m = z := by
  have hk : mkOk3 z.natAbs (-((EE + m : Nat) : Int)) := by
    by_cases c : mkOk3 z.natAbs (-((EE + m : Nat) : Int))
    · exact c
    · unfold mkZE at h; rw [mkE_no c] at h; exact absurd h (by decide)
  unfold mkZ
  by_cases h0 : z.natAbs = 0
  · have : z = 0 := by omega
    subst this
    rw [show (0 : Int).natAbs = 0 from rfl, mkD_zero, iv_zero, Int.zero_mul]
  · rw [mkD_ok h0 hk]
    have hx : -1048576 ≤ -((EE + m : Nat) : Int) + (lowN z.natAbs : Int) := by
      rcases hk with c | ⟨_, c, _⟩
      · exact absurd c h0
      · exact c
    obtain ⟨q, hq⟩ : ∃ q, lowN z.natAbs = q + m := ⟨lowN z.natAbs - m, by rw [EE_eq] at hx; omega⟩
    unfold iv
    show sgnd (decide (z < 0)) (odN z.natAbs * 2 ^ (-((EE + m : Nat) : Int) + (lowN z.natAbs : Int) + (EE : Int)).toNat) * 2 ^ m = z
    rw [show (-((EE + m : Nat) : Int) + (lowN z.natAbs : Int) + (EE : Int)).toNat = q by omega]
    have e : odN z.natAbs * 2 ^ q * 2 ^ m = z.natAbs := by rw [Nat.mul_assoc, ← Nat.pow_add, ← hq]; exact (odN_spec h0).2.symm
    have e2 : ((odN z.natAbs * 2 ^ q : Nat) : Int) * 2 ^ m = (z.natAbs : Int) := by
      have := congrArg (fun (x : Nat) => (x : Int)) e
      rw [Int.natCast_mul, Int.natCast_pow] at this
      exact this
    unfold sgnd
    by_cases hz : z < 0
    · rw [decide_eq_true hz, if_pos rfl, Int.neg_mul, e2]; omega
    · rw [decide_eq_false hz, if_neg (by decide), e2]; omega
theorem iv_neg (d : Dy) : iv (negD d) = - iv d := by
  unfold negD
  by_cases h : d.n = 0
  · rw [if_pos h]; unfold iv sgnd; rw [h, Nat.zero_mul]; cases d.g <;> rfl
  · rw [if_neg h]; unfold iv sgnd; cases d.g <;> simp
/-- A sum is made of the sum of the values. -/
theorem hi_iv {p q : Dy} (hp : p.Num) (hq : q.Num) (hle : q.x ≤ p.x) : hiD p q = mkZ (iv p + iv q) EE ∧ hiE p q = mkZE (iv p + iv q) EE := by
  obtain ⟨j, hj⟩ : ∃ j, j = (q.x + EE).toNat := ⟨_, rfl⟩
  have hqx := hq.2.2
  have hpx := hp.2.2
  have hjq : q.x = (j : Int) - (EE : Int) := by rw [EE_eq] at *; omega
  obtain ⟨i, hi⟩ : ∃ i, i = (p.x - q.x).toNat := ⟨_, rfl⟩
  have hpe : (p.x + EE).toNat = i + j := by omega
  have hup : upN p q = p.n * 2 ^ i := by rw [upN_eq, ← hi]
  have e1 := sum_mk p.g q.g (upN p q) q.n q.x
  have e2 := sum_abs p.g q.g (upN p q) q.n
  have h := mk_toZ (decide (sgnd p.g (upN p q) + sgnd q.g q.n < 0)) (sgnd p.g (upN p q) + sgnd q.g q.n).natAbs q.x EE (by rw [EE_eq]; omega)
  rw [← hj] at h
  rw [hiD_eq, hiE_eq, ← e1, ← e2, h.1, h.2]
  have hmain : sgnd (decide (sgnd p.g (upN p q) + sgnd q.g q.n < 0)) ((sgnd p.g (upN p q) + sgnd q.g q.n).natAbs * 2 ^ j) = iv p + iv q := by
    have hs : ∀ z : Int, sgnd (decide (z < 0)) (z.natAbs * 2 ^ j) = z * 2 ^ j := fun z => by
      unfold sgnd
      rw [Int.natCast_mul, Int.natCast_pow]
      by_cases hz : z < 0
      · rw [decide_eq_true hz, if_pos rfl, ← Int.neg_mul, show -((z.natAbs : Nat) : Int) = z by omega]; rfl
      · rw [decide_eq_false hz, if_neg (by decide), show ((z.natAbs : Nat) : Int) = z by omega]; rfl
    rw [hs, Int.add_mul]
    unfold iv
    rw [hpe, ← hj, hup]
    have hg : ∀ (g : Bool) (m : Nat), sgnd g m * 2 ^ j = sgnd g (m * 2 ^ j) := fun g m => by
      unfold sgnd
      rw [Int.natCast_mul, Int.natCast_pow]
      cases g
      · rfl
      · rw [if_pos rfl, if_pos rfl, Int.neg_mul]; rfl
    rw [hg, hg, Nat.mul_assoc, ← Nat.pow_add]
  rw [hmain]; exact ⟨rfl, rfl⟩
theorem add_iv {a b : Dy} (ha : a.Ok) (hb : b.Ok) : addD a b = mkZ (iv a + iv b) EE ∧ addE a b = mkZE (iv a + iv b) EE := by
  rcases ha with rfl | ha
  · have h := iv_mk hb
    rw [(add_zl (a := Dy.zero) (b := b) rfl).1, (add_zl (a := Dy.zero) (b := b) rfl).2, iv_zero, Int.zero_add]
    exact ⟨h.1.symm, h.2.symm⟩
  · rcases hb with rfl | hb
    · have h := iv_mk (Or.inr ha)
      rw [(add_zr (a := a) (b := Dy.zero) (odd_ne ha.2.1) rfl).1, (add_zr (a := a) (b := Dy.zero) (odd_ne ha.2.1) rfl).2, iv_zero, Int.add_zero]
      exact ⟨h.1.symm, h.2.symm⟩
    · by_cases h : a.x < b.x
      · rw [(add_lt (odd_ne ha.2.1) (odd_ne hb.2.1) h).1, (add_lt (odd_ne ha.2.1) (odd_ne hb.2.1) h).2, Int.add_comm]
        exact hi_iv hb ha (by omega)
      · rw [(add_ge (odd_ne ha.2.1) (odd_ne hb.2.1) h).1, (add_ge (odd_ne ha.2.1) (odd_ne hb.2.1) h).2]
        exact hi_iv ha hb (by omega)
theorem sgnd_mul (g h : Bool) (m n : Nat) : sgnd g m * sgnd h n = sgnd (g != h) (m * n) := by
  unfold sgnd; cases g <;> cases h <;> simp [Int.mul_neg, Int.neg_mul]
/-- A product is made of the product of the values. -/
theorem mul_iv {a b : Dy} (ha : a.Ok) (hb : b.Ok) : mulD a b = mkZ (iv a * iv b) (EE + EE) ∧ mulE a b = mkZE (iv a * iv b) (EE + EE) := by
  have hax : -1048576 ≤ a.x := by
    rcases ha with rfl | h
    · show (-1048576 : Int) ≤ 0; decide
    · exact h.2.2.1
  have hbx : -1048576 ≤ b.x := by
    rcases hb with rfl | h
    · show (-1048576 : Int) ≤ 0; decide
    · exact h.2.2.1
  have h := mk_toZ (a.g != b.g) (a.n * b.n) (a.x + b.x) (EE + EE) (by rw [EE_eq]; omega)
  rw [mulD_eq, mulE_eq, h.1, h.2]
  unfold iv
  rw [sgnd_mul, show (a.x + b.x + ((EE + EE : Nat) : Int)).toNat = (a.x + (EE : Int)).toNat + (b.x + (EE : Int)).toNat by rw [EE_eq]; omega, Nat.pow_add]
  have e : a.n * b.n * (2 ^ (a.x + (EE : Int)).toNat * 2 ^ (b.x + (EE : Int)).toNat) = a.n * 2 ^ (a.x + (EE : Int)).toNat * (b.n * 2 ^ (b.x + (EE : Int)).toNat) := by
    simp only [Nat.mul_assoc, Nat.mul_left_comm]
  rw [e]; exact ⟨rfl, rfl⟩
theorem sgnd_f (m : Nat) : sgnd false m = (m : Int) := rfl
theorem sgnd_t (m : Nat) : sgnd true m = -(m : Int) := rfl
def sgI (z : Int) : Int := if z < 0 then -1 else if 0 < z then 1 else 0
theorem iv_pos {d : Dy} (h : d.Num) : 0 < d.n * 2 ^ (d.x + (EE : Int)).toNat := Nat.mul_pos (Nat.pos_of_ne_zero (odd_ne h.2.1)) (Nat.two_pow_pos _)
theorem sgD_iv {d : Dy} (h : d.Ok) : sgD d = sgI (iv d) := by
  rcases h with rfl | h
  · rw [sgD_zero, iv_zero]; rfl
  · have hp := iv_pos h
    rw [sgD_num (odd_ne h.2.1)]
    unfold iv
    generalize d.n * 2 ^ (d.x + (EE : Int)).toNat = m at *
    unfold sgI
    cases d.g
    · rw [sgn_f, sgnd_f, if_neg (by omega), if_pos (by omega)]
    · rw [sgn_t, sgnd_t, if_pos (by omega)]
theorem cmp_mul (a b c : Nat) (hc : 0 < c) : cmpN (a * c) (b * c) = cmpN a b := by
  rcases Nat.lt_trichotomy a b with h | h | h
  · rw [cmpN_lt h, cmpN_lt (Nat.mul_lt_mul_of_pos_right h hc)]
  · rw [h, cmpN_eq, cmpN_eq]
  · rw [cmpN_gt h, cmpN_gt (Nat.mul_lt_mul_of_pos_right h hc)]
/-- The magnitudes' order is that of the values. -/
theorem mag_iv {a b : Dy} (ha : a.Num) (hb : b.Num) : magC a b = cmpN (a.n * 2 ^ (a.x + (EE : Int)).toNat) (b.n * 2 ^ (b.x + (EE : Int)).toNat) := by
  have hax := ha.2.2
  have hbx := hb.2.2
  obtain ⟨i, hi⟩ : ∃ i, i = (a.x + (EE : Int)).toNat := ⟨_, rfl⟩
  obtain ⟨j, hj⟩ : ∃ j, j = (b.x + (EE : Int)).toNat := ⟨_, rfl⟩
  have hie : a.x = (i : Int) - (EE : Int) := by rw [EE_eq] at *; omega
  have hje : b.x = (j : Int) - (EE : Int) := by rw [EE_eq] at *; omega
  have na := nd_mul_pow (j := i) (odd_ne ha.2.1)
  have nb := nd_mul_pow (j := j) (odd_ne hb.2.1)
  rw [← hi, ← hj]
  rcases Int.lt_trichotomy (topD a) (topD b) with h | h | h
  · rw [magC_lt h]
    rw [topD_eq, topD_eq] at h
    exact (cmpN_lt (lt_of_nd (b := 2) (by omega) (by omega))).symm
  · rw [magC_eq h, upN_eq, upN_eq]
    by_cases hx : j ≤ i
    · rw [show (a.x - b.x).toNat = i - j by omega, show (b.x - a.x).toNat = 0 by omega, Nat.pow_zero, Nat.mul_one, ← cmp_mul _ _ (2 ^ j) (Nat.two_pow_pos j), Nat.mul_assoc, ← Nat.pow_add, show i - j + j = i by omega]
    · rw [show (a.x - b.x).toNat = 0 by omega, show (b.x - a.x).toNat = j - i by omega, Nat.pow_zero, Nat.mul_one, ← cmp_mul _ _ (2 ^ i) (Nat.two_pow_pos i), Nat.mul_assoc, ← Nat.pow_add, show j - i + i = j by omega]
  · rw [magC_gt h]
    rw [topD_eq, topD_eq] at h
    exact (cmpN_gt (lt_of_nd (b := 2) (by omega) (by omega))).symm
/-- The order is that of the values. -/
theorem cmp_iv {a b : Dy} (ha : a.Ok) (hb : b.Ok) : cmpD a b = sgI (iv a - iv b) := by
  have sa := sgD_iv ha
  have sb := sgD_iv hb
  rcases Int.lt_trichotomy (sgD a) (sgD b) with h | h | h
  · rw [cmpD_lt h]
    rw [sa, sb] at h
    unfold sgI at h ⊢
    rw [if_pos (by split at h <;> split at h <;> (try split at h) <;> (try split at h) <;> omega)]
  · by_cases h0 : sgD a = 0
    · rw [cmpD_zero h h0, Dy.zero_of ha h0, Dy.zero_of hb (h ▸ h0), iv_zero]; rfl
    · rw [cmpD_eq h h0]
      have na := Dy.num_of ha h0
      have nb := Dy.num_of hb (h ▸ h0)
      rw [mag_iv na nb, sgD_num (odd_ne na.2.1)]
      have hg : sgnI a.g = sgnI b.g := by rw [← sgD_num (odd_ne na.2.1), ← sgD_num (odd_ne nb.2.1)]; exact h
      have hg2 : a.g = b.g := by
        revert hg
        cases a.g <;> cases b.g <;> simp [sgn_t, sgn_f]
      unfold iv
      rw [← hg2]
      generalize a.n * 2 ^ (a.x + (EE : Int)).toNat = m
      generalize b.n * 2 ^ (b.x + (EE : Int)).toNat = n
      unfold sgI
      rcases Nat.lt_trichotomy m n with c | c | c
      · rw [cmpN_lt c]
        cases a.g
        · rw [sgn_f, sgnd_f, sgnd_f, if_pos (by omega)]; rfl
        · rw [sgn_t, sgnd_t, sgnd_t, if_neg (by omega), if_pos (by omega)]; rfl
      · rw [c, cmpN_eq, Int.mul_zero, if_neg (by omega), if_neg (by omega)]
      · rw [cmpN_gt c]
        cases a.g
        · rw [sgn_f, sgnd_f, sgnd_f, if_neg (by omega), if_pos (by omega)]; rfl
        · rw [sgn_t, sgnd_t, sgnd_t, if_pos (by omega)]; rfl
  · rw [cmpD_gt h]
    rw [sa, sb] at h
    unfold sgI at h ⊢
    rw [if_neg (by split at h <;> split at h <;> (try split at h) <;> (try split at h) <;> omega), if_pos (by split at h <;> split at h <;> (try split at h) <;> (try split at h) <;> omega)]
end Go.Proofs.YtjkonfopajihdaaDoor
/-! What DyadRing says, of numbers alone. -/
set_option autoImplicit false
namespace Go.Proofs.YtjkonfopajihdaaDoor
open Go
theorem iv_add {a b : Dy} (ha : a.Ok) (hb : b.Ok) (h : addE a b = 0) : iv (addD a b) = iv a + iv b := by
  have e := add_iv ha hb
  rw [e.1]; rw [e.2] at h; exact mk_iv h
theorem iv_mul {a b : Dy} (ha : a.Ok) (hb : b.Ok) (h : mulE a b = 0) : iv (mulD a b) * 2 ^ EE = iv a * iv b := by
  have e := mul_iv ha hb
  rw [e.1]; rw [e.2] at h; exact mk_iv2 h
theorem add_comm3 {a b : Dy} (ha : a.Ok) (hb : b.Ok) : addD a b = addD b a ∧ addE a b = addE b a := by
  rw [(add_iv ha hb).1, (add_iv ha hb).2, (add_iv hb ha).1, (add_iv hb ha).2, Int.add_comm]; exact ⟨rfl, rfl⟩
theorem mul_comm3 {a b : Dy} (ha : a.Ok) (hb : b.Ok) : mulD a b = mulD b a ∧ mulE a b = mulE b a := by
  rw [(mul_iv ha hb).1, (mul_iv ha hb).2, (mul_iv hb ha).1, (mul_iv hb ha).2, Int.mul_comm]; exact ⟨rfl, rfl⟩
theorem sgI_zero {z : Int} : sgI z = 0 ↔ z = 0 := by
  unfold sgI
  by_cases h : z < 0
  · rw [if_pos h]; omega
  · rw [if_neg h]
    by_cases h2 : 0 < z
    · rw [if_pos h2]; omega
    · rw [if_neg h2]; omega
theorem mul_sg {a b : Dy} (ha : a.Ok) (hb : b.Ok) (h : mulE a b = 0) : sgD (mulD a b) = 0 ↔ (sgD a = 0 ∨ sgD b = 0) := by
  rw [sgD_iv ha, sgD_iv hb, sgD_iv (mulD_Ok a b), sgI_zero, sgI_zero, sgI_zero]
  have e := iv_mul ha hb h
  have hp : (2 : Int) ^ EE ≠ 0 := Int.pow_ne_zero (by decide)
  constructor
  · intro h0
    rw [h0, Int.zero_mul] at e
    exact Int.mul_eq_zero.mp e.symm
  · intro h0
    have : iv a * iv b = 0 := Int.mul_eq_zero.mpr h0
    rw [this] at e
    exact (Int.mul_eq_zero.mp e).resolve_right hp
theorem sub_back {a b : Dy} (ha : a.Ok) (hb : b.Ok) (h : addE a b = 0) : addD (addD a b) (negD b) = a ∧ addE (addD a b) (negD b) = 0 := by
  have e := add_iv (add_Ok ha hb) (negD_Ok hb)
  rw [e.1, e.2, iv_neg, iv_add ha hb h, show iv a + iv b + -iv b = iv a by omega]
  exact iv_mk ha
theorem sub_cmp {a b : Dy} (ha : a.Ok) (hb : b.Ok) (h : addE a (negD b) = 0) : sgD (addD a (negD b)) = cmpD a b := by
  rw [sgD_iv (add_Ok ha (negD_Ok hb)), iv_add ha (negD_Ok hb) h, iv_neg, cmp_iv ha hb, Int.sub_eq_add_neg]
theorem distr {a b c : Dy} (ha : a.Ok) (hb : b.Ok) (hc : c.Ok) (h1 : addE a b = 0) (h2 : mulE (addD a b) c = 0) (h3 : mulE a c = 0) (h4 : mulE b c = 0) (h5 : addE (mulD a c) (mulD b c) = 0) :
    mulD (addD a b) c = addD (mulD a c) (mulD b c) := by
  have hp : (2 : Int) ^ EE ≠ 0 := Int.pow_ne_zero (by decide)
  have e1 := iv_mul (add_Ok ha hb) hc h2
  rw [iv_add ha hb h1, Int.add_mul, ← iv_mul ha hc h3, ← iv_mul hb hc h4, ← Int.add_mul, ← iv_add (mulD_Ok a c) (mulD_Ok b c) h5] at e1
  exact iv_inj (mulD_Ok _ _) (add_Ok (mulD_Ok _ _) (mulD_Ok _ _)) (Int.eq_of_mul_eq_mul_right hp e1)
theorem cmp_le {a b : Dy} (ha : a.Ok) (hb : b.Ok) (h : iv a ≤ iv b) : cmpD a b ≤ 0 := by
  rw [cmp_iv ha hb]; unfold sgI
  by_cases h2 : iv a - iv b < 0
  · rw [if_pos h2]; decide
  · rw [if_neg h2, if_neg (by omega)]; decide
theorem cmp_gt {a b : Dy} (ha : a.Ok) (hb : b.Ok) (h : iv b < iv a) : 0 < cmpD a b := by
  rw [cmp_iv ha hb]; unfold sgI
  rw [if_neg (by omega), if_pos (by omega)]; decide
/-- A number that Make makes, by its value. -/
theorem iv_made {g : Bool} {n : Nat} {x : Int} (hx : -1048576 ≤ x) (h : mkE n x = 0) : iv (mkD g n x) = sgnd g (n * 2 ^ (x + (EE : Int)).toNat) := by
  have e := mk_toZ g n x EE (by rw [EE_eq]; omega)
  rw [e.1]; rw [e.2] at h; exact mk_iv h
theorem made_x {g : Bool} {n : Nat} {x : Int} (h : mkE n x = 0) : mkD g n x = Dy.zero ∨ x ≤ (mkD g n x).x := by
  by_cases h0 : n = 0
  · left; rw [h0, mkD_zero]
  · right
    have hk : mkOk3 n x := Classical.byContradiction fun c => absurd (h.symm.trans (mkE_no c)) (by decide)
    rw [mkD_ok h0 hk]
    show x ≤ x + (lowN n : Int)
    omega
theorem fl_nums (n Q P : Nat) (ho : n % 2 = 1) (hQ : Q % 2 = 0) (hQ0 : 0 < Q) (hP : 0 < P) :
    n / Q * (Q * P) ≤ n * P ∧ n * P < n / Q * (Q * P) + Q * P ∧ n / Q * (Q * P) < n * P := by
  have h1 : n / Q * Q + n % Q = n := by rw [Nat.mul_comm]; exact Nat.div_add_mod n Q
  have h2 := Nat.mod_lt n hQ0
  have h3 : 0 < n % Q := by
    apply Nat.pos_of_ne_zero
    intro c
    rw [c, Nat.add_zero] at h1
    have : n % 2 = 0 := by rw [← h1, Nat.mul_mod, hQ, Nat.mul_zero, Nat.zero_mod]
    omega
  have e : n * P = n / Q * (Q * P) + n % Q * P := by
    conv => lhs; rw [← h1, Nat.add_mul, Nat.mul_assoc]
  have l1 : n % Q * P < Q * P := Nat.mul_lt_mul_of_pos_right h2 hP
  have l2 : 0 < n % Q * P := Nat.mul_pos h3 hP
  rw [e]
  refine ⟨Nat.le_add_right _ _, Nat.add_lt_add_left l1 _, Nat.lt_add_of_pos_right l2⟩
theorem fl_iv {a : Dy} {k : Int} (ha : a.Ok) (h : flE a k = 0) (h1 : mkE 1 k = 0) : iv (flD a k) ≤ iv a ∧ iv a < iv (flD a k) + iv (mkD false 1 k) ∧ (flD a k = Dy.zero ∨ k ≤ (flD a k).x) := by
  by_cases hr : k < -1048576 ∨ 1048576 < k
  · rw [(fl_out hr).2] at h; exact absurd h (by decide)
  · have hk : -1048576 ≤ k := by omega
    rw [iv_made hk h1, sgnd_f]
    by_cases h2 : a.n = 0 ∨ k ≤ a.x
    · rw [(fl_self hr h2).1]
      have hp : 0 < 1 * 2 ^ (k + (EE : Int)).toNat := Nat.mul_pos (by decide) (Nat.two_pow_pos _)
      generalize 1 * 2 ^ (k + (EE : Int)).toNat = q at *
      refine ⟨Int.le_refl _, by omega, ?_⟩
      rcases ha with ha | ha
      · exact Or.inl ha
      · rcases h2 with h2 | h2
        · exact absurd h2 (odd_ne ha.2.1)
        · exact Or.inr h2
    · have hN : a.Num := by
        rcases ha with rfl | ha
        · exact absurd (Or.inl rfl) h2
        · exact ha
      have hx : a.x < k := by omega
      rw [(fl_mk hr h2).2] at h
      rw [(fl_mk hr h2).1]
      refine (and_assoc.mp ⟨?_, made_x h⟩)
      rw [iv_made hk h]
      unfold iv flN
      have hx1 := hN.2.2.1
      obtain ⟨j, hj⟩ : ∃ j, j = (k - a.x).toNat := ⟨_, rfl⟩
      have hj0 : 0 < j := by omega
      rw [show (k + (EE : Int)).toNat = j + (a.x + (EE : Int)).toNat by rw [EE_eq]; omega, Nat.pow_add, ← hj]
      have hQ : 2 ^ j % 2 = 0 := by
        obtain ⟨i, rfl⟩ : ∃ i, j = i + 1 := ⟨j - 1, by omega⟩
        rw [Nat.pow_succ, Nat.mul_mod_left]
      have F := fl_nums a.n (2 ^ j) (2 ^ (a.x + (EE : Int)).toNat) hN.2.1 hQ (Nat.two_pow_pos _) (Nat.two_pow_pos _)
      clear h hx hj hQ
      generalize 2 ^ j = Q at *
      generalize 2 ^ (a.x + (EE : Int)).toNat = P at *
      cases a.g
      · rw [sgnd_f, sgnd_f, if_neg (by decide), Nat.add_zero, Nat.one_mul]
        generalize a.n / Q * (Q * P) = A at *
        generalize a.n * P = B at *
        generalize Q * P = C at *
        omega
      · rw [sgnd_t, sgnd_t, if_pos rfl, Nat.one_mul, Nat.add_mul, Nat.one_mul]
        generalize a.n / Q * (Q * P) = A at *
        generalize a.n * P = B at *
        generalize Q * P = C at *
        omega
theorem ring_floor {a : Dy} {k : Int} (ha : a.Ok) (h : flE a k = 0) (h1 : mkE 1 k = 0) (h2 : addE (flD a k) (mkD false 1 k) = 0) (hl : (flD a k).Ok) :
    cmpD (flD a k) a ≤ 0 ∧ 0 < cmpD (addD (flD a k) (mkD false 1 k)) a ∧ (flD a k = Dy.zero ∨ k ≤ (flD a k).x) := by
  have F := fl_iv ha h h1
  have ho := mkD_Ok false 1 k
  refine ⟨cmp_le hl ha F.1, cmp_gt (add_Ok hl ho) ha ?_, F.2.2⟩
  rw [iv_add hl ho h2]; exact F.2.1
end Go.Proofs.YtjkonfopajihdaaDoor
