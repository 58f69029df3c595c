/- Texts put together: D69 B7t B8t B10t D80 D81. -/
import Derived.Test.YtcljdjocknfaiaaDoorV6
import Derived.Test.YtcljdjocknfaiaaDoorV4
set_option linter.unusedSimpArgs false
set_option linter.unusedVariables false
namespace Go.Proofs.YtcljdjocknfaiaaDoor
open Go Go.RowKit Nt
theorem DFloat_f (x : Nat) (w : World) (hx : x < 18446744073709551616) (fx : Bt.finB x = true) (hG : Globs glT w) : Calls Tryd.prog 5 #[.float .f64 x] w fun e w' => e = .returned (.tuple #[(flt x).v, .int .i64 0]) ∧ Below w.heap.size w w' := DFloat_c x hx fx w (tabs_of hG)
theorem order_self {a : Nat} (ha : ¬ Bt.Ff.isn a) : FloatKind.f64.format.order a a = some Ordering.eq := by
  show Ieee.double.order a a = _
  rw [Bt.Ff.order_eq, if_neg (by rintro (c | c); exact ha c; exact ha c)]
  simp [compare, compareOfLessAndEq]
set_option maxRecDepth 100000 in
theorem lBits_i (a b : Nat) (w : World) (ha : ¬ Bt.Ff.isn a) (hb : ¬ Bt.Ff.isn b) {c : Bool} (h : c = true ↔ a = b) : Calls Tryd.prog 9 #[.float .f64 a, .float .f64 b] w fun e w' => e = .returned (.bool c) ∧ Below w.heap.size w w' := by
  by_cases e : a = b
  · rw [h.2 e, e]; exact lBits_c b w
  · have hc : c = false := by cases c; rfl; exact absurd (h.1 rfl) e
    have hx := Bt.ext_bits
    have hy : ((a : Int) == (b : Int)) = false := by rw [beq_eq_false_iff_ne]; omega
    have o1 : (FloatKind.f64.format.order a a != some Ordering.eq) = false := by rw [order_self ha]; rfl
    have o2 := order_self ha
    rw [hc]
    clear e h
    go_enter Tryd.func9, Tryd.ntmps9
    go_wp2
    go_ret
    exact ⟨rfl, Below.refl _ _⟩
variable [Env]
end Go.Proofs.YtcljdjocknfaiaaDoor
set_option linter.unusedSimpArgs false
set_option linter.unusedVariables false
namespace Go.Proofs.YtcljdjocknfaiaaDoor.Bt
open Go Go.RowKit Ff
@[irreducible] def place (x : Nat) : Nat := if isn x then 18437736874454810626 else if sgn x then 9218868437227405312 - rung x else 9218868437227405313 + rung x
theorem sgn_rung {x : Nat} (hx : x < 18446744073709551616) (s : sgn x = false) : rung x = x := by
  unfold sgn at s; rw [beq_eq_false_iff_ne] at s; unfold rung; omega
theorem sgn_rung' {x : Nat} (hx : x < 18446744073709551616) (s : sgn x = true) : x = topped (rung x) := by
  unfold sgn at s; rw [beq_iff_eq] at s; rw [topped_eq]; unfold rung; omega
end Go.Proofs.YtcljdjocknfaiaaDoor.Bt
set_option linter.unusedSimpArgs false
set_option linter.unusedVariables false
namespace Go.Proofs.YtcljdjocknfaiaaDoor.Bt
open Go Go.RowKit Ff
@[irreducible] def fltB (x y : Nat) : Bool := decide (¬ isn x ∧ ¬ isn y ∧ srung x < srung y)
@[irreducible] def feqB (x y : Nat) : Bool := decide (¬ isn x ∧ ¬ isn y ∧ srung x = srung y)
theorem ord_cmp (x y : Nat) : FloatKind.f64.format.order x y = if isn x ∨ isn y then none else some (compare (srung x) (srung y)) := order_eq x y
theorem cmp_lt (a b : Int) : compare a b = Ordering.lt ↔ a < b := by
  simp only [compare, compareOfLessAndEq]; by_cases h : a < b <;> by_cases h' : a = b <;> simp [h, h']
theorem cmp_eq (a b : Int) : compare a b = Ordering.eq ↔ a = b := by
  simp only [compare, compareOfLessAndEq]; by_cases h : a < b <;> by_cases h' : a = b <;> simp [h, h'] <;> omega
theorem cmp_gt (a b : Int) : compare a b = Ordering.gt ↔ b < a := by
  simp only [compare, compareOfLessAndEq]; by_cases h : a < b <;> by_cases h' : a = b <;> simp [h, h'] <;> omega
theorem some_beq (o p : Ordering) : (some o == some p) = decide (o = p) := by cases o <;> cases p <;> rfl
@[local go_sem] theorem f_lt (x y : Nat) : (FloatKind.f64.format.order x y == some Ordering.lt) = fltB x y := by
  rw [ord_cmp]; unfold fltB
  by_cases h : isn x ∨ isn y
  · rw [if_pos h]; symm; rw [show (none == some Ordering.lt) = false from rfl, decide_eq_false_iff_not]; rintro ⟨h1, h2, _⟩; exact h.elim h1 h2
  · rw [if_neg h, some_beq, Bool.eq_iff_iff, decide_eq_true_iff, decide_eq_true_iff, cmp_lt]
    exact ⟨fun c => ⟨fun a => h (Or.inl a), fun a => h (Or.inr a), c⟩, fun c => c.2.2⟩
@[local go_sem] theorem f_gt (x y : Nat) : (FloatKind.f64.format.order x y == some Ordering.gt) = fltB y x := by
  rw [ord_cmp]; unfold fltB
  by_cases h : isn x ∨ isn y
  · rw [if_pos h]; symm; rw [show (none == some Ordering.gt) = false from rfl, decide_eq_false_iff_not]; rintro ⟨h1, h2, _⟩; exact h.elim h2 h1
  · rw [if_neg h, some_beq, Bool.eq_iff_iff, decide_eq_true_iff, decide_eq_true_iff, cmp_gt]
    exact ⟨fun c => ⟨fun a => h (Or.inr a), fun a => h (Or.inl a), c⟩, fun c => c.2.2⟩
@[local go_sem] theorem f_eq (x y : Nat) : (FloatKind.f64.format.order x y == some Ordering.eq) = feqB x y := by
  rw [ord_cmp]; unfold feqB
  by_cases h : isn x ∨ isn y
  · rw [if_pos h]; symm; rw [show (none == some Ordering.eq) = false from rfl, decide_eq_false_iff_not]; rintro ⟨h1, h2, _⟩; exact h.elim h1 h2
  · rw [if_neg h, some_beq, Bool.eq_iff_iff, decide_eq_true_iff, decide_eq_true_iff, cmp_eq]
    exact ⟨fun c => ⟨fun a => h (Or.inl a), fun a => h (Or.inr a), c⟩, fun c => c.2.2⟩
@[local go_sem] theorem f_ne (x y : Nat) : (FloatKind.f64.format.order x y != some Ordering.eq) = !feqB x y := by
  rw [bne, f_eq]
theorem feq_self (x : Nat) : feqB x x = !decide (isn x) := by unfold feqB; simp
theorem feq_ok {x : Nat} (h : ¬ isn x) : feqB x x = true := by rw [feq_self]; simp [h]
theorem isn_zero : ¬ isn 0 := by decide
theorem srung_zero : srung 0 = 0 := by decide
theorem srung_eq_zero (x : Nat) : srung x = 0 ↔ rung x = 0 := by unfold srung; split <;> omega
theorem feq_zero (x : Nat) : feqB x 0 = decide (rung x = 0) := by
  unfold feqB; rw [Bool.eq_iff_iff, decide_eq_true_iff, decide_eq_true_iff, srung_zero, srung_eq_zero]
  constructor
  · intro h; exact h.2.2
  · intro h; exact ⟨by unfold isn; omega, isn_zero, h⟩
theorem feq_z {x : Nat} (h : rung x = 0) : feqB x 0 = true := by rw [feq_zero]; simp [h]
theorem feq_nz {x : Nat} (h : rung x ≠ 0) : feqB x 0 = false := by rw [feq_zero]; simp [h]
end Go.Proofs.YtcljdjocknfaiaaDoor.Bt
set_option linter.unusedSimpArgs false
set_option linter.unusedVariables false
namespace Go.Proofs.YtcljdjocknfaiaaDoor.Bt
open Go Go.RowKit Ff
attribute [local go_sem] f_lt f_gt f_eq f_ne
@[irreducible] def infW (x : Nat) : Bool := decide (x = 9218868437227405312)
theorem infW_iff (x : Nat) : infW x = true ↔ x = 9218868437227405312 := by unfold infW; exact decide_eq_true_iff
@[local go_sem] theorem inf_w (x : Nat) : ((x : Int) == 9218868437227405312) = infW x := by
  rw [Bool.eq_iff_iff, beq_iff_eq, infW_iff]; omega
@[irreducible] def upF (x : Nat) : Nat := if isn x then x else if x = 9218868437227405312 then x else if rung x = 0 then 1 else if sgn x then x - 1 else x + 1
theorem up_inf {x : Nat} (h : infW x = true) : upF x = x := by unfold upF; rw [if_pos ((infW_iff x).1 h)]; split <;> rfl
theorem notInf {x : Nat} (h : infW x = false) : ¬ x = 9218868437227405312 := fun c => by rw [(infW_iff x).2 c] at h; cases h
theorem up_zero {x : Nat} (h : ¬ isn x) (h' : infW x = false) (h0 : rung x = 0) : upF x = 1 := by unfold upF; rw [if_neg h, if_neg (notInf h'), if_pos h0]
theorem up_neg {x : Nat} (h : ¬ isn x) (h' : infW x = false) (h0 : rung x ≠ 0) (s : sgn x = true) : upF x = x - 1 := by unfold upF; rw [if_neg h, if_neg (notInf h'), if_neg h0, if_pos s]
theorem up_pos {x : Nat} (h : ¬ isn x) (h' : infW x = false) (h0 : rung x ≠ 0) (s : sgn x = false) : upF x = x + 1 := by unfold upF; rw [if_neg h, if_neg (notInf h'), if_neg h0, if_neg (by simp [s])]
end Go.Proofs.YtcljdjocknfaiaaDoor.Bt
set_option linter.unusedSimpArgs false
set_option linter.unusedVariables false
namespace Go.Proofs.YtcljdjocknfaiaaDoor
open Go Go.RowKit Nt
/-- A unit of the last place, as a whole number. -/
def uu (q : Int) : Nat := 2 ^ (q + (EE : Int)).toNat
theorem uu_pos (q : Int) : 0 < uu q := Nat.two_pow_pos _
theorem uu_up {p q : Int} (h : -1074 ≤ p) (hpq : p < q) : 2 * uu p ≤ uu q := by
  have e := EE_eq
  unfold uu
  have := Nat.pow_le_pow_right (n := 2) (by omega) (show (p + (EE : Int)).toNat + 1 ≤ (q + (EE : Int)).toNat by omega)
  rw [Nat.pow_succ] at this
  omega
theorem uu_add {q : Int} {k : Nat} (h : -1048576 ≤ q) : uu (q + k) = 2 ^ k * uu q := by
  have e := EE_eq
  unfold uu
  rw [← Nat.pow_add]
  congr 1
  omega
/-- A float's parts. -/
structure NF (m : Nat) (q : Int) : Prop where
  lt : m < 9007199254740992
  lo : -1074 ≤ q
  hi : q ≤ 971
  nm : 4503599627370496 ≤ m ∨ q = -1074
theorem NF.lt_of {m1 m2 : Nat} {q1 q2 : Int} (h1 : NF m1 q1) (h2 : NF m2 q2) (h : pk m1 q1 < pk m2 q2) : (m1 + 1) * uu q1 ≤ m2 * uu q2 := by
  obtain ⟨a1, a2, a3, a4⟩ := h1
  obtain ⟨b1, b2, b3, b4⟩ := h2
  rw [pk_eq, pk_eq] at h
  rcases Int.lt_trichotomy q1 q2 with c | c | c
  · have h52 : 4503599627370496 ≤ m2 := by omega
    have k1 : (m1 + 1) * uu q1 ≤ 9007199254740992 * uu q1 := Nat.mul_le_mul_right _ (by omega)
    have k2 := uu_up a2 c
    have k3 : 4503599627370496 * uu q2 ≤ m2 * uu q2 := Nat.mul_le_mul_right _ h52
    omega
  · subst c; exact Nat.mul_le_mul_right _ (by omega)
  · omega
theorem NF.inj {m1 m2 : Nat} {q1 q2 : Int} (h1 : NF m1 q1) (h2 : NF m2 q2) (h : pk m1 q1 = pk m2 q2) : m1 = m2 ∧ q1 = q2 := by
  obtain ⟨a1, a2, a3, a4⟩ := h1
  obtain ⟨b1, b2, b3, b4⟩ := h2
  rw [pk_eq, pk_eq] at h
  omega
/-- What is known of a number and of the float below it. -/
structure RF (N M : Nat) (Q r : Int) : Prop where
  nf : NF M Q
  rc : r = 0 ∨ r = 1 ∨ r = 2 ∨ r = 3
  ex : r = 0 → N = M * uu Q
  lo : r ≠ 0 → M * uu Q < N
  hi : N < (M + 1) * uu Q ∨ pk M Q + 1 = 9218868437227405312
  r1 : r = 1 → (N - M * uu Q) * 2 < uu Q
  r2 : r = 2 → (N - M * uu Q) * 2 = uu Q
  r3 : r = 3 → uu Q < (N - M * uu Q) * 2
theorem RF.le {N M : Nat} {Q r : Int} (h : RF N M Q r) : M * uu Q ≤ N := by
  by_cases c : r = 0
  · rw [h.ex c]; exact Nat.le_refl _
  · exact Nat.le_of_lt (h.lo c)
theorem RF.pk_lt {N M : Nat} {Q r : Int} (h : RF N M Q r) : pk M Q < 9218868437227405312 := by
  obtain ⟨a1, a2, a3, a4⟩ := h.nf
  rw [pk_eq]; omega
theorem rf_of {g : Bool} {n : Nat} {x : Int} (hn : (Dy.mk g n x).Num) : RF (n * uu x) (rM n x) (rQ n x) (rW n x) := by
  have e := EE_eq
  obtain ⟨hf, ho, hx1, hx2⟩ := hn
  simp only at hf ho hx1 hx2
  have h0 : n ≠ 0 := odd_ne ho
  have hb := rM_b (x := x) h0
  have hq := rQ_b n x
  have nf : NF (rM n x) (rQ n x) := ⟨hb.1, hq.1, hq.2, hb.2⟩
  have hnd : nd 2 n ≠ 0 := fun c => h0 ((nd_eq_zero (by omega)).1 c)
  have l2 : 2 ^ (nd 2 n - 1) ≤ n := (pow_le_iff (b := 2) (by omega) _ _).2 (by omega)
  by_cases h : 1024 ≤ rT n x
  · obtain ⟨e1, e2, e3⟩ := rQ_far h
    rw [e1, e2] at nf
    rw [e1, e2, e3]
    have hN : 9007199254740992 * uu 971 ≤ n * uu x := by
      have k1 : 2 ^ (nd 2 n - 1) * uu x ≤ n * uu x := Nat.mul_le_mul_right _ l2
      have k2 : 2 ^ 53 * uu 971 ≤ 2 ^ (nd 2 n - 1) * uu x := by
        unfold uu
        rw [← Nat.pow_add, ← Nat.pow_add]
        refine Nat.pow_le_pow_right (by omega) ?_
        unfold rT at h
        omega
      rw [show (2 : Nat) ^ 53 = 9007199254740992 by decide] at k2
      omega
    have up := uu_pos 971
    generalize n * uu x = N at *
    exact ⟨nf, by omega, by omega, fun _ => by omega, Or.inr (by have := pk_eq 9007199254740991 971; omega), by omega, by omega, fun _ => by omega⟩
  · by_cases hu : rQ n x ≤ x
    · obtain ⟨e1, e2⟩ := rM_up h hu
      have hN : n * uu x = rM n x * uu (rQ n x) := by
        rw [e1, Nat.mul_assoc]
        congr 1
        have := uu_add (q := rQ n x) (k := (x - rQ n x).toNat) (by omega)
        rw [← this]
        congr 1
        omega
      rw [e2, hN]
      have up := uu_pos (rQ n x)
      refine ⟨nf, by omega, fun _ => rfl, by omega, Or.inl ?_, by omega, by omega, by omega⟩
      rw [Nat.add_mul]; omega
    · obtain ⟨e1, e2⟩ := rM_dn h hu
      obtain ⟨k, hk⟩ : ∃ k, k = (rQ n x - x).toNat := ⟨_, rfl⟩
      rw [← hk] at e1 e2
      have hk1 : 1 ≤ k := by omega
      have hu2 : uu (rQ n x) = 2 ^ k * uu x := by
        have := uu_add (q := x) (k := k) (by omega)
        rw [← this]; congr 1; omega
      have hkp := Nat.two_pow_pos k
      have hL0 : n % 2 ^ k ≠ 0 := fun c => by
        have : n % 2 ^ k % 2 = n % 2 := Nat.mod_mod_of_dvd n ⟨2 ^ (k - 1), by rw [Nat.mul_comm, ← Nat.pow_succ]; congr 1; omega⟩
        rw [c] at this; omega
      have hL := Nat.mod_lt n hkp
      have hdm := Nat.div_add_mod n (2 ^ k)
      rw [← e1] at hdm
      have hux := uu_pos x
      have hN : n * uu x = rM n x * uu (rQ n x) + n % 2 ^ k * uu x := by
        rw [hu2]
        calc n * uu x = (2 ^ k * rM n x + n % 2 ^ k) * uu x := by rw [hdm]
          _ = _ := by rw [Nat.add_mul, Nat.mul_comm (2 ^ k) (rM n x), Nat.mul_assoc]
      have hpos : 0 < n % 2 ^ k * uu x := Nat.mul_pos (Nat.pos_of_ne_zero hL0) hux
      have hlt : n % 2 ^ k * uu x < uu (rQ n x) := by rw [hu2]; exact Nat.mul_lt_mul_of_pos_right hL hux
      have hc : (n % 2 ^ k * uu x) * 2 = (n % 2 ^ k * 2) * uu x := Nat.mul_right_comm _ _ _
      rw [hN, e2]
      have w1 := fun (h : n % 2 ^ k * 2 < 2 ^ k) => Nat.mul_lt_mul_of_pos_right h hux
      have w3 := fun (h : 2 ^ k < n % 2 ^ k * 2) => Nat.mul_lt_mul_of_pos_right h hux
      have w2 : n % 2 ^ k * 2 = 2 ^ k → (n % 2 ^ k * 2) * uu x = 2 ^ k * uu x := fun h => by rw [h]
      rw [← hc, ← hu2] at w1 w2 w3
      have hsub : rM n x * uu (rQ n x) + n % 2 ^ k * uu x - rM n x * uu (rQ n x) = n % 2 ^ k * uu x := by omega
      rcases Nat.lt_trichotomy (n % 2 ^ k * 2) (2 ^ k) with c | c | c
      · rw [cmpN_lt c]
        have := w1 c
        refine ⟨nf, by omega, by omega, fun _ => by omega, Or.inl (by rw [Nat.add_mul]; omega), fun _ => by omega, by omega, by omega⟩
      · rw [c, cmpN_eq]
        have := w2 c
        refine ⟨nf, by omega, by omega, fun _ => by omega, Or.inl (by rw [Nat.add_mul]; omega), by omega, fun _ => by omega, by omega⟩
      · rw [cmpN_gt c]
        have := w3 c
        refine ⟨nf, by omega, by omega, fun _ => by omega, Or.inl (by rw [Nat.add_mul]; omega), by omega, by omega, fun _ => by omega⟩
def upP (M : Nat) (r : Int) : Prop := r = 3 ∨ (r = 2 ∧ M % 2 = 1)
theorem RF.mono {N1 N2 M1 M2 : Nat} {Q1 Q2 r1 r2 : Int} (h1 : RF N1 M1 Q1 r1) (h2 : RF N2 M2 Q2 r2) (h : N1 ≤ N2) : pk M1 Q1 ≤ pk M2 Q2 ∧ (pk M1 Q1 = pk M2 Q2 → (r1 ≠ 0 → r2 ≠ 0) ∧ (upP M1 r1 → upP M2 r2)) := by
  have p1 := h1.pk_lt
  have p2 := h2.pk_lt
  constructor
  · refine Nat.not_lt.1 fun c => ?_
    have k := h2.nf.lt_of h1.nf c
    have k1 := h1.le
    rcases h2.hi with k2 | k2 <;> omega
  · intro he
    obtain ⟨rfl, rfl⟩ := h1.nf.inj h2.nf he
    have up := uu_pos Q1
    have c1 := h1.rc
    have c2 := h2.rc
    obtain ⟨-, -, x1, x2, x3, x4, x5, x6⟩ := h1
    obtain ⟨-, -, y1, y2, y3, y4, y5, y6⟩ := h2
    generalize M1 * uu Q1 = F at *
    constructor
    · intro hr c
      have := x2 hr
      have := y1 c
      omega
    · rintro (hr | ⟨hr, hp⟩)
      · have := x6 hr
        rcases c2 with c2 | c2 | c2 | c2
        · have := y1 c2; omega
        · have := y4 c2; omega
        · have := y5 c2; omega
        · exact Or.inl c2
      · have := x5 hr
        rcases c2 with c2 | c2 | c2 | c2
        · have := y1 c2; omega
        · have := y4 c2; omega
        · exact Or.inr ⟨c2, hp⟩
        · exact Or.inl c2
/-- A float's own number. -/
theorem RF.own {m M : Nat} {e Q r : Int} (h : RF (m * uu e) M Q r) (hm : NF m e) : M = m ∧ Q = e ∧ r = 0 := by
  have p1 := h.pk_lt
  have p2 : pk m e < 9218868437227405312 := by obtain ⟨a1, a2, a3, a4⟩ := hm; rw [pk_eq]; omega
  have he : pk M Q = pk m e := by
    rcases Nat.lt_trichotomy (pk M Q) (pk m e) with c | c | c
    · have k := h.nf.lt_of hm c
      rcases h.hi with k2 | k2 <;> omega
    · exact c
    · have k := hm.lt_of h.nf c
      have k1 := h.le
      have up := uu_pos e
      rw [Nat.add_mul] at k
      omega
  obtain ⟨rfl, rfl⟩ := h.nf.inj hm he
  refine ⟨rfl, rfl, ?_⟩
  refine Classical.not_not.1 fun c => ?_
  have := h.lo c
  omega
end Go.Proofs.YtcljdjocknfaiaaDoor
set_option linter.unusedSimpArgs false
set_option linter.unusedVariables false
namespace Go.Proofs.YtcljdjocknfaiaaDoor
open Go Go.RowKit Nt
@[irreducible] def lowW (a : Dy) : Nat := if a.n = 0 then 0 else rnd a.g a.n a.x (upBelow a.g a.n a.x)
@[irreducible] def highW (a : Dy) : Nat := if a.n = 0 then 0 else rnd a.g a.n a.x (upAbove a.g a.n a.x)
@[irreducible] def nearW (a : Dy) : Nat := if a.n = 0 then 0 else rnd a.g a.n a.x (upNear a.n a.x)
theorem pk_up (m : Nat) (e : Int) : pk (m + 1) e = pk m e + 1 := by rw [pk_eq, pk_eq]; omega
theorem wf_lt3 (g : Bool) {p : Nat} (h : p ≤ 9218868437227405312) : Bt.wf g p < 18446744073709551616 := by
  rw [Bt.wf_eq]
  cases g
  · rw [if_neg Bool.false_ne_true]; omega
  · rw [if_pos rfl, Bt.topped_eq]; omega
theorem sr_wf (g : Bool) {p : Nat} (h : p ≤ 9218868437227405312) : Bt.Ff.srung (Bt.wf g p) = if g = true then -(p : Int) else (p : Int) := by
  obtain ⟨r, s⟩ := wf_rung g h
  unfold Bt.Ff.srung
  rw [r, s]
theorem fin_wf3 (g : Bool) {p : Nat} (hp : p ≤ 9218868437227405312) : Bt.finB (Bt.wf g p) = decide (p < 9218868437227405312) := by
  unfold Bt.finB; rw [(wf_rung g hp).1]
theorem words_num {a : Dy} (h : a.n ≠ 0) : lowW a = Bt.wf a.g (pk (rM a.n a.x) (rQ a.n a.x) + (if a.g = true ∧ rW a.n a.x ≠ 0 then 1 else 0)) ∧ highW a = Bt.wf a.g (pk (rM a.n a.x) (rQ a.n a.x) + (if ¬ a.g = true ∧ rW a.n a.x ≠ 0 then 1 else 0)) ∧ nearW a = Bt.wf a.g (pk (rM a.n a.x) (rQ a.n a.x) + (if rW a.n a.x = 3 ∨ (rW a.n a.x = 2 ∧ rM a.n a.x % 2 = 1) then 1 else 0)) := by
  have key : ∀ up : Bool, rnd a.g a.n a.x up = Bt.wf a.g (pk (rM a.n a.x) (rQ a.n a.x) + (if up = true then 1 else 0)) := fun up => by
    cases up
    · rw [rnd_f, if_neg Bool.false_ne_true]; rfl
    · rw [rnd_t, if_pos rfl, pk_up]
  unfold lowW highW nearW
  rw [if_neg h, if_neg h, if_neg h, key, key, key]
  unfold upBelow upAbove upNear
  refine ⟨?_, ?_, ?_⟩
  · congr 2; simp
  · congr 2; simp
  · congr 2; simp
theorem up_wf3f {p : Nat} (h : p < 9218868437227405312) : Bt.upF (Bt.wf false p) = Bt.wf false (p + 1) := by
  have hn := wf_isn false (r := p) (by omega)
  obtain ⟨r1, s1⟩ := wf_rung false (r := p) (by omega)
  have e : ∀ q, Bt.wf false q = q := fun q => by rw [Bt.wf_eq, if_neg Bool.false_ne_true]
  have hi : Bt.infW (Bt.wf false p) = false := Bool.eq_false_iff.2 fun c => by have := (Bt.infW_iff _).1 c; rw [e] at this; omega
  by_cases h0 : p = 0
  · rw [Bt.up_zero hn hi (by rw [r1]; exact h0), e, h0]
  · rw [Bt.up_pos hn hi (by rw [r1]; exact h0) s1, e, e]
theorem up_wf3t {p : Nat} (h : p < 9218868437227405312) : Bt.upF (Bt.wf true (p + 1)) = Bt.wf true p := by
  have hn := wf_isn true (r := p + 1) (by omega)
  obtain ⟨r1, s1⟩ := wf_rung true (r := p + 1) (by omega)
  have e : ∀ q, Bt.wf true q = 9223372036854775808 + q := fun q => by rw [Bt.wf_eq, if_pos rfl, Bt.topped_eq]
  have hi : Bt.infW (Bt.wf true (p + 1)) = false := Bool.eq_false_iff.2 fun c => by have := (Bt.infW_iff _).1 c; rw [e] at this; omega
  rw [Bt.up_neg hn hi (by rw [r1]; omega) s1, e, e]; omega
/-- A float's value. -/
theorem iv_flt {x : Nat} (hx : x < 18446744073709551616) (hf : Bt.finB x = true) : iv (flt x) = sgnd (Bt.Ff.sgn x) (Bt.pm x * uu (Bt.pex x)) := by
  have e := EE_eq
  obtain ⟨e1, e2⟩ := pex_bounds hx hf
  obtain ⟨k1, k2⟩ := mk_toZ (Bt.Ff.sgn x) (Bt.pm x) (Bt.pex x) EE (by omega)
  have hk := mkE_ok (float_ok hx hf)
  rw [k2] at hk
  unfold flt
  rw [k1, mk_iv hk]
  rfl
theorem pm_wf (g : Bool) {m : Nat} {e : Int} (h : NF m e) : Bt.pm (Bt.wf g (pk m e)) = m ∧ Bt.pex (Bt.wf g (pk m e)) = e := by
  obtain ⟨h1, h2, h3, h4⟩ := h
  have hp := pk_lt (m := m) (q := e) (by omega) h3
  obtain ⟨r1, r2⟩ := wf_rung g (r := pk m e) hp
  rw [pk_eq] at r1
  rw [pk_eq]
  obtain ⟨t, ht⟩ : ∃ t : Nat, t = (e + 1074).toNat := ⟨_, rfl⟩
  rw [← ht] at r1 ⊢
  by_cases c : 4503599627370496 ≤ m
  · rw [Bt.pm_nor (by omega), Bt.pex_nor (by omega), Bt.frac_eq, r1]
    refine ⟨by omega, ?_⟩
    rw [show (t * 4503599627370496 + m) / 4503599627370496 - 1 = t by omega]
    omega
  · rw [Bt.pm_sub (by omega), Bt.pex_sub (by omega), r1]
    omega
theorem val_wf (g : Bool) {m : Nat} {e : Int} (h : NF m e) (hp : pk m e < 9218868437227405312) : iv (flt (Bt.wf g (pk m e))) = sgnd g (m * uu e) := by
  have hf : Bt.finB (Bt.wf g (pk m e)) = true := by rw [fin_wf3 g (by omega)]; exact decide_eq_true hp
  rw [iv_flt (wf_lt3 g (by omega)) hf, (pm_wf g h).1, (pm_wf g h).2, (wf_rung g (r := pk m e) (by omega)).2]
theorem val_up (g : Bool) {m : Nat} {e : Int} (h : NF m e) (hp : pk m e + 1 < 9218868437227405312) : iv (flt (Bt.wf g (pk m e + 1))) = sgnd g ((m + 1) * uu e) := by
  by_cases c : m + 1 = 9007199254740992
  · obtain ⟨h1, h2, h3, h4⟩ := h
    have he : e ≤ 970 := by rw [pk_eq] at hp; omega
    have k : pk m e + 1 = pk 4503599627370496 (e + 1) := by rw [← pk_up, c]; exact pk_top e h2
    have hu := uu_add (q := e) (k := 1) (by omega)
    rw [k] at hp ⊢
    rw [val_wf g ⟨by omega, by omega, by omega, Or.inl (by omega)⟩ hp, c]
    congr 1
    rw [show e + (1 : Int) = e + ((1 : Nat) : Int) from rfl, hu]
    omega
  · rw [← pk_up] at hp ⊢
    obtain ⟨h1, h2, h3, h4⟩ := h
    exact val_wf g ⟨by omega, h2, h3, h4.imp (fun h => by omega) id⟩ hp
/-- What the law asks of the three floats of a number. -/
structure Bw (a : Dy) (l h n : Nat) : Prop where
  ll : l < 18446744073709551616
  lh : h < 18446744073709551616
  ln : n < 18446744073709551616
  nl : ¬ Bt.Ff.isn l
  nh : ¬ Bt.Ff.isn h
  nn : ¬ Bt.Ff.isn n
  al : 0 ≤ agR a l
  ah : agR a h ≤ 0
  z : agR a l = 0 ↔ agR a h = 0
  nw : n = l ∨ n = h
  nx : agR a l ≠ 0 → Bt.upF l = h
theorem ag_fin {a : Dy} (ha : a.Ok) {x : Nat} (hx : x < 18446744073709551616) (hf : Bt.finB x = true) : agR a x = sgI (iv a - iv (flt x)) := by
  rw [(agR_fin hf).1]
  exact cmp_iv ha (flt_Ok x)
theorem ag_inf {a : Dy} (g : Bool) : agR a (Bt.wf g 9218868437227405312) = if g = true then 1 else -1 :=
  (agR_inf (wf_isn g (Nat.le_refl _)) (by rw [fin_wf3 g (Nat.le_refl _)]; exact decide_eq_false (by omega)) g (wf_rung g (Nat.le_refl _)).2).1
theorem sgI_neg {z : Int} (h : z < 0) : sgI z = -1 := by unfold sgI; rw [if_pos h]
theorem sgI_pos {z : Int} (h : 0 < z) : sgI z = 1 := by unfold sgI; rw [if_neg (by omega), if_pos h]
theorem sgI_nul {z : Int} (h : z = 0) : sgI z = 0 := by unfold sgI; rw [if_neg (by omega), if_neg (by omega)]
theorem bw_num {a : Dy} (hn : a.Num) : Bw a (lowW a) (highW a) (nearW a) := by
  have ha : a.Ok := Or.inr hn
  have h0 : a.n ≠ 0 := odd_ne hn.2.1
  obtain ⟨e1, e2, e3⟩ := words_num h0
  rw [e1, e2, e3]
  have hr : RF (a.n * uu a.x) (rM a.n a.x) (rQ a.n a.x) (rW a.n a.x) := rf_of (g := a.g) hn
  have hiv : iv a = sgnd a.g (a.n * uu a.x) := rfl
  have hp := hr.pk_lt
  have nf := hr.nf
  have hc := hr.rc
  have v0 := val_wf a.g nf hp
  have v1 := fun h => val_up a.g nf h
  clear e1 e2 e3 h0 hn
  obtain ⟨-, -, x1, x2, x3, -, -, -⟩ := hr
  revert hiv hp hc v0 v1 x1 x2 x3
  generalize a.n * uu a.x = N
  have hm1 : (rM a.n a.x + 1) * uu (rQ a.n a.x) = rM a.n a.x * uu (rQ a.n a.x) + uu (rQ a.n a.x) := by rw [Nat.add_mul, Nat.one_mul]
  have up := uu_pos (rQ a.n a.x)
  rw [hm1]
  clear nf hm1
  generalize rM a.n a.x * uu (rQ a.n a.x) = F
  revert up
  generalize uu (rQ a.n a.x) = u
  generalize rM a.n a.x % 2 = par
  generalize pk (rM a.n a.x) (rQ a.n a.x) = P
  generalize rW a.n a.x = r
  generalize hg : a.g = g
  clear hg
  intro up hiv hp hc v0 v1 x1 x2 x3
  have a0 : agR a (Bt.wf g P) = sgI (iv a - sgnd g F) := by
    rw [ag_fin ha (wf_lt3 g (by omega)) (by rw [fin_wf3 g (by omega)]; exact decide_eq_true hp), v0]
  have a1 : r ≠ 0 → agR a (Bt.wf g (P + 1)) = if g = true then 1 else -1 := fun h => by
    by_cases c : P + 1 < 9218868437227405312
    · rw [ag_fin ha (wf_lt3 g (by omega)) (by rw [fin_wf3 g (by omega)]; exact decide_eq_true c), v1 c, hiv]
      have k : N < F + u := by rcases x3 with k | k <;> omega
      cases g
      · rw [sgnd_f, sgnd_f]; exact sgI_neg (by omega)
      · rw [sgnd_t, sgnd_t]; exact sgI_pos (by omega)
    · rw [show P + 1 = 9218868437227405312 by omega]; exact ag_inf g
  clear v0 v1 x3
  have nr : (if r = 3 ∨ r = 2 ∧ par = 1 then 1 else 0) = 0 ∨ ((if r = 3 ∨ r = 2 ∧ par = 1 then 1 else 0) = 1 ∧ r ≠ 0) := by
    split
    · exact Or.inr ⟨rfl, by omega⟩
    · exact Or.inl rfl
  generalize (if r = 3 ∨ r = 2 ∧ par = 1 then 1 else 0) = t at *
  have ht : t ≤ 1 := by omega
  by_cases c : r = 0
  · have ht0 : t = 0 := by rcases nr with k | ⟨_, k⟩; exact k; exact absurd c k
    rw [if_neg (fun k => k.2 c), if_neg (fun k => k.2 c), ht0, Nat.add_zero]
    have z0 : agR a (Bt.wf g P) = 0 := by rw [a0, hiv, x1 c]; exact sgI_nul (by omega)
    rw [← ht0] at *
    exact ⟨wf_lt3 g (by omega), wf_lt3 g (by omega), wf_lt3 g (by omega), wf_isn g (by omega), wf_isn g (by omega), wf_isn g (by omega), by rw [z0]; omega, by rw [z0]; omega, Iff.rfl, Or.inl rfl, fun k => absurd z0 k⟩
  · have k2 := x2 c
    have k1 := a1 c
    cases g
    · rw [if_neg (fun k => Bool.false_ne_true k.1), if_pos ⟨Bool.false_ne_true, c⟩, show P + 0 = P from rfl]
      rw [if_neg Bool.false_ne_true] at k1
      have z0 : agR a (Bt.wf false P) = 1 := by rw [a0, hiv, sgnd_f, sgnd_f]; exact sgI_pos (by omega)
      refine ⟨wf_lt3 _ (by omega), wf_lt3 _ (by omega), wf_lt3 _ (by omega), wf_isn _ (by omega), wf_isn _ (by omega), wf_isn _ (by omega), by rw [z0]; omega, by rw [k1]; omega, by rw [z0, k1]; omega, ?_, fun _ => up_wf3f hp⟩
      rcases nr with k | ⟨k, _⟩
      · rw [k]; exact Or.inl rfl
      · rw [k]; exact Or.inr rfl
    · rw [if_pos ⟨rfl, c⟩, if_neg (fun k => k.1 rfl), show P + 0 = P from rfl]
      rw [if_pos rfl] at k1
      have z0 : agR a (Bt.wf true P) = -1 := by rw [a0, hiv, sgnd_t, sgnd_t]; exact sgI_neg (by omega)
      refine ⟨wf_lt3 _ (by omega), wf_lt3 _ (by omega), wf_lt3 _ (by omega), wf_isn _ (by omega), wf_isn _ (by omega), wf_isn _ (by omega), by rw [k1]; omega, by rw [z0]; omega, by rw [z0, k1]; omega, ?_, fun _ => up_wf3t hp⟩
      rcases nr with k | ⟨k, _⟩
      · rw [k]; exact Or.inr rfl
      · rw [k]; exact Or.inl rfl
theorem words_zero : lowW Dy.zero = 0 ∧ highW Dy.zero = 0 ∧ nearW Dy.zero = 0 := by
  unfold lowW highW nearW
  exact ⟨if_pos rfl, if_pos rfl, if_pos rfl⟩
theorem bw_zero : Bw Dy.zero (lowW Dy.zero) (highW Dy.zero) (nearW Dy.zero) := by
  obtain ⟨e1, e2, e3⟩ := words_zero
  rw [e1, e2, e3]
  have z : agR Dy.zero 0 = 0 := by
    rw [ag_fin (Or.inl rfl) (by omega) ((Bt.finB_true 0).2 (by decide))]
    refine sgI_nul ?_
    have : flt 0 = Dy.zero := by unfold flt; rw [rung_pm (by decide), mkD_zero]
    rw [this]; omega
  exact ⟨by omega, by omega, by omega, by decide, by decide, by decide, by rw [z]; omega, by rw [z]; omega, Iff.rfl, Or.inl rfl, fun k => absurd z k⟩
theorem bw_of {a : Dy} (ha : a.Ok) : Bw a (lowW a) (highW a) (nearW a) := by
  rcases ha with rfl | h
  · exact bw_zero
  · exact bw_num h
/-- Rounding rises with the number. -/
theorem rise {a b : Dy} (ha : a.Ok) (hb : b.Ok) (h : ¬ 0 < cmpD a b) : Bt.Ff.srung (lowW a) ≤ Bt.Ff.srung (lowW b) ∧ Bt.Ff.srung (highW a) ≤ Bt.Ff.srung (highW b) ∧ Bt.Ff.srung (nearW a) ≤ Bt.Ff.srung (nearW b) := by
  have hv : iv a ≤ iv b := by
    rw [cmp_iv ha hb] at h
    refine Int.not_lt.1 fun c => h ?_
    rw [sgI_pos (by omega)]; omega
  have W : ∀ {d : Dy}, d.Ok → (d = Dy.zero ∧ iv d = 0 ∧ Bt.Ff.srung (lowW d) = 0 ∧ Bt.Ff.srung (highW d) = 0 ∧ Bt.Ff.srung (nearW d) = 0) ∨
      ∃ N M Q r, RF N M Q r ∧ 0 < N ∧ iv d = sgnd d.g N ∧ ∃ x y t : Nat, x = pk M Q + (if d.g = true ∧ r ≠ 0 then 1 else 0) ∧ y = pk M Q + (if ¬ d.g = true ∧ r ≠ 0 then 1 else 0) ∧ t = pk M Q + (if r = 3 ∨ (r = 2 ∧ M % 2 = 1) then 1 else 0) ∧ Bt.Ff.srung (lowW d) = (if d.g = true then -(x : Int) else x) ∧ Bt.Ff.srung (highW d) = (if d.g = true then -(y : Int) else y) ∧ Bt.Ff.srung (nearW d) = (if d.g = true then -(t : Int) else t) := by
    intro d hd
    rcases hd with rfl | hn
    · left
      obtain ⟨e1, e2, e3⟩ := words_zero
      rw [e1, e2, e3]
      exact ⟨rfl, iv_zero, sr_zero, sr_zero, sr_zero⟩
    · right
      have h0 : d.n ≠ 0 := odd_ne hn.2.1
      have hr : RF (d.n * uu d.x) (rM d.n d.x) (rQ d.n d.x) (rW d.n d.x) := rf_of (g := d.g) hn
      have hp := hr.pk_lt
      obtain ⟨e1, e2, e3⟩ := words_num h0
      refine ⟨_, _, _, _, hr, Nat.mul_pos (Nat.pos_of_ne_zero h0) (uu_pos _), rfl, _, _, _, rfl, rfl, rfl, ?_, ?_, ?_⟩
      · rw [e1]; exact sr_wf _ (by split <;> omega)
      · rw [e2]; exact sr_wf _ (by split <;> omega)
      · rw [e3]; exact sr_wf _ (by split <;> omega)
  rcases W ha with ⟨-, a1, a2, a3, a4⟩ | ⟨N1, M1, Q1, r1, R1, P1, a1, x1, y1, t1, hx1, hy1, ht1, a2, a3, a4⟩ <;> rcases W hb with ⟨-, b1, b2, b3, b4⟩ | ⟨N2, M2, Q2, r2, R2, P2, b1, x2, y2, t2, hx2, hy2, ht2, b2, b3, b4⟩ <;> rw [a2, a3, a4, b2, b3, b4] <;> rw [a1, b1] at hv
  · exact ⟨by omega, by omega, by omega⟩
  · cases hg : b.g
    · simp only [Bool.false_eq_true, if_false]; exact ⟨by omega, by omega, by omega⟩
    · rw [hg, sgnd_t] at hv; omega
  · cases hg : a.g
    · rw [hg, sgnd_f] at hv; omega
    · simp only [if_true]; exact ⟨by omega, by omega, by omega⟩
  · cases hg : a.g <;> cases hg2 : b.g <;> rw [hg] at hv hx1 hy1 <;> rw [hg2] at hv hx2 hy2
    · simp only [Bool.false_eq_true, if_false, false_and, not_false_eq_true, true_and] at *
      rw [sgnd_f, sgnd_f] at hv
      obtain ⟨k1, k2⟩ := R1.mono R2 (by omega)
      unfold upP at k2
      refine ⟨by omega, ?_, ?_⟩
      · subst hy1 hy2
        split <;> split <;> first | omega | (rename_i u1 u2; have := k2; omega)
      · subst ht1 ht2
        split <;> split <;> first | omega | (rename_i u1 u2; rcases Nat.lt_or_ge (pk M1 Q1) (pk M2 Q2) with c | c; omega; exact absurd ((k2 (by omega)).2 u1) u2)
    · rw [if_neg Bool.false_ne_true, if_neg Bool.false_ne_true, if_neg Bool.false_ne_true, if_pos rfl, if_pos rfl, if_pos rfl]
      rw [sgnd_f, sgnd_t] at hv; omega
    · rw [if_neg Bool.false_ne_true, if_neg Bool.false_ne_true, if_neg Bool.false_ne_true, if_pos rfl, if_pos rfl, if_pos rfl]
      exact ⟨by omega, by omega, by omega⟩
    · simp only [if_true, true_and, not_true_eq_false, false_and, if_false] at *
      rw [sgnd_t, sgnd_t] at hv
      obtain ⟨k1, k2⟩ := R2.mono R1 (by omega)
      unfold upP at k2
      refine ⟨?_, by omega, ?_⟩
      · subst hx1 hx2
        split <;> split <;> first | omega | (rename_i u1 u2; have := k2; omega)
      · subst ht1 ht2
        split <;> split <;> first | omega | (rename_i u1 u2; rcases Nat.lt_or_ge (pk M2 Q2) (pk M1 Q1) with c | c; omega; exact absurd ((k2 (by omega)).2 u2) u1)
/-- A float's own number. -/
theorem own_words {x : Nat} (hx : x < 18446744073709551616) (hf : Bt.finB x = true) : (Bt.Ff.rung x = 0 → lowW (flt x) = 0 ∧ highW (flt x) = 0 ∧ nearW (flt x) = 0) ∧ (Bt.Ff.rung x ≠ 0 → lowW (flt x) = x ∧ highW (flt x) = x ∧ nearW (flt x) = x) := by
  constructor
  · intro h
    have : flt x = Dy.zero := by unfold flt; rw [rung_pm h, mkD_zero]
    rw [this]; exact words_zero
  · intro h0
    have ee := EE_eq
    obtain ⟨e1, e2⟩ := pex_bounds hx hf
    have hm := Bt.pm_lt x
    have hm0 := Bt.pm_pos h0
    have hr := (Bt.finB_true x).1 hf
    have hok := float_ok hx hf
    obtain ⟨g, hg⟩ : ∃ g, g = Bt.Ff.sgn x := ⟨_, rfl⟩
    obtain ⟨m, hmm⟩ : ∃ m, m = Bt.pm x := ⟨_, rfl⟩
    obtain ⟨e, he⟩ : ∃ e, e = Bt.pex x := ⟨_, rfl⟩
    have hn : 4503599627370496 ≤ m ∨ e = -1074 := by
      by_cases c : Bt.Ff.rung x < 4503599627370496
      · right; rw [he, Bt.pex_sub c]
      · left; rw [hmm, Bt.pm_nor c]; omega
    have hrk : Bt.Ff.rung x = pk m e := by
      rw [pk_eq]
      by_cases c : Bt.Ff.rung x < 4503599627370496
      · rw [hmm, he, Bt.pm_sub c, Bt.pex_sub c]; omega
      · rw [hmm, he, Bt.pm_nor c, Bt.pex_nor c, Bt.frac_eq]; omega
    have hxw : x = Bt.wf g (pk m e) := by
      rw [← hrk, Bt.wf_eq, hg]
      cases s : Bt.Ff.sgn x
      · rw [if_neg Bool.false_ne_true]; exact (Bt.sgn_rung hx s).symm
      · rw [if_pos rfl]; exact Bt.sgn_rung' hx s
    have hfl : flt x = ⟨g, odN m, e + lowN m⟩ := by unfold flt; rw [← hg, ← hmm, ← he]; rw [← hmm, ← he] at hok; exact mkD_ok (by omega) hok
    rw [← hmm] at hm hm0
    rw [← he] at e1 e2
    have hNum : (Dy.mk g (odN m) (e + lowN m)).Num := by
      have := flt_Ok x
      rw [hfl] at this
      rcases this with k | k
      · exact absurd (congrArg Dy.n k) (odN_pos (by omega))
      · exact k
    have hR := rf_of hNum
    have hN : odN m * uu (e + lowN m) = m * uu e := by
      rw [uu_add (by omega), ← Nat.mul_assoc]
      congr 1
      exact (odN_spec (by omega)).2.symm
    rw [hN] at hR
    obtain ⟨k1, k2, k3⟩ := hR.own ⟨hm, e1, e2, hn⟩
    have h1 : (flt x).n ≠ 0 := by rw [hfl]; exact odN_pos (by omega)
    obtain ⟨w1, w2, w3⟩ := words_num h1
    rw [hfl] at w1 w2 w3
    simp only at w1 w2 w3
    rw [k1, k2, k3] at w1 w2 w3
    rw [hfl, w1, w2, w3, hxw]
    simp
end Go.Proofs.YtcljdjocknfaiaaDoor
