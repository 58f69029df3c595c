/- Texts put together: P37 P38 P40 B7t B8t B10t P43 P44 P26 P27 P42 P45 P46 Post. -/
import Derived.Test.YtajcapliokblfaaGreatDoorU7
import Derived.Test.YtajcapliokblfaaGreatDoorU3
import Derived.Test.YtajcapliokblfaaGreatDoorU6
import Derived.Test.YtajcapliokblfaaGreatDoorU1
import Derived.Below
import Derived.ChangeSame
set_option linter.unusedSimpArgs false
set_option linter.unusedVariables false
namespace Go.Proofs.YtajcapliokblfaaGreatDoor
open Go Go.RowKit Nt
/-- The float of g n / d, n not 0. 0: the nearest one, 1: below, 2: above. -/
@[irreducible] def RW (k : Nat) (g : Bool) (n d : Nat) : Nat := if tpZ n d ≤ 1023 then Bt.wf g (pk (mUp k g (rMq n d (rqZ n d)) (rsW (rLq n d (rqZ n d)) (rY d (rqZ n d)))) (rqZ n d)) else Bt.wf g (pk (mUp k g 9007199254740991 3) 971)
theorem RW_hi {k : Nat} {g : Bool} {n d : Nat} (h : 1023 < tpZ n d) : RW k g n d = Bt.wf g (pk (mUp k g 9007199254740991 3) 971) := by unfold RW; rw [if_neg (by omega)]
theorem RW_mid {k : Nat} {g : Bool} {n d : Nat} (h : tpZ n d ≤ 1023) : RW k g n d = Bt.wf g (pk (mUp k g (rMq n d (rqZ n d)) (rsW (rLq n d (rqZ n d)) (rY d (rqZ n d)))) (rqZ n d)) := by unfold RW; rw [if_pos h]
theorem RW_lo {k : Nat} {g : Bool} {n d : Nat} (hn : n ≠ 0) (hd : d ≠ 0) (h : tpZ n d < -1075) : RW k g n d = Bt.wf g (pk (mUp k g 0 1) (-1074)) := by
  obtain ⟨h1, h2, h3⟩ := rMq_tiny hn hd h
  rw [RW_mid (by omega), h1, h2, h3]
theorem rsW_b (L D : Nat) : 0 ≤ rsW L D ∧ rsW L D ≤ 3 := by
  obtain ⟨u1, u2⟩ := cmp_b (L * 2) D
  by_cases h : L = 0
  · rw [h, rsW_0]; omega
  · rw [rsW_n h]; omega
theorem PRnd_Near (g : Bool) (n d : Nat) (w : World) (hG : Globs glT w) (hn : fits n) (hd : fits d) (h0 : n ≠ 0) (hd0 : d ≠ 0) (hM : ∀ w, Calls Tryz.prog 18 #[.agg #[.bool g, .string (natS n), .string (natS d)]] w fun e w' => e = .returned (.bool true) ∧ Below w.heap.size w w') :
    Calls Tryz.prog 89 #[.agg #[.bool g, .string (natS n), .string (natS d)], .func (.func 90) #[] #[]] w fun e w' => e = .returned (.tuple #[.float .f64 (RW 0 g n d), .int .i64 0]) ∧ Below w.heap.size w w' := by
  by_cases c1 : 1023 < tpZ n d
  · rw [RW_hi c1]
    exact PRnd_hi _ _ g n d w hn hd h0 c1 hM (fun w' hb => RHuge_Near g w' (hG.below hb (Nat.le_refl _)))
  · by_cases c2 : tpZ n d < -1075
    · rw [RW_lo h0 hd0 c2]
      refine PRnd_lo _ _ g n d w hn hd h0 c2 ?_ hM (fun w' hb => RF_Near_c g 0 (-1074) 1 w' (hG.below hb (Nat.le_refl _)) (by omega) (by omega) (by omega) (by omega) (Or.inr rfl))
      obtain ⟨u1, u2, u3, u4⟩ := tp_spec h0 hd0
      have b2 := bits_131072' hd
      omega
    · rw [RW_mid (by omega)]
      obtain ⟨v1, v2⟩ := rqZ_b n d (by omega)
      exact PRnd_mid _ _ g n d w hn hd h0 hd0 (by omega) (by omega) hM (fun w' hb => RF_Near_c g _ _ _ w' (hG.below hb (Nat.le_refl _)) (rsW_b _ _) (rMq_lt h0 hd0) v1 v2 (rMq_norm h0 hd0))
theorem PRnd_Below (g : Bool) (n d : Nat) (w : World) (hG : Globs glT w) (hn : fits n) (hd : fits d) (h0 : n ≠ 0) (hd0 : d ≠ 0) (hM : ∀ w, Calls Tryz.prog 18 #[.agg #[.bool g, .string (natS n), .string (natS d)]] w fun e w' => e = .returned (.bool true) ∧ Below w.heap.size w w') :
    Calls Tryz.prog 89 #[.agg #[.bool g, .string (natS n), .string (natS d)], .func (.func 91) #[] #[]] w fun e w' => e = .returned (.tuple #[.float .f64 (RW 1 g n d), .int .i64 0]) ∧ Below w.heap.size w w' := by
  by_cases c1 : 1023 < tpZ n d
  · rw [RW_hi c1]
    exact PRnd_hi _ _ g n d w hn hd h0 c1 hM (fun w' hb => RHuge_Below g w' (hG.below hb (Nat.le_refl _)))
  · by_cases c2 : tpZ n d < -1075
    · rw [RW_lo h0 hd0 c2]
      refine PRnd_lo _ _ g n d w hn hd h0 c2 ?_ hM (fun w' hb => RF_Below_c g 0 (-1074) 1 w' (hG.below hb (Nat.le_refl _)) (by omega) (by omega) (by omega) (by omega) (Or.inr rfl))
      obtain ⟨u1, u2, u3, u4⟩ := tp_spec h0 hd0
      have b2 := bits_131072' hd
      omega
    · rw [RW_mid (by omega)]
      obtain ⟨v1, v2⟩ := rqZ_b n d (by omega)
      exact PRnd_mid _ _ g n d w hn hd h0 hd0 (by omega) (by omega) hM (fun w' hb => RF_Below_c g _ _ _ w' (hG.below hb (Nat.le_refl _)) (rsW_b _ _) (rMq_lt h0 hd0) v1 v2 (rMq_norm h0 hd0))
theorem PRnd_Above (g : Bool) (n d : Nat) (w : World) (hG : Globs glT w) (hn : fits n) (hd : fits d) (h0 : n ≠ 0) (hd0 : d ≠ 0) (hM : ∀ w, Calls Tryz.prog 18 #[.agg #[.bool g, .string (natS n), .string (natS d)]] w fun e w' => e = .returned (.bool true) ∧ Below w.heap.size w w') :
    Calls Tryz.prog 89 #[.agg #[.bool g, .string (natS n), .string (natS d)], .func (.func 92) #[] #[]] w fun e w' => e = .returned (.tuple #[.float .f64 (RW 2 g n d), .int .i64 0]) ∧ Below w.heap.size w w' := by
  by_cases c1 : 1023 < tpZ n d
  · rw [RW_hi c1]
    exact PRnd_hi _ _ g n d w hn hd h0 c1 hM (fun w' hb => RHuge_Above g w' (hG.below hb (Nat.le_refl _)))
  · by_cases c2 : tpZ n d < -1075
    · rw [RW_lo h0 hd0 c2]
      refine PRnd_lo _ _ g n d w hn hd h0 c2 ?_ hM (fun w' hb => RF_Above_c g 0 (-1074) 1 w' (hG.below hb (Nat.le_refl _)) (by omega) (by omega) (by omega) (by omega) (Or.inr rfl))
      obtain ⟨u1, u2, u3, u4⟩ := tp_spec h0 hd0
      have b2 := bits_131072' hd
      omega
    · rw [RW_mid (by omega)]
      obtain ⟨v1, v2⟩ := rqZ_b n d (by omega)
      exact PRnd_mid _ _ g n d w hn hd h0 hd0 (by omega) (by omega) hM (fun w' hb => RF_Above_c g _ _ _ w' (hG.below hb (Nat.le_refl _)) (rsW_b _ _) (rMq_lt h0 hd0) v1 v2 (rMq_norm h0 hd0))
set_option maxRecDepth 100000 in
theorem PRnd_zero (F : Value) (g : Bool) (d : Nat) (w : World) (hM : ∀ w, Calls Tryz.prog 18 #[.agg #[.bool g, .string (natS 0), .string (natS d)]] w fun e w' => e = .returned (.bool true) ∧ Below w.heap.size w w') :
    Calls Tryz.prog 89 #[.agg #[.bool g, .string (natS 0), .string (natS d)], F] w fun e w' => e = .returned (.tuple #[.float .f64 0, .int .i64 0]) ∧ Below w.heap.size w w' := by
  have T0 := BL.start1 w (.bool g) (.string (natS 0)) (.string (natS d)) 24
  have K1 := Lib.hid hM
  have e1 : (natS 0).toList = [] := natS_empty rfl
  clear hM
  go_enter Tryz.func89, Tryz.ntmps89
  go_wp2_with (first | (go_at_call 18; (with_reducible refine (K1.out _).mono ?_); rintro ee w1 ⟨rfl, hb⟩; replace T0 := T0.step hb; obtain ⟨p0, p1, p2, p3, p4, p5, p6⟩ := T0.box0; clear hb))
  go_ret2
  exact ⟨rfl, T0.1⟩
/-- The float of a ratio. -/
@[irreducible] noncomputable def QW (k : Nat) (q : Rat) : Nat := if qN q = 0 then 0 else RW k (qG q) (qN q) (qD q)
theorem PFloat_c (q : Rat) (w : World) (hG : Globs glT w) (h : qfits q) :
    Calls Tryz.prog 35 #[qv q] w fun e w' => e = .returned (.tuple #[.float .f64 (QW 0 q), .int .i64 0]) ∧ Below w.heap.size w w' := by
  have T0 := BL.start1 w (.bool (qG q)) (.string (natS (qN q))) (.string (natS (qD q))) 24
  have hb0 := T0.1
  have hG2 := Lib.hid hG
  have K : Hid (∀ w, Globs glT w → Calls Tryz.prog 89 #[qv q, .func (.func 90) #[] #[]] w fun e w' => e = .returned (.tuple #[.float .f64 (QW 0 q), .int .i64 0]) ∧ Below w.heap.size w w') := Lib.hid (fun w hG => by
    have hM := fun w => PMay_yes q w h
    by_cases h0 : qN q = 0
    · have e : QW 0 q = 0 := by unfold QW; exact if_pos h0
      rw [e]
      unfold qv at hM ⊢
      rw [h0] at hM ⊢
      exact PRnd_zero _ _ _ w hM
    · have e : QW 0 q = RW 0 (qG q) (qN q) (qD q) := by unfold QW; exact if_neg h0
      rw [e]
      exact PRnd_Near _ _ _ w hG h.1 h.2 h0 (qD_pos q) hM)
  clear hG h
  generalize QW 0 q = z at *
  unfold qv at *
  go_enter Tryz.func35, Tryz.ntmps35
  go_wp2_with (first | (go_at_call 89; (with_reducible refine (K.out _ (hG2.out.below hb0 (Nat.le_refl _))).mono ?_); rintro ee w1 ⟨rfl, hb⟩; replace T0 := T0.step hb; clear hb))
  go_ret2
  exact ⟨rfl, T0.1⟩
theorem PBelow_c (q : Rat) (w : World) (hG : Globs glT w) (h : qfits q) :
    Calls Tryz.prog 36 #[qv q] w fun e w' => e = .returned (.tuple #[.float .f64 (QW 1 q), .int .i64 0]) ∧ Below w.heap.size w w' := by
  have T0 := BL.start1 w (.bool (qG q)) (.string (natS (qN q))) (.string (natS (qD q))) 24
  have hb0 := T0.1
  have hG2 := Lib.hid hG
  have K : Hid (∀ w, Globs glT w → Calls Tryz.prog 89 #[qv q, .func (.func 91) #[] #[]] w fun e w' => e = .returned (.tuple #[.float .f64 (QW 1 q), .int .i64 0]) ∧ Below w.heap.size w w') := Lib.hid (fun w hG => by
    have hM := fun w => PMay_yes q w h
    by_cases h0 : qN q = 0
    · have e : QW 1 q = 0 := by unfold QW; exact if_pos h0
      rw [e]
      unfold qv at hM ⊢
      rw [h0] at hM ⊢
      exact PRnd_zero _ _ _ w hM
    · have e : QW 1 q = RW 1 (qG q) (qN q) (qD q) := by unfold QW; exact if_neg h0
      rw [e]
      exact PRnd_Below _ _ _ w hG h.1 h.2 h0 (qD_pos q) hM)
  clear hG h
  generalize QW 1 q = z at *
  unfold qv at *
  go_enter Tryz.func36, Tryz.ntmps36
  go_wp2_with (first | (go_at_call 89; (with_reducible refine (K.out _ (hG2.out.below hb0 (Nat.le_refl _))).mono ?_); rintro ee w1 ⟨rfl, hb⟩; replace T0 := T0.step hb; clear hb))
  go_ret2
  exact ⟨rfl, T0.1⟩
theorem PAbove_c (q : Rat) (w : World) (hG : Globs glT w) (h : qfits q) :
    Calls Tryz.prog 37 #[qv q] w fun e w' => e = .returned (.tuple #[.float .f64 (QW 2 q), .int .i64 0]) ∧ Below w.heap.size w w' := by
  have T0 := BL.start1 w (.bool (qG q)) (.string (natS (qN q))) (.string (natS (qD q))) 24
  have hb0 := T0.1
  have hG2 := Lib.hid hG
  have K : Hid (∀ w, Globs glT w → Calls Tryz.prog 89 #[qv q, .func (.func 92) #[] #[]] w fun e w' => e = .returned (.tuple #[.float .f64 (QW 2 q), .int .i64 0]) ∧ Below w.heap.size w w') := Lib.hid (fun w hG => by
    have hM := fun w => PMay_yes q w h
    by_cases h0 : qN q = 0
    · have e : QW 2 q = 0 := by unfold QW; exact if_pos h0
      rw [e]
      unfold qv at hM ⊢
      rw [h0] at hM ⊢
      exact PRnd_zero _ _ _ w hM
    · have e : QW 2 q = RW 2 (qG q) (qN q) (qD q) := by unfold QW; exact if_neg h0
      rw [e]
      exact PRnd_Above _ _ _ w hG h.1 h.2 h0 (qD_pos q) hM)
  clear hG h
  generalize QW 2 q = z at *
  unfold qv at *
  go_enter Tryz.func37, Tryz.ntmps37
  go_wp2_with (first | (go_at_call 89; (with_reducible refine (K.out _ (hG2.out.below hb0 (Nat.le_refl _))).mono ?_); rintro ee w1 ⟨rfl, hb⟩; replace T0 := T0.step hb; clear hb))
  go_ret2
  exact ⟨rfl, T0.1⟩
end Go.Proofs.YtajcapliokblfaaGreatDoor
set_option linter.unusedSimpArgs false
set_option linter.unusedVariables false
namespace Go.Proofs.YtajcapliokblfaaGreatDoor
open Go Go.RowKit Nt
/-- The float below a fraction, its last place, what is left; above all floats the greatest one. -/
@[irreducible] def aM (n d : Nat) : Nat := if tpZ n d ≤ 1023 then rMq n d (rqZ n d) else 9007199254740991
@[irreducible] def aQ (n d : Nat) : Int := if tpZ n d ≤ 1023 then rqZ n d else 971
@[irreducible] def aR (n d : Nat) : Int := if tpZ n d ≤ 1023 then rsW (rLq n d (rqZ n d)) (rY d (rqZ n d)) else 3
theorem a_hi {n d : Nat} (h : 1023 < tpZ n d) : aM n d = 9007199254740991 ∧ aQ n d = 971 ∧ aR n d = 3 := by
  unfold aM aQ aR; rw [if_neg (by omega), if_neg (by omega), if_neg (by omega)]; exact ⟨rfl, rfl, rfl⟩
theorem a_mid {n d : Nat} (h : tpZ n d ≤ 1023) : aM n d = rMq n d (rqZ n d) ∧ aQ n d = rqZ n d ∧ aR n d = rsW (rLq n d (rqZ n d)) (rY d (rqZ n d)) := by
  unfold aM aQ aR; rw [if_pos h, if_pos h, if_pos h]; exact ⟨rfl, rfl, rfl⟩
theorem RW_a (k : Nat) (g : Bool) (n d : Nat) : RW k g n d = Bt.wf g (pk (mUp k g (aM n d) (aR n d)) (aQ n d)) := by
  by_cases h : 1023 < tpZ n d
  · obtain ⟨e1, e2, e3⟩ := a_hi h
    rw [RW_hi h, e1, e2, e3]
  · obtain ⟨e1, e2, e3⟩ := a_mid (show tpZ n d ≤ 1023 by omega)
    rw [RW_mid (by omega), e1, e2, e3]
end Go.Proofs.YtajcapliokblfaaGreatDoor
set_option linter.unusedSimpArgs false
set_option linter.unusedVariables false
namespace Go.Proofs.YtajcapliokblfaaGreatDoor
open Go Go.RowKit Nt
theorem aM_b {n d : Nat} (h0 : n ≠ 0) (hd0 : d ≠ 0) : aM n d < 9007199254740992 ∧ aQ n d ≤ 971 := by
  by_cases h : 1023 < tpZ n d
  · obtain ⟨e1, e2, e3⟩ := a_hi h
    rw [e1, e2]; omega
  · have h2 : tpZ n d ≤ 1023 := by omega
    obtain ⟨e1, e2, e3⟩ := a_mid h2
    rw [e1, e2]
    exact ⟨rMq_lt h0 hd0, (rqZ_b n d h2).2⟩
theorem aR_c (n d : Nat) : aR n d = 0 ∨ aR n d = 1 ∨ aR n d = 2 ∨ aR n d = 3 := by
  refine r_cases ?_
  by_cases h : 1023 < tpZ n d
  · rw [(a_hi h).2.2]; omega
  · rw [(a_mid (show tpZ n d ≤ 1023 by omega)).2.2]; exact rsW_b _ _
end Go.Proofs.YtajcapliokblfaaGreatDoor
set_option linter.unusedSimpArgs false
set_option linter.unusedVariables false
namespace Go.Proofs.YtajcapliokblfaaGreatDoor.Bt
open Go Go.RowKit Ff
@[irreducible] def place (x : Nat) : Nat := if isn x then 18437736874454810626 else if sgn x then 9218868437227405312 - rung x else 9218868437227405313 + rung x
theorem sgn_rung {x : Nat} (hx : x < 18446744073709551616) (s : sgn x = false) : rung x = x := by
  unfold sgn at s; rw [beq_eq_false_iff_ne] at s; unfold rung; omega
theorem sgn_rung' {x : Nat} (hx : x < 18446744073709551616) (s : sgn x = true) : x = topped (rung x) := by
  unfold sgn at s; rw [beq_iff_eq] at s; rw [topped_eq]; unfold rung; omega
end Go.Proofs.YtajcapliokblfaaGreatDoor.Bt
set_option linter.unusedSimpArgs false
set_option linter.unusedVariables false
namespace Go.Proofs.YtajcapliokblfaaGreatDoor.Bt
open Go Go.RowKit Ff
@[irreducible] def fltB (x y : Nat) : Bool := decide (¬ isn x ∧ ¬ isn y ∧ srung x < srung y)
@[irreducible] def feqB (x y : Nat) : Bool := decide (¬ isn x ∧ ¬ isn y ∧ srung x = srung y)
theorem ord_cmp (x y : Nat) : FloatKind.f64.format.order x y = if isn x ∨ isn y then none else some (compare (srung x) (srung y)) := order_eq x y
theorem cmp_lt (a b : Int) : compare a b = Ordering.lt ↔ a < b := by
  simp only [compare, compareOfLessAndEq]; by_cases h : a < b <;> by_cases h' : a = b <;> simp [h, h']
theorem cmp_eq (a b : Int) : compare a b = Ordering.eq ↔ a = b := by
  simp only [compare, compareOfLessAndEq]; by_cases h : a < b <;> by_cases h' : a = b <;> simp [h, h'] <;> omega
theorem cmp_gt (a b : Int) : compare a b = Ordering.gt ↔ b < a := by
  simp only [compare, compareOfLessAndEq]; by_cases h : a < b <;> by_cases h' : a = b <;> simp [h, h'] <;> omega
theorem some_beq (o p : Ordering) : (some o == some p) = decide (o = p) := by cases o <;> cases p <;> rfl
@[local go_sem] theorem f_lt (x y : Nat) : (FloatKind.f64.format.order x y == some Ordering.lt) = fltB x y := by
  rw [ord_cmp]; unfold fltB
  by_cases h : isn x ∨ isn y
  · rw [if_pos h]; symm; rw [show (none == some Ordering.lt) = false from rfl, decide_eq_false_iff_not]; rintro ⟨h1, h2, _⟩; exact h.elim h1 h2
  · rw [if_neg h, some_beq, Bool.eq_iff_iff, decide_eq_true_iff, decide_eq_true_iff, cmp_lt]
    exact ⟨fun c => ⟨fun a => h (Or.inl a), fun a => h (Or.inr a), c⟩, fun c => c.2.2⟩
@[local go_sem] theorem f_gt (x y : Nat) : (FloatKind.f64.format.order x y == some Ordering.gt) = fltB y x := by
  rw [ord_cmp]; unfold fltB
  by_cases h : isn x ∨ isn y
  · rw [if_pos h]; symm; rw [show (none == some Ordering.gt) = false from rfl, decide_eq_false_iff_not]; rintro ⟨h1, h2, _⟩; exact h.elim h2 h1
  · rw [if_neg h, some_beq, Bool.eq_iff_iff, decide_eq_true_iff, decide_eq_true_iff, cmp_gt]
    exact ⟨fun c => ⟨fun a => h (Or.inr a), fun a => h (Or.inl a), c⟩, fun c => c.2.2⟩
@[local go_sem] theorem f_eq (x y : Nat) : (FloatKind.f64.format.order x y == some Ordering.eq) = feqB x y := by
  rw [ord_cmp]; unfold feqB
  by_cases h : isn x ∨ isn y
  · rw [if_pos h]; symm; rw [show (none == some Ordering.eq) = false from rfl, decide_eq_false_iff_not]; rintro ⟨h1, h2, _⟩; exact h.elim h1 h2
  · rw [if_neg h, some_beq, Bool.eq_iff_iff, decide_eq_true_iff, decide_eq_true_iff, cmp_eq]
    exact ⟨fun c => ⟨fun a => h (Or.inl a), fun a => h (Or.inr a), c⟩, fun c => c.2.2⟩
@[local go_sem] theorem f_ne (x y : Nat) : (FloatKind.f64.format.order x y != some Ordering.eq) = !feqB x y := by
  rw [bne, f_eq]
theorem feq_self (x : Nat) : feqB x x = !decide (isn x) := by unfold feqB; simp
theorem feq_nn {x : Nat} (h : isn x) : feqB x x = false := by rw [feq_self]; simp [h]
theorem feq_ok {x : Nat} (h : ¬ isn x) : feqB x x = true := by rw [feq_self]; simp [h]
theorem isn_zero : ¬ isn 0 := by decide
theorem srung_zero : srung 0 = 0 := by decide
theorem srung_eq_zero (x : Nat) : srung x = 0 ↔ rung x = 0 := by unfold srung; split <;> omega
theorem feq_zero (x : Nat) : feqB x 0 = decide (rung x = 0) := by
  unfold feqB; rw [Bool.eq_iff_iff, decide_eq_true_iff, decide_eq_true_iff, srung_zero, srung_eq_zero]
  constructor
  · intro h; exact h.2.2
  · intro h; exact ⟨by unfold isn; omega, isn_zero, h⟩
theorem feq_z {x : Nat} (h : rung x = 0) : feqB x 0 = true := by rw [feq_zero]; simp [h]
theorem feq_nz {x : Nat} (h : rung x ≠ 0) : feqB x 0 = false := by rw [feq_zero]; simp [h]
end Go.Proofs.YtajcapliokblfaaGreatDoor.Bt
set_option linter.unusedSimpArgs false
set_option linter.unusedVariables false
namespace Go.Proofs.YtajcapliokblfaaGreatDoor.Bt
open Go Go.RowKit Ff
attribute [local go_sem] f_lt f_gt f_eq f_ne
@[irreducible] def infW (x : Nat) : Bool := decide (x = 9218868437227405312)
theorem infW_iff (x : Nat) : infW x = true ↔ x = 9218868437227405312 := by unfold infW; exact decide_eq_true_iff
@[local go_sem] theorem inf_w (x : Nat) : ((x : Int) == 9218868437227405312) = infW x := by
  rw [Bool.eq_iff_iff, beq_iff_eq, infW_iff]; omega
@[irreducible] def upF (x : Nat) : Nat := if isn x then x else if x = 9218868437227405312 then x else if rung x = 0 then 1 else if sgn x then x - 1 else x + 1
theorem up_nan {x : Nat} (h : isn x) : upF x = x := by unfold upF; rw [if_pos h]
theorem up_inf {x : Nat} (h : infW x = true) : upF x = x := by unfold upF; rw [if_pos ((infW_iff x).1 h)]; split <;> rfl
theorem notInf {x : Nat} (h : infW x = false) : ¬ x = 9218868437227405312 := fun c => by rw [(infW_iff x).2 c] at h; cases h
theorem up_zero {x : Nat} (h : ¬ isn x) (h' : infW x = false) (h0 : rung x = 0) : upF x = 1 := by unfold upF; rw [if_neg h, if_neg (notInf h'), if_pos h0]
theorem up_neg {x : Nat} (h : ¬ isn x) (h' : infW x = false) (h0 : rung x ≠ 0) (s : sgn x = true) : upF x = x - 1 := by unfold upF; rw [if_neg h, if_neg (notInf h'), if_neg h0, if_pos s]
theorem up_pos {x : Nat} (h : ¬ isn x) (h' : infW x = false) (h0 : rung x ≠ 0) (s : sgn x = false) : upF x = x + 1 := by unfold upF; rw [if_neg h, if_neg (notInf h'), if_neg h0, if_neg (by simp [s])]
theorem ret_f {a b : Nat} (h : a = b) : Ending.returned (.float .f64 a) = .returned (.float .f64 b) := by rw [h]
theorem ext_one (w : World) : (callFunc 52 #[.int .u64 1]).run Tryz.prog w = .ok (.value (.float .f64 1)) w := by kernel_rfl
@[irreducible] def prevN (x : Nat) : Nat := x - 1
@[irreducible] def nextN (x : Nat) : Nat := x + 1
theorem prev_eq (x : Nat) : prevN x = x - 1 := by unfold prevN; rfl
theorem next_eq (x : Nat) : nextN x = x + 1 := by unfold nextN; rfl
theorem Up_c (x : Nat) (hx : x < 18446744073709551616) (w : World) :
    Calls Tryz.prog 56 #[.float .f64 x] w fun e w' => e = .returned (.float .f64 (upF x)) ∧ w = w' := by
  have h44 := ext_bits
  have h12 := ext_from
  have h1 := ext_one
  have ha := top_and x hx
  have ht := top_ne x
  by_cases hi : isn x
  · have H := Lib.hid (up_nan hi)
    have hn := feq_nn hi
    go_enter Tryz.func56, Tryz.ntmps56
    go_wp2
    all_goals go_ret
    all_goals exact ⟨ret_f H.out.symm, rfl⟩
  · have hn := feq_ok hi
    cases hf : infW x
    · by_cases h0 : rung x = 0
      · have H := Lib.hid (up_zero hi hf h0)
        have hz := feq_z h0
        go_enter Tryz.func56, Tryz.ntmps56
        go_wp2
        all_goals go_ret
        all_goals exact ⟨ret_f H.out.symm, rfl⟩
      · have hz := feq_nz h0
        cases hs : sgn x
        · have H := Lib.hid (up_pos hi hf h0 hs)
          have e : IntKind.u64.wrap ((x : Int) + 1) = (nextN x : Int) := by
            rw [IntKind.wrap_u64, next_eq]; have := sgn_rung hx hs; have := rung_lt x; omega
          go_enter Tryz.func56, Tryz.ntmps56
          go_wp2
          all_goals go_ret
          all_goals exact ⟨ret_f (by rw [H.out, next_eq]), rfl⟩
        · have H := Lib.hid (up_neg hi hf h0 hs)
          have e : IntKind.u64.wrap ((x : Int) - 1) = (prevN x : Int) := by
            rw [IntKind.wrap_u64, prev_eq]; have := sgn_rung' hx hs; rw [topped_eq] at this; omega
          go_enter Tryz.func56, Tryz.ntmps56
          go_wp2
          all_goals go_ret
          all_goals exact ⟨ret_f (by rw [H.out, prev_eq]), rfl⟩
    · have H := Lib.hid (up_inf hf)
      go_enter Tryz.func56, Tryz.ntmps56
      go_wp2
      all_goals go_ret
      all_goals exact ⟨ret_f H.out.symm, rfl⟩
end Go.Proofs.YtajcapliokblfaaGreatDoor.Bt
set_option linter.unusedSimpArgs false
set_option linter.unusedVariables false
namespace Go.Proofs.YtajcapliokblfaaGreatDoor
open Go Go.RowKit Nt
theorem mkR_eq {D : Nat} (hD : D ≠ 0) (i j : Int) : mkRat i D = mkRat j D ↔ i = j := by
  rw [Rat.mkRat_eq_iff hD hD]
  constructor
  · intro h; exact Int.eq_of_mul_eq_mul_right (by omega) h
  · intro h; rw [h]
theorem mkR_lt {D : Nat} (hD : D ≠ 0) (i j : Int) : mkRat i D < mkRat j D ↔ i < j := by
  have h0 : (0 : Rat) < (D : Rat) := Rat.natCast_pos.2 (Nat.pos_of_ne_zero hD)
  have h1 : (D : Rat) ≠ 0 := fun c => by rw [c] at h0; exact absurd h0 (by decide)
  rw [Rat.mkRat_eq_div, Rat.mkRat_eq_div, Rat.div_lt_iff h0, Rat.div_mul_cancel h1, Rat.intCast_lt_intCast]
theorem mkR_sub {D : Nat} (hD : D ≠ 0) (i j : Int) : mkRat i D - mkRat j D = mkRat (i - j) D := by
  rw [Rat.sub_eq_add_neg, Rat.neg_mkRat, Rat.mkRat_add_mkRat _ _ hD hD, ← Int.add_mul, Rat.mkRat_mul_right hD, Int.sub_eq_add_neg]
theorem fr_mulr (g : Bool) (n d k : Nat) (hk : k ≠ 0) : fr g (n * k) (d * k) = fr g n d := by
  have e : sgI g (n * k) = sgI g n * (k : Int) := by
    cases g
    · rw [sgI_false, sgI_false, Int.natCast_mul]
    · rw [sgI_true, sgI_true, Int.natCast_mul, Int.neg_mul]
  unfold fr
  rw [e, Rat.mkRat_mul_right hk]
theorem two_ne (k : Nat) : 2 ^ k ≠ 0 := Nat.pos_iff_ne_zero.1 (Nat.two_pow_pos k)
/-- g m 2^e as a rational number. -/
def dyQ (g : Bool) (m : Nat) (e : Int) : Rat := fr g (m * 2 ^ rk2 e) (2 ^ rk1 e)
/-- The number of a finite float. -/
@[irreducible] noncomputable def wQ (x : Nat) : Rat := dyQ (Bt.Ff.sgn x) (Bt.pm x) (Bt.pex x)
/-- A ratio and a number of two powers, over one denominator. -/
theorem q_at (a : Rat) (e : Int) : a = mkRat (sgI (qG a) (rX (qN a) e)) (qD a * 2 ^ rk1 e) := by
  have h := fr_mulr (qG a) (qN a) (qD a) (2 ^ rk1 e) (two_ne _)
  rw [fr_q] at h
  exact h.symm
theorem dyQ_at (g : Bool) (m : Nat) (e : Int) {d : Nat} (hd : d ≠ 0) : dyQ g m e = mkRat (sgI g (m * rY d e)) (d * 2 ^ rk1 e) := by
  have h := fr_mulr g (m * 2 ^ rk2 e) (2 ^ rk1 e) d hd
  unfold dyQ
  rw [← h, Nat.mul_comm (2 ^ rk1 e) d, Nat.mul_assoc, Nat.mul_comm (2 ^ rk2 e) d]
  rfl
theorem dyQ_up (g : Bool) (m : Nat) (e : Int) : dyQ g (m * 2) e = dyQ g m (e + 1) := by
  unfold dyQ
  by_cases h : 0 ≤ e
  · rw [show rk2 (e + 1) = rk2 e + 1 by unfold rk2; omega, show rk1 (e + 1) = rk1 e by unfold rk1; omega, Nat.pow_succ, Nat.mul_comm (2 ^ rk2 e) 2, Nat.mul_assoc]
  · rw [show rk2 (e + 1) = rk2 e by unfold rk2; omega, show rk1 e = rk1 (e + 1) + 1 by unfold rk1; omega, Nat.pow_succ, Nat.mul_right_comm, fr_mulr _ _ _ 2 (by omega)]
theorem rung_wf (g : Bool) {p : Nat} (h : p < 9223372036854775808) : Bt.Ff.rung (Bt.wf g p) = p ∧ Bt.Ff.sgn (Bt.wf g p) = g := by
  rw [Bt.wf_eq]
  cases g
  · rw [if_neg Bool.false_ne_true]; unfold Bt.Ff.rung Bt.Ff.sgn; exact ⟨by omega, by rw [beq_eq_false_iff_ne]; omega⟩
  · rw [if_pos rfl, Bt.topped_eq]; unfold Bt.Ff.rung Bt.Ff.sgn; exact ⟨by omega, by rw [beq_iff_eq]; omega⟩
theorem wf_lt (g : Bool) {p : Nat} (h : p < 9223372036854775808) : Bt.wf g p < 18446744073709551616 := by
  rw [Bt.wf_eq]
  cases g
  · rw [if_neg Bool.false_ne_true]; omega
  · rw [if_pos rfl, Bt.topped_eq]; omega
theorem pm_pk (g : Bool) {m : Nat} {e : Int} (h1 : m < 9007199254740992) (h2 : -1074 ≤ e) (h3 : e ≤ 971) (h4 : 4503599627370496 ≤ m ∨ e = -1074) : Bt.pm (Bt.wf g (pk m e)) = m ∧ Bt.pex (Bt.wf g (pk m e)) = e := by
  have hp := pk_lt (m := m) (q := e) (by omega) h3
  obtain ⟨r1, r2⟩ := rung_wf g (p := pk m e) (by omega)
  rw [pk_eq] at r1
  rw [pk_eq]
  obtain ⟨t, ht⟩ : ∃ t : Nat, t = (e + 1074).toNat := ⟨_, rfl⟩
  rw [← ht] at r1 ⊢
  by_cases c : 4503599627370496 ≤ m
  · rw [Bt.pm_nor (by omega), Bt.pex_nor (by omega), Bt.frac_eq, r1]
    refine ⟨by omega, ?_⟩
    rw [show (t * 4503599627370496 + m) / 4503599627370496 - 1 = t by omega]
    omega
  · rw [Bt.pm_sub (by omega), Bt.pex_sub (by omega), r1]
    omega
theorem wQ_pk0 (g : Bool) {m : Nat} {e : Int} (h1 : m < 9007199254740992) (h2 : -1074 ≤ e) (h3 : e ≤ 971) (h4 : 4503599627370496 ≤ m ∨ e = -1074) : wQ (Bt.wf g (pk m e)) = dyQ g m e := by
  have hp := pk_lt (m := m) (q := e) (by omega) h3
  obtain ⟨r1, r2⟩ := rung_wf g (p := pk m e) (by omega)
  obtain ⟨p1, p2⟩ := pm_pk g h1 h2 h3 h4
  unfold wQ
  rw [r2, p1, p2]
theorem wQ_pk (g : Bool) {m : Nat} {e : Int} (h1 : m ≤ 9007199254740992) (h2 : -1074 ≤ e) (h3 : e ≤ 971) (h4 : 4503599627370496 ≤ m ∨ e = -1074) (h5 : pk m e < 9218868437227405312) : wQ (Bt.wf g (pk m e)) = dyQ g m e := by
  by_cases c : m = 9007199254740992
  · subst c
    have he : e ≤ 970 := by rw [pk_eq] at h5; omega
    rw [pk_top e h2, wQ_pk0 g (by omega) (by omega) (by omega) (Or.inl (by omega)), ← dyQ_up]
  · exact wQ_pk0 g (by omega) h2 h3 h4
theorem pk_succ (m : Nat) (e : Int) : pk (m + 1) e = pk m e + 1 := by rw [pk_eq, pk_eq]; omega
/-- What is known of a fraction's float below and of what is left. -/
theorem a_facts {n d : Nat} (h0 : n ≠ 0) (hd0 : d ≠ 0) : (-1074 ≤ aQ n d ∧ aQ n d ≤ 971) ∧ aM n d < 9007199254740992 ∧ (4503599627370496 ≤ aM n d ∨ aQ n d = -1074) ∧
    ((aR n d = 0 ∧ rX n (aQ n d) = aM n d * rY d (aQ n d)) ∨ (aR n d ≠ 0 ∧ aM n d * rY d (aQ n d) < rX n (aQ n d) ∧ (pk (aM n d) (aQ n d) + 1 = 9218868437227405312 ∨ (rX n (aQ n d) < (aM n d + 1) * rY d (aQ n d) ∧ aR n d = 2 + cmpN ((rX n (aQ n d) - aM n d * rY d (aQ n d)) * 2) (rY d (aQ n d)))))) := by
  obtain ⟨t1, t2, t3, t4⟩ := tp_spec h0 hd0
  by_cases h : 1023 < tpZ n d
  · obtain ⟨e1, e2, e3⟩ := a_hi h
    rw [e1, e2, e3]
    refine ⟨by omega, by omega, Or.inl (by omega), Or.inr ⟨by omega, ?_, Or.inl (by rw [pk_eq]; omega)⟩⟩
    have g1 := (Gz_shift n d 971 53).2 (Gz_mono t1 (by omega))
    have yp := Nat.pos_of_ne_zero (rY_pos hd0 971)
    rw [show (2 : Nat) ^ 53 = 9007199254740992 by decide] at g1
    omega
  · have h2 : tpZ n d ≤ 1023 := by omega
    obtain ⟨e1, e2, e3⟩ := a_mid h2
    rw [e1, e2, e3]
    refine ⟨rqZ_b n d h2, rMq_lt h0 hd0, rMq_norm h0 hd0, ?_⟩
    generalize rqZ n d = q
    have yp := Nat.pos_of_ne_zero (rY_pos hd0 q)
    have em : rY d q * rMq n d q + rLq n d q = rX n q := Nat.div_add_mod (rX n q) (rY d q)
    have el : rLq n d q < rY d q := Nat.mod_lt _ yp
    rw [Nat.mul_comm] at em
    by_cases hl : rLq n d q = 0
    · left; rw [hl, rsW_0]; exact ⟨rfl, by omega⟩
    · right
      rw [rsW_n hl, show rX n q - rMq n d q * rY d q = rLq n d q by omega, Nat.add_mul]
      refine ⟨?_, by omega, Or.inr ⟨by omega, rfl⟩⟩
      obtain ⟨u1, u2⟩ := cmp_b (rLq n d q * 2) (rY d q)
      omega
theorem not_isn {g : Bool} {p : Nat} (h : p ≤ 9218868437227405312) : ¬ Bt.Ff.isn (Bt.wf g p) := by
  rw [Bt.isn_iff, (rung_wf g (p := p) (by omega)).1]; omega
theorem feq_wf (g : Bool) {p q : Nat} (hp : p ≤ 9218868437227405312) (hq : q ≤ 9218868437227405312) : Bt.feqB (Bt.wf g p) (Bt.wf g q) = decide (p = q) := by
  have a := not_isn (g := g) hp
  have b := not_isn (g := g) hq
  obtain ⟨r1, s1⟩ := rung_wf g (p := p) (by omega)
  obtain ⟨r2, s2⟩ := rung_wf g (p := q) (by omega)
  unfold Bt.feqB
  rw [Bool.eq_iff_iff, decide_eq_true_iff, decide_eq_true_iff]
  unfold Bt.Ff.srung
  rw [r1, s1, r2, s2]
  cases g <;> simp [a, b] <;> omega
theorem flt_wf (g : Bool) {p q : Nat} (hp : p ≤ 9218868437227405312) (hq : q ≤ 9218868437227405312) : Bt.fltB (Bt.wf g p) (Bt.wf g q) = if g then decide (q < p) else decide (p < q) := by
  have a := not_isn (g := g) hp
  have b := not_isn (g := g) hq
  obtain ⟨r1, s1⟩ := rung_wf g (p := p) (by omega)
  obtain ⟨r2, s2⟩ := rung_wf g (p := q) (by omega)
  unfold Bt.fltB Bt.Ff.srung
  rw [r1, s1, r2, s2]
  cases g <;> simp [a, b] <;> omega
theorem fin_wf (g : Bool) {p : Nat} (hp : p ≤ 9218868437227405312) : Bt.finB (Bt.wf g p) = decide (p < 9218868437227405312) := by
  unfold Bt.finB; rw [(rung_wf g (p := p) (by omega)).1]
/-- How long a float's number is. -/
theorem nd_two {n k L : Nat} (h : n < 2 ^ L) (hl : L ≤ 8 * k) : nd 256 n ≤ k := nd_le (by omega) (by rw [show (256 : Nat) = 2 ^ 8 by decide, ← Nat.pow_mul]; exact Nat.lt_of_lt_of_le h (Nat.pow_le_pow_right (by omega) hl))
theorem two53 {m : Nat} (h : m < 9007199254740992) (k : Nat) : m * 2 ^ k < 2 ^ (53 + k) := by
  rw [Nat.pow_add]
  exact Nat.mul_lt_mul_of_pos_right (by rw [show (2 : Nat) ^ 53 = 9007199254740992 by decide]; exact h) (Nat.two_pow_pos _)
theorem two_lt (k : Nat) : 2 ^ k < 2 ^ (k + 1) := Nat.pow_lt_pow_right (by omega) (by omega)
theorem wQ_b {x : Nat} (hx : x < 18446744073709551616) (hf : Bt.finB x = true) : Bq (wQ x) 136 := by
  unfold wQ dyQ
  obtain ⟨e1, e2⟩ := pex_bounds hx hf
  exact Bq_fr (two_ne _) (nd_two (two53 (Bt.pm_lt x) _) (by unfold rk2; omega)) (nd_two (two_lt _) (by unfold rk1; omega))
end Go.Proofs.YtajcapliokblfaaGreatDoor
set_option linter.unusedSimpArgs false
set_option linter.unusedVariables false
namespace Go.Proofs.YtajcapliokblfaaGreatDoor
open Go Go.RowKit Nt
/-- A float's own number: all three are it. -/
theorem QW_wQ (k : Nat) (x : Nat) (hx : x < 18446744073709551616) (hf : Bt.finB x = true) (h0 : Bt.Ff.rung x ≠ 0) : QW k (wQ x) = x := by
  obtain ⟨e1, e2⟩ := pex_bounds hx hf
  have hm := Bt.pm_lt x
  have hm0 := Bt.pm_pos h0
  have hr := (Bt.finB_true x).1 hf
  obtain ⟨g, hg⟩ : ∃ g, g = Bt.Ff.sgn x := ⟨_, rfl⟩
  obtain ⟨m, hmm⟩ : ∃ m, m = Bt.pm x := ⟨_, rfl⟩
  obtain ⟨e, he⟩ : ∃ e, e = Bt.pex x := ⟨_, rfl⟩
  have hn : 4503599627370496 ≤ m ∨ e = -1074 := by
    by_cases c : Bt.Ff.rung x < 4503599627370496
    · right; rw [he, Bt.pex_sub c]
    · left; rw [hmm, Bt.pm_nor c]; omega
  have hrk : Bt.Ff.rung x = pk m e := by
    rw [pk_eq]
    by_cases c : Bt.Ff.rung x < 4503599627370496
    · rw [hmm, he, Bt.pm_sub c, Bt.pex_sub c]; omega
    · rw [hmm, he, Bt.pm_nor c, Bt.pex_nor c, Bt.frac_eq]; omega
  have hxw : x = Bt.wf g (pk m e) := by
    rw [← hrk, Bt.wf_eq, hg]
    cases s : Bt.Ff.sgn x
    · rw [if_neg Bool.false_ne_true]; exact (Bt.sgn_rung hx s).symm
    · rw [if_pos rfl]; exact Bt.sgn_rung' hx s
  have hq : wQ x = dyQ g m e := by unfold wQ; rw [← hg, ← hmm, ← he]
  rw [← hmm] at hm hm0
  rw [← he] at e1 e2
  clear hmm he hg hr hrk
  rw [hq, hxw]
  clear hq hxw hx hf h0
  obtain ⟨a, ha⟩ : ∃ a, a = dyQ g m e := ⟨_, rfl⟩
  rw [← ha]
  have hd := qD_pos a
  have hD : qD a * 2 ^ rk1 e ≠ 0 := Nat.mul_ne_zero hd (two_ne _)
  have k1 := (dyQ_at g m e hd).symm.trans (ha.symm.trans (q_at a e))
  rw [mkR_eq hD] at k1
  have yp := Nat.pos_of_ne_zero (rY_pos hd e)
  have hmy : 0 < m * rY (qD a) e := Nat.mul_pos hm0 yp
  have hX : rX (qN a) e = m * rY (qD a) e := by
    have h := congrArg Int.natAbs k1
    rw [sgI_abs, sgI_abs] at h
    exact h.symm
  have hn0 : qN a ≠ 0 := fun c => by
    unfold rX at hX; rw [c, Nat.zero_mul] at hX; omega
  have hgg : qG a = g := by
    rw [hX] at k1
    cases g <;> cases h : qG a
    · rfl
    · rw [h, sgI_false, sgI_true] at k1; omega
    · rw [h, sgI_false, sgI_true] at k1; omega
    · rfl
  obtain ⟨t1, t2, t3, t4⟩ := tp_spec hn0 hd
  have G : ∀ j : Nat, Gz (qN a) (qD a) (e + j) ↔ 2 ^ j ≤ m := fun j => by
    rw [← Gz_shift, hX, Nat.mul_comm]
    exact ⟨fun h => Nat.le_of_mul_le_mul_right h yp, fun h => Nat.mul_le_mul_right _ h⟩
  have p52 : (2 : Nat) ^ 52 = 4503599627370496 := by decide
  have p53 : (2 : Nat) ^ 53 = 9007199254740992 := by decide
  have n53 : ¬ Gz (qN a) (qD a) (e + (53 : Nat)) := fun c => by have := (G 53).1 c; omega
  have tle : tpZ (qN a) (qD a) ≤ e + 52 := by
    refine Int.not_lt.1 fun c => n53 (Gz_mono t1 (by omega))
  have hrq : rqZ (qN a) (qD a) = e := by
    unfold rqZ
    rcases hn with c | c
    · have g52 := (G 52).2 (by omega)
      have : ¬ tpZ (qN a) (qD a) < e + 52 := fun c2 => t2 (Gz_mono g52 (by omega))
      omega
    · omega
  have hM : rMq (qN a) (qD a) e = m := by unfold rMq; rw [hX]; exact Nat.mul_div_cancel _ yp
  have hL : rLq (qN a) (qD a) e = 0 := by unfold rLq; rw [hX]; exact Nat.mul_mod_left _ _
  unfold QW
  rw [if_neg hn0, RW_mid (by omega), hrq, hM, hL, rsW_0, hgg]
  have : mUp k g m 0 = m := by
    unfold mUp upW
    rw [if_neg]
    by_cases c0 : k = 0
    · rw [if_pos c0]; simp
    · rw [if_neg c0]; by_cases c1 : k = 1
      · rw [if_pos c1]; simp
      · rw [if_neg c1]; simp
  rw [this]
/-- A nought's number. -/
theorem wQ_zero {x : Nat} (h0 : Bt.Ff.rung x = 0) : wQ x = 0 := by
  unfold wQ dyQ
  rw [rung_pm h0, Nat.zero_mul, fr_zero]
theorem QW_zero (k : Nat) : QW k 0 = 0 := by unfold QW; rw [if_pos qN_zero]
/-- What the floats about a ratio are. -/
theorem near_exact (a : Rat) (h : qN a = 0 ∨ aR (qN a) (qD a) = 0) : QW 0 a = QW 1 a ∧ QW 2 a = QW 1 a ∧ Bt.finB (QW 1 a) = true ∧ wQ (QW 1 a) = a ∧ QW 1 a < 18446744073709551616 := by
  by_cases h0 : qN a = 0
  · obtain rfl := qN_eq_zero.1 h0
    rw [QW_zero, QW_zero, QW_zero]
    exact ⟨rfl, rfl, (Bt.finB_true 0).2 (by decide), wQ_zero (by decide), by decide⟩
  · have hr : aR (qN a) (qD a) = 0 := h.resolve_left h0
    have hd := qD_pos a
    obtain ⟨⟨f1, f2⟩, f3, f4, f5⟩ := a_facts h0 hd
    have f6 := (f5.resolve_right (fun c => c.1 hr)).2
    have e : ∀ k, QW k a = Bt.wf (qG a) (pk (aM (qN a) (qD a)) (aQ (qN a) (qD a))) := fun k => by
      unfold QW
      rw [if_neg h0, RW_a, hr]
      have : mUp k (qG a) (aM (qN a) (qD a)) 0 = aM (qN a) (qD a) := by
        unfold mUp upW
        rw [if_neg]
        by_cases c0 : k = 0
        · rw [if_pos c0]; simp
        · rw [if_neg c0]; by_cases c1 : k = 1
          · rw [if_pos c1]; simp
          · rw [if_neg c1]; simp
      rw [this]
    have hp : pk (aM (qN a) (qD a)) (aQ (qN a) (qD a)) < 9218868437227405312 := by rw [pk_eq]; omega
    rw [e 0, e 1, e 2]
    refine ⟨rfl, rfl, by rw [fin_wf _ (by omega)]; exact decide_eq_true hp, ?_, wf_lt _ (by omega)⟩
    rw [wQ_pk0 _ f3 f1 f2 f4, dyQ_at _ _ _ hd, ← f6]
    exact (q_at a _).symm
/-- a lies between two floats that stand next to one another. -/
structure Nr (a : Rat) (n b c : Nat) : Prop where
  lb : b < 18446744073709551616
  lc : c < 18446744073709551616
  ln : n < 18446744073709551616
  nb : ¬ Bt.Ff.isn b
  nc : ¬ Bt.Ff.isn c
  nn : ¬ Bt.Ff.isn n
  ne : Bt.feqB b c = false
  gt : Bt.fltB c b = false
  up : Bt.upF b = c
  or : Bt.feqB n b = true ∧ n = b ∨ Bt.feqB n b = false ∧ n = c
  fb : Bt.finB b = true → wQ b < a
  fc : Bt.finB c = true → a < wQ c
  nul : Bt.finB b = true → Bt.finB c = true → qC (a - wQ b) (wQ c - a) = 0 → n % 2 = 0
  neg : Bt.finB b = true → Bt.finB c = true → qC (a - wQ b) (wQ c - a) ≠ 0 → (Bt.feqB n b = true ↔ qC (a - wQ b) (wQ c - a) < 0)
theorem qC_mk {D : Nat} (hD : D ≠ 0) (i j : Int) : qC (mkRat i D) (mkRat j D) = if i < j then -1 else if i = j then 0 else 1 := by
  unfold qC
  simp only [mkR_lt hD, mkR_eq hD]
theorem up_wf_f {p : Nat} (h : p < 9218868437227405312) : Bt.upF (Bt.wf false p) = Bt.wf false (p + 1) := by
  have hn := not_isn (g := false) (p := p) (by omega)
  obtain ⟨r1, s1⟩ := rung_wf false (p := p) (by omega)
  have e : ∀ q, Bt.wf false q = q := fun q => by rw [Bt.wf_eq, if_neg Bool.false_ne_true]
  have hi : Bt.infW (Bt.wf false p) = false := Bool.eq_false_iff.2 fun c => by have := (Bt.infW_iff _).1 c; rw [e] at this; omega
  by_cases h0 : p = 0
  · rw [Bt.up_zero hn hi (by rw [r1]; exact h0), e, h0]
  · rw [Bt.up_pos hn hi (by rw [r1]; exact h0) s1, e, e]
theorem up_wf_t {p : Nat} (h : p < 9218868437227405312) : Bt.upF (Bt.wf true (p + 1)) = Bt.wf true p := by
  have hn := not_isn (g := true) (p := p + 1) (by omega)
  obtain ⟨r1, s1⟩ := rung_wf true (p := p + 1) (by omega)
  have e : ∀ q, Bt.wf true q = 9223372036854775808 + q := fun q => by rw [Bt.wf_eq, if_pos rfl, Bt.topped_eq]
  have hi : Bt.infW (Bt.wf true (p + 1)) = false := Bool.eq_false_iff.2 fun c => by have := (Bt.infW_iff _).1 c; rw [e] at this; omega
  rw [Bt.up_neg hn hi (by rw [r1]; omega) s1, e, e]; omega
theorem Nr_f {a : Rat} {P u X Y Z D : Nat} (hP : P < 9218868437227405312) (hD : D ≠ 0) (ha : a = mkRat (sgI false X) D) (w0 : wQ (Bt.wf false P) = mkRat (sgI false Z) D) (w1 : P + 1 < 9218868437227405312 → wQ (Bt.wf false (P + 1)) = mkRat (sgI false (Z + Y)) D)
    (f6 : Z < X) (f8 : P + 1 < 9218868437227405312 → X < Z + Y) (hu : (u = 0 ∧ (P + 1 < 9218868437227405312 → (X - Z) * 2 < Y ∨ ((X - Z) * 2 = Y ∧ P % 2 = 0))) ∨ (u = 1 ∧ (P + 1 < 9218868437227405312 → Y < (X - Z) * 2 ∨ ((X - Z) * 2 = Y ∧ P % 2 = 1)))) : Nr a (Bt.wf false (P + u)) (Bt.wf false (P)) (Bt.wf false (P + 1)) := by
  have hub : u ≤ 1 := by omega
  have fin : ∀ {p : Nat}, p ≤ 9218868437227405312 → Bt.finB (Bt.wf false p) = true → p < 9218868437227405312 := fun h k => by rw [fin_wf _ h] at k; exact of_decide_eq_true k
  have odd : Bt.wf false (P + u) % 2 = (P + u) % 2 := by rw [Bt.wf_eq]; rw [if_neg Bool.false_ne_true]
  refine ⟨wf_lt _ (by omega), wf_lt _ (by omega), wf_lt _ (by omega), not_isn (by omega), not_isn (by omega), not_isn (by omega), ?_, ?_, ?_, ?_, ?_, ?_, ?_, ?_⟩
  · rw [feq_wf _ (by omega) (by omega)]; exact decide_eq_false (by omega)
  · rw [flt_wf _ (by omega) (by omega)]; simp
  · exact up_wf_f hP
  · rw [feq_wf _ (by omega) (by omega)]
    rcases hu with ⟨hu, -⟩ | ⟨hu, -⟩
    · subst hu; left; exact ⟨decide_eq_true (by omega), rfl⟩
    · subst hu; right; exact ⟨decide_eq_false (by omega), rfl⟩
  · intro h
    have hp := fin (by omega) h
    rw [w0, ha, mkR_lt hD, sgI_false, sgI_false]
    have := f6
    omega
  · intro h
    have hp := fin (by omega) h
    rw [(w1 hp), ha, mkR_lt hD, sgI_false, sgI_false]
    have := f8 hp
    omega
  · intro h1 h2
    have hp : P + 1 < 9218868437227405312 := fin (by omega) h2
    rw [w0, w1 hp, ha, mkR_sub hD, mkR_sub hD, qC_mk hD, sgI_false, sgI_false, sgI_false, odd]
    have k8 := f8 hp
    intro h
    split at h
    · omega
    · split at h
      · rcases hu with ⟨hu, hv⟩ | ⟨hu, hv⟩
        · have := hv hp; omega
        · have := hv hp; omega
      · omega
  · intro h1 h2
    have hp : P + 1 < 9218868437227405312 := fin (by omega) h2
    rw [w0, w1 hp, ha, mkR_sub hD, mkR_sub hD, qC_mk hD, sgI_false, sgI_false, sgI_false, feq_wf _ (by omega) (by omega), decide_eq_true_iff]
    have k8 := f8 hp
    intro h
    have hv : (u = 0 ∧ ((X - Z) * 2 < Y ∨ ((X - Z) * 2 = Y ∧ P % 2 = 0))) ∨ (u = 1 ∧ (Y < (X - Z) * 2 ∨ ((X - Z) * 2 = Y ∧ P % 2 = 1))) := by
      rcases hu with ⟨hu, hv⟩ | ⟨hu, hv⟩
      · exact Or.inl ⟨hu, hv hp⟩
      · exact Or.inr ⟨hu, hv hp⟩
    clear hu f8 w0 w1 ha fin
    split
    · constructor <;> intro <;> omega
    · split at h
      · exact absurd h (by first | omega | simp)
      · split at h
        · exact absurd rfl h
        · constructor <;> intro k <;> omega
theorem Nr_t {a : Rat} {P u X Y Z D : Nat} (hP : P < 9218868437227405312) (hD : D ≠ 0) (ha : a = mkRat (sgI true X) D) (w0 : wQ (Bt.wf true P) = mkRat (sgI true Z) D) (w1 : P + 1 < 9218868437227405312 → wQ (Bt.wf true (P + 1)) = mkRat (sgI true (Z + Y)) D)
    (f6 : Z < X) (f8 : P + 1 < 9218868437227405312 → X < Z + Y) (hu : (u = 0 ∧ (P + 1 < 9218868437227405312 → (X - Z) * 2 < Y ∨ ((X - Z) * 2 = Y ∧ P % 2 = 0))) ∨ (u = 1 ∧ (P + 1 < 9218868437227405312 → Y < (X - Z) * 2 ∨ ((X - Z) * 2 = Y ∧ P % 2 = 1)))) : Nr a (Bt.wf true (P + u)) (Bt.wf true (P + 1)) (Bt.wf true (P)) := by
  have hub : u ≤ 1 := by omega
  have fin : ∀ {p : Nat}, p ≤ 9218868437227405312 → Bt.finB (Bt.wf true p) = true → p < 9218868437227405312 := fun h k => by rw [fin_wf _ h] at k; exact of_decide_eq_true k
  have odd : Bt.wf true (P + u) % 2 = (P + u) % 2 := by rw [Bt.wf_eq]; rw [if_pos rfl, Bt.topped_eq]; omega
  refine ⟨wf_lt _ (by omega), wf_lt _ (by omega), wf_lt _ (by omega), not_isn (by omega), not_isn (by omega), not_isn (by omega), ?_, ?_, ?_, ?_, ?_, ?_, ?_, ?_⟩
  · rw [feq_wf _ (by omega) (by omega)]; exact decide_eq_false (by omega)
  · rw [flt_wf _ (by omega) (by omega)]; simp
  · exact up_wf_t hP
  · rw [feq_wf _ (by omega) (by omega)]
    rcases hu with ⟨hu, -⟩ | ⟨hu, -⟩
    · subst hu; right; exact ⟨decide_eq_false (by omega), rfl⟩
    · subst hu; left; exact ⟨decide_eq_true rfl, rfl⟩
  · intro h
    have hp := fin (by omega) h
    rw [(w1 hp), ha, mkR_lt hD, sgI_true, sgI_true]
    have := f8 hp
    omega
  · intro h
    have hp := fin (by omega) h
    rw [w0, ha, mkR_lt hD, sgI_true, sgI_true]
    have := f6
    omega
  · intro h1 h2
    have hp : P + 1 < 9218868437227405312 := fin (by omega) h1
    rw [w0, w1 hp, ha, mkR_sub hD, mkR_sub hD, qC_mk hD, sgI_true, sgI_true, sgI_true, odd]
    have k8 := f8 hp
    intro h
    split at h
    · omega
    · split at h
      · rcases hu with ⟨hu, hv⟩ | ⟨hu, hv⟩
        · have := hv hp; omega
        · have := hv hp; omega
      · omega
  · intro h1 h2
    have hp : P + 1 < 9218868437227405312 := fin (by omega) h1
    rw [w0, w1 hp, ha, mkR_sub hD, mkR_sub hD, qC_mk hD, sgI_true, sgI_true, sgI_true, feq_wf _ (by omega) (by omega), decide_eq_true_iff]
    have k8 := f8 hp
    intro h
    have hv : (u = 0 ∧ ((X - Z) * 2 < Y ∨ ((X - Z) * 2 = Y ∧ P % 2 = 0))) ∨ (u = 1 ∧ (Y < (X - Z) * 2 ∨ ((X - Z) * 2 = Y ∧ P % 2 = 1))) := by
      rcases hu with ⟨hu, hv⟩ | ⟨hu, hv⟩
      · exact Or.inl ⟨hu, hv hp⟩
      · exact Or.inr ⟨hu, hv hp⟩
    clear hu f8 w0 w1 ha fin
    split
    · constructor <;> intro <;> omega
    · split at h
      · exact absurd h (by first | omega | simp)
      · split at h
        · exact absurd rfl h
        · constructor <;> intro k <;> omega
theorem near_not (a : Rat) (h0 : qN a ≠ 0) (hr : aR (qN a) (qD a) ≠ 0) : Nr a (QW 0 a) (QW 1 a) (QW 2 a) := by
  have hd := qD_pos a
  obtain ⟨⟨f1, f2⟩, f3, f4, f5⟩ := a_facts h0 hd
  have hrc := aR_c (qN a) (qD a)
  have q0 : ∀ k, QW k a = Bt.wf (qG a) (pk (mUp k (qG a) (aM (qN a) (qD a)) (aR (qN a) (qD a))) (aQ (qN a) (qD a))) := fun k => by
    unfold QW; rw [if_neg h0, RW_a]
  rcases f5 with f5 | ⟨-, f6, f7⟩
  · exact absurd f5.1 hr
  rw [q0 0, q0 1, q0 2]
  have hqa := q_at a (aQ (qN a) (qD a))
  clear q0
  have hD : qD a * 2 ^ rk1 (aQ (qN a) (qD a)) ≠ 0 := Nat.mul_ne_zero hd (two_ne _)
  have yp := Nat.pos_of_ne_zero (rY_pos hd (aQ (qN a) (qD a)))
  have dy := fun m => @dyQ_at (qG a) m (aQ (qN a) (qD a)) (qD a) hd
  revert f1 f2 f3 f4 f6 f7 hrc hr hqa hD yp dy
  generalize aM (qN a) (qD a) = M
  generalize aQ (qN a) (qD a) = Q
  generalize aR (qN a) (qD a) = r
  generalize rX (qN a) Q = X
  generalize rY (qD a) Q = Y
  generalize qD a * 2 ^ rk1 Q = D
  generalize qG a = g
  clear hd h0
  intro hr f1 f2 f3 f4 hrc f6 f7 hqa hD yp dy
  have hP : pk M Q < 9218868437227405312 := by rw [pk_eq]; omega
  have hpar : pk M Q % 2 = M % 2 := by rw [pk_eq]; omega
  have w0 : wQ (Bt.wf g (pk M Q)) = dyQ g M Q := wQ_pk0 g f3 f1 f2 f4
  have w1 : pk M Q + 1 < 9218868437227405312 → wQ (Bt.wf g (pk M Q + 1)) = dyQ g (M + 1) Q := fun h => by
    rw [← pk_succ] at h ⊢
    exact wQ_pk g (by omega) f1 f2 (f4.imp (fun h => Nat.le_succ_of_le h) id) h
  rw [dy] at w0
  rw [dy, Nat.add_mul, Nat.one_mul] at w1
  rw [Nat.add_mul, Nat.one_mul] at f7
  have e0 : (mUp 0 g M r = M ∧ (r = 1 ∨ r = 2 ∧ M % 2 = 0)) ∨ (mUp 0 g M r = M + 1 ∧ (r = 3 ∨ r = 2 ∧ M % 2 = 1)) := by
    unfold mUp upW
    rw [if_pos rfl]
    by_cases c : r = 3 ∨ r = 2 ∧ M % 2 = 1
    · right; rw [decide_eq_true c, if_pos rfl]; exact ⟨rfl, c⟩
    · left; rw [decide_eq_false c, if_neg Bool.false_ne_true]; exact ⟨rfl, by omega⟩
  have f8 : pk M Q + 1 < 9218868437227405312 → X < M * Y + Y := fun h => by rcases f7 with f7 | ⟨f7, f9⟩ <;> omega
  have f9 : pk M Q + 1 < 9218868437227405312 → (r = 1 → (X - M * Y) * 2 < Y) ∧ (r = 2 → (X - M * Y) * 2 = Y) ∧ (r = 3 → Y < (X - M * Y) * 2) := fun h => by
    rcases f7 with f7 | ⟨f7, f9⟩
    · omega
    · rcases Nat.lt_trichotomy ((X - M * Y) * 2) Y with c | c | c
      · rw [cmpN_lt c] at f9; omega
      · rw [c, cmpN_eq] at f9; omega
      · rw [cmpN_gt c] at f9; omega
  have e1 : pk (mUp 1 g M r) Q = if g = true then pk M Q + 1 else pk M Q := by
    rw [← pk_succ]; unfold mUp upW
    cases g <;> simp [hr]
  have e2 : pk (mUp 2 g M r) Q = if g = true then pk M Q else pk M Q + 1 := by
    rw [← pk_succ]; unfold mUp upW
    cases g <;> simp [hr]
  rw [e1, e2]
  have hu : ∃ u, pk (mUp 0 g M r) Q = pk M Q + u ∧ ((u = 0 ∧ (pk M Q + 1 < 9218868437227405312 → (X - M * Y) * 2 < Y ∨ ((X - M * Y) * 2 = Y ∧ pk M Q % 2 = 0))) ∨ (u = 1 ∧ (pk M Q + 1 < 9218868437227405312 → Y < (X - M * Y) * 2 ∨ ((X - M * Y) * 2 = Y ∧ pk M Q % 2 = 1)))) := by
    rw [hpar]
    rcases e0 with ⟨e0, c⟩ | ⟨e0, c⟩
    · refine ⟨0, by rw [e0]; rfl, Or.inl ⟨rfl, fun h => ?_⟩⟩
      obtain ⟨k1, k2, k3⟩ := f9 h
      rcases c with c | ⟨c, c2⟩
      · exact Or.inl (k1 c)
      · exact Or.inr ⟨k2 c, c2⟩
    · refine ⟨1, by rw [e0, pk_succ], Or.inr ⟨rfl, fun h => ?_⟩⟩
      obtain ⟨k1, k2, k3⟩ := f9 h
      rcases c with c | ⟨c, c2⟩
      · exact Or.inl (k3 c)
      · exact Or.inr ⟨k2 c, c2⟩
  obtain ⟨u, eu, hu⟩ := hu
  rw [eu]
  clear e0 e1 e2 eu f9 f7 dy hpar hrc hr f1 f2 f3 f4
  cases g
  · exact Nr_f hP hD hqa w0 w1 f6 f8 hu
  · exact Nr_t hP hD hqa w0 w1 f6 f8 hu
end Go.Proofs.YtajcapliokblfaaGreatDoor
set_option linter.unusedSimpArgs false
set_option linter.unusedVariables false
namespace Go.Proofs.YtajcapliokblfaaGreatDoor
open Go Go.RowKit Nt
theorem NSh_c (a n : Nat) (w : World) (hf : fits a) (hn : n ≤ 1048576) : Calls Tryz.prog 64 #[.string (natS a), .int .i64 (n : Nat)] w (StrPost (resS (a * 2 ^ n)) (resE (a * 2 ^ n)) w) := by
  by_cases h0 : a = 0
  · subst h0; rw [Nat.zero_mul, resS_ok hf, resE_ok hf]; exact NShift_zero n w
  · by_cases h1 : n = 0
    · subst h1; rw [Nat.pow_zero, Nat.mul_one, resS_ok hf, resE_ok hf]; exact NShift_stay a w hf h0
    · by_cases h2 : fits (a * 2 ^ n)
      · rw [resS_ok h2, resE_ok h2]; exact NShift_up a n w hf h0 (Nat.pos_of_ne_zero h1) h2
      · rw [resS_no h2, resE_no h2]; exact NShift_long a n w hf h0 (Nat.pos_of_ne_zero h1) h2 (by omega)
end Go.Proofs.YtajcapliokblfaaGreatDoor
set_option linter.unusedSimpArgs false
set_option linter.unusedVariables false
namespace Go.Proofs.YtajcapliokblfaaGreatDoor
open Go Go.RowKit Nt
theorem Sh_one0 (w : World) : Calls Tryz.prog 64 #[.string ⟨#[1]⟩, .int .i64 0] w fun e w' => e = .returned (.tuple #[.string ⟨#[1]⟩, .int .i64 0]) ∧ Below w.heap.size w w' := by
  have h := NShift_stay 1 w fits_1r (by decide)
  rw [natS_1r] at h; exact h
theorem Sh_nul0 (w : World) : Calls Tryz.prog 64 #[.string ⟨#[]⟩, .int .i64 0] w fun e w' => e = .returned (.tuple #[.string ⟨#[]⟩, .int .i64 0]) ∧ Below w.heap.size w w' := by
  have h := NShift_zero 0 w
  rw [natS_zero] at h; exact h
theorem Sh_ok (a k : Nat) (w : World) (hf : fits a) (hk : k ≤ 1048576) (h : fits (a * 2 ^ k)) : Calls Tryz.prog 64 #[.string (natS a), .int .i64 (k : Nat)] w fun e w' => e = .returned (.tuple #[.string (natS (a * 2 ^ k)), .int .i64 0]) ∧ Below w.heap.size w w' := by
  have hh := NSh_c a k w hf hk
  rwa [resS_ok h, resE_ok h] at hh
theorem max_f (k : Nat) : max (k : Int) 0 = (k : Int) ∧ max 0 (k : Int) = (k : Int) ∧ max (-(k : Int)) 0 = 0 ∧ max 0 (-(k : Int)) = 0 := by omega
set_option maxRecDepth 100000 in
set_option maxHeartbeats 200000 in
theorem POf_zero  (w : World) : Calls Tryz.prog 14 #[.agg #[.bool false, .string ⟨#[]⟩, .int .i64 0]] w fun e' w' => e' = .returned (.tuple #[.agg #[.bool false, .string ⟨#[]⟩, .string ⟨#[1]⟩], .int .i64 0]) ∧ Below w.heap.size w w' := by
  have K1 := Lib.hid (fun w => DCheck_zero w)
  have K2 := Lib.hid (fun w => Sh_nul0 w)
  have K3 := Lib.hid (fun w => Sh_one0 w)
  obtain ⟨bl, hbl⟩ : ∃ bl : List C3, bl = [(.bool false, .string ⟨#[]⟩, .int .i64 0)] := ⟨_, rfl⟩
  have hbn : bl.length = 1 := by rw [hbl]; rfl
  have T0 := BR.start1 w (.bool false) (.string ⟨#[]⟩) (.int .i64 0) false (.string ⟨#[]⟩) (.string ⟨#[]⟩) 26 24
  rw [← hbl] at T0
  have HBL := Lib.hid hbl
  clear hbl
  go_enter Tryz.func14, Tryz.ntmps14
  go_wp2_with fail
  refine (K1.out _).mono ?_
  rintro ee w1 ⟨rfl, hb⟩
  replace T0 := T0.step hb
  clear hb
  obtain ⟨p0, p1, p2, p3, p4, p5, p6⟩ := T0.boxZ (.bool false, .string ⟨#[]⟩, .int .i64 0) (by rw [HBL.out]; rfl)
  go_wp2_with fail
  refine (K2.out _).mono ?_
  rintro ee w2 ⟨rfl, hb⟩
  replace T0 := T0.step hb
  clear hb
  clear p0 p1 p2 p3 p4 p5 p6
  obtain ⟨p0, p1, p2, p3, p4, p5, p6⟩ := T0.boxZ (.bool false, .string ⟨#[]⟩, .int .i64 0) (by rw [HBL.out]; rfl)
  go_wp2_with fail
  refine (K3.out _).mono ?_
  rintro ee w3 ⟨rfl, hb⟩
  replace T0 := T0.step hb
  clear hb
  clear p0 p1 p2 p3 p4 p5 p6
  obtain ⟨p0, p1, p2, p3, p4, p5, p6⟩ := T0.boxZ (.bool false, .string ⟨#[]⟩, .int .i64 0) (by rw [HBL.out]; rfl)
  obtain ⟨q0, q1, q2, q3, q4, q5, q6⟩ := T0.res (n := 1) hbn
  have hfin := below_put3 T0.1 (show w.heap.size ≤ w.heap.size + 1 by omega)
  go_wp2_with fail
  refine bodyPost_ret (v := .tuple #[.agg #[.bool false, .string ⟨#[]⟩, .string ⟨#[1]⟩], .int .i64 0]) (by simp [results, Tryz.results14, go_sem, q0, q1, q2, q3]) rfl ⟨rfl, hfin _ _ _⟩
set_option maxRecDepth 100000 in
set_option maxHeartbeats 200000 in
theorem POf_p1 (g : Bool) (n k : Nat) (hf : fits n) (ho : n % 2 = 1) (hk : k ≤ 1048576) (h : fits (n * 2 ^ k)) (w : World) : Calls Tryz.prog 14 #[.agg #[.bool g, .string (natS n), .int .i64 ((k : Nat) : Int)]] w fun e' w' => e' = .returned (.tuple #[.agg #[.bool g, .string (natS (n * 2 ^ k)), .string ⟨#[1]⟩], .int .i64 0]) ∧ Below w.heap.size w w' := by
  have K1 := Lib.hid (fun w => DCheck_num g n k w hf ho (by omega) (by omega))
  have K2 := Lib.hid (fun w => Sh_ok n k w hf hk h)
  have K3 := Lib.hid (fun w => Sh_one0 w)
  obtain ⟨m1, m2, m3, m4⟩ := max_f k
  have hw1 : IntKind.i64.wrap (-(k : Int)) = -(k : Int) := IntWalk.i64_in _ ⟨by omega, by omega⟩
  have hw2 : IntKind.i64.wrap (k : Int) = (k : Int) := IntWalk.i64_in _ ⟨by omega, by omega⟩
  have d1 := natS_full (odd_ne ho)
  have d2 := natS_full2 (odd_ne ho)
  clear h ho hf hk
  generalize n * 2 ^ k = N at *
  obtain ⟨bl, hbl⟩ : ∃ bl : List C3, bl = [(.bool g, .string (natS n), .int .i64 ((k : Nat) : Int))] := ⟨_, rfl⟩
  have hbn : bl.length = 1 := by rw [hbl]; rfl
  have T0 := BR.start1 w (.bool g) (.string (natS n)) (.int .i64 ((k : Nat) : Int)) false (.string ⟨#[]⟩) (.string ⟨#[]⟩) 26 24
  rw [← hbl] at T0
  have HBL := Lib.hid hbl
  clear hbl
  go_enter Tryz.func14, Tryz.ntmps14
  go_wp2_with fail
  refine (K1.out _).mono ?_
  rintro ee w1 ⟨rfl, hb⟩
  replace T0 := T0.step hb
  clear hb
  obtain ⟨p0, p1, p2, p3, p4, p5, p6⟩ := T0.boxZ (.bool g, .string (natS n), .int .i64 ((k : Nat) : Int)) (by rw [HBL.out]; rfl)
  go_wp2_with fail
  refine (K2.out _).mono ?_
  rintro ee w2 ⟨rfl, hb⟩
  replace T0 := T0.step hb
  clear hb
  clear p0 p1 p2 p3 p4 p5 p6
  obtain ⟨p0, p1, p2, p3, p4, p5, p6⟩ := T0.boxZ (.bool g, .string (natS n), .int .i64 ((k : Nat) : Int)) (by rw [HBL.out]; rfl)
  go_wp2_with fail
  refine (K3.out _).mono ?_
  rintro ee w3 ⟨rfl, hb⟩
  replace T0 := T0.step hb
  clear hb
  clear p0 p1 p2 p3 p4 p5 p6
  obtain ⟨p0, p1, p2, p3, p4, p5, p6⟩ := T0.boxZ (.bool g, .string (natS n), .int .i64 ((k : Nat) : Int)) (by rw [HBL.out]; rfl)
  obtain ⟨q0, q1, q2, q3, q4, q5, q6⟩ := T0.res (n := 1) hbn
  have hfin := below_put3 T0.1 (show w.heap.size ≤ w.heap.size + 1 by omega)
  go_wp2_with fail
  refine bodyPost_ret (v := .tuple #[.agg #[.bool g, .string (natS N), .string ⟨#[1]⟩], .int .i64 0]) (by simp [results, Tryz.results14, go_sem, q0, q1, q2, q3]) rfl ⟨rfl, hfin _ _ _⟩
set_option maxRecDepth 100000 in
set_option maxHeartbeats 200000 in
theorem POf_n1 (g : Bool) (n k : Nat) (hf : fits n) (ho : n % 2 = 1) (hk : k ≤ 1048576) (hk0 : 0 < k) (h : fits (1 * 2 ^ k)) (w : World) : Calls Tryz.prog 14 #[.agg #[.bool g, .string (natS n), .int .i64 (-((k : Nat) : Int))]] w fun e' w' => e' = .returned (.tuple #[.agg #[.bool g, .string (natS n), .string (natS (1 * 2 ^ k))], .int .i64 0]) ∧ Below w.heap.size w w' := by
  have K1 := Lib.hid (fun w => DCheck_num g n (-(k : Int)) w hf ho (by omega) (by omega))
  have K2 := Lib.hid (fun w => NShift_stay n w hf (odd_ne ho))
  have K3 := Lib.hid (fun w => (by have h := Sh_ok 1 k w fits_1r hk h; rw [natS_1r] at h; exact h))
  obtain ⟨m1, m2, m3, m4⟩ := max_f k
  have hw1 : IntKind.i64.wrap (-(k : Int)) = -(k : Int) := IntWalk.i64_in _ ⟨by omega, by omega⟩
  have hw2 : IntKind.i64.wrap (k : Int) = (k : Int) := IntWalk.i64_in _ ⟨by omega, by omega⟩
  have d1 := natS_full (odd_ne ho)
  have d2 := natS_full2 (odd_ne ho)
  clear h ho hf hk hk0
  generalize 1 * 2 ^ k = N at *
  obtain ⟨bl, hbl⟩ : ∃ bl : List C3, bl = [(.bool g, .string (natS n), .int .i64 (-((k : Nat) : Int)))] := ⟨_, rfl⟩
  have hbn : bl.length = 1 := by rw [hbl]; rfl
  have T0 := BR.start1 w (.bool g) (.string (natS n)) (.int .i64 (-((k : Nat) : Int))) false (.string ⟨#[]⟩) (.string ⟨#[]⟩) 26 24
  rw [← hbl] at T0
  have HBL := Lib.hid hbl
  clear hbl
  go_enter Tryz.func14, Tryz.ntmps14
  go_wp2_with fail
  refine (K1.out _).mono ?_
  rintro ee w1 ⟨rfl, hb⟩
  replace T0 := T0.step hb
  clear hb
  obtain ⟨p0, p1, p2, p3, p4, p5, p6⟩ := T0.boxZ (.bool g, .string (natS n), .int .i64 (-((k : Nat) : Int))) (by rw [HBL.out]; rfl)
  go_wp2_with fail
  refine (K2.out _).mono ?_
  rintro ee w2 ⟨rfl, hb⟩
  replace T0 := T0.step hb
  clear hb
  clear p0 p1 p2 p3 p4 p5 p6
  obtain ⟨p0, p1, p2, p3, p4, p5, p6⟩ := T0.boxZ (.bool g, .string (natS n), .int .i64 (-((k : Nat) : Int))) (by rw [HBL.out]; rfl)
  go_wp2_with fail
  refine (K3.out _).mono ?_
  rintro ee w3 ⟨rfl, hb⟩
  replace T0 := T0.step hb
  clear hb
  clear p0 p1 p2 p3 p4 p5 p6
  obtain ⟨p0, p1, p2, p3, p4, p5, p6⟩ := T0.boxZ (.bool g, .string (natS n), .int .i64 (-((k : Nat) : Int))) (by rw [HBL.out]; rfl)
  obtain ⟨q0, q1, q2, q3, q4, q5, q6⟩ := T0.res (n := 1) hbn
  have hfin := below_put3 T0.1 (show w.heap.size ≤ w.heap.size + 1 by omega)
  go_wp2_with fail
  refine bodyPost_ret (v := .tuple #[.agg #[.bool g, .string (natS n), .string (natS N)], .int .i64 0]) (by simp [results, Tryz.results14, go_sem, q0, q1, q2, q3]) rfl ⟨rfl, hfin _ _ _⟩
end Go.Proofs.YtajcapliokblfaaGreatDoor
set_option linter.unusedVariables false
set_option linter.unusedSimpArgs false
namespace Go.Proofs.YtajcapliokblfaaGreatDoor
open Go Go.RowKit Nt
theorem QW_ok (k : Nat) (q : Rat) : ¬ Bt.Ff.isn (QW k q) := by
  have key : ∀ (g : Bool) (p : Nat), p ≤ 9218868437227405312 → ¬ Bt.Ff.isn (Bt.wf g p) := by
    intro g p hp c
    have c' := (Bt.isn_iff _).1 c
    unfold Bt.Ff.rung at c'
    rw [Bt.wf_eq] at c'
    cases g
    · rw [if_neg Bool.false_ne_true] at c'; omega
    · rw [if_pos rfl, Bt.topped_eq] at c'; omega
  unfold QW
  by_cases h0 : qN q = 0
  · rw [if_pos h0]; intro c; have := (Bt.isn_iff _).1 c; exact absurd this (by decide)
  · rw [if_neg h0, RW_a]
    obtain ⟨m1, m2⟩ := aM_b h0 (qD_pos q)
    refine key _ _ (pk_lt ?_ m2)
    unfold mUp
    split <;> omega
end Go.Proofs.YtajcapliokblfaaGreatDoor
set_option linter.unusedSimpArgs false
set_option linter.unusedVariables false
namespace Go.Proofs.YtajcapliokblfaaGreatDoor
open Go Go.RowKit Nt
theorem dyQ_shift (g : Bool) (m : Nat) (e : Int) (j : Nat) : dyQ g (m * 2 ^ j) e = dyQ g m (e + j) := by
  induction j generalizing m e with
  | zero => rw [Nat.pow_zero, Nat.mul_one]; congr 1; omega
  | succ j ih => rw [Nat.pow_succ, ← Nat.mul_assoc, dyQ_up, ih]; congr 1; omega
theorem odd_gcd {o : Nat} (ho : o % 2 = 1) (k : Nat) : Nat.gcd o (2 ^ k) = 1 := by
  refine Nat.Coprime.pow_right k ?_
  show Nat.gcd o 2 = 1
  rw [Nat.gcd_comm, Nat.gcd_rec, ho]
  exact Nat.gcd_one_left 2
/-- The ratio of a float's dyad. -/
theorem POf_mk (g : Bool) (m : Nat) (e : Int) (w : World) (hm : m < 9007199254740992) (h1 : -1074 ≤ e) (h2 : e ≤ 971) : Calls Tryz.prog 14 #[(mkD g m e).v] w fun e' w' => e' = .returned (.tuple #[qv (dyQ g m e), .int .i64 0]) ∧ Below w.heap.size w w' := by
  by_cases h0 : m = 0
  · subst h0
    rw [mkD_zero, Dy.zero_v]
    have : qv (dyQ g 0 e) = .agg #[.bool false, .string ⟨#[]⟩, .string ⟨#[1]⟩] := by
      unfold dyQ qv
      rw [Nat.zero_mul, fr_zero, qG_zero, qN_zero, qD_zero, natS_zero, natS_1r]
    rw [this]
    exact POf_zero w
  · obtain ⟨ho, hs⟩ := odN_spec h0
    obtain ⟨o, hoo⟩ : ∃ o, o = odN m := ⟨_, rfl⟩
    obtain ⟨l, hl⟩ : ∃ l, l = lowN m := ⟨_, rfl⟩
    have hop : 0 < o := by rw [hoo]; exact Nat.pos_of_ne_zero (odN_pos h0)
    have hl53 : l < 53 := by
      have : 2 ^ l ≤ m := by rw [hs, ← hoo, ← hl]; exact Nat.le_mul_of_pos_left _ hop
      exact (Nat.pow_lt_pow_iff_right (a := 2) (by omega)).1 (Nat.lt_of_le_of_lt this (by rw [show (2 : Nat) ^ 53 = 9007199254740992 by decide]; exact hm))
    have hom : o ≤ m := by rw [hoo]; exact odN_le m
    have hfo : fits o := by unfold fits; exact Nat.le_trans (nd_two (k := 7) (L := 53) (by rw [show (2 : Nat) ^ 53 = 9007199254740992 by decide]; omega) (by decide)) (by decide)
    have hk : mkOk3 m e := Or.inr ⟨by rw [← hoo]; exact hfo, by rw [← hl]; omega, by rw [← hl]; omega⟩
    have hq : dyQ g m e = dyQ g o (e + l) := by rw [← dyQ_shift]; rw [hoo, hl]; exact congrArg (fun z => dyQ g z e) hs
    rw [mkD_ok h0 hk, ← hoo, ← hl, hq]
    rw [← hoo] at ho
    have hob : o < 9007199254740992 := by omega
    clear hq hk hs hoo hl h0 hom
    have b1 : -1074 ≤ e + l := by omega
    have b2 : e + (l : Int) ≤ 1024 := by omega
    generalize e + (l : Int) = E at *
    have ho0 : o ≠ 0 := by omega
    have two : ∀ k, k ≤ 1100 → fits (1 * 2 ^ k) := fun k hk => by
      unfold fits
      refine Nat.le_trans (nd_two (k := 138) (L := k + 1) ?_ (by omega)) (by decide)
      rw [Nat.one_mul]; exact two_lt k
    by_cases hE : 0 ≤ E
    · obtain ⟨k, rfl⟩ := Int.eq_ofNat_of_zero_le hE
      have hr : qv (dyQ g o k) = .agg #[.bool g, .string (natS (o * 2 ^ k)), .string ⟨#[1]⟩] := by
        unfold dyQ qv
        rw [show rk2 (k : Int) = k by unfold rk2; omega, show rk1 (k : Int) = 0 by unfold rk1; omega, Nat.pow_zero]
        obtain ⟨a, b, c⟩ := low_fr (g := g) (n := o * 2 ^ k) (d := 1) ⟨by omega, Nat.gcd_one_right _, fun c => absurd c (Nat.mul_ne_zero ho0 (two_ne _))⟩
        rw [a, b, c, natS_1r]
      rw [hr]
      refine POf_p1 g o k hfo ho (by omega) ?_ w
      unfold fits
      exact Nat.le_trans (nd_two (k := 136) (two53 (by omega) k) (by omega)) (by decide)
    · obtain ⟨k, rfl⟩ : ∃ k : Nat, E = -(k : Int) := ⟨E.natAbs, by omega⟩
      have hr : qv (dyQ g o (-(k : Int))) = .agg #[.bool g, .string (natS o), .string (natS (1 * 2 ^ k))] := by
        unfold dyQ qv
        rw [show rk2 (-(k : Int)) = 0 by unfold rk2; omega, show rk1 (-(k : Int)) = k by unfold rk1; omega, Nat.pow_zero, Nat.mul_one, Nat.one_mul]
        obtain ⟨a, b, c⟩ := low_fr (g := g) (n := o) (d := 2 ^ k) ⟨two_ne _, odd_gcd ho k, fun c => absurd c ho0⟩
        rw [a, b, c]
      rw [hr]
      exact POf_n1 g o k hfo ho (by omega) (by omega) (two k (by omega)) w
theorem PFl_c (x : Nat) (w : World) (hx : x < 18446744073709551616) (hf : Bt.finB x = true) (hG : Globs glT w) : Calls Tryz.prog 108 #[.float .f64 x] w fun e w' => e = .returned (.tuple #[(mkD (Bt.Ff.sgn x) (Bt.pm x) (Bt.pex x)).v, .int .i64 0]) ∧ Below w.heap.size w w' := DFloat_c x hx hf w (tabs_of hG)
theorem POfX_c (x : Nat) (w : World) (hx : x < 18446744073709551616) (hf : Bt.finB x = true) : Calls Tryz.prog 14 #[(mkD (Bt.Ff.sgn x) (Bt.pm x) (Bt.pex x)).v] w fun e' w' => e' = .returned (.tuple #[qv (wQ x), .int .i64 0]) ∧ Below w.heap.size w w' := by
  obtain ⟨e1, e2⟩ := pex_bounds hx hf
  have h := POf_mk (Bt.Ff.sgn x) (Bt.pm x) (Bt.pex x) w (Bt.pm_lt x) e1 e2
  unfold wQ
  exact h
theorem POf_zQ (w : World) : Calls Tryz.prog 14 #[.agg #[.bool false, .string ⟨#[]⟩, .int .i64 0]] w fun e' w' => e' = .returned (.tuple #[qv (0 : Rat), .int .i64 0]) ∧ Below w.heap.size w w' := by
  have e : qv (0 : Rat) = .agg #[.bool false, .string ⟨#[]⟩, .string ⟨#[1]⟩] := by unfold qv; rw [qG_zero, qN_zero, qD_zero, natS_zero, natS_1r]
  rw [e]; exact POf_zero w
theorem PUp_c (x : Nat) (hx : x < 18446744073709551616) (w : World) : Calls Tryz.prog 56 #[.float .f64 x] w fun e w' => e = .returned (.float .f64 (Bt.upF x)) ∧ Below w.heap.size w w' :=
  (Bt.Up_c x hx w).mono fun e w' h => ⟨h.1, by rw [← h.2]; exact Below.refl _ _⟩
theorem PSignbit_c (x : Nat) (hx : x < 18446744073709551616) (w : World) : Calls Tryz.prog 55 #[.float .f64 x] w fun e w' => e = .returned (.bool (Bt.Ff.sgn x)) ∧ Below w.heap.size w w' := by
  have h2 := Bt.ext_bits
  go_enter Tryz.func55, Tryz.ntmps55
  go_wp2
  go_ret
  exact ⟨Bt.ret_bool (by unfold RowKit.wrap64 Bt.Ff.sgn; rw [Bool.eq_iff_iff, decide_eq_true_iff, beq_iff_eq]; omega), Below.refl _ _⟩
theorem Pfinite_c (x : Nat) (w : World) : Calls Tryz.prog 53 #[.float .f64 x] w fun e w' => e = .returned (.bool (Bt.finB x)) ∧ Below w.heap.size w w' := by
  by_cases hf : Bt.finB x = true
  · have h1 := (Bt.finB_true x).1 hf
    have hs := fun w => run_float_arith (P := Tryz.prog) w .sub 49 .f64 x x 0 (Bt.sub_self x h1)
    have hz := Bt.order_zz
    go_enter Tryz.func53, Tryz.ntmps53
    go_wp2
    all_goals go_ret
    all_goals exact ⟨by simp [hf], Below.refl _ _⟩
  · have h1 : ¬ Bt.Ff.rung x < 9218868437227405312 := fun h => hf ((Bt.finB_true x).2 h)
    have hf' : Bt.finB x = false := by simpa using hf
    have hsub : Ieee.double.sub x x = none := by
      by_cases hi : Bt.Ff.isn x
      · unfold Ieee.Format.sub
        rw [Bt.Ff.read_nan hi]
        rfl
      · exact Bt.sub_inf x (by unfold Bt.Ff.isn at hi; omega)
    have hs := Bt.run_sub_nan 49 x x hsub
    have hnn := Bt.nanAt_isn w x x
    have hz : (FloatKind.f64.format.order (Bt.nanAt w x x) 0 == some Ordering.eq) = false := by
      rw [show FloatKind.f64.format.order (Bt.nanAt w x x) 0 = _ from Bt.Ff.order_eq _ _, if_pos (Or.inl hnn)]; rfl
    go_enter Tryz.func53, Tryz.ntmps53
    go_wp2
    all_goals go_ret
    all_goals exact ⟨by simp [hf'], (Below.refl _ _).drew⟩
section
variable [Env]
theorem optQ_eql_i {t : TypeId} {A B : AV} {a b : Nat} {c : Bool} (ha : gval A = .float .f64 a) (hb : gval B = .float .f64 b) (h : c = true ↔ Bt.feqB a b = true) : OpT Tryz.prog [0, 11, t] [A, B] (.lit (.bool c)) :=
  opt_bin (op := .eql) rfl fun p q w => by
    have hc : c = Bt.feqB a b := Bool.eq_iff_iff.2 h
    have h2 := Bt.f_eq a b
    rw [ha, hb, hc]
    go_simp
    rfl
theorem optQ_neq_i {t : TypeId} {A B : AV} {a b : Nat} {c : Bool} (ha : gval A = .float .f64 a) (hb : gval B = .float .f64 b) (h : c = true ↔ Bt.feqB a b = true) : OpT Tryz.prog [0, 12, t] [A, B] (.lit (.bool (!c))) :=
  opt_bin (op := .neq) rfl fun p q w => by
    have hc : c = Bt.feqB a b := Bool.eq_iff_iff.2 h
    have h2 := Bt.f_ne a b
    rw [ha, hb, hc]
    go_simp
    rfl
theorem optQ_gtr_i {t : TypeId} {A B : AV} {a b : Nat} {c : Bool} (ha : gval A = .float .f64 a) (hb : gval B = .float .f64 b) (h : c = true ↔ Bt.fltB b a = true) : OpT Tryz.prog [0, 15, t] [A, B] (.lit (.bool c)) :=
  opt_bin (op := .gtr) rfl fun p q w => by
    have hc : c = Bt.fltB b a := Bool.eq_iff_iff.2 h
    have h2 := Bt.f_gt a b
    rw [ha, hb, hc]
    go_simp
    rfl
theorem optQ_from {A r : AV} {x : Nat} (ha : gval A = .int .u64 (x : Int)) (hr : ground r = true) (hv : gval r = .float .f64 x) : OpT Tryz.prog [7, 52] [A] r := by
  refine ⟨hr, fun o xs hk ρ hρ hx w => ?_⟩
  unfold keyOf at hk
  obtain ⟨dst, o, type, pos, after, guard⟩ := o
  simp only at hk
  split at hk
  case h_8 g args argTypes =>
    simp only [Option.some.injEq, Prod.mk.injEq, List.cons.injEq, and_true, true_and] at hk
    obtain ⟨h1, h2⟩ := hk
    subst h1
    have hxx : args.map ρ = #[.int .u64 (x : Int)] := by
      apply Array.ext'
      rw [Array.toList_map, h2, hx]
      simp [ha]
    simp only [execOp, resolve, hρ, Deferred.ofValue, Sem.run_bind, Sem.run_pure, Result.andThen_ok, invoke, hxx]
    rw [hv, show (#[] ++ #[Value.int IntKind.u64 (x : Int)] ++ #[] : Array Value) = #[Value.int IntKind.u64 (x : Int)] from rfl]
    exact Bt.ext_from x w
  all_goals first
    | (simp only [Option.some.injEq, Prod.mk.injEq, List.cons.injEq] at hk; have := hk.1.1; omega)
    | (split at hk <;> first | cases hk | (simp only [Option.some.injEq, Prod.mk.injEq, List.cons.injEq] at hk; have := hk.1.1; omega))
    | cases hk
theorem optQ_bits {A r : AV} {x : Nat} (ha : gval A = .float .f64 x) (hr : ground r = true) (hv : gval r = .int .u64 (x : Int)) : OpT Tryz.prog [7, 57] [A] r := by
  refine ⟨hr, fun o xs hk ρ hρ hx w => ?_⟩
  unfold keyOf at hk
  obtain ⟨dst, o, type, pos, after, guard⟩ := o
  simp only at hk
  split at hk
  case h_8 g args argTypes =>
    simp only [Option.some.injEq, Prod.mk.injEq, List.cons.injEq, and_true, true_and] at hk
    obtain ⟨h1, h2⟩ := hk
    subst h1
    have hxx : args.map ρ = #[.float .f64 x] := by
      apply Array.ext'
      rw [Array.toList_map, h2, hx]
      simp [ha]
    simp only [execOp, resolve, hρ, Deferred.ofValue, Sem.run_bind, Sem.run_pure, Result.andThen_ok, invoke, hxx]
    rw [hv, show (#[] ++ #[Value.float FloatKind.f64 x] ++ #[] : Array Value) = #[Value.float FloatKind.f64 x] from rfl]
    exact Bt.ext_bits x w
  all_goals first
    | (simp only [Option.some.injEq, Prod.mk.injEq, List.cons.injEq] at hk; have := hk.1.1; omega)
    | (split at hk <;> first | cases hk | (simp only [Option.some.injEq, Prod.mk.injEq, List.cons.injEq] at hk; have := hk.1.1; omega))
    | cases hk
end
end Go.Proofs.YtajcapliokblfaaGreatDoor
set_option linter.unusedVariables false
set_option linter.unusedSimpArgs false
namespace Go.Proofs.YtajcapliokblfaaGreatDoor
open Go Go.RowKit Nt
/-- The ratio of a float: 0 of what is not finite. -/
@[irreducible] noncomputable def ofQ (x : Nat) : Rat := if Bt.finB x = true then wQ x else 0
theorem ofQ_fin {x : Nat} (h : Bt.finB x = true) : ofQ x = wQ x := by unfold ofQ; rw [if_pos h]
theorem ofQ_inf {x : Nat} (h : Bt.finB x = false) : ofQ x = 0 := by unfold ofQ; rw [if_neg (by rw [h]; exact Bool.false_ne_true)]
theorem ofQ_b {x : Nat} (hx : x < 18446744073709551616) : Bq (ofQ x) 136 := by
  cases h : Bt.finB x
  · rw [ofQ_inf h]; unfold Bq; rw [qN_zero, qD_zero]; exact ⟨by rw [nd_zero]; omega, Nat.le_trans (nd_le (k := 1) (by omega) (by decide)) (by decide)⟩
  · rw [ofQ_fin h]; exact wQ_b hx h
theorem POf_zN (w : World) : Calls Tryz.prog 14 #[.agg #[.bool false, .string (natS Dy.zero.n), .int .i64 0]] w fun e' w' => e' = .returned (.tuple #[qv (0 : Rat), .int .i64 0]) ∧ Below w.heap.size w w' := by
  rw [natS_dz]; exact POf_zQ w
@[reducible] def Pof_y_f : FuncId := 54
@[reducible] def Pof_y_a : List AV := [.sym 0]
@[reducible] noncomputable def Pof_y_k : Know := ⟨[],
  [(108, [.sym 0], .tup [.agg [.sym 1, .sym 2, .sym 3], .lit (.int .i64 0)]),
  (14, [.agg [.sym 1, .sym 2, .sym 3]], .tup [.agg [.sym 4, .sym 5, .sym 6], .lit (.int .i64 0)])]⟩
theorem Pof_y_r1 : @comes Pof_y_k Tryz.prog glT 3000 Pof_y_f Pof_y_a = some (.agg [.sym 4, .sym 5, .sym 6]) := by kernel_rfl
set_option maxRecDepth 100000 in
set_option maxHeartbeats 4000000 in
theorem Pof_y (x : Nat) (w : World) (hG : Globs glT w) (hx : x < 18446744073709551616) (hf : Bt.finB x = true) : Calls Tryz.prog 54 #[.float .f64 (x)] w fun e w' => e = .returned (.agg #[.bool (qG (wQ x)), .string (natS (qN (wQ x))), .string (natS (qD (wQ x)))]) ∧ Below w.heap.size w w' := by
  letI : Env := mkEnv glT [.float .f64 (x), .bool ((mkD (Bt.Ff.sgn x) (Bt.pm x) (Bt.pex x))).g, .string (natS ((mkD (Bt.Ff.sgn x) (Bt.pm x) (Bt.pex x))).n), .int .i64 ((mkD (Bt.Ff.sgn x) (Bt.pm x) (Bt.pex x))).x, .bool (qG (wQ x)), .string (natS (qN (wQ x))), .string (natS (qD (wQ x)))] rfl
  have hops : OpsT Tryz.prog (@Know.ops Pof_y_k) := trivial
  have hcalls : CallsT Tryz.prog (@Know.calls Pof_y_k) := ⟨callt rfl rfl fun w hG => PFl_c x w hx hf hG,
    callt rfl rfl fun w hG => POfX_c x w hx hf,
    trivial⟩
  have fin : ∀ v, @comes Pof_y_k Tryz.prog glT 3000 Pof_y_f Pof_y_a = some v → ground v = true → Ending.returned (gval v) = .returned (.agg #[.bool (qG (wQ x)), .string (natS (qN (wQ x))), .string (natS (qD (wQ x)))]) → Calls Tryz.prog 54 #[.float .f64 (x)] w fun e w' => e = .returned (.agg #[.bool (qG (wQ x)), .string (natS (qN (wQ x))), .string (natS (qD (wQ x)))]) ∧ Below w.heap.size w w' := fun v h1 h2 h3 => (@sym_ok _ Pof_y_k _ (@KnowOk.of _ Pof_y_k _ hops hcalls) (by kernel_rfl) _ _ _ _ h1 rfl h2 _ hG).mono fun e w' h => ⟨h.1.trans h3, h.2⟩
  clear hops hcalls
  exact fin _ (Pof_y_r1) rfl rfl
@[reducible] def Pof_n_f : FuncId := 54
@[reducible] def Pof_n_a : List AV := [.sym 0]
@[reducible] noncomputable def Pof_n_k : Know := ⟨[],
  [(108, [.sym 0], .lit (.tuple #[.agg #[.bool false, .string ⟨#[]⟩, .int .i64 0], .int .i64 5])),
  (14, [.lit (.agg #[.bool false, .string ⟨#[]⟩, .int .i64 0])], .tup [.agg [.sym 1, .sym 2, .sym 3], .lit (.int .i64 0)])]⟩
theorem Pof_n_r1 : @comes Pof_n_k Tryz.prog glT 3000 Pof_n_f Pof_n_a = some (.agg [.sym 1, .sym 2, .sym 3]) := by kernel_rfl
set_option maxRecDepth 100000 in
set_option maxHeartbeats 4000000 in
theorem Pof_n (x : Nat) (w : World) (hG : Globs glT w) (hx : x < 18446744073709551616) (hf : Bt.finB x = false) : Calls Tryz.prog 54 #[.float .f64 (x)] w fun e w' => e = .returned (.agg #[.bool (qG ((0 : Rat))), .string (natS (qN ((0 : Rat)))), .string (natS (qD ((0 : Rat))))]) ∧ Below w.heap.size w w' := by
  letI : Env := mkEnv glT [.float .f64 (x), .bool (qG ((0 : Rat))), .string (natS (qN ((0 : Rat)))), .string (natS (qD ((0 : Rat))))] rfl
  have hops : OpsT Tryz.prog (@Know.ops Pof_n_k) := trivial
  have hcalls : CallsT Tryz.prog (@Know.calls Pof_n_k) := ⟨callt rfl rfl fun w hG => DFloat_no x hx hf w,
    callt rfl rfl fun w hG => (by have h := POf_zN w; rw [natS_dz] at h; exact h),
    trivial⟩
  have fin : ∀ v, @comes Pof_n_k Tryz.prog glT 3000 Pof_n_f Pof_n_a = some v → ground v = true → Ending.returned (gval v) = .returned (.agg #[.bool (qG ((0 : Rat))), .string (natS (qN ((0 : Rat)))), .string (natS (qD ((0 : Rat))))]) → Calls Tryz.prog 54 #[.float .f64 (x)] w fun e w' => e = .returned (.agg #[.bool (qG ((0 : Rat))), .string (natS (qN ((0 : Rat)))), .string (natS (qD ((0 : Rat))))]) ∧ Below w.heap.size w w' := fun v h1 h2 h3 => (@sym_ok _ Pof_n_k _ (@KnowOk.of _ Pof_n_k _ hops hcalls) (by kernel_rfl) _ _ _ _ h1 rfl h2 _ hG).mono fun e w' h => ⟨h.1.trans h3, h.2⟩
  clear hops hcalls
  exact fin _ (Pof_n_r1) rfl rfl
theorem Pof_c (x : Nat) (w : World) (hx : x < 18446744073709551616) (hG : Globs glT w) : Calls Tryz.prog 54 #[.float .f64 x] w fun e w' => e = .returned (qv (ofQ x)) ∧ Below w.heap.size w w' := by
  cases h : Bt.finB x
  · rw [ofQ_inf h]; exact Pof_n x w hG hx h
  · rw [ofQ_fin h]; exact Pof_y x w hG hx h
/-- What is so of a finite float's own ratio. -/
theorem own_eq (k : Nat) {x : Nat} (hx : x < 18446744073709551616) (hf : Bt.finB x = true) : Bt.feqB (QW k (ofQ x)) x = true := by
  have hr := (Bt.finB_true x).1 hf
  have hi : ¬ Bt.Ff.isn x := by unfold Bt.Ff.isn; omega
  rw [ofQ_fin hf]
  by_cases h0 : Bt.Ff.rung x = 0
  · rw [wQ_zero h0, QW_zero]
    unfold Bt.feqB
    refine decide_eq_true ⟨by decide, hi, ?_⟩
    rw [Bt.srung_zero, (Bt.srung_eq_zero x).2 h0]
  · rw [QW_wQ k x hx hf h0]; exact Bt.feq_ok hi
theorem own_z (k : Nat) {x : Nat} (hf : Bt.finB x = true) (h : Bt.feqB x 0 = true) : Bt.Ff.sgn (QW k (ofQ x)) = false := by
  rw [Bt.feq_zero] at h
  rw [ofQ_fin hf, wQ_zero (of_decide_eq_true h), QW_zero]; decide
theorem own_n (k : Nat) {x : Nat} (hx : x < 18446744073709551616) (hf : Bt.finB x = true) (h : ¬ Bt.feqB x 0 = true) : QW k (ofQ x) = x := by
  rw [Bt.feq_zero, decide_eq_true_iff] at h
  rw [ofQ_fin hf]; exact QW_wQ k x hx hf h
@[irreducible] def lkB (a b : Nat) : Bool := (decide (Bt.Ff.isn a) && decide (Bt.Ff.isn b)) || decide (a = b)
theorem lkB_self (a : Nat) : lkB a a = true := by unfold lkB; simp
theorem QW_lt (k : Nat) (q : Rat) : QW k q < 18446744073709551616 := by
  unfold QW
  by_cases h0 : qN q = 0
  · rw [if_pos h0]; omega
  · rw [if_neg h0, RW_a]
    obtain ⟨m1, m2⟩ := aM_b h0 (qD_pos q)
    refine wf_lt _ ?_
    have : pk (mUp k (qG q) (aM (qN q) (qD q)) (aR (qN q) (qD q))) (aQ (qN q) (qD q)) ≤ 9218868437227405312 := by
      refine pk_lt ?_ m2
      unfold mUp
      split <;> omega
    omega
theorem like_any (a b : Nat) (w : World) : Calls Tryz.prog 38 #[.float .f64 a, .float .f64 b] w fun e w' => e = .returned (.bool (lkB a b)) ∧ Below w.heap.size w w' := by
  have h44 := Bt.ext_bits
  have hna := Bt.isn_ne a
  have hnb := Bt.isn_ne b
  by_cases ha : Bt.Ff.isn a <;> by_cases hb : Bt.Ff.isn b <;> by_cases he : a = b
  all_goals
    have H : Hid (lkB a b = ((decide (Bt.Ff.isn a) && decide (Bt.Ff.isn b)) || decide (a = b))) := Lib.hid (by unfold lkB; rfl)
    first | rw [decide_eq_true ha] at hna H | rw [decide_eq_false ha] at hna H
    first | rw [decide_eq_true hb] at hnb H | rw [decide_eq_false hb] at hnb H
    first | rw [decide_eq_true he] at H | rw [decide_eq_false he] at H
    have hx : ((a : Int) == (b : Int)) = decide (a = b) := by rw [Bool.eq_iff_iff, beq_iff_eq, decide_eq_true_iff]; omega
    first | rw [decide_eq_true he] at hx | rw [decide_eq_false he] at hx
    clear ha hb he
    go_enter Tryz.func38, Tryz.ntmps38
    go_wp2
    all_goals go_ret
    all_goals exact ⟨by rw [H.out]; first | rfl | simp, Below.refl _ _⟩
theorem qC_self (q : Rat) : ¬ qC q q > 0 := by unfold qC; rw [if_neg (Rat.lt_irrefl), if_pos rfl]; omega
theorem qC_lt {p q : Rat} (h : p < q) : ¬ qC p q > 0 := by unfold qC; rw [if_pos h]; omega
theorem Nr.own {a : Rat} {n b c : Nat} (H : Nr a n b c) (h : Bt.finB b = true) : ¬ qr (ofQ b) = qr a := fun c => by
  have h1 := H.fb h
  rw [ofQ_fin h] at c
  have := Rx.mk.inj c
  have e := q_eq this.1 (natS_inj.1 this.2.1) (natS_inj.1 this.2.2)
  rw [e] at h1; exact Rat.lt_irrefl h1
set_option maxRecDepth 100000 in
theorem optQ_rem [Env] {t : TypeId} {A B r : AV} {x : Nat} (ha : gval A = .int .u64 (x : Int)) (hb : gval B = .int .u64 2) (hr : ground r = true) (hv : gval r = .int .u64 ((x % 2 : Nat) : Int)) : OpT Tryz.prog [0, 4, t] [A, B] r :=
  opt_bin (op := .rem) hr fun p q w => by
    have e : (x : Int).tmod 2 = ((x % 2 : Nat) : Int) := (Int.ofNat_tmod x 2).symm
    have e2 : IntKind.u64.wrap ((x % 2 : Nat) : Int) = ((x % 2 : Nat) : Int) := by rw [IntKind.wrap_u64]; omega
    rw [ha, hb, hv]
    go_simp
theorem flt_irr (x : Nat) : ¬ Bt.fltB x x = true := by unfold Bt.fltB; simp
theorem Nr.or2 {a : Rat} {n b c : Nat} (H : Nr a n b c) (h : ¬ Bt.feqB n b = true) : Bt.feqB n c = true := by
  rcases H.or with ⟨h1, _⟩ | ⟨_, h2⟩
  · exact absurd h1 h
  · rw [h2]; exact Bt.feq_ok H.nc
@[reducible] def RatioNear_0_f : FuncId := 8
@[reducible] def RatioNear_0_a : List AV := [.agg [.sym 0, .sym 1, .sym 2], .sym 3]
@[reducible] noncomputable def RatioNear_0_k (b1 b2 b3 b4 b5 b6 b7 b8 b9 : Bool) : Know := ⟨[([7, 52], [.sym 3], .sym 4),
  ([0, 12, 49], [.sym 8, .sym 4], .lit (.bool (!b2))),
  ([0, 12, 49], [.sym 9, .sym 4], .lit (.bool (!b3))),
  ([0, 12, 49], [.sym 10, .sym 4], .lit (.bool (!b4))),
  ([0, 11, 49], [.sym 4, .lit (.float .f64 0)], .lit (.bool b6)),
  ([0, 12, 49], [.sym 4, .lit (.float .f64 0)], .lit (.bool (!b6)))],
  [(53, [.sym 4], .lit (.bool b1)),
  (54, [.sym 4], .agg [.sym 5, .sym 6, .sym 7]),
  (35, [.agg [.sym 5, .sym 6, .sym 7]], .tup [.sym 8, .lit (.int .i64 0)]),
  (36, [.agg [.sym 5, .sym 6, .sym 7]], .tup [.sym 9, .lit (.int .i64 0)]),
  (37, [.agg [.sym 5, .sym 6, .sym 7]], .tup [.sym 10, .lit (.int .i64 0)]),
  (55, [.sym 8], .lit (.bool b5)),
  (55, [.sym 9], .lit (.bool b7)),
  (55, [.sym 10], .lit (.bool b8)),
  (9, [.agg [.sym 0, .sym 1, .sym 2]], .lit (.bool false)),
  (11, [], .lit (.bool true)),
  (38, [.sym 8, .sym 4], .lit (.bool b9))]⟩
theorem RatioNear_0_r1 (b9 : Bool) : @comes (RatioNear_0_k true true true true false true false false b9) Tryz.prog glT 3000 RatioNear_0_f RatioNear_0_a = some (.lit (.bool true)) := by kernel_rfl
theorem RatioNear_0_r2 (b5 b7 b8 : Bool) : @comes (RatioNear_0_k true true true true b5 false b7 b8 true) Tryz.prog glT 3000 RatioNear_0_f RatioNear_0_a = some (.lit (.bool true)) := by kernel_rfl
theorem RatioNear_0_r3 (b2 b3 b4 b5 b6 b7 b8 b9 : Bool) : @comes (RatioNear_0_k false b2 b3 b4 b5 b6 b7 b8 b9) Tryz.prog glT 3000 RatioNear_0_f RatioNear_0_a = some (.lit (.bool true)) := by kernel_rfl
set_option maxRecDepth 100000 in
set_option maxHeartbeats 4000000 in
theorem RatioNear_0 (a : Rx) (x : Nat) (w : World) (hG : Globs glT w) (hx : x < 18446744073709551616) (hsa : ∀ w, Calls Tryz.prog 9 #[.agg #[.bool a.g, .string a.s, .string a.t]] w fun e w' => e = .returned (.bool false) ∧ Below w.heap.size w w') : Calls Tryz.prog 8 #[.agg #[.bool a.g, .string a.s, .string a.t], .int .u64 (((x : Nat) : Int))] w fun e w' => e = .returned (.bool true) ∧ Below w.heap.size w w' := by
  obtain ⟨b1, i1⟩ := bex (Bt.finB (x) = true)
  obtain ⟨b2, i2⟩ := bex (Bt.feqB (QW 0 (ofQ x)) (x) = true)
  obtain ⟨b3, i3⟩ := bex (Bt.feqB (QW 1 (ofQ x)) (x) = true)
  obtain ⟨b4, i4⟩ := bex (Bt.feqB (QW 2 (ofQ x)) (x) = true)
  obtain ⟨b5, i5⟩ := bex (Bt.Ff.sgn (QW 0 (ofQ x)) = true)
  obtain ⟨b6, i6⟩ := bex (Bt.feqB (x) (0) = true)
  obtain ⟨b7, i7⟩ := bex (Bt.Ff.sgn (QW 1 (ofQ x)) = true)
  obtain ⟨b8, i8⟩ := bex (Bt.Ff.sgn (QW 2 (ofQ x)) = true)
  obtain ⟨b9, i9⟩ := bex (lkB (QW 0 (ofQ x)) (x) = true)
  letI : Env := mkEnv glT [.bool a.g, .string a.s, .string a.t, .int .u64 (((x : Nat) : Int)), .float .f64 (x), .bool (qG (ofQ x)), .string (natS (qN (ofQ x))), .string (natS (qD (ofQ x))), .float .f64 (QW 0 (ofQ x)), .float .f64 (QW 1 (ofQ x)), .float .f64 (QW 2 (ofQ x))] rfl
  have hops : OpsT Tryz.prog (@Know.ops (RatioNear_0_k b1 b2 b3 b4 b5 b6 b7 b8 b9)) := ⟨optQ_from rfl rfl rfl,
    optQ_neq_i rfl rfl i2,
    optQ_neq_i rfl rfl i3,
    optQ_neq_i rfl rfl i4,
    optQ_eql_i rfl rfl i6,
    optQ_neq_i rfl rfl i6,
    trivial⟩
  have hcalls : CallsT Tryz.prog (@Know.calls (RatioNear_0_k b1 b2 b3 b4 b5 b6 b7 b8 b9)) := ⟨callt rfl rfl fun w hG => (by have hh := Pfinite_c (x) w; rwa [← show _ = Bt.finB (x) from Bool.eq_iff_iff.2 i1] at hh),
    callt rfl rfl fun w hG => Pof_c (x) w hx hG,
    callt rfl rfl fun w hG => PFloat_c (ofQ x) w hG ((ofQ_b hx).fits (by decide)),
    callt rfl rfl fun w hG => PBelow_c (ofQ x) w hG ((ofQ_b hx).fits (by decide)),
    callt rfl rfl fun w hG => PAbove_c (ofQ x) w hG ((ofQ_b hx).fits (by decide)),
    callt rfl rfl fun w hG => (by have hh := PSignbit_c (QW 0 (ofQ x)) (QW_lt _ _) w; rwa [← show _ = Bt.Ff.sgn (QW 0 (ofQ x)) from Bool.eq_iff_iff.2 i5] at hh),
    callt rfl rfl fun w hG => (by have hh := PSignbit_c (QW 1 (ofQ x)) (QW_lt _ _) w; rwa [← show _ = Bt.Ff.sgn (QW 1 (ofQ x)) from Bool.eq_iff_iff.2 i7] at hh),
    callt rfl rfl fun w hG => (by have hh := PSignbit_c (QW 2 (ofQ x)) (QW_lt _ _) w; rwa [← show _ = Bt.Ff.sgn (QW 2 (ofQ x)) from Bool.eq_iff_iff.2 i8] at hh),
    callt rfl rfl fun w hG => hsa w,
    callt rfl rfl fun w hG => lives4_c w hG,
    callt rfl rfl fun w hG => (by have hh := like_any (QW 0 (ofQ x)) (x) w; rwa [← show _ = lkB (QW 0 (ofQ x)) (x) from Bool.eq_iff_iff.2 i9] at hh),
    trivial⟩
  have fin : ∀ v, @comes (RatioNear_0_k b1 b2 b3 b4 b5 b6 b7 b8 b9) Tryz.prog glT 3000 RatioNear_0_f RatioNear_0_a = some v → ground v = true → Ending.returned (gval v) = .returned (.bool true) → Calls Tryz.prog 8 #[.agg #[.bool a.g, .string a.s, .string a.t], .int .u64 (((x : Nat) : Int))] w fun e w' => e = .returned (.bool true) ∧ Below w.heap.size w w' := fun v h1 h2 h3 => (@sym_ok _ (RatioNear_0_k b1 b2 b3 b4 b5 b6 b7 b8 b9) _ (@KnowOk.of _ (RatioNear_0_k b1 b2 b3 b4 b5 b6 b7 b8 b9) _ hops hcalls) (by kernel_rfl) _ _ _ _ h1 rfl h2 _ hG).mono fun e w' h => ⟨h.1.trans h3, h.2⟩
  clear hops hcalls
  cases b1 with
  | true =>
    have h1 : Bt.finB (x) = true := i1.1 rfl
    cases b2 with
    | true =>
      have h2 : Bt.feqB (QW 0 (ofQ x)) (x) = true := i2.1 rfl
      cases b3 with
      | true =>
        have h3 : Bt.feqB (QW 1 (ofQ x)) (x) = true := i3.1 rfl
        cases b4 with
        | true =>
          have h4 : Bt.feqB (QW 2 (ofQ x)) (x) = true := i4.1 rfl
          cases b6 with
          | true =>
            have h6 : Bt.feqB (x) (0) = true := i6.1 rfl
            cases b5 with
            | true =>
              exact absurd (i5.1 rfl) ((fun c => by rw [own_z 0 h1 h6] at c; exact Bool.false_ne_true c))
            | false =>
              have h5 : ¬ (Bt.Ff.sgn (QW 0 (ofQ x)) = true) := fun c => Bool.false_ne_true (i5.2 c)
              cases b7 with
              | true =>
                exact absurd (i7.1 rfl) ((fun c => by rw [own_z 1 h1 h6] at c; exact Bool.false_ne_true c))
              | false =>
                have h7 : ¬ (Bt.Ff.sgn (QW 1 (ofQ x)) = true) := fun c => Bool.false_ne_true (i7.2 c)
                cases b8 with
                | true =>
                  exact absurd (i8.1 rfl) ((fun c => by rw [own_z 2 h1 h6] at c; exact Bool.false_ne_true c))
                | false =>
                  have h8 : ¬ (Bt.Ff.sgn (QW 2 (ofQ x)) = true) := fun c => Bool.false_ne_true (i8.2 c)
                  exact fin _ (RatioNear_0_r1 b9) rfl rfl
          | false =>
            have h6 : ¬ (Bt.feqB (x) (0) = true) := fun c => Bool.false_ne_true (i6.2 c)
            cases b9 with
            | true =>
              have h9 : lkB (QW 0 (ofQ x)) (x) = true := i9.1 rfl
              exact fin _ (RatioNear_0_r2 b5 b7 b8) rfl rfl
            | false =>
              exact absurd (i9.2 ((by rw [own_n 0 hx h1 h6]; exact lkB_self _))) Bool.false_ne_true
        | false =>
          exact absurd (i4.2 ((own_eq 2 hx h1))) Bool.false_ne_true
      | false =>
        exact absurd (i3.2 ((own_eq 1 hx h1))) Bool.false_ne_true
    | false =>
      exact absurd (i2.2 ((own_eq 0 hx h1))) Bool.false_ne_true
  | false =>
    have h1 : ¬ (Bt.finB (x) = true) := fun c => Bool.false_ne_true (i1.2 c)
    exact fin _ (RatioNear_0_r3 b2 b3 b4 b5 b6 b7 b8 b9) rfl rfl
@[reducible] def RatioNear_1_f : FuncId := 8
@[reducible] def RatioNear_1_a : List AV := [.agg [.sym 0, .sym 1, .sym 2], .sym 3]
@[reducible] noncomputable def RatioNear_1_k (b1 b2 b3 b4 b5 b6 b7 b8 b9 : Bool) : Know := ⟨[([7, 52], [.sym 3], .sym 4),
  ([0, 12, 49], [.sym 8, .sym 4], .lit (.bool (!b2))),
  ([0, 12, 49], [.sym 9, .sym 4], .lit (.bool (!b3))),
  ([0, 12, 49], [.sym 10, .sym 4], .lit (.bool (!b4))),
  ([0, 11, 49], [.sym 4, .lit (.float .f64 0)], .lit (.bool b6)),
  ([0, 12, 49], [.sym 4, .lit (.float .f64 0)], .lit (.bool (!b6)))],
  [(53, [.sym 4], .lit (.bool b1)),
  (54, [.sym 4], .agg [.sym 5, .sym 6, .sym 7]),
  (35, [.agg [.sym 5, .sym 6, .sym 7]], .tup [.sym 8, .lit (.int .i64 0)]),
  (36, [.agg [.sym 5, .sym 6, .sym 7]], .tup [.sym 9, .lit (.int .i64 0)]),
  (37, [.agg [.sym 5, .sym 6, .sym 7]], .tup [.sym 10, .lit (.int .i64 0)]),
  (55, [.sym 8], .lit (.bool b5)),
  (55, [.sym 9], .lit (.bool b7)),
  (55, [.sym 10], .lit (.bool b8)),
  (9, [.agg [.sym 0, .sym 1, .sym 2]], .lit (.bool true)),
  (18, [.agg [.sym 0, .sym 1, .sym 2]], .lit (.bool false)),
  (11, [], .lit (.bool true)),
  (38, [.sym 8, .sym 4], .lit (.bool b9))]⟩
theorem RatioNear_1_r1 (b9 : Bool) : @comes (RatioNear_1_k true true true true false true false false b9) Tryz.prog glT 3000 RatioNear_1_f RatioNear_1_a = some (.lit (.bool true)) := by kernel_rfl
theorem RatioNear_1_r2 (b5 b7 b8 : Bool) : @comes (RatioNear_1_k true true true true b5 false b7 b8 true) Tryz.prog glT 3000 RatioNear_1_f RatioNear_1_a = some (.lit (.bool true)) := by kernel_rfl
theorem RatioNear_1_r3 (b2 b3 b4 b5 b6 b7 b8 b9 : Bool) : @comes (RatioNear_1_k false b2 b3 b4 b5 b6 b7 b8 b9) Tryz.prog glT 3000 RatioNear_1_f RatioNear_1_a = some (.lit (.bool true)) := by kernel_rfl
set_option maxRecDepth 100000 in
set_option maxHeartbeats 4000000 in
theorem RatioNear_1 (a : Rx) (x : Nat) (w : World) (hG : Globs glT w) (hx : x < 18446744073709551616) (hsa : ∀ w, Calls Tryz.prog 9 #[.agg #[.bool a.g, .string a.s, .string a.t]] w fun e w' => e = .returned (.bool true) ∧ Below w.heap.size w w') (hma : ∀ w, Calls Tryz.prog 18 #[.agg #[.bool a.g, .string a.s, .string a.t]] w fun e w' => e = .returned (.bool false) ∧ Below w.heap.size w w') : Calls Tryz.prog 8 #[.agg #[.bool a.g, .string a.s, .string a.t], .int .u64 (((x : Nat) : Int))] w fun e w' => e = .returned (.bool true) ∧ Below w.heap.size w w' := by
  obtain ⟨b1, i1⟩ := bex (Bt.finB (x) = true)
  obtain ⟨b2, i2⟩ := bex (Bt.feqB (QW 0 (ofQ x)) (x) = true)
  obtain ⟨b3, i3⟩ := bex (Bt.feqB (QW 1 (ofQ x)) (x) = true)
  obtain ⟨b4, i4⟩ := bex (Bt.feqB (QW 2 (ofQ x)) (x) = true)
  obtain ⟨b5, i5⟩ := bex (Bt.Ff.sgn (QW 0 (ofQ x)) = true)
  obtain ⟨b6, i6⟩ := bex (Bt.feqB (x) (0) = true)
  obtain ⟨b7, i7⟩ := bex (Bt.Ff.sgn (QW 1 (ofQ x)) = true)
  obtain ⟨b8, i8⟩ := bex (Bt.Ff.sgn (QW 2 (ofQ x)) = true)
  obtain ⟨b9, i9⟩ := bex (lkB (QW 0 (ofQ x)) (x) = true)
  letI : Env := mkEnv glT [.bool a.g, .string a.s, .string a.t, .int .u64 (((x : Nat) : Int)), .float .f64 (x), .bool (qG (ofQ x)), .string (natS (qN (ofQ x))), .string (natS (qD (ofQ x))), .float .f64 (QW 0 (ofQ x)), .float .f64 (QW 1 (ofQ x)), .float .f64 (QW 2 (ofQ x))] rfl
  have hops : OpsT Tryz.prog (@Know.ops (RatioNear_1_k b1 b2 b3 b4 b5 b6 b7 b8 b9)) := ⟨optQ_from rfl rfl rfl,
    optQ_neq_i rfl rfl i2,
    optQ_neq_i rfl rfl i3,
    optQ_neq_i rfl rfl i4,
    optQ_eql_i rfl rfl i6,
    optQ_neq_i rfl rfl i6,
    trivial⟩
  have hcalls : CallsT Tryz.prog (@Know.calls (RatioNear_1_k b1 b2 b3 b4 b5 b6 b7 b8 b9)) := ⟨callt rfl rfl fun w hG => (by have hh := Pfinite_c (x) w; rwa [← show _ = Bt.finB (x) from Bool.eq_iff_iff.2 i1] at hh),
    callt rfl rfl fun w hG => Pof_c (x) w hx hG,
    callt rfl rfl fun w hG => PFloat_c (ofQ x) w hG ((ofQ_b hx).fits (by decide)),
    callt rfl rfl fun w hG => PBelow_c (ofQ x) w hG ((ofQ_b hx).fits (by decide)),
    callt rfl rfl fun w hG => PAbove_c (ofQ x) w hG ((ofQ_b hx).fits (by decide)),
    callt rfl rfl fun w hG => (by have hh := PSignbit_c (QW 0 (ofQ x)) (QW_lt _ _) w; rwa [← show _ = Bt.Ff.sgn (QW 0 (ofQ x)) from Bool.eq_iff_iff.2 i5] at hh),
    callt rfl rfl fun w hG => (by have hh := PSignbit_c (QW 1 (ofQ x)) (QW_lt _ _) w; rwa [← show _ = Bt.Ff.sgn (QW 1 (ofQ x)) from Bool.eq_iff_iff.2 i7] at hh),
    callt rfl rfl fun w hG => (by have hh := PSignbit_c (QW 2 (ofQ x)) (QW_lt _ _) w; rwa [← show _ = Bt.Ff.sgn (QW 2 (ofQ x)) from Bool.eq_iff_iff.2 i8] at hh),
    callt rfl rfl fun w hG => hsa w,
    callt rfl rfl fun w hG => hma w,
    callt rfl rfl fun w hG => lives4_c w hG,
    callt rfl rfl fun w hG => (by have hh := like_any (QW 0 (ofQ x)) (x) w; rwa [← show _ = lkB (QW 0 (ofQ x)) (x) from Bool.eq_iff_iff.2 i9] at hh),
    trivial⟩
  have fin : ∀ v, @comes (RatioNear_1_k b1 b2 b3 b4 b5 b6 b7 b8 b9) Tryz.prog glT 3000 RatioNear_1_f RatioNear_1_a = some v → ground v = true → Ending.returned (gval v) = .returned (.bool true) → Calls Tryz.prog 8 #[.agg #[.bool a.g, .string a.s, .string a.t], .int .u64 (((x : Nat) : Int))] w fun e w' => e = .returned (.bool true) ∧ Below w.heap.size w w' := fun v h1 h2 h3 => (@sym_ok _ (RatioNear_1_k b1 b2 b3 b4 b5 b6 b7 b8 b9) _ (@KnowOk.of _ (RatioNear_1_k b1 b2 b3 b4 b5 b6 b7 b8 b9) _ hops hcalls) (by kernel_rfl) _ _ _ _ h1 rfl h2 _ hG).mono fun e w' h => ⟨h.1.trans h3, h.2⟩
  clear hops hcalls
  cases b1 with
  | true =>
    have h1 : Bt.finB (x) = true := i1.1 rfl
    cases b2 with
    | true =>
      have h2 : Bt.feqB (QW 0 (ofQ x)) (x) = true := i2.1 rfl
      cases b3 with
      | true =>
        have h3 : Bt.feqB (QW 1 (ofQ x)) (x) = true := i3.1 rfl
        cases b4 with
        | true =>
          have h4 : Bt.feqB (QW 2 (ofQ x)) (x) = true := i4.1 rfl
          cases b6 with
          | true =>
            have h6 : Bt.feqB (x) (0) = true := i6.1 rfl
            cases b5 with
            | true =>
              exact absurd (i5.1 rfl) ((fun c => by rw [own_z 0 h1 h6] at c; exact Bool.false_ne_true c))
            | false =>
              have h5 : ¬ (Bt.Ff.sgn (QW 0 (ofQ x)) = true) := fun c => Bool.false_ne_true (i5.2 c)
              cases b7 with
              | true =>
                exact absurd (i7.1 rfl) ((fun c => by rw [own_z 1 h1 h6] at c; exact Bool.false_ne_true c))
              | false =>
                have h7 : ¬ (Bt.Ff.sgn (QW 1 (ofQ x)) = true) := fun c => Bool.false_ne_true (i7.2 c)
                cases b8 with
                | true =>
                  exact absurd (i8.1 rfl) ((fun c => by rw [own_z 2 h1 h6] at c; exact Bool.false_ne_true c))
                | false =>
                  have h8 : ¬ (Bt.Ff.sgn (QW 2 (ofQ x)) = true) := fun c => Bool.false_ne_true (i8.2 c)
                  exact fin _ (RatioNear_1_r1 b9) rfl rfl
          | false =>
            have h6 : ¬ (Bt.feqB (x) (0) = true) := fun c => Bool.false_ne_true (i6.2 c)
            cases b9 with
            | true =>
              have h9 : lkB (QW 0 (ofQ x)) (x) = true := i9.1 rfl
              exact fin _ (RatioNear_1_r2 b5 b7 b8) rfl rfl
            | false =>
              exact absurd (i9.2 ((by rw [own_n 0 hx h1 h6]; exact lkB_self _))) Bool.false_ne_true
        | false =>
          exact absurd (i4.2 ((own_eq 2 hx h1))) Bool.false_ne_true
      | false =>
        exact absurd (i3.2 ((own_eq 1 hx h1))) Bool.false_ne_true
    | false =>
      exact absurd (i2.2 ((own_eq 0 hx h1))) Bool.false_ne_true
  | false =>
    have h1 : ¬ (Bt.finB (x) = true) := fun c => Bool.false_ne_true (i1.2 c)
    exact fin _ (RatioNear_1_r3 b2 b3 b4 b5 b6 b7 b8 b9) rfl rfl
@[reducible] def RatioNear_E_f : FuncId := 8
@[reducible] def RatioNear_E_a : List AV := [.agg [.sym 0, .sym 1, .sym 2], .sym 3]
@[reducible] noncomputable def RatioNear_E_k (b1 b2 b3 b4 b5 b6 b7 b8 b13 : Bool) : Know := ⟨[([7, 52], [.sym 3], .sym 4),
  ([0, 12, 49], [.sym 8, .sym 4], .lit (.bool (!b2))),
  ([0, 12, 49], [.sym 9, .sym 4], .lit (.bool (!b3))),
  ([0, 12, 49], [.sym 10, .sym 4], .lit (.bool (!b4))),
  ([0, 11, 49], [.sym 4, .lit (.float .f64 0)], .lit (.bool b6)),
  ([0, 12, 49], [.sym 4, .lit (.float .f64 0)], .lit (.bool (!b6))),
  ([0, 12, 49], [.sym 11, .sym 12], .lit (.bool false)),
  ([0, 12, 49], [.sym 11, .sym 13], .lit (.bool false)),
  ([0, 15, 49], [.sym 12, .sym 13], .lit (.bool false)),
  ([0, 12, 49], [.sym 12, .sym 13], .lit (.bool false)),
  ([0, 11, 49], [.sym 12, .sym 13], .lit (.bool true)),
  ([0, 11, 24], [.agg [.sym 14, .sym 15, .sym 16], .agg [.sym 0, .sym 1, .sym 2]], .lit (.bool true)),
  ([0, 15, 3], [.sym 17, .lit (.int .i64 0)], .lit (.bool false)),
  ([0, 15, 3], [.sym 21, .lit (.int .i64 0)], .lit (.bool false))],
  [(53, [.sym 4], .lit (.bool b1)),
  (54, [.sym 4], .agg [.sym 5, .sym 6, .sym 7]),
  (35, [.agg [.sym 5, .sym 6, .sym 7]], .tup [.sym 8, .lit (.int .i64 0)]),
  (36, [.agg [.sym 5, .sym 6, .sym 7]], .tup [.sym 9, .lit (.int .i64 0)]),
  (37, [.agg [.sym 5, .sym 6, .sym 7]], .tup [.sym 10, .lit (.int .i64 0)]),
  (55, [.sym 8], .lit (.bool b5)),
  (55, [.sym 9], .lit (.bool b7)),
  (55, [.sym 10], .lit (.bool b8)),
  (9, [.agg [.sym 0, .sym 1, .sym 2]], .lit (.bool true)),
  (18, [.agg [.sym 0, .sym 1, .sym 2]], .lit (.bool true)),
  (35, [.agg [.sym 0, .sym 1, .sym 2]], .tup [.sym 11, .lit (.int .i64 0)]),
  (36, [.agg [.sym 0, .sym 1, .sym 2]], .tup [.sym 12, .lit (.int .i64 0)]),
  (37, [.agg [.sym 0, .sym 1, .sym 2]], .tup [.sym 13, .lit (.int .i64 0)]),
  (53, [.sym 12], .lit (.bool true)),
  (54, [.sym 12], .agg [.sym 14, .sym 15, .sym 16]),
  (26, [.agg [.sym 14, .sym 15, .sym 16], .agg [.sym 0, .sym 1, .sym 2]], .tup [.sym 17, .lit (.int .i64 0)]),
  (53, [.sym 13], .lit (.bool true)),
  (54, [.sym 13], .agg [.sym 18, .sym 19, .sym 20]),
  (26, [.agg [.sym 0, .sym 1, .sym 2], .agg [.sym 18, .sym 19, .sym 20]], .tup [.sym 21, .lit (.int .i64 0)]),
  (11, [], .lit (.bool true)),
  (38, [.sym 8, .sym 4], .lit (.bool b13))]⟩
theorem RatioNear_E_r1 (b13 : Bool) : @comes (RatioNear_E_k true true true true false true false false b13) Tryz.prog glT 3000 RatioNear_E_f RatioNear_E_a = some (.lit (.bool true)) := by kernel_rfl
theorem RatioNear_E_r2 (b5 b7 b8 : Bool) : @comes (RatioNear_E_k true true true true b5 false b7 b8 true) Tryz.prog glT 3000 RatioNear_E_f RatioNear_E_a = some (.lit (.bool true)) := by kernel_rfl
theorem RatioNear_E_r3 (b2 b3 b4 b5 b6 b7 b8 b13 : Bool) : @comes (RatioNear_E_k false b2 b3 b4 b5 b6 b7 b8 b13) Tryz.prog glT 3000 RatioNear_E_f RatioNear_E_a = some (.lit (.bool true)) := by kernel_rfl
set_option maxRecDepth 100000 in
set_option maxHeartbeats 4000000 in
theorem RatioNear_E (q : Rat) (x : Nat) (w : World) (hG : Globs glT w) (hx : x < 18446744073709551616) (hq : Bq q 300) (hsa : ∀ w, Calls Tryz.prog 9 #[qv q] w fun e w' => e = .returned (.bool true) ∧ Below w.heap.size w w') (hma : ∀ w, Calls Tryz.prog 18 #[qv q] w fun e w' => e = .returned (.bool true) ∧ Below w.heap.size w w') (H : QW 0 q = QW 1 q ∧ QW 2 q = QW 1 q ∧ Bt.finB (QW 1 q) = true ∧ wQ (QW 1 q) = q ∧ QW 1 q < 18446744073709551616) : Calls Tryz.prog 8 #[.agg #[.bool (qG q), .string (natS (qN q)), .string (natS (qD q))], .int .u64 (((x : Nat) : Int))] w fun e w' => e = .returned (.bool true) ∧ Below w.heap.size w w' := by
  obtain ⟨b1, i1⟩ := bex (Bt.finB (x) = true)
  obtain ⟨b2, i2⟩ := bex (Bt.feqB (QW 0 (ofQ x)) (x) = true)
  obtain ⟨b3, i3⟩ := bex (Bt.feqB (QW 1 (ofQ x)) (x) = true)
  obtain ⟨b4, i4⟩ := bex (Bt.feqB (QW 2 (ofQ x)) (x) = true)
  obtain ⟨b5, i5⟩ := bex (Bt.Ff.sgn (QW 0 (ofQ x)) = true)
  obtain ⟨b6, i6⟩ := bex (Bt.feqB (x) (0) = true)
  obtain ⟨b7, i7⟩ := bex (Bt.Ff.sgn (QW 1 (ofQ x)) = true)
  obtain ⟨b8, i8⟩ := bex (Bt.Ff.sgn (QW 2 (ofQ x)) = true)
  have h9 : Bt.feqB (QW 1 q) (QW 1 q) = true := (Bt.feq_ok (QW_ok _ _))
  have i9 : true = true ↔ (Bt.feqB (QW 1 q) (QW 1 q) = true) := ⟨fun _ => h9, fun _ => rfl⟩
  have h10 : ¬ (Bt.fltB (QW 1 q) (QW 1 q) = true) := flt_irr _
  have i10 : false = true ↔ (Bt.fltB (QW 1 q) (QW 1 q) = true) := ⟨fun k => absurd k Bool.false_ne_true, fun k => absurd k h10⟩
  have h11 : Bt.finB (QW 1 q) = true := H.2.2.1
  have i11 : true = true ↔ (Bt.finB (QW 1 q) = true) := ⟨fun _ => h11, fun _ => rfl⟩
  have h12 : ¬ (qC (q) (q) > 0) := qC_self q
  have i12 : false = true ↔ (qC (q) (q) > 0) := ⟨fun k => absurd k Bool.false_ne_true, fun k => absurd k h12⟩
  obtain ⟨b13, i13⟩ := bex (lkB (QW 0 (ofQ x)) (x) = true)
  letI : Env := mkEnv glT [.bool (qG q), .string (natS (qN q)), .string (natS (qD q)), .int .u64 (((x : Nat) : Int)), .float .f64 (x), .bool (qG (ofQ x)), .string (natS (qN (ofQ x))), .string (natS (qD (ofQ x))), .float .f64 (QW 0 (ofQ x)), .float .f64 (QW 1 (ofQ x)), .float .f64 (QW 2 (ofQ x)), .float .f64 (QW 1 q), .float .f64 (QW 1 q), .float .f64 (QW 1 q), .bool (qG q), .string (natS (qN q)), .string (natS (qD q)), .int .i64 (qC (q) (q)), .bool (qG q), .string (natS (qN q)), .string (natS (qD q)), .int .i64 (qC (q) (q))] rfl
  have hops : OpsT Tryz.prog (@Know.ops (RatioNear_E_k b1 b2 b3 b4 b5 b6 b7 b8 b13)) := ⟨optQ_from rfl rfl rfl,
    optQ_neq_i rfl rfl i2,
    optQ_neq_i rfl rfl i3,
    optQ_neq_i rfl rfl i4,
    optQ_eql_i rfl rfl i6,
    optQ_neq_i rfl rfl i6,
    optQ_neq_i rfl rfl i9,
    optQ_neq_i rfl rfl i9,
    optQ_gtr_i rfl rfl i10,
    optQ_neq_i rfl rfl i9,
    optQ_eql_i rfl rfl i9,
    optR_eql_i (a := qr q) (b := qr q) rfl rfl ⟨fun _ => rfl, fun _ => rfl⟩,
    opt_gtr_i rfl rfl i12,
    opt_gtr_i rfl rfl i12,
    trivial⟩
  have hcalls : CallsT Tryz.prog (@Know.calls (RatioNear_E_k b1 b2 b3 b4 b5 b6 b7 b8 b13)) := ⟨callt rfl rfl fun w hG => (by have hh := Pfinite_c (x) w; rwa [← show _ = Bt.finB (x) from Bool.eq_iff_iff.2 i1] at hh),
    callt rfl rfl fun w hG => Pof_c (x) w hx hG,
    callt rfl rfl fun w hG => PFloat_c (ofQ x) w hG ((ofQ_b hx).fits (by decide)),
    callt rfl rfl fun w hG => PBelow_c (ofQ x) w hG ((ofQ_b hx).fits (by decide)),
    callt rfl rfl fun w hG => PAbove_c (ofQ x) w hG ((ofQ_b hx).fits (by decide)),
    callt rfl rfl fun w hG => (by have hh := PSignbit_c (QW 0 (ofQ x)) (QW_lt _ _) w; rwa [← show _ = Bt.Ff.sgn (QW 0 (ofQ x)) from Bool.eq_iff_iff.2 i5] at hh),
    callt rfl rfl fun w hG => (by have hh := PSignbit_c (QW 1 (ofQ x)) (QW_lt _ _) w; rwa [← show _ = Bt.Ff.sgn (QW 1 (ofQ x)) from Bool.eq_iff_iff.2 i7] at hh),
    callt rfl rfl fun w hG => (by have hh := PSignbit_c (QW 2 (ofQ x)) (QW_lt _ _) w; rwa [← show _ = Bt.Ff.sgn (QW 2 (ofQ x)) from Bool.eq_iff_iff.2 i8] at hh),
    callt rfl rfl fun w hG => hsa w,
    callt rfl rfl fun w hG => hma w,
    callt rfl rfl fun w hG => (by have hh := PFloat_c q w hG (hq.fits (by decide)); rwa [H.1] at hh),
    callt rfl rfl fun w hG => PBelow_c q w hG (hq.fits (by decide)),
    callt rfl rfl fun w hG => (by have hh := PAbove_c q w hG (hq.fits (by decide)); rwa [H.2.1] at hh),
    callt rfl rfl fun w hG => (by have hh := Pfinite_c (QW 1 q) w; rwa [← show _ = Bt.finB (QW 1 q) from Bool.eq_iff_iff.2 i11] at hh),
    callt rfl rfl fun w hG => (by have hh := Pof_c (QW 1 q) w (QW_lt _ _) hG; rwa [ofQ_fin H.2.2.1, H.2.2.2.1] at hh),
    callt rfl rfl fun w hG => PCompare_c (q) (q) w (hq.fits (by decide)) (hq.fits (by decide)),
    callt rfl rfl fun w hG => (by have hh := Pfinite_c (QW 1 q) w; rwa [← show _ = Bt.finB (QW 1 q) from Bool.eq_iff_iff.2 i11] at hh),
    callt rfl rfl fun w hG => (by have hh := Pof_c (QW 1 q) w (QW_lt _ _) hG; rwa [ofQ_fin H.2.2.1, H.2.2.2.1] at hh),
    callt rfl rfl fun w hG => PCompare_c (q) (q) w (hq.fits (by decide)) (hq.fits (by decide)),
    callt rfl rfl fun w hG => lives4_c w hG,
    callt rfl rfl fun w hG => (by have hh := like_any (QW 0 (ofQ x)) (x) w; rwa [← show _ = lkB (QW 0 (ofQ x)) (x) from Bool.eq_iff_iff.2 i13] at hh),
    trivial⟩
  have fin : ∀ v, @comes (RatioNear_E_k b1 b2 b3 b4 b5 b6 b7 b8 b13) Tryz.prog glT 3000 RatioNear_E_f RatioNear_E_a = some v → ground v = true → Ending.returned (gval v) = .returned (.bool true) → Calls Tryz.prog 8 #[.agg #[.bool (qG q), .string (natS (qN q)), .string (natS (qD q))], .int .u64 (((x : Nat) : Int))] w fun e w' => e = .returned (.bool true) ∧ Below w.heap.size w w' := fun v h1 h2 h3 => (@sym_ok _ (RatioNear_E_k b1 b2 b3 b4 b5 b6 b7 b8 b13) _ (@KnowOk.of _ (RatioNear_E_k b1 b2 b3 b4 b5 b6 b7 b8 b13) _ hops hcalls) (by kernel_rfl) _ _ _ _ h1 rfl h2 _ hG).mono fun e w' h => ⟨h.1.trans h3, h.2⟩
  clear hops hcalls
  cases b1 with
  | true =>
    have h1 : Bt.finB (x) = true := i1.1 rfl
    cases b2 with
    | true =>
      have h2 : Bt.feqB (QW 0 (ofQ x)) (x) = true := i2.1 rfl
      cases b3 with
      | true =>
        have h3 : Bt.feqB (QW 1 (ofQ x)) (x) = true := i3.1 rfl
        cases b4 with
        | true =>
          have h4 : Bt.feqB (QW 2 (ofQ x)) (x) = true := i4.1 rfl
          cases b6 with
          | true =>
            have h6 : Bt.feqB (x) (0) = true := i6.1 rfl
            cases b5 with
            | true =>
              exact absurd (i5.1 rfl) ((fun c => by rw [own_z 0 h1 h6] at c; exact Bool.false_ne_true c))
            | false =>
              have h5 : ¬ (Bt.Ff.sgn (QW 0 (ofQ x)) = true) := fun c => Bool.false_ne_true (i5.2 c)
              cases b7 with
              | true =>
                exact absurd (i7.1 rfl) ((fun c => by rw [own_z 1 h1 h6] at c; exact Bool.false_ne_true c))
              | false =>
                have h7 : ¬ (Bt.Ff.sgn (QW 1 (ofQ x)) = true) := fun c => Bool.false_ne_true (i7.2 c)
                cases b8 with
                | true =>
                  exact absurd (i8.1 rfl) ((fun c => by rw [own_z 2 h1 h6] at c; exact Bool.false_ne_true c))
                | false =>
                  have h8 : ¬ (Bt.Ff.sgn (QW 2 (ofQ x)) = true) := fun c => Bool.false_ne_true (i8.2 c)
                  exact fin _ (RatioNear_E_r1 b13) rfl rfl
          | false =>
            have h6 : ¬ (Bt.feqB (x) (0) = true) := fun c => Bool.false_ne_true (i6.2 c)
            cases b13 with
            | true =>
              have h13 : lkB (QW 0 (ofQ x)) (x) = true := i13.1 rfl
              exact fin _ (RatioNear_E_r2 b5 b7 b8) rfl rfl
            | false =>
              exact absurd (i13.2 ((by rw [own_n 0 hx h1 h6]; exact lkB_self _))) Bool.false_ne_true
        | false =>
          exact absurd (i4.2 ((own_eq 2 hx h1))) Bool.false_ne_true
      | false =>
        exact absurd (i3.2 ((own_eq 1 hx h1))) Bool.false_ne_true
    | false =>
      exact absurd (i2.2 ((own_eq 0 hx h1))) Bool.false_ne_true
  | false =>
    have h1 : ¬ (Bt.finB (x) = true) := fun c => Bool.false_ne_true (i1.2 c)
    exact fin _ (RatioNear_E_r3 b2 b3 b4 b5 b6 b7 b8 b13) rfl rfl
@[reducible] def RatioNear_N_f : FuncId := 8
@[reducible] def RatioNear_N_a : List AV := [.agg [.sym 0, .sym 1, .sym 2], .sym 3]
@[reducible] noncomputable def RatioNear_N_k (b1 b2 b3 b4 b5 b6 b7 b8 b9 b10 b14 b15 b16 b17 b18 b19 b20 b21 b22 : Bool) : Know := ⟨[([7, 52], [.sym 3], .sym 4),
  ([0, 12, 49], [.sym 8, .sym 4], .lit (.bool (!b2))),
  ([0, 12, 49], [.sym 9, .sym 4], .lit (.bool (!b3))),
  ([0, 12, 49], [.sym 10, .sym 4], .lit (.bool (!b4))),
  ([0, 11, 49], [.sym 4, .lit (.float .f64 0)], .lit (.bool b6)),
  ([0, 12, 49], [.sym 4, .lit (.float .f64 0)], .lit (.bool (!b6))),
  ([0, 12, 49], [.sym 11, .sym 12], .lit (.bool (!b9))),
  ([0, 12, 49], [.sym 11, .sym 13], .lit (.bool (!b10))),
  ([0, 15, 49], [.sym 12, .sym 13], .lit (.bool false)),
  ([0, 12, 49], [.sym 12, .sym 13], .lit (.bool true)),
  ([0, 12, 49], [.sym 14, .sym 13], .lit (.bool false)),
  ([0, 11, 49], [.sym 12, .sym 13], .lit (.bool false)),
  ([0, 11, 24], [.agg [.sym 15, .sym 16, .sym 17], .agg [.sym 0, .sym 1, .sym 2]], .lit (.bool b15)),
  ([0, 15, 3], [.sym 18, .lit (.int .i64 0)], .lit (.bool b16)),
  ([0, 15, 3], [.sym 22, .lit (.int .i64 0)], .lit (.bool b18)),
  ([0, 11, 3], [.sym 29, .lit (.int .i64 0)], .lit (.bool b19)),
  ([7, 57], [.sym 11], .sym 30),
  ([0, 4, 66], [.sym 30, .lit (.int .u64 2)], .sym 31),
  ([0, 11, 66], [.sym 31, .lit (.int .u64 0)], .lit (.bool b20)),
  ([0, 11, 49], [.sym 11, .sym 12], .lit (.bool b9)),
  ([0, 13, 3], [.sym 29, .lit (.int .i64 0)], .lit (.bool b21))],
  [(53, [.sym 4], .lit (.bool b1)),
  (54, [.sym 4], .agg [.sym 5, .sym 6, .sym 7]),
  (35, [.agg [.sym 5, .sym 6, .sym 7]], .tup [.sym 8, .lit (.int .i64 0)]),
  (36, [.agg [.sym 5, .sym 6, .sym 7]], .tup [.sym 9, .lit (.int .i64 0)]),
  (37, [.agg [.sym 5, .sym 6, .sym 7]], .tup [.sym 10, .lit (.int .i64 0)]),
  (55, [.sym 8], .lit (.bool b5)),
  (55, [.sym 9], .lit (.bool b7)),
  (55, [.sym 10], .lit (.bool b8)),
  (9, [.agg [.sym 0, .sym 1, .sym 2]], .lit (.bool true)),
  (18, [.agg [.sym 0, .sym 1, .sym 2]], .lit (.bool true)),
  (35, [.agg [.sym 0, .sym 1, .sym 2]], .tup [.sym 11, .lit (.int .i64 0)]),
  (36, [.agg [.sym 0, .sym 1, .sym 2]], .tup [.sym 12, .lit (.int .i64 0)]),
  (37, [.agg [.sym 0, .sym 1, .sym 2]], .tup [.sym 13, .lit (.int .i64 0)]),
  (56, [.sym 12], .sym 14),
  (53, [.sym 12], .lit (.bool b14)),
  (54, [.sym 12], .agg [.sym 15, .sym 16, .sym 17]),
  (26, [.agg [.sym 15, .sym 16, .sym 17], .agg [.sym 0, .sym 1, .sym 2]], .tup [.sym 18, .lit (.int .i64 0)]),
  (53, [.sym 13], .lit (.bool b17)),
  (54, [.sym 13], .agg [.sym 19, .sym 20, .sym 21]),
  (26, [.agg [.sym 0, .sym 1, .sym 2], .agg [.sym 19, .sym 20, .sym 21]], .tup [.sym 22, .lit (.int .i64 0)]),
  (23, [.agg [.sym 0, .sym 1, .sym 2], .agg [.sym 15, .sym 16, .sym 17]], .tup [.agg [.sym 23, .sym 24, .sym 25], .lit (.int .i64 0)]),
  (23, [.agg [.sym 19, .sym 20, .sym 21], .agg [.sym 0, .sym 1, .sym 2]], .tup [.agg [.sym 26, .sym 27, .sym 28], .lit (.int .i64 0)]),
  (26, [.agg [.sym 23, .sym 24, .sym 25], .agg [.sym 26, .sym 27, .sym 28]], .tup [.sym 29, .lit (.int .i64 0)]),
  (11, [], .lit (.bool true)),
  (38, [.sym 8, .sym 4], .lit (.bool b22))]⟩
theorem RatioNear_N_r1 (b10 b21 b22 : Bool) : @comes (RatioNear_N_k true true true true false true false false true b10 true false false true false true true b21 b22) Tryz.prog glT 3000 RatioNear_N_f RatioNear_N_a = some (.lit (.bool true)) := by kernel_rfl
theorem RatioNear_N_r2 (b10 b20 b22 : Bool) : @comes (RatioNear_N_k true true true true false true false false true b10 true false false true false false b20 true b22) Tryz.prog glT 3000 RatioNear_N_f RatioNear_N_a = some (.lit (.bool true)) := by kernel_rfl
theorem RatioNear_N_r3 (b10 b18 b19 b20 b21 b22 : Bool) : @comes (RatioNear_N_k true true true true false true false false true b10 true false false false b18 b19 b20 b21 b22) Tryz.prog glT 3000 RatioNear_N_f RatioNear_N_a = some (.lit (.bool true)) := by kernel_rfl
theorem RatioNear_N_r4 (b10 b15 b16 b19 b20 b21 b22 : Bool) : @comes (RatioNear_N_k true true true true false true false false true b10 false b15 b16 true false b19 b20 b21 b22) Tryz.prog glT 3000 RatioNear_N_f RatioNear_N_a = some (.lit (.bool true)) := by kernel_rfl
theorem RatioNear_N_r5 (b10 b15 b16 b18 b19 b20 b21 b22 : Bool) : @comes (RatioNear_N_k true true true true false true false false true b10 false b15 b16 false b18 b19 b20 b21 b22) Tryz.prog glT 3000 RatioNear_N_f RatioNear_N_a = some (.lit (.bool true)) := by kernel_rfl
theorem RatioNear_N_r6 (b21 b22 : Bool) : @comes (RatioNear_N_k true true true true false true false false false true true false false true false true true b21 b22) Tryz.prog glT 3000 RatioNear_N_f RatioNear_N_a = some (.lit (.bool true)) := by kernel_rfl
theorem RatioNear_N_r7 (b20 b22 : Bool) : @comes (RatioNear_N_k true true true true false true false false false true true false false true false false b20 false b22) Tryz.prog glT 3000 RatioNear_N_f RatioNear_N_a = some (.lit (.bool true)) := by kernel_rfl
theorem RatioNear_N_r8 (b18 b19 b20 b21 b22 : Bool) : @comes (RatioNear_N_k true true true true false true false false false true true false false false b18 b19 b20 b21 b22) Tryz.prog glT 3000 RatioNear_N_f RatioNear_N_a = some (.lit (.bool true)) := by kernel_rfl
theorem RatioNear_N_r9 (b15 b16 b19 b20 b21 b22 : Bool) : @comes (RatioNear_N_k true true true true false true false false false true false b15 b16 true false b19 b20 b21 b22) Tryz.prog glT 3000 RatioNear_N_f RatioNear_N_a = some (.lit (.bool true)) := by kernel_rfl
theorem RatioNear_N_r10 (b15 b16 b18 b19 b20 b21 b22 : Bool) : @comes (RatioNear_N_k true true true true false true false false false true false b15 b16 false b18 b19 b20 b21 b22) Tryz.prog glT 3000 RatioNear_N_f RatioNear_N_a = some (.lit (.bool true)) := by kernel_rfl
theorem RatioNear_N_r11 (b5 b7 b8 b10 b21 : Bool) : @comes (RatioNear_N_k true true true true b5 false b7 b8 true b10 true false false true false true true b21 true) Tryz.prog glT 3000 RatioNear_N_f RatioNear_N_a = some (.lit (.bool true)) := by kernel_rfl
theorem RatioNear_N_r12 (b5 b7 b8 b10 b20 : Bool) : @comes (RatioNear_N_k true true true true b5 false b7 b8 true b10 true false false true false false b20 true true) Tryz.prog glT 3000 RatioNear_N_f RatioNear_N_a = some (.lit (.bool true)) := by kernel_rfl
theorem RatioNear_N_r13 (b5 b7 b8 b10 b18 b19 b20 b21 : Bool) : @comes (RatioNear_N_k true true true true b5 false b7 b8 true b10 true false false false b18 b19 b20 b21 true) Tryz.prog glT 3000 RatioNear_N_f RatioNear_N_a = some (.lit (.bool true)) := by kernel_rfl
theorem RatioNear_N_r14 (b5 b7 b8 b10 b15 b16 b19 b20 b21 : Bool) : @comes (RatioNear_N_k true true true true b5 false b7 b8 true b10 false b15 b16 true false b19 b20 b21 true) Tryz.prog glT 3000 RatioNear_N_f RatioNear_N_a = some (.lit (.bool true)) := by kernel_rfl
theorem RatioNear_N_r15 (b5 b7 b8 b10 b15 b16 b18 b19 b20 b21 : Bool) : @comes (RatioNear_N_k true true true true b5 false b7 b8 true b10 false b15 b16 false b18 b19 b20 b21 true) Tryz.prog glT 3000 RatioNear_N_f RatioNear_N_a = some (.lit (.bool true)) := by kernel_rfl
theorem RatioNear_N_r16 (b5 b7 b8 b21 : Bool) : @comes (RatioNear_N_k true true true true b5 false b7 b8 false true true false false true false true true b21 true) Tryz.prog glT 3000 RatioNear_N_f RatioNear_N_a = some (.lit (.bool true)) := by kernel_rfl
theorem RatioNear_N_r17 (b5 b7 b8 b20 : Bool) : @comes (RatioNear_N_k true true true true b5 false b7 b8 false true true false false true false false b20 false true) Tryz.prog glT 3000 RatioNear_N_f RatioNear_N_a = some (.lit (.bool true)) := by kernel_rfl
theorem RatioNear_N_r18 (b5 b7 b8 b18 b19 b20 b21 : Bool) : @comes (RatioNear_N_k true true true true b5 false b7 b8 false true true false false false b18 b19 b20 b21 true) Tryz.prog glT 3000 RatioNear_N_f RatioNear_N_a = some (.lit (.bool true)) := by kernel_rfl
theorem RatioNear_N_r19 (b5 b7 b8 b15 b16 b19 b20 b21 : Bool) : @comes (RatioNear_N_k true true true true b5 false b7 b8 false true false b15 b16 true false b19 b20 b21 true) Tryz.prog glT 3000 RatioNear_N_f RatioNear_N_a = some (.lit (.bool true)) := by kernel_rfl
theorem RatioNear_N_r20 (b5 b7 b8 b15 b16 b18 b19 b20 b21 : Bool) : @comes (RatioNear_N_k true true true true b5 false b7 b8 false true false b15 b16 false b18 b19 b20 b21 true) Tryz.prog glT 3000 RatioNear_N_f RatioNear_N_a = some (.lit (.bool true)) := by kernel_rfl
theorem RatioNear_N_r21 (b2 b3 b4 b5 b6 b7 b8 b10 b21 b22 : Bool) : @comes (RatioNear_N_k false b2 b3 b4 b5 b6 b7 b8 true b10 true false false true false true true b21 b22) Tryz.prog glT 3000 RatioNear_N_f RatioNear_N_a = some (.lit (.bool true)) := by kernel_rfl
theorem RatioNear_N_r22 (b2 b3 b4 b5 b6 b7 b8 b10 b20 b22 : Bool) : @comes (RatioNear_N_k false b2 b3 b4 b5 b6 b7 b8 true b10 true false false true false false b20 true b22) Tryz.prog glT 3000 RatioNear_N_f RatioNear_N_a = some (.lit (.bool true)) := by kernel_rfl
theorem RatioNear_N_r23 (b2 b3 b4 b5 b6 b7 b8 b10 b18 b19 b20 b21 b22 : Bool) : @comes (RatioNear_N_k false b2 b3 b4 b5 b6 b7 b8 true b10 true false false false b18 b19 b20 b21 b22) Tryz.prog glT 3000 RatioNear_N_f RatioNear_N_a = some (.lit (.bool true)) := by kernel_rfl
theorem RatioNear_N_r24 (b2 b3 b4 b5 b6 b7 b8 b10 b15 b16 b19 b20 b21 b22 : Bool) : @comes (RatioNear_N_k false b2 b3 b4 b5 b6 b7 b8 true b10 false b15 b16 true false b19 b20 b21 b22) Tryz.prog glT 3000 RatioNear_N_f RatioNear_N_a = some (.lit (.bool true)) := by kernel_rfl
theorem RatioNear_N_r25 (b2 b3 b4 b5 b6 b7 b8 b10 b15 b16 b18 b19 b20 b21 b22 : Bool) : @comes (RatioNear_N_k false b2 b3 b4 b5 b6 b7 b8 true b10 false b15 b16 false b18 b19 b20 b21 b22) Tryz.prog glT 3000 RatioNear_N_f RatioNear_N_a = some (.lit (.bool true)) := by kernel_rfl
theorem RatioNear_N_r26 (b2 b3 b4 b5 b6 b7 b8 b21 b22 : Bool) : @comes (RatioNear_N_k false b2 b3 b4 b5 b6 b7 b8 false true true false false true false true true b21 b22) Tryz.prog glT 3000 RatioNear_N_f RatioNear_N_a = some (.lit (.bool true)) := by kernel_rfl
theorem RatioNear_N_r27 (b2 b3 b4 b5 b6 b7 b8 b20 b22 : Bool) : @comes (RatioNear_N_k false b2 b3 b4 b5 b6 b7 b8 false true true false false true false false b20 false b22) Tryz.prog glT 3000 RatioNear_N_f RatioNear_N_a = some (.lit (.bool true)) := by kernel_rfl
theorem RatioNear_N_r28 (b2 b3 b4 b5 b6 b7 b8 b18 b19 b20 b21 b22 : Bool) : @comes (RatioNear_N_k false b2 b3 b4 b5 b6 b7 b8 false true true false false false b18 b19 b20 b21 b22) Tryz.prog glT 3000 RatioNear_N_f RatioNear_N_a = some (.lit (.bool true)) := by kernel_rfl
theorem RatioNear_N_r29 (b2 b3 b4 b5 b6 b7 b8 b15 b16 b19 b20 b21 b22 : Bool) : @comes (RatioNear_N_k false b2 b3 b4 b5 b6 b7 b8 false true false b15 b16 true false b19 b20 b21 b22) Tryz.prog glT 3000 RatioNear_N_f RatioNear_N_a = some (.lit (.bool true)) := by kernel_rfl
theorem RatioNear_N_r30 (b2 b3 b4 b5 b6 b7 b8 b15 b16 b18 b19 b20 b21 b22 : Bool) : @comes (RatioNear_N_k false b2 b3 b4 b5 b6 b7 b8 false true false b15 b16 false b18 b19 b20 b21 b22) Tryz.prog glT 3000 RatioNear_N_f RatioNear_N_a = some (.lit (.bool true)) := by kernel_rfl
set_option maxRecDepth 100000 in
set_option maxHeartbeats 4000000 in
theorem RatioNear_N (q : Rat) (x : Nat) (w : World) (hG : Globs glT w) (hx : x < 18446744073709551616) (hq : Bq q 300) (hsa : ∀ w, Calls Tryz.prog 9 #[qv q] w fun e w' => e = .returned (.bool true) ∧ Below w.heap.size w w') (hma : ∀ w, Calls Tryz.prog 18 #[qv q] w fun e w' => e = .returned (.bool true) ∧ Below w.heap.size w w') (H : Nr q (QW 0 q) (QW 1 q) (QW 2 q)) : Calls Tryz.prog 8 #[.agg #[.bool (qG q), .string (natS (qN q)), .string (natS (qD q))], .int .u64 (((x : Nat) : Int))] w fun e w' => e = .returned (.bool true) ∧ Below w.heap.size w w' := by
  obtain ⟨b1, i1⟩ := bex (Bt.finB (x) = true)
  obtain ⟨b2, i2⟩ := bex (Bt.feqB (QW 0 (ofQ x)) (x) = true)
  obtain ⟨b3, i3⟩ := bex (Bt.feqB (QW 1 (ofQ x)) (x) = true)
  obtain ⟨b4, i4⟩ := bex (Bt.feqB (QW 2 (ofQ x)) (x) = true)
  obtain ⟨b5, i5⟩ := bex (Bt.Ff.sgn (QW 0 (ofQ x)) = true)
  obtain ⟨b6, i6⟩ := bex (Bt.feqB (x) (0) = true)
  obtain ⟨b7, i7⟩ := bex (Bt.Ff.sgn (QW 1 (ofQ x)) = true)
  obtain ⟨b8, i8⟩ := bex (Bt.Ff.sgn (QW 2 (ofQ x)) = true)
  obtain ⟨b9, i9⟩ := bex (Bt.feqB (QW 0 q) (QW 1 q) = true)
  obtain ⟨b10, i10⟩ := bex (Bt.feqB (QW 0 q) (QW 2 q) = true)
  have h11 : ¬ (Bt.fltB (QW 2 q) (QW 1 q) = true) := (by rw [H.gt]; exact Bool.false_ne_true)
  have i11 : false = true ↔ (Bt.fltB (QW 2 q) (QW 1 q) = true) := ⟨fun k => absurd k Bool.false_ne_true, fun k => absurd k h11⟩
  have h12 : ¬ (Bt.feqB (QW 1 q) (QW 2 q) = true) := (by rw [H.ne]; exact Bool.false_ne_true)
  have i12 : false = true ↔ (Bt.feqB (QW 1 q) (QW 2 q) = true) := ⟨fun k => absurd k Bool.false_ne_true, fun k => absurd k h12⟩
  have h13 : Bt.feqB (QW 2 q) (QW 2 q) = true := (Bt.feq_ok (QW_ok _ _))
  have i13 : true = true ↔ (Bt.feqB (QW 2 q) (QW 2 q) = true) := ⟨fun _ => h13, fun _ => rfl⟩
  obtain ⟨b14, i14⟩ := bex (Bt.finB (QW 1 q) = true)
  obtain ⟨b15, i15⟩ := bex (qr (ofQ (QW 1 q)) = qr q)
  obtain ⟨b16, i16⟩ := bex (qC (ofQ (QW 1 q)) (q) > 0)
  obtain ⟨b17, i17⟩ := bex (Bt.finB (QW 2 q) = true)
  obtain ⟨b18, i18⟩ := bex (qC (q) (ofQ (QW 2 q)) > 0)
  obtain ⟨b19, i19⟩ := bex (qC (q - ofQ (QW 1 q)) (ofQ (QW 2 q) - q) = 0)
  obtain ⟨b20, i20⟩ := bex (((QW 0 q % 2 : Nat) : Int) = 0)
  obtain ⟨b21, i21⟩ := bex (qC (q - ofQ (QW 1 q)) (ofQ (QW 2 q) - q) < 0)
  obtain ⟨b22, i22⟩ := bex (lkB (QW 0 (ofQ x)) (x) = true)
  letI : Env := mkEnv glT [.bool (qG q), .string (natS (qN q)), .string (natS (qD q)), .int .u64 (((x : Nat) : Int)), .float .f64 (x), .bool (qG (ofQ x)), .string (natS (qN (ofQ x))), .string (natS (qD (ofQ x))), .float .f64 (QW 0 (ofQ x)), .float .f64 (QW 1 (ofQ x)), .float .f64 (QW 2 (ofQ x)), .float .f64 (QW 0 q), .float .f64 (QW 1 q), .float .f64 (QW 2 q), .float .f64 (QW 2 q), .bool (qG (ofQ (QW 1 q))), .string (natS (qN (ofQ (QW 1 q)))), .string (natS (qD (ofQ (QW 1 q)))), .int .i64 (qC (ofQ (QW 1 q)) (q)), .bool (qG (ofQ (QW 2 q))), .string (natS (qN (ofQ (QW 2 q)))), .string (natS (qD (ofQ (QW 2 q)))), .int .i64 (qC (q) (ofQ (QW 2 q))), .bool (qG (q - ofQ (QW 1 q))), .string (natS (qN (q - ofQ (QW 1 q)))), .string (natS (qD (q - ofQ (QW 1 q)))), .bool (qG (ofQ (QW 2 q) - q)), .string (natS (qN (ofQ (QW 2 q) - q))), .string (natS (qD (ofQ (QW 2 q) - q))), .int .i64 (qC (q - ofQ (QW 1 q)) (ofQ (QW 2 q) - q)), .int .u64 (((QW 0 q : Nat) : Int)), .int .u64 (((QW 0 q % 2 : Nat) : Int))] rfl
  have hops : OpsT Tryz.prog (@Know.ops (RatioNear_N_k b1 b2 b3 b4 b5 b6 b7 b8 b9 b10 b14 b15 b16 b17 b18 b19 b20 b21 b22)) := ⟨optQ_from rfl rfl rfl,
    optQ_neq_i rfl rfl i2,
    optQ_neq_i rfl rfl i3,
    optQ_neq_i rfl rfl i4,
    optQ_eql_i rfl rfl i6,
    optQ_neq_i rfl rfl i6,
    optQ_neq_i rfl rfl i9,
    optQ_neq_i rfl rfl i10,
    optQ_gtr_i rfl rfl i11,
    optQ_neq_i rfl rfl i12,
    optQ_neq_i rfl rfl i13,
    optQ_eql_i rfl rfl i12,
    optR_eql_i (a := qr (ofQ (QW 1 q))) (b := qr q) rfl rfl i15,
    opt_gtr_i rfl rfl i16,
    opt_gtr_i rfl rfl i18,
    opt_eql_i rfl rfl i19,
    optQ_bits rfl rfl rfl,
    optQ_rem rfl rfl rfl rfl,
    opt_eql_i rfl rfl i20,
    optQ_eql_i rfl rfl i9,
    opt_lss_i rfl rfl i21,
    trivial⟩
  have hcalls : CallsT Tryz.prog (@Know.calls (RatioNear_N_k b1 b2 b3 b4 b5 b6 b7 b8 b9 b10 b14 b15 b16 b17 b18 b19 b20 b21 b22)) := ⟨callt rfl rfl fun w hG => (by have hh := Pfinite_c (x) w; rwa [← show _ = Bt.finB (x) from Bool.eq_iff_iff.2 i1] at hh),
    callt rfl rfl fun w hG => Pof_c (x) w hx hG,
    callt rfl rfl fun w hG => PFloat_c (ofQ x) w hG ((ofQ_b hx).fits (by decide)),
    callt rfl rfl fun w hG => PBelow_c (ofQ x) w hG ((ofQ_b hx).fits (by decide)),
    callt rfl rfl fun w hG => PAbove_c (ofQ x) w hG ((ofQ_b hx).fits (by decide)),
    callt rfl rfl fun w hG => (by have hh := PSignbit_c (QW 0 (ofQ x)) (QW_lt _ _) w; rwa [← show _ = Bt.Ff.sgn (QW 0 (ofQ x)) from Bool.eq_iff_iff.2 i5] at hh),
    callt rfl rfl fun w hG => (by have hh := PSignbit_c (QW 1 (ofQ x)) (QW_lt _ _) w; rwa [← show _ = Bt.Ff.sgn (QW 1 (ofQ x)) from Bool.eq_iff_iff.2 i7] at hh),
    callt rfl rfl fun w hG => (by have hh := PSignbit_c (QW 2 (ofQ x)) (QW_lt _ _) w; rwa [← show _ = Bt.Ff.sgn (QW 2 (ofQ x)) from Bool.eq_iff_iff.2 i8] at hh),
    callt rfl rfl fun w hG => hsa w,
    callt rfl rfl fun w hG => hma w,
    callt rfl rfl fun w hG => PFloat_c q w hG (hq.fits (by decide)),
    callt rfl rfl fun w hG => PBelow_c q w hG (hq.fits (by decide)),
    callt rfl rfl fun w hG => PAbove_c q w hG (hq.fits (by decide)),
    callt rfl rfl fun w hG => (by have hh := PUp_c (QW 1 q) (QW_lt _ _) w; rwa [H.up] at hh),
    callt rfl rfl fun w hG => (by have hh := Pfinite_c (QW 1 q) w; rwa [← show _ = Bt.finB (QW 1 q) from Bool.eq_iff_iff.2 i14] at hh),
    callt rfl rfl fun w hG => Pof_c (QW 1 q) w (QW_lt _ _) hG,
    callt rfl rfl fun w hG => PCompare_c (ofQ (QW 1 q)) (q) w ((ofQ_b (QW_lt _ _)).fits (by decide)) (hq.fits (by decide)),
    callt rfl rfl fun w hG => (by have hh := Pfinite_c (QW 2 q) w; rwa [← show _ = Bt.finB (QW 2 q) from Bool.eq_iff_iff.2 i17] at hh),
    callt rfl rfl fun w hG => Pof_c (QW 2 q) w (QW_lt _ _) hG,
    callt rfl rfl fun w hG => PCompare_c (q) (ofQ (QW 2 q)) w (hq.fits (by decide)) ((ofQ_b (QW_lt _ _)).fits (by decide)),
    callt rfl rfl fun w hG => QSub (q) (ofQ (QW 1 q)) (q - ofQ (QW 1 q)) rfl (hq.fits (by decide)) ((ofQ_b (QW_lt _ _)).fits (by decide)) ((hq.sub (ofQ_b (QW_lt _ _))).fits (by decide)) w,
    callt rfl rfl fun w hG => QSub (ofQ (QW 2 q)) (q) (ofQ (QW 2 q) - q) rfl ((ofQ_b (QW_lt _ _)).fits (by decide)) (hq.fits (by decide)) (((ofQ_b (QW_lt _ _)).sub hq).fits (by decide)) w,
    callt rfl rfl fun w hG => PCompare_c (q - ofQ (QW 1 q)) (ofQ (QW 2 q) - q) w ((hq.sub (ofQ_b (QW_lt _ _))).fits (by decide)) (((ofQ_b (QW_lt _ _)).sub hq).fits (by decide)),
    callt rfl rfl fun w hG => lives4_c w hG,
    callt rfl rfl fun w hG => (by have hh := like_any (QW 0 (ofQ x)) (x) w; rwa [← show _ = lkB (QW 0 (ofQ x)) (x) from Bool.eq_iff_iff.2 i22] at hh),
    trivial⟩
  have fin : ∀ v, @comes (RatioNear_N_k b1 b2 b3 b4 b5 b6 b7 b8 b9 b10 b14 b15 b16 b17 b18 b19 b20 b21 b22) Tryz.prog glT 3000 RatioNear_N_f RatioNear_N_a = some v → ground v = true → Ending.returned (gval v) = .returned (.bool true) → Calls Tryz.prog 8 #[.agg #[.bool (qG q), .string (natS (qN q)), .string (natS (qD q))], .int .u64 (((x : Nat) : Int))] w fun e w' => e = .returned (.bool true) ∧ Below w.heap.size w w' := fun v h1 h2 h3 => (@sym_ok _ (RatioNear_N_k b1 b2 b3 b4 b5 b6 b7 b8 b9 b10 b14 b15 b16 b17 b18 b19 b20 b21 b22) _ (@KnowOk.of _ (RatioNear_N_k b1 b2 b3 b4 b5 b6 b7 b8 b9 b10 b14 b15 b16 b17 b18 b19 b20 b21 b22) _ hops hcalls) (by kernel_rfl) _ _ _ _ h1 rfl h2 _ hG).mono fun e w' h => ⟨h.1.trans h3, h.2⟩
  clear hops hcalls
  cases b1 with
  | true =>
    have h1 : Bt.finB (x) = true := i1.1 rfl
    cases b2 with
    | true =>
      have h2 : Bt.feqB (QW 0 (ofQ x)) (x) = true := i2.1 rfl
      cases b3 with
      | true =>
        have h3 : Bt.feqB (QW 1 (ofQ x)) (x) = true := i3.1 rfl
        cases b4 with
        | true =>
          have h4 : Bt.feqB (QW 2 (ofQ x)) (x) = true := i4.1 rfl
          cases b6 with
          | true =>
            have h6 : Bt.feqB (x) (0) = true := i6.1 rfl
            cases b5 with
            | true =>
              exact absurd (i5.1 rfl) ((fun c => by rw [own_z 0 h1 h6] at c; exact Bool.false_ne_true c))
            | false =>
              have h5 : ¬ (Bt.Ff.sgn (QW 0 (ofQ x)) = true) := fun c => Bool.false_ne_true (i5.2 c)
              cases b7 with
              | true =>
                exact absurd (i7.1 rfl) ((fun c => by rw [own_z 1 h1 h6] at c; exact Bool.false_ne_true c))
              | false =>
                have h7 : ¬ (Bt.Ff.sgn (QW 1 (ofQ x)) = true) := fun c => Bool.false_ne_true (i7.2 c)
                cases b8 with
                | true =>
                  exact absurd (i8.1 rfl) ((fun c => by rw [own_z 2 h1 h6] at c; exact Bool.false_ne_true c))
                | false =>
                  have h8 : ¬ (Bt.Ff.sgn (QW 2 (ofQ x)) = true) := fun c => Bool.false_ne_true (i8.2 c)
                  cases b9 with
                  | true =>
                    have h9 : Bt.feqB (QW 0 q) (QW 1 q) = true := i9.1 rfl
                    cases b14 with
                    | true =>
                      have h14 : Bt.finB (QW 1 q) = true := i14.1 rfl
                      cases b15 with
                      | true =>
                        exact absurd (i15.1 rfl) ((H.own h14))
                      | false =>
                        have h15 : ¬ (qr (ofQ (QW 1 q)) = qr q) := fun c => Bool.false_ne_true (i15.2 c)
                        cases b16 with
                        | true =>
                          exact absurd (i16.1 rfl) ((qC_lt (by rw [ofQ_fin h14]; exact H.fb h14)))
                        | false =>
                          have h16 : ¬ (qC (ofQ (QW 1 q)) (q) > 0) := fun c => Bool.false_ne_true (i16.2 c)
                          cases b17 with
                          | true =>
                            have h17 : Bt.finB (QW 2 q) = true := i17.1 rfl
                            cases b18 with
                            | true =>
                              exact absurd (i18.1 rfl) ((qC_lt (by rw [ofQ_fin h17]; exact H.fc h17)))
                            | false =>
                              have h18 : ¬ (qC (q) (ofQ (QW 2 q)) > 0) := fun c => Bool.false_ne_true (i18.2 c)
                              cases b19 with
                              | true =>
                                have h19 : qC (q - ofQ (QW 1 q)) (ofQ (QW 2 q) - q) = 0 := i19.1 rfl
                                cases b20 with
                                | true =>
                                  have h20 : ((QW 0 q % 2 : Nat) : Int) = 0 := i20.1 rfl
                                  exact fin _ (RatioNear_N_r1 b10 b21 b22) rfl rfl
                                | false =>
                                  exact absurd (i20.2 ((by have hh := H.nul h14 h17; rw [← ofQ_fin h14, ← ofQ_fin h17] at hh; have := hh h19; omega))) Bool.false_ne_true
                              | false =>
                                have h19 : ¬ (qC (q - ofQ (QW 1 q)) (ofQ (QW 2 q) - q) = 0) := fun c => Bool.false_ne_true (i19.2 c)
                                cases b21 with
                                | true =>
                                  have h21 : qC (q - ofQ (QW 1 q)) (ofQ (QW 2 q) - q) < 0 := i21.1 rfl
                                  exact fin _ (RatioNear_N_r2 b10 b20 b22) rfl rfl
                                | false =>
                                  exact absurd (i21.2 ((by have hh := H.neg h14 h17; rw [← ofQ_fin h14, ← ofQ_fin h17] at hh; have hh := hh h19; exact hh.1 h9))) Bool.false_ne_true
                          | false =>
                            have h17 : ¬ (Bt.finB (QW 2 q) = true) := fun c => Bool.false_ne_true (i17.2 c)
                            exact fin _ (RatioNear_N_r3 b10 b18 b19 b20 b21 b22) rfl rfl
                    | false =>
                      have h14 : ¬ (Bt.finB (QW 1 q) = true) := fun c => Bool.false_ne_true (i14.2 c)
                      cases b17 with
                      | true =>
                        have h17 : Bt.finB (QW 2 q) = true := i17.1 rfl
                        cases b18 with
                        | true =>
                          exact absurd (i18.1 rfl) ((qC_lt (by rw [ofQ_fin h17]; exact H.fc h17)))
                        | false =>
                          have h18 : ¬ (qC (q) (ofQ (QW 2 q)) > 0) := fun c => Bool.false_ne_true (i18.2 c)
                          exact fin _ (RatioNear_N_r4 b10 b15 b16 b19 b20 b21 b22) rfl rfl
                      | false =>
                        have h17 : ¬ (Bt.finB (QW 2 q) = true) := fun c => Bool.false_ne_true (i17.2 c)
                        exact fin _ (RatioNear_N_r5 b10 b15 b16 b18 b19 b20 b21 b22) rfl rfl
                  | false =>
                    have h9 : ¬ (Bt.feqB (QW 0 q) (QW 1 q) = true) := fun c => Bool.false_ne_true (i9.2 c)
                    cases b10 with
                    | true =>
                      have h10 : Bt.feqB (QW 0 q) (QW 2 q) = true := i10.1 rfl
                      cases b14 with
                      | true =>
                        have h14 : Bt.finB (QW 1 q) = true := i14.1 rfl
                        cases b15 with
                        | true =>
                          exact absurd (i15.1 rfl) ((H.own h14))
                        | false =>
                          have h15 : ¬ (qr (ofQ (QW 1 q)) = qr q) := fun c => Bool.false_ne_true (i15.2 c)
                          cases b16 with
                          | true =>
                            exact absurd (i16.1 rfl) ((qC_lt (by rw [ofQ_fin h14]; exact H.fb h14)))
                          | false =>
                            have h16 : ¬ (qC (ofQ (QW 1 q)) (q) > 0) := fun c => Bool.false_ne_true (i16.2 c)
                            cases b17 with
                            | true =>
                              have h17 : Bt.finB (QW 2 q) = true := i17.1 rfl
                              cases b18 with
                              | true =>
                                exact absurd (i18.1 rfl) ((qC_lt (by rw [ofQ_fin h17]; exact H.fc h17)))
                              | false =>
                                have h18 : ¬ (qC (q) (ofQ (QW 2 q)) > 0) := fun c => Bool.false_ne_true (i18.2 c)
                                cases b19 with
                                | true =>
                                  have h19 : qC (q - ofQ (QW 1 q)) (ofQ (QW 2 q) - q) = 0 := i19.1 rfl
                                  cases b20 with
                                  | true =>
                                    have h20 : ((QW 0 q % 2 : Nat) : Int) = 0 := i20.1 rfl
                                    exact fin _ (RatioNear_N_r6 b21 b22) rfl rfl
                                  | false =>
                                    exact absurd (i20.2 ((by have hh := H.nul h14 h17; rw [← ofQ_fin h14, ← ofQ_fin h17] at hh; have := hh h19; omega))) Bool.false_ne_true
                                | false =>
                                  have h19 : ¬ (qC (q - ofQ (QW 1 q)) (ofQ (QW 2 q) - q) = 0) := fun c => Bool.false_ne_true (i19.2 c)
                                  cases b21 with
                                  | true =>
                                    exact absurd (i21.1 rfl) ((fun c => h9 ((show Bt.feqB (QW 0 q) (QW 1 q) = true ↔ qC (q - ofQ (QW 1 q)) (ofQ (QW 2 q) - q) < 0 from by have hh := H.neg h14 h17; rw [← ofQ_fin h14, ← ofQ_fin h17] at hh; have hh := hh h19; exact hh).2 c)))
                                  | false =>
                                    have h21 : ¬ (qC (q - ofQ (QW 1 q)) (ofQ (QW 2 q) - q) < 0) := fun c => Bool.false_ne_true (i21.2 c)
                                    exact fin _ (RatioNear_N_r7 b20 b22) rfl rfl
                            | false =>
                              have h17 : ¬ (Bt.finB (QW 2 q) = true) := fun c => Bool.false_ne_true (i17.2 c)
                              exact fin _ (RatioNear_N_r8 b18 b19 b20 b21 b22) rfl rfl
                      | false =>
                        have h14 : ¬ (Bt.finB (QW 1 q) = true) := fun c => Bool.false_ne_true (i14.2 c)
                        cases b17 with
                        | true =>
                          have h17 : Bt.finB (QW 2 q) = true := i17.1 rfl
                          cases b18 with
                          | true =>
                            exact absurd (i18.1 rfl) ((qC_lt (by rw [ofQ_fin h17]; exact H.fc h17)))
                          | false =>
                            have h18 : ¬ (qC (q) (ofQ (QW 2 q)) > 0) := fun c => Bool.false_ne_true (i18.2 c)
                            exact fin _ (RatioNear_N_r9 b15 b16 b19 b20 b21 b22) rfl rfl
                        | false =>
                          have h17 : ¬ (Bt.finB (QW 2 q) = true) := fun c => Bool.false_ne_true (i17.2 c)
                          exact fin _ (RatioNear_N_r10 b15 b16 b18 b19 b20 b21 b22) rfl rfl
                    | false =>
                      exact absurd (i10.2 ((H.or2 h9))) Bool.false_ne_true
          | false =>
            have h6 : ¬ (Bt.feqB (x) (0) = true) := fun c => Bool.false_ne_true (i6.2 c)
            cases b22 with
            | true =>
              have h22 : lkB (QW 0 (ofQ x)) (x) = true := i22.1 rfl
              cases b9 with
              | true =>
                have h9 : Bt.feqB (QW 0 q) (QW 1 q) = true := i9.1 rfl
                cases b14 with
                | true =>
                  have h14 : Bt.finB (QW 1 q) = true := i14.1 rfl
                  cases b15 with
                  | true =>
                    exact absurd (i15.1 rfl) ((H.own h14))
                  | false =>
                    have h15 : ¬ (qr (ofQ (QW 1 q)) = qr q) := fun c => Bool.false_ne_true (i15.2 c)
                    cases b16 with
                    | true =>
                      exact absurd (i16.1 rfl) ((qC_lt (by rw [ofQ_fin h14]; exact H.fb h14)))
                    | false =>
                      have h16 : ¬ (qC (ofQ (QW 1 q)) (q) > 0) := fun c => Bool.false_ne_true (i16.2 c)
                      cases b17 with
                      | true =>
                        have h17 : Bt.finB (QW 2 q) = true := i17.1 rfl
                        cases b18 with
                        | true =>
                          exact absurd (i18.1 rfl) ((qC_lt (by rw [ofQ_fin h17]; exact H.fc h17)))
                        | false =>
                          have h18 : ¬ (qC (q) (ofQ (QW 2 q)) > 0) := fun c => Bool.false_ne_true (i18.2 c)
                          cases b19 with
                          | true =>
                            have h19 : qC (q - ofQ (QW 1 q)) (ofQ (QW 2 q) - q) = 0 := i19.1 rfl
                            cases b20 with
                            | true =>
                              have h20 : ((QW 0 q % 2 : Nat) : Int) = 0 := i20.1 rfl
                              exact fin _ (RatioNear_N_r11 b5 b7 b8 b10 b21) rfl rfl
                            | false =>
                              exact absurd (i20.2 ((by have hh := H.nul h14 h17; rw [← ofQ_fin h14, ← ofQ_fin h17] at hh; have := hh h19; omega))) Bool.false_ne_true
                          | false =>
                            have h19 : ¬ (qC (q - ofQ (QW 1 q)) (ofQ (QW 2 q) - q) = 0) := fun c => Bool.false_ne_true (i19.2 c)
                            cases b21 with
                            | true =>
                              have h21 : qC (q - ofQ (QW 1 q)) (ofQ (QW 2 q) - q) < 0 := i21.1 rfl
                              exact fin _ (RatioNear_N_r12 b5 b7 b8 b10 b20) rfl rfl
                            | false =>
                              exact absurd (i21.2 ((by have hh := H.neg h14 h17; rw [← ofQ_fin h14, ← ofQ_fin h17] at hh; have hh := hh h19; exact hh.1 h9))) Bool.false_ne_true
                      | false =>
                        have h17 : ¬ (Bt.finB (QW 2 q) = true) := fun c => Bool.false_ne_true (i17.2 c)
                        exact fin _ (RatioNear_N_r13 b5 b7 b8 b10 b18 b19 b20 b21) rfl rfl
                | false =>
                  have h14 : ¬ (Bt.finB (QW 1 q) = true) := fun c => Bool.false_ne_true (i14.2 c)
                  cases b17 with
                  | true =>
                    have h17 : Bt.finB (QW 2 q) = true := i17.1 rfl
                    cases b18 with
                    | true =>
                      exact absurd (i18.1 rfl) ((qC_lt (by rw [ofQ_fin h17]; exact H.fc h17)))
                    | false =>
                      have h18 : ¬ (qC (q) (ofQ (QW 2 q)) > 0) := fun c => Bool.false_ne_true (i18.2 c)
                      exact fin _ (RatioNear_N_r14 b5 b7 b8 b10 b15 b16 b19 b20 b21) rfl rfl
                  | false =>
                    have h17 : ¬ (Bt.finB (QW 2 q) = true) := fun c => Bool.false_ne_true (i17.2 c)
                    exact fin _ (RatioNear_N_r15 b5 b7 b8 b10 b15 b16 b18 b19 b20 b21) rfl rfl
              | false =>
                have h9 : ¬ (Bt.feqB (QW 0 q) (QW 1 q) = true) := fun c => Bool.false_ne_true (i9.2 c)
                cases b10 with
                | true =>
                  have h10 : Bt.feqB (QW 0 q) (QW 2 q) = true := i10.1 rfl
                  cases b14 with
                  | true =>
                    have h14 : Bt.finB (QW 1 q) = true := i14.1 rfl
                    cases b15 with
                    | true =>
                      exact absurd (i15.1 rfl) ((H.own h14))
                    | false =>
                      have h15 : ¬ (qr (ofQ (QW 1 q)) = qr q) := fun c => Bool.false_ne_true (i15.2 c)
                      cases b16 with
                      | true =>
                        exact absurd (i16.1 rfl) ((qC_lt (by rw [ofQ_fin h14]; exact H.fb h14)))
                      | false =>
                        have h16 : ¬ (qC (ofQ (QW 1 q)) (q) > 0) := fun c => Bool.false_ne_true (i16.2 c)
                        cases b17 with
                        | true =>
                          have h17 : Bt.finB (QW 2 q) = true := i17.1 rfl
                          cases b18 with
                          | true =>
                            exact absurd (i18.1 rfl) ((qC_lt (by rw [ofQ_fin h17]; exact H.fc h17)))
                          | false =>
                            have h18 : ¬ (qC (q) (ofQ (QW 2 q)) > 0) := fun c => Bool.false_ne_true (i18.2 c)
                            cases b19 with
                            | true =>
                              have h19 : qC (q - ofQ (QW 1 q)) (ofQ (QW 2 q) - q) = 0 := i19.1 rfl
                              cases b20 with
                              | true =>
                                have h20 : ((QW 0 q % 2 : Nat) : Int) = 0 := i20.1 rfl
                                exact fin _ (RatioNear_N_r16 b5 b7 b8 b21) rfl rfl
                              | false =>
                                exact absurd (i20.2 ((by have hh := H.nul h14 h17; rw [← ofQ_fin h14, ← ofQ_fin h17] at hh; have := hh h19; omega))) Bool.false_ne_true
                            | false =>
                              have h19 : ¬ (qC (q - ofQ (QW 1 q)) (ofQ (QW 2 q) - q) = 0) := fun c => Bool.false_ne_true (i19.2 c)
                              cases b21 with
                              | true =>
                                exact absurd (i21.1 rfl) ((fun c => h9 ((show Bt.feqB (QW 0 q) (QW 1 q) = true ↔ qC (q - ofQ (QW 1 q)) (ofQ (QW 2 q) - q) < 0 from by have hh := H.neg h14 h17; rw [← ofQ_fin h14, ← ofQ_fin h17] at hh; have hh := hh h19; exact hh).2 c)))
                              | false =>
                                have h21 : ¬ (qC (q - ofQ (QW 1 q)) (ofQ (QW 2 q) - q) < 0) := fun c => Bool.false_ne_true (i21.2 c)
                                exact fin _ (RatioNear_N_r17 b5 b7 b8 b20) rfl rfl
                        | false =>
                          have h17 : ¬ (Bt.finB (QW 2 q) = true) := fun c => Bool.false_ne_true (i17.2 c)
                          exact fin _ (RatioNear_N_r18 b5 b7 b8 b18 b19 b20 b21) rfl rfl
                  | false =>
                    have h14 : ¬ (Bt.finB (QW 1 q) = true) := fun c => Bool.false_ne_true (i14.2 c)
                    cases b17 with
                    | true =>
                      have h17 : Bt.finB (QW 2 q) = true := i17.1 rfl
                      cases b18 with
                      | true =>
                        exact absurd (i18.1 rfl) ((qC_lt (by rw [ofQ_fin h17]; exact H.fc h17)))
                      | false =>
                        have h18 : ¬ (qC (q) (ofQ (QW 2 q)) > 0) := fun c => Bool.false_ne_true (i18.2 c)
                        exact fin _ (RatioNear_N_r19 b5 b7 b8 b15 b16 b19 b20 b21) rfl rfl
                    | false =>
                      have h17 : ¬ (Bt.finB (QW 2 q) = true) := fun c => Bool.false_ne_true (i17.2 c)
                      exact fin _ (RatioNear_N_r20 b5 b7 b8 b15 b16 b18 b19 b20 b21) rfl rfl
                | false =>
                  exact absurd (i10.2 ((H.or2 h9))) Bool.false_ne_true
            | false =>
              exact absurd (i22.2 ((by rw [own_n 0 hx h1 h6]; exact lkB_self _))) Bool.false_ne_true
        | false =>
          exact absurd (i4.2 ((own_eq 2 hx h1))) Bool.false_ne_true
      | false =>
        exact absurd (i3.2 ((own_eq 1 hx h1))) Bool.false_ne_true
    | false =>
      exact absurd (i2.2 ((own_eq 0 hx h1))) Bool.false_ne_true
  | false =>
    have h1 : ¬ (Bt.finB (x) = true) := fun c => Bool.false_ne_true (i1.2 c)
    cases b9 with
    | true =>
      have h9 : Bt.feqB (QW 0 q) (QW 1 q) = true := i9.1 rfl
      cases b14 with
      | true =>
        have h14 : Bt.finB (QW 1 q) = true := i14.1 rfl
        cases b15 with
        | true =>
          exact absurd (i15.1 rfl) ((H.own h14))
        | false =>
          have h15 : ¬ (qr (ofQ (QW 1 q)) = qr q) := fun c => Bool.false_ne_true (i15.2 c)
          cases b16 with
          | true =>
            exact absurd (i16.1 rfl) ((qC_lt (by rw [ofQ_fin h14]; exact H.fb h14)))
          | false =>
            have h16 : ¬ (qC (ofQ (QW 1 q)) (q) > 0) := fun c => Bool.false_ne_true (i16.2 c)
            cases b17 with
            | true =>
              have h17 : Bt.finB (QW 2 q) = true := i17.1 rfl
              cases b18 with
              | true =>
                exact absurd (i18.1 rfl) ((qC_lt (by rw [ofQ_fin h17]; exact H.fc h17)))
              | false =>
                have h18 : ¬ (qC (q) (ofQ (QW 2 q)) > 0) := fun c => Bool.false_ne_true (i18.2 c)
                cases b19 with
                | true =>
                  have h19 : qC (q - ofQ (QW 1 q)) (ofQ (QW 2 q) - q) = 0 := i19.1 rfl
                  cases b20 with
                  | true =>
                    have h20 : ((QW 0 q % 2 : Nat) : Int) = 0 := i20.1 rfl
                    exact fin _ (RatioNear_N_r21 b2 b3 b4 b5 b6 b7 b8 b10 b21 b22) rfl rfl
                  | false =>
                    exact absurd (i20.2 ((by have hh := H.nul h14 h17; rw [← ofQ_fin h14, ← ofQ_fin h17] at hh; have := hh h19; omega))) Bool.false_ne_true
                | false =>
                  have h19 : ¬ (qC (q - ofQ (QW 1 q)) (ofQ (QW 2 q) - q) = 0) := fun c => Bool.false_ne_true (i19.2 c)
                  cases b21 with
                  | true =>
                    have h21 : qC (q - ofQ (QW 1 q)) (ofQ (QW 2 q) - q) < 0 := i21.1 rfl
                    exact fin _ (RatioNear_N_r22 b2 b3 b4 b5 b6 b7 b8 b10 b20 b22) rfl rfl
                  | false =>
                    exact absurd (i21.2 ((by have hh := H.neg h14 h17; rw [← ofQ_fin h14, ← ofQ_fin h17] at hh; have hh := hh h19; exact hh.1 h9))) Bool.false_ne_true
            | false =>
              have h17 : ¬ (Bt.finB (QW 2 q) = true) := fun c => Bool.false_ne_true (i17.2 c)
              exact fin _ (RatioNear_N_r23 b2 b3 b4 b5 b6 b7 b8 b10 b18 b19 b20 b21 b22) rfl rfl
      | false =>
        have h14 : ¬ (Bt.finB (QW 1 q) = true) := fun c => Bool.false_ne_true (i14.2 c)
        cases b17 with
        | true =>
          have h17 : Bt.finB (QW 2 q) = true := i17.1 rfl
          cases b18 with
          | true =>
            exact absurd (i18.1 rfl) ((qC_lt (by rw [ofQ_fin h17]; exact H.fc h17)))
          | false =>
            have h18 : ¬ (qC (q) (ofQ (QW 2 q)) > 0) := fun c => Bool.false_ne_true (i18.2 c)
            exact fin _ (RatioNear_N_r24 b2 b3 b4 b5 b6 b7 b8 b10 b15 b16 b19 b20 b21 b22) rfl rfl
        | false =>
          have h17 : ¬ (Bt.finB (QW 2 q) = true) := fun c => Bool.false_ne_true (i17.2 c)
          exact fin _ (RatioNear_N_r25 b2 b3 b4 b5 b6 b7 b8 b10 b15 b16 b18 b19 b20 b21 b22) rfl rfl
    | false =>
      have h9 : ¬ (Bt.feqB (QW 0 q) (QW 1 q) = true) := fun c => Bool.false_ne_true (i9.2 c)
      cases b10 with
      | true =>
        have h10 : Bt.feqB (QW 0 q) (QW 2 q) = true := i10.1 rfl
        cases b14 with
        | true =>
          have h14 : Bt.finB (QW 1 q) = true := i14.1 rfl
          cases b15 with
          | true =>
            exact absurd (i15.1 rfl) ((H.own h14))
          | false =>
            have h15 : ¬ (qr (ofQ (QW 1 q)) = qr q) := fun c => Bool.false_ne_true (i15.2 c)
            cases b16 with
            | true =>
              exact absurd (i16.1 rfl) ((qC_lt (by rw [ofQ_fin h14]; exact H.fb h14)))
            | false =>
              have h16 : ¬ (qC (ofQ (QW 1 q)) (q) > 0) := fun c => Bool.false_ne_true (i16.2 c)
              cases b17 with
              | true =>
                have h17 : Bt.finB (QW 2 q) = true := i17.1 rfl
                cases b18 with
                | true =>
                  exact absurd (i18.1 rfl) ((qC_lt (by rw [ofQ_fin h17]; exact H.fc h17)))
                | false =>
                  have h18 : ¬ (qC (q) (ofQ (QW 2 q)) > 0) := fun c => Bool.false_ne_true (i18.2 c)
                  cases b19 with
                  | true =>
                    have h19 : qC (q - ofQ (QW 1 q)) (ofQ (QW 2 q) - q) = 0 := i19.1 rfl
                    cases b20 with
                    | true =>
                      have h20 : ((QW 0 q % 2 : Nat) : Int) = 0 := i20.1 rfl
                      exact fin _ (RatioNear_N_r26 b2 b3 b4 b5 b6 b7 b8 b21 b22) rfl rfl
                    | false =>
                      exact absurd (i20.2 ((by have hh := H.nul h14 h17; rw [← ofQ_fin h14, ← ofQ_fin h17] at hh; have := hh h19; omega))) Bool.false_ne_true
                  | false =>
                    have h19 : ¬ (qC (q - ofQ (QW 1 q)) (ofQ (QW 2 q) - q) = 0) := fun c => Bool.false_ne_true (i19.2 c)
                    cases b21 with
                    | true =>
                      exact absurd (i21.1 rfl) ((fun c => h9 ((show Bt.feqB (QW 0 q) (QW 1 q) = true ↔ qC (q - ofQ (QW 1 q)) (ofQ (QW 2 q) - q) < 0 from by have hh := H.neg h14 h17; rw [← ofQ_fin h14, ← ofQ_fin h17] at hh; have hh := hh h19; exact hh).2 c)))
                    | false =>
                      have h21 : ¬ (qC (q - ofQ (QW 1 q)) (ofQ (QW 2 q) - q) < 0) := fun c => Bool.false_ne_true (i21.2 c)
                      exact fin _ (RatioNear_N_r27 b2 b3 b4 b5 b6 b7 b8 b20 b22) rfl rfl
              | false =>
                have h17 : ¬ (Bt.finB (QW 2 q) = true) := fun c => Bool.false_ne_true (i17.2 c)
                exact fin _ (RatioNear_N_r28 b2 b3 b4 b5 b6 b7 b8 b18 b19 b20 b21 b22) rfl rfl
        | false =>
          have h14 : ¬ (Bt.finB (QW 1 q) = true) := fun c => Bool.false_ne_true (i14.2 c)
          cases b17 with
          | true =>
            have h17 : Bt.finB (QW 2 q) = true := i17.1 rfl
            cases b18 with
            | true =>
              exact absurd (i18.1 rfl) ((qC_lt (by rw [ofQ_fin h17]; exact H.fc h17)))
            | false =>
              have h18 : ¬ (qC (q) (ofQ (QW 2 q)) > 0) := fun c => Bool.false_ne_true (i18.2 c)
              exact fin _ (RatioNear_N_r29 b2 b3 b4 b5 b6 b7 b8 b15 b16 b19 b20 b21 b22) rfl rfl
          | false =>
            have h17 : ¬ (Bt.finB (QW 2 q) = true) := fun c => Bool.false_ne_true (i17.2 c)
            exact fin _ (RatioNear_N_r30 b2 b3 b4 b5 b6 b7 b8 b15 b16 b18 b19 b20 b21 b22) rfl rfl
      | false =>
        exact absurd (i10.2 ((H.or2 h9))) Bool.false_ne_true
theorem u64_nat4 {x : Int} (h : (Lit.int .u64 x).wf = true) : ∃ n : Nat, n < 18446744073709551616 ∧ x = n := by
  have h' : 0 ≤ x ∧ x ≤ 18446744073709551615 := by simpa [Lit.wf, IntKind.min, IntKind.max, IntKind.signed, IntKind.bits] using h
  exact ⟨x.toNat, by omega, by omega⟩
theorem RatioNear_law (a : Rx) (x : Nat) (w : World) (hG : Globs glT w) (ha : a.s.size ≤ 9223372036854775807 ∧ a.t.size ≤ 9223372036854775807) (hx : x < 18446744073709551616) : Calls Tryz.prog 8 #[.agg #[.bool a.g, .string a.s, .string a.t], .int .u64 (x : Int)] w fun e w' => e = .returned (.bool true) ∧ Below w.heap.size w w' := by
  have sa := fun w => Psmall_c a w ha.1 ha.2
  cases h1 : smB a with
  | false => rw [h1] at sa; exact RatioNear_0 a x w hG hx sa
  | true =>
    rw [h1] at sa
    have z1 := smB_iff.1 h1
    have ma := fun w => PMay_any a w
    rcases a.cases_ with ⟨q, hq⟩ | hna
    · rw [mayR_iff.2 ⟨q, hq⟩] at ma
      have bx := hq.bytes z1
      obtain ⟨_, rfl⟩ := hq
      by_cases h0 : qN q = 0 ∨ aR (qN q) (qD q) = 0
      · exact RatioNear_E q x w hG hx bx sa ma (near_exact q h0)
      · exact RatioNear_N q x w hG hx bx sa ma (near_not q (fun c => h0 (Or.inl c)) (fun c => h0 (Or.inr c)))
    · have e : mayR a = false := Bool.eq_false_iff.2 (fun c => by obtain ⟨q, hq⟩ := mayR_iff.1 c; exact hna q hq)
      rw [e] at ma
      exact RatioNear_1 a x w hG hx sa ma
end Go.Proofs.YtajcapliokblfaaGreatDoor
namespace Go.Proofs.YtajcapliokblfaaGreatDoor
open Go Go.RowKit Go.WideShapes Go.ChangeShapes
variable {H : Type} {enc : TypeId × Value → H} {P : Program}
theorem postBelow {f : Func} {s : ChangeSpec} {apart fresh handsOn again : Bool} {W W' : World} {args : Array Value} {v : Value} {ds gs : List (DataW H)} {places pa pv : List MemPlace}
    (whole : DataW.Whole enc P f.params.toList s.vars apart W args.toList ds gs places)
    (res : ∀ (b : Nat) (sp : Nat → Bool) (hd : Bool), DataW.TrodAll enc P W' b sp hd f.resultTypes.toList (v.resultList f.resultTypes.size) (s.fn H (ds ++ gs)).results [])
    (left : ∀ sp : Nat → Bool, (∀ p ∈ places, sp p.block = true) → DataW.TrodAll enc P W' 0 sp true f.params.toList args.toList (s.fn H (ds ++ gs)).args pa)
    (vars : ∀ sp : Nat → Bool, (∀ p ∈ places, sp p.block = true) → DataW.TrodVars enc P W' sp s.vars (s.fn H (ds ++ gs)).vars pv)
    (split : places = pa ++ pv) (below : Below W.heap.size W W')
    (ok : ∀ (j : Nat) (t : TypeId) (r : Value), f.resultTypes[j]? = some t → (v.resultList f.resultTypes.size)[j]? = some r → Value.okWide P W' .any 0 t r) :
    s.post enc P f apart fresh handsOn again W args v W' := by
  have old : ∀ p ∈ places, p.block < W.heap.size := fun p hp => whole.lt p hp
  have same : ∀ p ∈ places, (fun b => decide (b < W.heap.size)) p.block = true := fun p hp => decide_eq_true (old p hp)
  have kept : W.keptBut W' (fun p => p ∈ places ∧ p ∈ pa ++ pv) :=
    World.keptBut_mono (fun p hp => ⟨hp, split ▸ hp⟩) (below.frame (· ∈ places))
  have free : ∀ b off, MemPlace.cell b off ∈ pa ++ pv → W'.frozen? ⟨b, off, none⟩ = false := fun b off hp => by
    have hin : MemPlace.cell b off ∈ places := split ▸ hp
    rw [below.frozen (p := ⟨b, off, none⟩) (old _ hin)]
    obtain ⟨_, _, _, _, _, hz, _⟩ := whole
    exact hz b off hin
  have apartNow : apart = true → (pa ++ pv).Nodup := fun ha => by
    obtain ⟨_, _, _, _, _, _, hn⟩ := whole
    exact split ▸ hn ha
  refine ⟨ds, gs, places, [], pa, pv, whole, res _ _ _, left _ same, vars _ same, ?_, fun _ => ⟨ok, _, _, ([] ++ pa) ++ pv, ⟨[] ++ pa, pv, trodAll_append (left _ (fun _ _ => rfl)) (res _ _ _), vars _ (fun _ _ => rfl), rfl, ?_, ?_⟩, ?_⟩⟩
  · exact World.keptBut_mono (fun p hp => ⟨hp.1, Or.inr (List.mem_append.1 hp.2)⟩) kept
  · intro b off hp; exact free b off (by simpa using hp)
  · intro ha; simpa using apartNow ha
  · intro p hp _; rw [split]; simpa using hp
end Go.Proofs.YtajcapliokblfaaGreatDoor
