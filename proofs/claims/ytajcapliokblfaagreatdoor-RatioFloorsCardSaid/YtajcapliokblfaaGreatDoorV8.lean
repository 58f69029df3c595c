/- Texts put together: P37 P38 N40 P39 P40 P41 P42 Post PP. -/
import Derived.Test.YtajcapliokblfaaGreatDoorV7
import Derived.Test.YtajcapliokblfaaGreatDoorV6
import Derived.Below
import Derived.ChangeSame
import Derived.Test.YtajcapliokblfaaGreatDoorRows
import Derived.Test.YtajcapliokblfaaGreatDoorV3
import Derived.ProofKit
import Derived.Lib.SmallJoins
import Derived.OpenShut
import Derived.ShutString
set_option linter.unusedSimpArgs false
set_option linter.unusedVariables false
namespace Go.Proofs.YtajcapliokblfaaGreatDoor
open Go Go.RowKit Nt
/-- The float of g n / d, n not 0. 0: the nearest one, 1: below, 2: above. -/
@[irreducible] def RW (k : Nat) (g : Bool) (n d : Nat) : Nat := if tpZ n d ≤ 1023 then Bt.wf g (pk (mUp k g (rMq n d (rqZ n d)) (rsW (rLq n d (rqZ n d)) (rY d (rqZ n d)))) (rqZ n d)) else Bt.wf g (pk (mUp k g 9007199254740991 3) 971)
theorem RW_hi {k : Nat} {g : Bool} {n d : Nat} (h : 1023 < tpZ n d) : RW k g n d = Bt.wf g (pk (mUp k g 9007199254740991 3) 971) := by unfold RW; rw [if_neg (by omega)]
theorem RW_mid {k : Nat} {g : Bool} {n d : Nat} (h : tpZ n d ≤ 1023) : RW k g n d = Bt.wf g (pk (mUp k g (rMq n d (rqZ n d)) (rsW (rLq n d (rqZ n d)) (rY d (rqZ n d)))) (rqZ n d)) := by unfold RW; rw [if_pos h]
theorem RW_lo {k : Nat} {g : Bool} {n d : Nat} (hn : n ≠ 0) (hd : d ≠ 0) (h : tpZ n d < -1075) : RW k g n d = Bt.wf g (pk (mUp k g 0 1) (-1074)) := by
  obtain ⟨h1, h2, h3⟩ := rMq_tiny hn hd h
  rw [RW_mid (by omega), h1, h2, h3]
theorem rsW_b (L D : Nat) : 0 ≤ rsW L D ∧ rsW L D ≤ 3 := by
  obtain ⟨u1, u2⟩ := cmp_b (L * 2) D
  by_cases h : L = 0
  · rw [h, rsW_0]; omega
  · rw [rsW_n h]; omega
theorem PRnd_Near (g : Bool) (n d : Nat) (w : World) (hG : Globs glT w) (hn : fits n) (hd : fits d) (h0 : n ≠ 0) (hd0 : d ≠ 0) (hM : ∀ w, Calls Tryz.prog 18 #[.agg #[.bool g, .string (natS n), .string (natS d)]] w fun e w' => e = .returned (.bool true) ∧ Below w.heap.size w w') :
    Calls Tryz.prog 89 #[.agg #[.bool g, .string (natS n), .string (natS d)], .func (.func 90) #[] #[]] w fun e w' => e = .returned (.tuple #[.float .f64 (RW 0 g n d), .int .i64 0]) ∧ Below w.heap.size w w' := by
  by_cases c1 : 1023 < tpZ n d
  · rw [RW_hi c1]
    exact PRnd_hi _ _ g n d w hn hd h0 c1 hM (fun w' hb => RHuge_Near g w' (hG.below hb (Nat.le_refl _)))
  · by_cases c2 : tpZ n d < -1075
    · rw [RW_lo h0 hd0 c2]
      refine PRnd_lo _ _ g n d w hn hd h0 c2 ?_ hM (fun w' hb => RF_Near_c g 0 (-1074) 1 w' (hG.below hb (Nat.le_refl _)) (by omega) (by omega) (by omega) (by omega) (Or.inr rfl))
      obtain ⟨u1, u2, u3, u4⟩ := tp_spec h0 hd0
      have b2 := bits_131072' hd
      omega
    · rw [RW_mid (by omega)]
      obtain ⟨v1, v2⟩ := rqZ_b n d (by omega)
      exact PRnd_mid _ _ g n d w hn hd h0 hd0 (by omega) (by omega) hM (fun w' hb => RF_Near_c g _ _ _ w' (hG.below hb (Nat.le_refl _)) (rsW_b _ _) (rMq_lt h0 hd0) v1 v2 (rMq_norm h0 hd0))
theorem PRnd_Below (g : Bool) (n d : Nat) (w : World) (hG : Globs glT w) (hn : fits n) (hd : fits d) (h0 : n ≠ 0) (hd0 : d ≠ 0) (hM : ∀ w, Calls Tryz.prog 18 #[.agg #[.bool g, .string (natS n), .string (natS d)]] w fun e w' => e = .returned (.bool true) ∧ Below w.heap.size w w') :
    Calls Tryz.prog 89 #[.agg #[.bool g, .string (natS n), .string (natS d)], .func (.func 91) #[] #[]] w fun e w' => e = .returned (.tuple #[.float .f64 (RW 1 g n d), .int .i64 0]) ∧ Below w.heap.size w w' := by
  by_cases c1 : 1023 < tpZ n d
  · rw [RW_hi c1]
    exact PRnd_hi _ _ g n d w hn hd h0 c1 hM (fun w' hb => RHuge_Below g w' (hG.below hb (Nat.le_refl _)))
  · by_cases c2 : tpZ n d < -1075
    · rw [RW_lo h0 hd0 c2]
      refine PRnd_lo _ _ g n d w hn hd h0 c2 ?_ hM (fun w' hb => RF_Below_c g 0 (-1074) 1 w' (hG.below hb (Nat.le_refl _)) (by omega) (by omega) (by omega) (by omega) (Or.inr rfl))
      obtain ⟨u1, u2, u3, u4⟩ := tp_spec h0 hd0
      have b2 := bits_131072' hd
      omega
    · rw [RW_mid (by omega)]
      obtain ⟨v1, v2⟩ := rqZ_b n d (by omega)
      exact PRnd_mid _ _ g n d w hn hd h0 hd0 (by omega) (by omega) hM (fun w' hb => RF_Below_c g _ _ _ w' (hG.below hb (Nat.le_refl _)) (rsW_b _ _) (rMq_lt h0 hd0) v1 v2 (rMq_norm h0 hd0))
theorem PRnd_Above (g : Bool) (n d : Nat) (w : World) (hG : Globs glT w) (hn : fits n) (hd : fits d) (h0 : n ≠ 0) (hd0 : d ≠ 0) (hM : ∀ w, Calls Tryz.prog 18 #[.agg #[.bool g, .string (natS n), .string (natS d)]] w fun e w' => e = .returned (.bool true) ∧ Below w.heap.size w w') :
    Calls Tryz.prog 89 #[.agg #[.bool g, .string (natS n), .string (natS d)], .func (.func 92) #[] #[]] w fun e w' => e = .returned (.tuple #[.float .f64 (RW 2 g n d), .int .i64 0]) ∧ Below w.heap.size w w' := by
  by_cases c1 : 1023 < tpZ n d
  · rw [RW_hi c1]
    exact PRnd_hi _ _ g n d w hn hd h0 c1 hM (fun w' hb => RHuge_Above g w' (hG.below hb (Nat.le_refl _)))
  · by_cases c2 : tpZ n d < -1075
    · rw [RW_lo h0 hd0 c2]
      refine PRnd_lo _ _ g n d w hn hd h0 c2 ?_ hM (fun w' hb => RF_Above_c g 0 (-1074) 1 w' (hG.below hb (Nat.le_refl _)) (by omega) (by omega) (by omega) (by omega) (Or.inr rfl))
      obtain ⟨u1, u2, u3, u4⟩ := tp_spec h0 hd0
      have b2 := bits_131072' hd
      omega
    · rw [RW_mid (by omega)]
      obtain ⟨v1, v2⟩ := rqZ_b n d (by omega)
      exact PRnd_mid _ _ g n d w hn hd h0 hd0 (by omega) (by omega) hM (fun w' hb => RF_Above_c g _ _ _ w' (hG.below hb (Nat.le_refl _)) (rsW_b _ _) (rMq_lt h0 hd0) v1 v2 (rMq_norm h0 hd0))
set_option maxRecDepth 100000 in
theorem PRnd_no (F : Value) (r : Rx) (w : World) (h : r.No) :
    Calls Tryz.prog 89 #[.agg #[.bool r.g, .string r.s, .string r.t], F] w fun e w' => e = .returned (.tuple #[.float .f64 0, .int .i64 2]) ∧ Below w.heap.size w w' := by
  have T0 := BL.start1 w (.bool r.g) (.string r.s) (.string r.t) 24
  have K1 := Lib.hid (fun w => PMay_no r w h)
  clear h
  go_enter Tryz.func89, Tryz.ntmps89
  go_wp2_with (first | (go_at_call 18; (with_reducible refine (K1.out _).mono ?_); rintro ee w1 ⟨rfl, hb⟩; replace T0 := T0.step hb; clear hb))
  go_ret2
  exact ⟨rfl, T0.1⟩
set_option maxRecDepth 100000 in
theorem PRnd_zero (F : Value) (g : Bool) (d : Nat) (w : World) (hM : ∀ w, Calls Tryz.prog 18 #[.agg #[.bool g, .string (natS 0), .string (natS d)]] w fun e w' => e = .returned (.bool true) ∧ Below w.heap.size w w') :
    Calls Tryz.prog 89 #[.agg #[.bool g, .string (natS 0), .string (natS d)], F] w fun e w' => e = .returned (.tuple #[.float .f64 0, .int .i64 0]) ∧ Below w.heap.size w w' := by
  have T0 := BL.start1 w (.bool g) (.string (natS 0)) (.string (natS d)) 24
  have K1 := Lib.hid hM
  have e1 : (natS 0).toList = [] := natS_empty rfl
  clear hM
  go_enter Tryz.func89, Tryz.ntmps89
  go_wp2_with (first | (go_at_call 18; (with_reducible refine (K1.out _).mono ?_); rintro ee w1 ⟨rfl, hb⟩; replace T0 := T0.step hb; obtain ⟨p0, p1, p2, p3, p4, p5, p6⟩ := T0.box0; clear hb))
  go_ret2
  exact ⟨rfl, T0.1⟩
/-- The float of a ratio. -/
@[irreducible] noncomputable def QW (k : Nat) (q : Rat) : Nat := if qN q = 0 then 0 else RW k (qG q) (qN q) (qD q)
theorem PFloat_c (q : Rat) (w : World) (hG : Globs glT w) (h : qfits q) :
    Calls Tryz.prog 35 #[qv q] w fun e w' => e = .returned (.tuple #[.float .f64 (QW 0 q), .int .i64 0]) ∧ Below w.heap.size w w' := by
  have T0 := BL.start1 w (.bool (qG q)) (.string (natS (qN q))) (.string (natS (qD q))) 24
  have hb0 := T0.1
  have hG2 := Lib.hid hG
  have K : Hid (∀ w, Globs glT w → Calls Tryz.prog 89 #[qv q, .func (.func 90) #[] #[]] w fun e w' => e = .returned (.tuple #[.float .f64 (QW 0 q), .int .i64 0]) ∧ Below w.heap.size w w') := Lib.hid (fun w hG => by
    have hM := fun w => PMay_yes q w h
    by_cases h0 : qN q = 0
    · have e : QW 0 q = 0 := by unfold QW; exact if_pos h0
      rw [e]
      unfold qv at hM ⊢
      rw [h0] at hM ⊢
      exact PRnd_zero _ _ _ w hM
    · have e : QW 0 q = RW 0 (qG q) (qN q) (qD q) := by unfold QW; exact if_neg h0
      rw [e]
      exact PRnd_Near _ _ _ w hG h.1 h.2 h0 (qD_pos q) hM)
  clear hG h
  generalize QW 0 q = z at *
  unfold qv at *
  go_enter Tryz.func35, Tryz.ntmps35
  go_wp2_with (first | (go_at_call 89; (with_reducible refine (K.out _ (hG2.out.below hb0 (Nat.le_refl _))).mono ?_); rintro ee w1 ⟨rfl, hb⟩; replace T0 := T0.step hb; clear hb))
  go_ret2
  exact ⟨rfl, T0.1⟩
theorem PFloat_no (r : Rx) (w : World) (h : r.No) :
    Calls Tryz.prog 35 #[.agg #[.bool r.g, .string r.s, .string r.t]] w fun e w' => e = .returned (.tuple #[.float .f64 0, .int .i64 2]) ∧ Below w.heap.size w w' := by
  have T0 := BL.start1 w (.bool r.g) (.string r.s) (.string r.t) 24
  have K := Lib.hid (fun w => PRnd_no (.func (.func 90) #[] #[]) r w h)
  clear h
  go_enter Tryz.func35, Tryz.ntmps35
  go_wp2_with (first | (go_at_call 89; (with_reducible refine (K.out _).mono ?_); rintro ee w1 ⟨rfl, hb⟩; replace T0 := T0.step hb; clear hb))
  go_ret2
  exact ⟨rfl, T0.1⟩
theorem PBelow_c (q : Rat) (w : World) (hG : Globs glT w) (h : qfits q) :
    Calls Tryz.prog 36 #[qv q] w fun e w' => e = .returned (.tuple #[.float .f64 (QW 1 q), .int .i64 0]) ∧ Below w.heap.size w w' := by
  have T0 := BL.start1 w (.bool (qG q)) (.string (natS (qN q))) (.string (natS (qD q))) 24
  have hb0 := T0.1
  have hG2 := Lib.hid hG
  have K : Hid (∀ w, Globs glT w → Calls Tryz.prog 89 #[qv q, .func (.func 91) #[] #[]] w fun e w' => e = .returned (.tuple #[.float .f64 (QW 1 q), .int .i64 0]) ∧ Below w.heap.size w w') := Lib.hid (fun w hG => by
    have hM := fun w => PMay_yes q w h
    by_cases h0 : qN q = 0
    · have e : QW 1 q = 0 := by unfold QW; exact if_pos h0
      rw [e]
      unfold qv at hM ⊢
      rw [h0] at hM ⊢
      exact PRnd_zero _ _ _ w hM
    · have e : QW 1 q = RW 1 (qG q) (qN q) (qD q) := by unfold QW; exact if_neg h0
      rw [e]
      exact PRnd_Below _ _ _ w hG h.1 h.2 h0 (qD_pos q) hM)
  clear hG h
  generalize QW 1 q = z at *
  unfold qv at *
  go_enter Tryz.func36, Tryz.ntmps36
  go_wp2_with (first | (go_at_call 89; (with_reducible refine (K.out _ (hG2.out.below hb0 (Nat.le_refl _))).mono ?_); rintro ee w1 ⟨rfl, hb⟩; replace T0 := T0.step hb; clear hb))
  go_ret2
  exact ⟨rfl, T0.1⟩
theorem PBelow_no (r : Rx) (w : World) (h : r.No) :
    Calls Tryz.prog 36 #[.agg #[.bool r.g, .string r.s, .string r.t]] w fun e w' => e = .returned (.tuple #[.float .f64 0, .int .i64 2]) ∧ Below w.heap.size w w' := by
  have T0 := BL.start1 w (.bool r.g) (.string r.s) (.string r.t) 24
  have K := Lib.hid (fun w => PRnd_no (.func (.func 91) #[] #[]) r w h)
  clear h
  go_enter Tryz.func36, Tryz.ntmps36
  go_wp2_with (first | (go_at_call 89; (with_reducible refine (K.out _).mono ?_); rintro ee w1 ⟨rfl, hb⟩; replace T0 := T0.step hb; clear hb))
  go_ret2
  exact ⟨rfl, T0.1⟩
theorem PAbove_c (q : Rat) (w : World) (hG : Globs glT w) (h : qfits q) :
    Calls Tryz.prog 37 #[qv q] w fun e w' => e = .returned (.tuple #[.float .f64 (QW 2 q), .int .i64 0]) ∧ Below w.heap.size w w' := by
  have T0 := BL.start1 w (.bool (qG q)) (.string (natS (qN q))) (.string (natS (qD q))) 24
  have hb0 := T0.1
  have hG2 := Lib.hid hG
  have K : Hid (∀ w, Globs glT w → Calls Tryz.prog 89 #[qv q, .func (.func 92) #[] #[]] w fun e w' => e = .returned (.tuple #[.float .f64 (QW 2 q), .int .i64 0]) ∧ Below w.heap.size w w') := Lib.hid (fun w hG => by
    have hM := fun w => PMay_yes q w h
    by_cases h0 : qN q = 0
    · have e : QW 2 q = 0 := by unfold QW; exact if_pos h0
      rw [e]
      unfold qv at hM ⊢
      rw [h0] at hM ⊢
      exact PRnd_zero _ _ _ w hM
    · have e : QW 2 q = RW 2 (qG q) (qN q) (qD q) := by unfold QW; exact if_neg h0
      rw [e]
      exact PRnd_Above _ _ _ w hG h.1 h.2 h0 (qD_pos q) hM)
  clear hG h
  generalize QW 2 q = z at *
  unfold qv at *
  go_enter Tryz.func37, Tryz.ntmps37
  go_wp2_with (first | (go_at_call 89; (with_reducible refine (K.out _ (hG2.out.below hb0 (Nat.le_refl _))).mono ?_); rintro ee w1 ⟨rfl, hb⟩; replace T0 := T0.step hb; clear hb))
  go_ret2
  exact ⟨rfl, T0.1⟩
theorem PAbove_no (r : Rx) (w : World) (h : r.No) :
    Calls Tryz.prog 37 #[.agg #[.bool r.g, .string r.s, .string r.t]] w fun e w' => e = .returned (.tuple #[.float .f64 0, .int .i64 2]) ∧ Below w.heap.size w w' := by
  have T0 := BL.start1 w (.bool r.g) (.string r.s) (.string r.t) 24
  have K := Lib.hid (fun w => PRnd_no (.func (.func 92) #[] #[]) r w h)
  clear h
  go_enter Tryz.func37, Tryz.ntmps37
  go_wp2_with (first | (go_at_call 89; (with_reducible refine (K.out _).mono ?_); rintro ee w1 ⟨rfl, hb⟩; replace T0 := T0.step hb; clear hb))
  go_ret2
  exact ⟨rfl, T0.1⟩
end Go.Proofs.YtajcapliokblfaaGreatDoor
set_option linter.unusedSimpArgs false
set_option linter.unusedVariables false
namespace Go.Proofs.YtajcapliokblfaaGreatDoor
open Go Go.RowKit Nt
/-- The float below a fraction, its last place, what is left; above all floats the greatest one. -/
@[irreducible] def aM (n d : Nat) : Nat := if tpZ n d ≤ 1023 then rMq n d (rqZ n d) else 9007199254740991
@[irreducible] def aQ (n d : Nat) : Int := if tpZ n d ≤ 1023 then rqZ n d else 971
@[irreducible] def aR (n d : Nat) : Int := if tpZ n d ≤ 1023 then rsW (rLq n d (rqZ n d)) (rY d (rqZ n d)) else 3
theorem a_hi {n d : Nat} (h : 1023 < tpZ n d) : aM n d = 9007199254740991 ∧ aQ n d = 971 ∧ aR n d = 3 := by
  unfold aM aQ aR; rw [if_neg (by omega), if_neg (by omega), if_neg (by omega)]; exact ⟨rfl, rfl, rfl⟩
theorem a_mid {n d : Nat} (h : tpZ n d ≤ 1023) : aM n d = rMq n d (rqZ n d) ∧ aQ n d = rqZ n d ∧ aR n d = rsW (rLq n d (rqZ n d)) (rY d (rqZ n d)) := by
  unfold aM aQ aR; rw [if_pos h, if_pos h, if_pos h]; exact ⟨rfl, rfl, rfl⟩
theorem RW_a (k : Nat) (g : Bool) (n d : Nat) : RW k g n d = Bt.wf g (pk (mUp k g (aM n d) (aR n d)) (aQ n d)) := by
  by_cases h : 1023 < tpZ n d
  · obtain ⟨e1, e2, e3⟩ := a_hi h
    rw [RW_hi h, e1, e2, e3]
  · obtain ⟨e1, e2, e3⟩ := a_mid (show tpZ n d ≤ 1023 by omega)
    rw [RW_mid (by omega), e1, e2, e3]
theorem wf_false (x : Nat) : Bt.wf false x = x := by rw [Bt.wf_eq]; rfl
/-- The document's Make of a float's magnitude. -/
theorem rMk_ok (m : Nat) (q : Int) (w : World) (h1 : m ≤ 9007199254740992) (hq : -1074 ≤ q) (hq2 : q ≤ 971) (hm : 4503599627370496 ≤ m ∨ q = -1074) (hn : ¬ (m = 9007199254740992 ∧ q = 971)) :
    Calls Tryz.prog 148 #[.bool false, .int .u64 (m : Nat), .int .i64 q] w fun r w' => r = .returned (.tuple #[.float .f64 (pk m q), .bool true]) ∧ w = w' := by
  by_cases h0 : m = 0
  · have hq0 : q = -1074 := by omega
    subst h0 hq0
    have e : pk 0 (-1074) = 0 := by rw [pk_eq]; decide
    rw [e]
    have h := Bt.rMake_zero false (-1074) w
    rwa [wf_false] at h
  · obtain ⟨k1, k2⟩ := mk_pk (by omega) h1 hq hq2 hm hn
    have h := Bt.rMake_ok false m (by omega) (by omega) q (by omega) (by omega) k1 w
    rwa [k2, wf_false] at h
theorem rMk_no (w : World) :
    Calls Tryz.prog 148 #[.bool false, .int .u64 9007199254740992, .int .i64 971] w fun r w' => r = .returned (.tuple #[.float .f64 0, .bool false]) ∧ w = w' := by
  refine Bt.rMake_bad false 9007199254740992 (by omega) (by omega) 971 (by omega) (by omega) (fun c => ?_) w
  have e1 : Bt.od 9007199254740992 = 1 := by decide +kernel
  have e2 : Bt.tz 9007199254740992 = 53 := by decide +kernel
  have e3 : Lib.bitLen 1 = 1 := by decide +kernel
  unfold Bt.mkOk at c
  rw [e1, e2, e3] at c
  omega
theorem Inf_14 (w : World) : Calls Tryz.prog 146 #[.int .i64 1] w fun e w' => e = .returned (.float .f64 9218868437227405312) ∧ w = w' := by
  have h12 : ∀ w, (callFunc 52 #[.int .u64 9218868437227405312]).run Tryz.prog w = .ok (.value (.float .f64 9218868437227405312)) w := fun w => by kernel_rfl
  go_enter Tryz.func146, Tryz.ntmps146
  go_wp2
  go_ret
  exact ⟨rfl, rfl⟩
theorem mul_bytes (a k : Nat) : nd 256 (a * 2 ^ k) ≤ nd 256 a + (k / 8 + 1) := by
  refine nd_le (by omega) ?_
  rw [Nat.pow_add]
  refine Nat.mul_lt_mul_of_lt_of_le (lt_nd (by omega)) ?_ (Nat.pow_pos (by omega))
  rw [show (256 : Nat) = 2 ^ 8 from rfl, ← Nat.pow_mul]
  exact Nat.pow_le_pow_right (by omega) (by omega)
theorem rShift_to (a k : Nat) (w : World) (hb : nd 256 a ≤ 2600) (hk : k ≤ 8000) :
    Calls Tryz.prog 66 #[.string (natS a), .int .i64 (k : Nat)] w (StrPost (natS (a * 2 ^ k)) 0 w) := by
  have hf : fits (a * 2 ^ k) := by
    unfold fits
    refine Nat.le_trans (mul_bytes a k) ?_
    omega
  by_cases h0 : a = 0 ∨ k = 0
  · have e : a * 2 ^ k = a := by rcases h0 with rfl | rfl <;> simp
    rw [e]
    exact rShift_same a k w (by rcases h0 with h | h; exact Or.inl h; exact Or.inr (by omega))
  · have h := rShift_up a k w (fun c => h0 (Or.inl c)) (fun c => h0 (Or.inr c)) (by unfold fits; omega)
    rwa [resS_ok hf, resE_ok hf] at h
end Go.Proofs.YtajcapliokblfaaGreatDoor
set_option linter.unusedSimpArgs false
set_option linter.unusedVariables false
namespace Go.Proofs.YtajcapliokblfaaGreatDoor
open Go Go.RowKit Nt
set_option maxRecDepth 100000 in
set_option maxHeartbeats 400000 in
theorem rSmall_c (n : Nat) (w : World) (hf : fits n) (hz : (natS n).size ≤ 9223372036854775807) :
    Calls Tryz.prog 147 #[.string (natS n)] w fun e w' => e = .returned (.tuple #[.int .u64 (brN n : Nat), .bool (brB n)]) ∧ w = w' := by
  have hsz := natS_size n
  have hmay := Lib.hid (fun w => rMay_c (natS n) w hz)
  have hmb := mayB_yes ((may_natS n).2 hf)
  unfold fits at hf
  by_cases h : nd 256 n ≤ 8
  · have HB := Lib.hid (brB_yes h)
    have HN := Lib.hid (brN_yes h)
    have hlt8 : n < 18446744073709551616 := br_lt.1 h
    have HL := Lib.hid hlt8
    have h8 : ¬ 8 < nd 256 n := by omega
    clear hlt8 hz
    go_enter Tryz.func147, Tryz.ntmps147
    go_wp2_with (go_at_call 61; refine (hmay.out _).mono ?_; rintro e w' ⟨rfl, rfl⟩)
    go_loop [4, 5] (fun v i => ∃ k : Nat, k ≤ nd 256 n ∧ i = .int .i64 k ∧ v = .int .u64 (preN n k : Nat)) (fun _ i => nd 256 n - (intOf i).toNat)
    case atStart => exact ⟨0, Nat.zero_le _, rfl, by rw [preN_zero]; rfl⟩
    case round =>
      obtain ⟨k, hk, rfl, rfl⟩ := hrel
      by_cases hlt : k < nd 256 n
      · have hks : k < (natS n).size := by omega
        have e := natS_get n k hks
        have es := preN_succ n k hlt
        have hp1 := preN_le n (k + 1)
        have hHL := HL.out
        have hb := (natS n)[k].toNat_lt
        have e1 : IntKind.u64.wrap (256 * (preN n k : Nat)) = ((256 * preN n k : Nat) : Int) := by rw [IntKind.wrap_u64]; omega
        have e2 : IntKind.u64.wrap (((natS n)[k].toNat : Nat) : Int) = (((natS n)[k].toNat : Nat) : Int) := by rw [IntKind.wrap_u64]; omega
        have e3 : IntKind.u64.wrap (256 * (preN n k : Int) + (((natS n)[k].toNat : Nat) : Int)) = ((preN n (k + 1) : Nat) : Int) := by rw [IntKind.wrap_u64]; omega
        have E := Lib.hid e
        have ES := Lib.hid es
        clear e es hp1 hHL
        go_wp2
        go_round
        case rel => exact ⟨k + 1, by omega, by go_num, by first | rfl | rw [e3]⟩
        case measure => simp [intOf]; omega
      · obtain rfl : k = nd 256 n := by omega
        rw [preN_full]
        go_wp2
        go_ret2
        exact ⟨by rw [HB.out, HN.out]; rfl, rfl⟩
  · have HB := Lib.hid (brB_no h)
    have HN := Lib.hid (brN_no h)
    have h8 : 8 < nd 256 n := by omega
    have h8I : (8 : Int) < (nd 256 n : Int) := by omega
    clear hz
    go_enter Tryz.func147, Tryz.ntmps147
    go_wp2_with (go_at_call 61; refine (hmay.out _).mono ?_; rintro e w' ⟨rfl, rfl⟩)
    go_ret2
    exact ⟨by rw [HB.out, HN.out]; rfl, rfl⟩
end Go.Proofs.YtajcapliokblfaaGreatDoor
set_option linter.unusedSimpArgs false
set_option linter.unusedVariables false
namespace Go.Proofs.YtajcapliokblfaaGreatDoor
open Go Go.RowKit Nt
/-- Is the float below even? -/
@[irreducible] def aE (n d : Nat) : Bool := decide (aM n d % 2 = 0)
theorem pk_inf : pk 9007199254740992 971 = 9218868437227405312 := by rw [pk_eq]; decide
theorem pk_most : pk 9007199254740991 971 = 9218868437227405311 := by rw [pk_eq]; decide
def ARes (n d : Nat) : Value := .tuple #[.float .f64 (pk (aM n d) (aQ n d)), .float .f64 (pk (aM n d + 1) (aQ n d)), .int .i64 (aR n d - 2), .bool (aE n d)]
theorem ARes_hi {n d : Nat} (h : 1023 < tpZ n d) : ARes n d = .tuple #[.float .f64 9218868437227405311, .float .f64 9218868437227405312, .int .i64 1, .bool false] := by
  obtain ⟨e1, e2, e3⟩ := a_hi h
  unfold ARes aE
  rw [e1, e2, e3, pk_most, pk_inf]
  rfl
set_option maxRecDepth 100000 in
set_option maxHeartbeats 2000000 in
theorem rAround4_c (g : Bool) (n d : Nat) (w : World) (h0 : n ≠ 0) (hd0 : d ≠ 0) (h1 : nd 256 n ≤ 2400) (h2 : nd 256 d ≤ 2400) :
    Calls Tryz.prog 94 #[.agg #[.bool g, .string (natS n), .string (natS d)]] w fun e w' => e = .returned (ARes n d) ∧ Below w.heap.size w w' := by
  have T0 := BL.start1 w (.bool g) (.string (natS n)) (.string (natS d)) 24
  obtain ⟨p0, p1, p2, p3, p4, p5, p6⟩ := T0.box0
  have b1 : nd 2 n ≤ 19200 := by have := bytes_bits n; omega
  have b2 : nd 2 d ≤ 19200 := by have := bytes_bits d; omega
  have KL1 := Lib.hid fun w => rLen_c n w (by unfold fits; omega)
  have KL2 := Lib.hid fun w => rLen_c d w (by unfold fits; omega)
  obtain ⟨s, hs⟩ : ∃ s : Int, s = max (-1074) ((nd 2 n : Int) - nd 2 d - 54) := ⟨_, rfl⟩
  have hw1 : IntKind.i64.wrap ((nd 2 n : Int) - nd 2 d) = (nd 2 n : Int) - nd 2 d := IntWalk.i64_in _ ⟨by omega, by omega⟩
  have hw2 : IntKind.i64.wrap ((nd 2 n : Int) - nd 2 d - 54) = (nd 2 n : Int) - nd 2 d - 54 := IntWalk.i64_in _ ⟨by omega, by omega⟩
  have hm1 : max (-1074) ((nd 2 n : Int) - nd 2 d - 54) = s := hs.symm
  obtain ⟨t1, t2, t3, t4⟩ := tp_spec h0 hd0
  have SB : s ≤ 30000 := by omega
  have HS := Lib.hid (show s ≤ rqZ n d ∧ -1074 ≤ s by unfold rqZ; omega)
  have HRes := Lib.hid (show ARes n d = ARes n d from rfl)
  clear hs t1 t2 t3 t4 b1 b2
  go_enter Tryz.func94, Tryz.ntmps94
  go_wp2_with fail
  go_quiet (fail)
  replace T0 := T0.drawn nq
  have TB := Lib.hid T0.1
  clear p0 p1 p2 p3 p4 p5 p6 T0
  revert TB
  generalize World.drewN _ _ = w1
  intro TB
  go_wp2_with (first
    | (go_at_call 145; (with_reducible refine (KL1.out _).mono ?_); rintro ee wx ⟨rfl, rfl⟩)
    | (go_at_call 145; (with_reducible refine (KL2.out _).mono ?_); rintro ee wx ⟨rfl, rfl⟩))
  clear hw1 hw2 hm1 KL1 KL2 HRes
  have HN := Lib.hid h1
  have HD := Lib.hid h2
  have HN0 := Lib.hid h0
  have HD0 := Lib.hid hd0
  clear h1 h2 h0 hd0
  go_loopw [8] (fun v wr => ∃ z : Int, v = .int .i64 z ∧ -1074 ≤ z ∧ z ≤ 30000 ∧ Hid (z ≤ rqZ n d) ∧ Hid (Below w.heap.size w wr)) (fun v _ => (972 - intOf v).toNat)
  case atStart => exact ⟨s, rfl, HS.out.2, SB, Lib.hid HS.out.1, TB⟩
  case round =>
    obtain ⟨z, rfl, hz1, hz2, HZ, HB⟩ := hrel
    by_cases c1 : 971 < z
    · have hT : 1023 < tpZ n d := by have := HZ.out; unfold rqZ at this; omega
      have HR := Lib.hid (ARes_hi hT)
      clear hT HZ
      go_wp2_with (first | (go_at_call 146; (with_reducible refine (Inf_14 _).mono ?_); rintro ee wx ⟨rfl, rfl⟩))
      refine bodyPost_ret (v := .tuple #[.float .f64 9218868437227405311, .float .f64 9218868437227405312, .int .i64 1, .bool false]) (by simp [results, Tryz.results94, go_sem]) rfl ⟨by rw [HR.out], HB.out⟩
    · obtain ⟨k1, hk1⟩ : ∃ k : Nat, (k : Int) = max 0 (-z) := ⟨(max 0 (-z)).toNat, by omega⟩
      obtain ⟨k2, hk2⟩ : ∃ k : Nat, (k : Int) = max 0 z := ⟨(max 0 z).toNat, by omega⟩
      have er1 : rk1 z = k1 := by unfold rk1; omega
      have er2 : rk2 z = k2 := by unfold rk2; omega
      obtain ⟨X, hX⟩ : ∃ X, X = rX n z := ⟨_, rfl⟩
      obtain ⟨Y, hY⟩ : ∃ Y, Y = rY d z := ⟨_, rfl⟩
      obtain ⟨M, hM⟩ : ∃ M, M = rMq n d z := ⟨_, rfl⟩
      obtain ⟨L, hL⟩ : ∃ L, L = rLq n d z := ⟨_, rfl⟩
      have hX2 : n * 2 ^ k1 = X := by rw [hX]; unfold rX; rw [er1]
      have hY2 : d * 2 ^ k2 = Y := by rw [hY]; unfold rY; rw [er2]
      have hXb : nd 256 X ≤ 2600 := by rw [← hX2]; have := mul_bytes n k1; have := HN.out; omega
      have hYb : nd 256 Y ≤ 2600 := by rw [← hY2]; have := mul_bytes d k2; have := HD.out; omega
      have hY0 : Y ≠ 0 := by rw [hY]; exact rY_pos HD0.out z
      have hMX : M = X / Y := by rw [hM, hX, hY]; rfl
      have hLX : L = X % Y := by rw [hL, hX, hY]; rfl
      have hMb : nd 256 M ≤ 2600 := by rw [hMX]; exact Nat.le_trans (ndB_mono (Nat.div_le_self _ _)) hXb
      have hLb : nd 256 L ≤ 2600 := by rw [hLX]; exact Nat.le_trans (ndB_mono (Nat.le_of_lt (Nat.mod_lt _ (Nat.pos_of_ne_zero hY0)))) hYb
      have KX : Hid (∀ w, Calls Tryz.prog 66 #[.string (natS n), .int .i64 (k1 : Nat)] w (StrPost (natS X) 0 w)) := Lib.hid fun w => by rw [← hX2]; exact rShift_to n k1 w (Nat.le_trans HN.out (by omega)) (by omega)
      have KY : Hid (∀ w, Calls Tryz.prog 66 #[.string (natS d), .int .i64 (k2 : Nat)] w (StrPost (natS Y) 0 w)) := Lib.hid fun w => by rw [← hY2]; exact rShift_to d k2 w (Nat.le_trans HD.out (by omega)) (by omega)
      have KD : Hid (∀ w, Calls Tryz.prog 93 #[.string (natS X), .string (natS Y)] w (Str2Post (natS M) (natS L) 0 w)) := Lib.hid fun w => by rw [hMX, hLX]; exact rDiv_c X Y w hY0 (by omega) (by omega)
      have KSm : Hid (∀ w, Calls Tryz.prog 147 #[.string (natS M)] w fun e w' => e = .returned (.tuple #[.int .u64 (brN M : Nat), .bool (brB M)]) ∧ w = w') := Lib.hid fun w => rSmall_c M w (by unfold fits; omega) (by rw [natS_size]; omega)
      have hw2 : IntKind.i64.wrap (-z) = -z := IntWalk.i64_in _ ⟨by omega, by omega⟩
      have hm1 : max 0 (-z) = (k1 : Int) := hk1.symm
      have hm2 : max 0 z = (k2 : Int) := hk2.symm
      have hw3 : IntKind.i64.wrap (z + 1) = z + 1 := IntWalk.i64_in _ ⟨by omega, by omega⟩
      by_cases c2 : z < rqZ n d
      · have hbig : 9007199254740992 ≤ M := by rw [hM]; exact rMq_big HN0.out HD0.out hz1 c2
        have HZ2 := Lib.hid (show z + 1 ≤ rqZ n d by omega)
        clear c2 HZ hk1 hk2 er1 er2 hX hY hM hL hX2 hY2 hXb hYb hY0 hMX hLX hMb hLb
        by_cases c3 : M < 18446744073709551616
        · have e1 := brN_yes (br_lt.2 c3)
          have e2 := brB_yes (br_lt.2 c3)
          rw [e1, e2] at KSm
          have hbI : (9007199254740992 : Int) ≤ (M : Int) := by omega
          have hbJ : ¬ (M : Int) < 9007199254740992 := by omega
          clear e1 e2 hbig c3
          go_wp2_with (first
            | (go_at_call 66; (with_reducible refine (KX.out _).mono ?_); rintro ee wa ⟨rfl, hb⟩; replace HB := Lib.hid (below_chain HB.out hb); clear hb)
            | (go_at_call 66; (with_reducible refine (KY.out _).mono ?_); rintro ee wb ⟨rfl, hb⟩; replace HB := Lib.hid (below_chain HB.out hb); clear hb)
            | (go_at_call 93; (with_reducible refine (KD.out _).mono ?_); rintro ee wc ⟨rfl, hb⟩; replace HB := Lib.hid (below_chain HB.out hb); clear hb)
            | (go_at_call 147; (with_reducible refine (KSm.out _).mono ?_); rintro ee wd ⟨rfl, rfl⟩))
          go_round
          case rel => exact ⟨z + 1, rfl, by omega, by omega, HZ2, HB⟩
          case measure => simp [intOf]; omega
        · have e1 := brN_no (fun c => c3 (br_lt.1 c))
          have e2 := brB_no (fun c => c3 (br_lt.1 c))
          rw [e1, e2] at KSm
          clear e1 e2 hbig c3
          go_wp2_with (first
            | (go_at_call 66; (with_reducible refine (KX.out _).mono ?_); rintro ee wa ⟨rfl, hb⟩; replace HB := Lib.hid (below_chain HB.out hb); clear hb)
            | (go_at_call 66; (with_reducible refine (KY.out _).mono ?_); rintro ee wb ⟨rfl, hb⟩; replace HB := Lib.hid (below_chain HB.out hb); clear hb)
            | (go_at_call 93; (with_reducible refine (KD.out _).mono ?_); rintro ee wc ⟨rfl, hb⟩; replace HB := Lib.hid (below_chain HB.out hb); clear hb)
            | (go_at_call 147; (with_reducible refine (KSm.out _).mono ?_); rintro ee wd ⟨rfl, rfl⟩))
          go_round
          case rel => exact ⟨z + 1, rfl, by omega, by omega, HZ2, HB⟩
          case measure => simp [intOf]; omega
      · have hz : z = rqZ n d := by have := HZ.out; omega
        have hT : tpZ n d ≤ 1023 := by unfold rqZ at hz; omega
        obtain ⟨a1, a2, a3⟩ := a_mid hT
        have hMs : M < 9007199254740992 := by rw [hM, hz]; exact rMq_lt HN0.out HD0.out
        have hMn : 4503599627370496 ≤ M ∨ z = -1074 := by rw [hM, hz]; exact rMq_norm HN0.out HD0.out
        rw [← hz, ← hM] at a1
        rw [← hz] at a2
        rw [← hz, ← hL, ← hY] at a3
        have HA : Hid (ARes n d = .tuple #[.float .f64 (pk M z), .float .f64 (pk (M + 1) z), .int .i64 (rsW L Y - 2), .bool (decide (M % 2 = 0))]) := Lib.hid (by unfold ARes aE; rw [a1, a2, a3])

        have e1 := brN_yes (br_lt.2 (show M < 18446744073709551616 by omega))
        have e2 := brB_yes (br_lt.2 (show M < 18446744073709551616 by omega))
        rw [e1, e2] at KSm
        have hbI : decide ((9007199254740992 : Int) ≤ (M : Int)) = false := decide_eq_false (by omega)
        have hbJ : decide ((M : Int) < 9007199254740992) = true := decide_eq_true (by omega)
        have KM1 : Hid (∀ w, Calls Tryz.prog 148 #[.bool false, .int .u64 (M : Nat), .int .i64 z] w fun r w' => r = .returned (.tuple #[.float .f64 (pk M z), .bool true]) ∧ w = w') := Lib.hid fun w => rMk_ok M z w (by omega) hz1 (by omega) hMn (by omega)
        have hev : ((M : Int) % 2 == 0) = decide (M % 2 = 0) := by
          rcases Nat.mod_two_eq_zero_or_one M with h | h
          · rw [h, beq_iff_eq.2 (by omega)]; rfl
          · rw [h, beq_eq_false_iff_ne.2 (by omega)]; rfl
        have hev2 : ((M : Int).tmod 2 == 0) = decide (M % 2 = 0) := by rw [Int.tmod_eq_emod_of_nonneg (by omega)]; exact hev
        obtain ⟨M1, hM1⟩ : ∃ M1, M1 = M + 1 := ⟨_, rfl⟩
        rw [← hM1] at HA
        have hw4 : IntKind.u64.wrap ((M : Int) + 1) = (M1 : Int) := by rw [IntWalk.u64_in _ ⟨by omega, by omega⟩]; omega
        have KM2 : Hid (∃ (v : Nat) (b : Bool), (∀ w, Calls Tryz.prog 148 #[.bool false, .int .u64 (M1 : Int), .int .i64 z] w fun r w' => r = .returned (.tuple #[.float .f64 v, .bool b]) ∧ w = w') ∧ (b = true ∧ v = pk M1 z ∨ b = false ∧ pk M1 z = 9218868437227405312)) := Lib.hid (by
          rw [hM1]
          by_cases c4 : M + 1 = 9007199254740992 ∧ z = 971
          · refine ⟨0, false, fun w => ?_, Or.inr ⟨rfl, ?_⟩⟩
            · rw [c4.1, c4.2]; exact rMk_no w
            · rw [c4.1, c4.2]; exact pk_inf
          · exact ⟨_, true, fun w => rMk_ok (M + 1) z w (by omega) hz1 (by omega) (by omega) c4, Or.inl ⟨rfl, rfl⟩⟩)
        have KSh : Hid (∀ w, Calls Tryz.prog 66 #[.string (natS L), .int .i64 1] w (StrPost (natS (L * 2)) 0 w)) := Lib.hid fun w => by
          have h := rShift_to L 1 w (by omega) (by omega)
          rwa [Nat.pow_one] at h
        have KC : Hid (∀ w, Calls Tryz.prog 84 #[.string (natS (L * 2)), .string (natS Y)] w fun e w' => e = .returned (.int .i64 (cmpN (L * 2) Y)) ∧ Drawn w w') := Lib.hid fun w => rCmp_c (L * 2) Y w (by unfold fits; have := mul_bytes L 1; rw [Nat.pow_one] at this; omega) (by unfold fits; omega)
        have hL0 : L = 0 ∨ L ≠ 0 := by omega
        have HEV := Lib.hid hev
        have HEV2 := Lib.hid hev2
        have HW4 := Lib.hid hw4
        clear hev hev2 hw4 hM1 hMs hz hT a1 a2 a3 e1 e2 hMn hk1 hk2 er1 er2 hX hY hM hL hX2 hY2 hXb hYb hY0 hMX hLX hMb hLb HZ c2
        obtain ⟨vv, bb, KM2a, hbb⟩ := KM2.out
        have KM3 := Lib.hid KM2a
        clear KM2a KM2
        rcases hL0 with hL0 | hL0
        · have el1 := natS_empty hL0
          have HR : Hid (rsW L Y - 2 = -2) := Lib.hid (by rw [hL0, rsW_0]; rfl)
          clear hL0 KSh KC
          rcases hbb with ⟨rfl, rfl⟩ | ⟨rfl, hinf⟩
          · generalize decide (M % 2 = 0) = ev at *
            go_upto_region 12 with (first
              | (go_at_call 66; (with_reducible refine (KX.out _).mono ?_); rintro ee wa ⟨rfl, hb⟩; replace HB := Lib.hid (below_chain HB.out hb); clear hb)
              | (go_at_call 66; (with_reducible refine (KY.out _).mono ?_); rintro ee wb ⟨rfl, hb⟩; replace HB := Lib.hid (below_chain HB.out hb); clear hb)
              | (go_at_call 66; (with_reducible refine (KSh.out _).mono ?_); rintro ee wb ⟨rfl, hb⟩; replace HB := Lib.hid (below_chain HB.out hb); clear hb)
              | (go_at_call 93; (with_reducible refine (KD.out _).mono ?_); rintro ee wc ⟨rfl, hb⟩; replace HB := Lib.hid (below_chain HB.out hb); clear hb)
              | (go_at_call 147; (with_reducible refine (KSm.out _).mono ?_); rintro ee wd ⟨rfl, rfl⟩)
              | (go_at_call 148; (with_reducible refine (KM1.out _).mono ?_); rintro ee wd ⟨rfl, rfl⟩)
              | (go_at_call 148; (with_reducible refine (KM3.out _).mono ?_); rintro ee wd ⟨rfl, rfl⟩)
              | (go_at_call 146; (with_reducible refine (Inf_14 _).mono ?_); rintro ee wx ⟨rfl, rfl⟩)
              | (go_at_call 84; (with_reducible refine (KC.out _).mono ?_); rintro ee we ⟨rfl, nn, rfl⟩))
            have hw4 := HW4.out
            have hev := HEV.out
            have hev2 := HEV2.out
            go_wp2_with (first
              | (go_at_call 66; (with_reducible refine (KX.out _).mono ?_); rintro ee wa ⟨rfl, hb⟩; replace HB := Lib.hid (below_chain HB.out hb); clear hb)
              | (go_at_call 66; (with_reducible refine (KY.out _).mono ?_); rintro ee wb ⟨rfl, hb⟩; replace HB := Lib.hid (below_chain HB.out hb); clear hb)
              | (go_at_call 66; (with_reducible refine (KSh.out _).mono ?_); rintro ee wb ⟨rfl, hb⟩; replace HB := Lib.hid (below_chain HB.out hb); clear hb)
              | (go_at_call 93; (with_reducible refine (KD.out _).mono ?_); rintro ee wc ⟨rfl, hb⟩; replace HB := Lib.hid (below_chain HB.out hb); clear hb)
              | (go_at_call 147; (with_reducible refine (KSm.out _).mono ?_); rintro ee wd ⟨rfl, rfl⟩)
              | (go_at_call 148; (with_reducible refine (KM1.out _).mono ?_); rintro ee wd ⟨rfl, rfl⟩)
              | (go_at_call 148; (with_reducible refine (KM3.out _).mono ?_); rintro ee wd ⟨rfl, rfl⟩)
              | (go_at_call 146; (with_reducible refine (Inf_14 _).mono ?_); rintro ee wx ⟨rfl, rfl⟩)
              | (go_at_call 84; (with_reducible refine (KC.out _).mono ?_); rintro ee we ⟨rfl, nn, rfl⟩))
            refine bodyPost_ret (v := .tuple #[.float .f64 (pk M z), .float .f64 (pk M1 z), .int .i64 (-2), .bool ev]) (by simp [results, Tryz.results94, go_sem]) rfl ⟨by rw [HA.out, HR.out], HB.out⟩
          · have HI := Lib.hid hinf
            clear hinf
            generalize decide (M % 2 = 0) = ev at *
            go_upto_region 12 with (first
              | (go_at_call 66; (with_reducible refine (KX.out _).mono ?_); rintro ee wa ⟨rfl, hb⟩; replace HB := Lib.hid (below_chain HB.out hb); clear hb)
              | (go_at_call 66; (with_reducible refine (KY.out _).mono ?_); rintro ee wb ⟨rfl, hb⟩; replace HB := Lib.hid (below_chain HB.out hb); clear hb)
              | (go_at_call 66; (with_reducible refine (KSh.out _).mono ?_); rintro ee wb ⟨rfl, hb⟩; replace HB := Lib.hid (below_chain HB.out hb); clear hb)
              | (go_at_call 93; (with_reducible refine (KD.out _).mono ?_); rintro ee wc ⟨rfl, hb⟩; replace HB := Lib.hid (below_chain HB.out hb); clear hb)
              | (go_at_call 147; (with_reducible refine (KSm.out _).mono ?_); rintro ee wd ⟨rfl, rfl⟩)
              | (go_at_call 148; (with_reducible refine (KM1.out _).mono ?_); rintro ee wd ⟨rfl, rfl⟩)
              | (go_at_call 148; (with_reducible refine (KM3.out _).mono ?_); rintro ee wd ⟨rfl, rfl⟩)
              | (go_at_call 146; (with_reducible refine (Inf_14 _).mono ?_); rintro ee wx ⟨rfl, rfl⟩)
              | (go_at_call 84; (with_reducible refine (KC.out _).mono ?_); rintro ee we ⟨rfl, nn, rfl⟩))
            have hw4 := HW4.out
            have hev := HEV.out
            have hev2 := HEV2.out
            go_wp2_with (first
              | (go_at_call 66; (with_reducible refine (KX.out _).mono ?_); rintro ee wa ⟨rfl, hb⟩; replace HB := Lib.hid (below_chain HB.out hb); clear hb)
              | (go_at_call 66; (with_reducible refine (KY.out _).mono ?_); rintro ee wb ⟨rfl, hb⟩; replace HB := Lib.hid (below_chain HB.out hb); clear hb)
              | (go_at_call 66; (with_reducible refine (KSh.out _).mono ?_); rintro ee wb ⟨rfl, hb⟩; replace HB := Lib.hid (below_chain HB.out hb); clear hb)
              | (go_at_call 93; (with_reducible refine (KD.out _).mono ?_); rintro ee wc ⟨rfl, hb⟩; replace HB := Lib.hid (below_chain HB.out hb); clear hb)
              | (go_at_call 147; (with_reducible refine (KSm.out _).mono ?_); rintro ee wd ⟨rfl, rfl⟩)
              | (go_at_call 148; (with_reducible refine (KM1.out _).mono ?_); rintro ee wd ⟨rfl, rfl⟩)
              | (go_at_call 148; (with_reducible refine (KM3.out _).mono ?_); rintro ee wd ⟨rfl, rfl⟩)
              | (go_at_call 146; (with_reducible refine (Inf_14 _).mono ?_); rintro ee wx ⟨rfl, rfl⟩)
              | (go_at_call 84; (with_reducible refine (KC.out _).mono ?_); rintro ee we ⟨rfl, nn, rfl⟩))
            refine bodyPost_ret (v := .tuple #[.float .f64 (pk M z), .float .f64 9218868437227405312, .int .i64 (-2), .bool ev]) (by simp [results, Tryz.results94, go_sem]) rfl ⟨by rw [HA.out, HR.out, HI.out], HB.out⟩
        · have el1 := natS_full hL0
          have el2 := natS_full2 hL0
          have HR : Hid (rsW L Y - 2 = cmpN (L * 2) Y) := Lib.hid (by rw [rsW_n hL0]; omega)
          clear hL0
          rcases hbb with ⟨rfl, rfl⟩ | ⟨rfl, hinf⟩
          · generalize decide (M % 2 = 0) = ev at *
            go_upto_region 12 with (first
              | (go_at_call 66; (with_reducible refine (KX.out _).mono ?_); rintro ee wa ⟨rfl, hb⟩; replace HB := Lib.hid (below_chain HB.out hb); clear hb)
              | (go_at_call 66; (with_reducible refine (KY.out _).mono ?_); rintro ee wb ⟨rfl, hb⟩; replace HB := Lib.hid (below_chain HB.out hb); clear hb)
              | (go_at_call 66; (with_reducible refine (KSh.out _).mono ?_); rintro ee wb ⟨rfl, hb⟩; replace HB := Lib.hid (below_chain HB.out hb); clear hb)
              | (go_at_call 93; (with_reducible refine (KD.out _).mono ?_); rintro ee wc ⟨rfl, hb⟩; replace HB := Lib.hid (below_chain HB.out hb); clear hb)
              | (go_at_call 147; (with_reducible refine (KSm.out _).mono ?_); rintro ee wd ⟨rfl, rfl⟩)
              | (go_at_call 148; (with_reducible refine (KM1.out _).mono ?_); rintro ee wd ⟨rfl, rfl⟩)
              | (go_at_call 148; (with_reducible refine (KM3.out _).mono ?_); rintro ee wd ⟨rfl, rfl⟩)
              | (go_at_call 146; (with_reducible refine (Inf_14 _).mono ?_); rintro ee wx ⟨rfl, rfl⟩)
              | (go_at_call 84; (with_reducible refine (KC.out _).mono ?_); rintro ee we ⟨rfl, nn, rfl⟩))
            have hw4 := HW4.out
            have hev := HEV.out
            have hev2 := HEV2.out
            go_wp2_with (first
              | (go_at_call 66; (with_reducible refine (KX.out _).mono ?_); rintro ee wa ⟨rfl, hb⟩; replace HB := Lib.hid (below_chain HB.out hb); clear hb)
              | (go_at_call 66; (with_reducible refine (KY.out _).mono ?_); rintro ee wb ⟨rfl, hb⟩; replace HB := Lib.hid (below_chain HB.out hb); clear hb)
              | (go_at_call 66; (with_reducible refine (KSh.out _).mono ?_); rintro ee wb ⟨rfl, hb⟩; replace HB := Lib.hid (below_chain HB.out hb); clear hb)
              | (go_at_call 93; (with_reducible refine (KD.out _).mono ?_); rintro ee wc ⟨rfl, hb⟩; replace HB := Lib.hid (below_chain HB.out hb); clear hb)
              | (go_at_call 147; (with_reducible refine (KSm.out _).mono ?_); rintro ee wd ⟨rfl, rfl⟩)
              | (go_at_call 148; (with_reducible refine (KM1.out _).mono ?_); rintro ee wd ⟨rfl, rfl⟩)
              | (go_at_call 148; (with_reducible refine (KM3.out _).mono ?_); rintro ee wd ⟨rfl, rfl⟩)
              | (go_at_call 146; (with_reducible refine (Inf_14 _).mono ?_); rintro ee wx ⟨rfl, rfl⟩)
              | (go_at_call 84; (with_reducible refine (KC.out _).mono ?_); rintro ee we ⟨rfl, nn, rfl⟩))
            refine bodyPost_ret (v := .tuple #[.float .f64 (pk M z), .float .f64 (pk M1 z), .int .i64 (cmpN (L * 2) Y), .bool ev]) (by simp [results, Tryz.results94, go_sem]) rfl ⟨by rw [HA.out, HR.out], below_drewN HB.out nn⟩
          · have HI := Lib.hid hinf
            clear hinf
            generalize decide (M % 2 = 0) = ev at *
            go_upto_region 12 with (first
              | (go_at_call 66; (with_reducible refine (KX.out _).mono ?_); rintro ee wa ⟨rfl, hb⟩; replace HB := Lib.hid (below_chain HB.out hb); clear hb)
              | (go_at_call 66; (with_reducible refine (KY.out _).mono ?_); rintro ee wb ⟨rfl, hb⟩; replace HB := Lib.hid (below_chain HB.out hb); clear hb)
              | (go_at_call 66; (with_reducible refine (KSh.out _).mono ?_); rintro ee wb ⟨rfl, hb⟩; replace HB := Lib.hid (below_chain HB.out hb); clear hb)
              | (go_at_call 93; (with_reducible refine (KD.out _).mono ?_); rintro ee wc ⟨rfl, hb⟩; replace HB := Lib.hid (below_chain HB.out hb); clear hb)
              | (go_at_call 147; (with_reducible refine (KSm.out _).mono ?_); rintro ee wd ⟨rfl, rfl⟩)
              | (go_at_call 148; (with_reducible refine (KM1.out _).mono ?_); rintro ee wd ⟨rfl, rfl⟩)
              | (go_at_call 148; (with_reducible refine (KM3.out _).mono ?_); rintro ee wd ⟨rfl, rfl⟩)
              | (go_at_call 146; (with_reducible refine (Inf_14 _).mono ?_); rintro ee wx ⟨rfl, rfl⟩)
              | (go_at_call 84; (with_reducible refine (KC.out _).mono ?_); rintro ee we ⟨rfl, nn, rfl⟩))
            have hw4 := HW4.out
            have hev := HEV.out
            have hev2 := HEV2.out
            go_wp2_with (first
              | (go_at_call 66; (with_reducible refine (KX.out _).mono ?_); rintro ee wa ⟨rfl, hb⟩; replace HB := Lib.hid (below_chain HB.out hb); clear hb)
              | (go_at_call 66; (with_reducible refine (KY.out _).mono ?_); rintro ee wb ⟨rfl, hb⟩; replace HB := Lib.hid (below_chain HB.out hb); clear hb)
              | (go_at_call 66; (with_reducible refine (KSh.out _).mono ?_); rintro ee wb ⟨rfl, hb⟩; replace HB := Lib.hid (below_chain HB.out hb); clear hb)
              | (go_at_call 93; (with_reducible refine (KD.out _).mono ?_); rintro ee wc ⟨rfl, hb⟩; replace HB := Lib.hid (below_chain HB.out hb); clear hb)
              | (go_at_call 147; (with_reducible refine (KSm.out _).mono ?_); rintro ee wd ⟨rfl, rfl⟩)
              | (go_at_call 148; (with_reducible refine (KM1.out _).mono ?_); rintro ee wd ⟨rfl, rfl⟩)
              | (go_at_call 148; (with_reducible refine (KM3.out _).mono ?_); rintro ee wd ⟨rfl, rfl⟩)
              | (go_at_call 146; (with_reducible refine (Inf_14 _).mono ?_); rintro ee wx ⟨rfl, rfl⟩)
              | (go_at_call 84; (with_reducible refine (KC.out _).mono ?_); rintro ee we ⟨rfl, nn, rfl⟩))
            refine bodyPost_ret (v := .tuple #[.float .f64 (pk M z), .float .f64 9218868437227405312, .int .i64 (cmpN (L * 2) Y), .bool ev]) (by simp [results, Tryz.results94, go_sem]) rfl ⟨by rw [HA.out, HR.out, HI.out], below_drewN HB.out nn⟩
end Go.Proofs.YtajcapliokblfaaGreatDoor
set_option linter.unusedSimpArgs false
set_option linter.unusedVariables false
namespace Go.Proofs.YtajcapliokblfaaGreatDoor
open Go Go.RowKit Nt
theorem rCopysign_c (x : Nat) (hx : x < 9223372036854775808) (w : World) :
    Calls Tryz.prog 107 #[.float .f64 x, .float .f64 13830554455654793216] w fun e w' => e = .returned (.float .f64 (Bt.wf true x)) ∧ w = w' := by
  have h12 := Bt.ext_from
  have h44 := Bt.ext_bits
  have hr : Bt.Ff.rung x = x := by unfold Bt.Ff.rung; omega
  have ha := Bt.and_not_top x (by omega)
  rw [hr] at ha
  have ho2 : bits BinOp.and IntKind.u64 (13830554455654793216 : Int) 9223372036854775808 = 9223372036854775808 := by decide +kernel
  have ho : bits BinOp.or IntKind.u64 (x : Int) 9223372036854775808 = ((Bt.topped x : Nat) : Int) := by
    rw [Bt.topped_eq, show (9223372036854775808 : Int) = ((9223372036854775808 : Nat) : Int) from rfl, u64_or_nat x _ (by omega) (by decide), Nat.or_comm]
    congr 1
    exact nat_join 63 _ _ (by decide) hx
  go_enter Tryz.func107, Tryz.ntmps107
  go_wp2
  go_ret
  exact ⟨by rw [Bt.wf_eq]; rfl, rfl⟩
theorem rSgn4_c (g : Bool) (x : Nat) (hx : x < 9223372036854775808) (w : World) :
    Calls Tryz.prog 95 #[.bool g, .float .f64 x] w fun e w' => e = .returned (.float .f64 (Bt.wf g x)) ∧ w = w' := by
  have K := Lib.hid fun w => rCopysign_c x hx w
  clear hx
  cases g
  · go_enter Tryz.func95, Tryz.ntmps95
    go_wp2_with fail
    go_ret
    exact ⟨by rw [Bt.wf_eq]; rfl, rfl⟩
  · go_enter Tryz.func95, Tryz.ntmps95
    go_wp2_with (first | (go_at_call 107; (with_reducible refine (K.out _).mono ?_); rintro ee wx ⟨rfl, rfl⟩))
    go_ret
    exact ⟨rfl, rfl⟩
theorem aM_b {n d : Nat} (h0 : n ≠ 0) (hd0 : d ≠ 0) : aM n d < 9007199254740992 ∧ aQ n d ≤ 971 := by
  by_cases h : 1023 < tpZ n d
  · obtain ⟨e1, e2, e3⟩ := a_hi h
    rw [e1, e2]; omega
  · have h2 : tpZ n d ≤ 1023 := by omega
    obtain ⟨e1, e2, e3⟩ := a_mid h2
    rw [e1, e2]
    exact ⟨rMq_lt h0 hd0, (rqZ_b n d h2).2⟩
theorem aR_c (n d : Nat) : aR n d = 0 ∨ aR n d = 1 ∨ aR n d = 2 ∨ aR n d = 3 := by
  refine r_cases ?_
  by_cases h : 1023 < tpZ n d
  · rw [(a_hi h).2.2]; omega
  · rw [(a_mid (show tpZ n d ≤ 1023 by omega)).2.2]; exact rsW_b _ _
theorem aE_at (n d : Nat) : (aE n d = true ∧ ¬ aM n d % 2 = 1) ∨ (aE n d = false ∧ aM n d % 2 = 1) := by
  unfold aE
  rcases Nat.mod_two_eq_zero_or_one (aM n d) with h | h
  · exact Or.inl ⟨decide_eq_true h, by omega⟩
  · exact Or.inr ⟨decide_eq_false (by omega), h⟩
set_option maxRecDepth 100000 in
set_option maxHeartbeats 1000000 in
theorem rFloat4_n (g : Bool) (n d : Nat) (w : World) (h0 : n ≠ 0) (hd0 : d ≠ 0) (h1 : nd 256 n ≤ 2400) (h2 : nd 256 d ≤ 2400) :
    Calls Tryz.prog 40 #[.agg #[.bool g, .string (natS n), .string (natS d)]] w fun e w' => e = .returned (.float .f64 (RW 0 g n d)) ∧ Below w.heap.size w w' := by
  have T0 := BL.start1 w (.bool g) (.string (natS n)) (.string (natS d)) 24
  obtain ⟨p0, p1, p2, p3, p4, p5, p6⟩ := T0.box0
  have e1 := natS_full h0
  have e2 := natS_full2 h0
  have KA := Lib.hid fun w => rAround4_c g n d w h0 hd0 h1 h2
  obtain ⟨m1, m2⟩ := aM_b h0 hd0
  have KS1 := Lib.hid fun w => rSgn4_c g (pk (aM n d) (aQ n d)) (by have := pk_lt (m := aM n d) (by omega) m2; omega) w
  have KS2 := Lib.hid fun w => rSgn4_c g (pk (aM n d + 1) (aQ n d)) (by have := pk_lt (m := aM n d + 1) (by omega) m2; omega) w
  have HE := aE_at n d
  have HC := aR_c n d
  have HR := Lib.hid (RW_a 0 g n d)
  unfold ARes at KA
  unfold mUp upW at HR
  clear m1 m2 h0 hd0 h1 h2
  generalize aM n d = M at *
  generalize aQ n d = Q at *
  generalize aR n d = R at *
  generalize aE n d = E at *
  generalize RW 0 g n d = Z at *
  have HWF := Lib.hid wf_false
  rcases HC with rfl | rfl | rfl | rfl <;> rcases HE with ⟨rfl, he⟩ | ⟨rfl, he⟩ <;> cases g
  all_goals
    simp [he] at HR
    clear he
    go_enter Tryz.func40, Tryz.ntmps40
    go_wp2_with (first
      | (go_at_call 94; (with_reducible refine (KA.out _).mono ?_); rintro ee wx ⟨rfl, hb⟩; replace T0 := T0.step hb; clear p0 p1 p2 p3 p4 p5 p6; obtain ⟨p0, p1, p2, p3, p4, p5, p6⟩ := T0.box0; clear hb)
      | (go_at_call 95; (with_reducible refine (KS1.out _).mono ?_); rintro ee wx ⟨rfl, rfl⟩)
      | (go_at_call 95; (with_reducible refine (KS2.out _).mono ?_); rintro ee wx ⟨rfl, rfl⟩))
    go_ret
    exact ⟨by rw [HR.out]; first | rfl | (rw [wf_false]; rfl), T0.1⟩
set_option maxRecDepth 100000 in
theorem rFloat4_c (q : Rat) (w : World) (hq : Bq q 2400) :
    Calls Tryz.prog 40 #[qv q] w fun e w' => e = .returned (.float .f64 (QW 0 q)) ∧ Below w.heap.size w w' := by
  by_cases h0 : qN q = 0
  · have e : QW 0 q = 0 := by unfold QW; exact if_pos h0
    rw [e]
    unfold qv
    rw [h0]
    generalize qG q = g
    generalize qD q = d
    have T0 := BL.start1 w (.bool g) (.string (natS 0)) (.string (natS d)) 24
    obtain ⟨p0, p1, p2, p3, p4, p5, p6⟩ := T0.box0
    have e1 : (natS 0).toList = [] := natS_empty rfl
    go_enter Tryz.func40, Tryz.ntmps40
    go_wp2_with fail
    go_ret
    exact ⟨rfl, T0.1⟩
  · have e : QW 0 q = RW 0 (qG q) (qN q) (qD q) := by unfold QW; exact if_neg h0
    rw [e]
    exact rFloat4_n _ _ _ w h0 (qD_pos q) hq.1 hq.2
set_option maxRecDepth 100000 in
set_option maxHeartbeats 1000000 in
theorem rBelow4_n (g : Bool) (n d : Nat) (w : World) (h0 : n ≠ 0) (hd0 : d ≠ 0) (h1 : nd 256 n ≤ 2400) (h2 : nd 256 d ≤ 2400) :
    Calls Tryz.prog 41 #[.agg #[.bool g, .string (natS n), .string (natS d)]] w fun e w' => e = .returned (.float .f64 (RW 1 g n d)) ∧ Below w.heap.size w w' := by
  have T0 := BL.start1 w (.bool g) (.string (natS n)) (.string (natS d)) 24
  obtain ⟨p0, p1, p2, p3, p4, p5, p6⟩ := T0.box0
  have e1 := natS_full h0
  have e2 := natS_full2 h0
  have KA := Lib.hid fun w => rAround4_c g n d w h0 hd0 h1 h2
  obtain ⟨m1, m2⟩ := aM_b h0 hd0
  have KS1 := Lib.hid fun w => rSgn4_c g (pk (aM n d) (aQ n d)) (by have := pk_lt (m := aM n d) (by omega) m2; omega) w
  have KS2 := Lib.hid fun w => rSgn4_c g (pk (aM n d + 1) (aQ n d)) (by have := pk_lt (m := aM n d + 1) (by omega) m2; omega) w
  have HE := aE_at n d
  have HC := aR_c n d
  have HR := Lib.hid (RW_a 1 g n d)
  unfold ARes at KA
  unfold mUp upW at HR
  clear m1 m2 h0 hd0 h1 h2
  generalize aM n d = M at *
  generalize aQ n d = Q at *
  generalize aR n d = R at *
  generalize aE n d = E at *
  generalize RW 1 g n d = Z at *
  have HWF := Lib.hid wf_false
  rcases HC with rfl | rfl | rfl | rfl <;> rcases HE with ⟨rfl, he⟩ | ⟨rfl, he⟩ <;> cases g
  all_goals
    simp [he] at HR
    clear he
    go_enter Tryz.func41, Tryz.ntmps41
    go_wp2_with (first
      | (go_at_call 94; (with_reducible refine (KA.out _).mono ?_); rintro ee wx ⟨rfl, hb⟩; replace T0 := T0.step hb; clear p0 p1 p2 p3 p4 p5 p6; obtain ⟨p0, p1, p2, p3, p4, p5, p6⟩ := T0.box0; clear hb)
      | (go_at_call 95; (with_reducible refine (KS1.out _).mono ?_); rintro ee wx ⟨rfl, rfl⟩)
      | (go_at_call 95; (with_reducible refine (KS2.out _).mono ?_); rintro ee wx ⟨rfl, rfl⟩))
    go_ret
    exact ⟨by rw [HR.out]; first | rfl | (rw [wf_false]; rfl), T0.1⟩
set_option maxRecDepth 100000 in
theorem rBelow4_c (q : Rat) (w : World) (hq : Bq q 2400) :
    Calls Tryz.prog 41 #[qv q] w fun e w' => e = .returned (.float .f64 (QW 1 q)) ∧ Below w.heap.size w w' := by
  by_cases h0 : qN q = 0
  · have e : QW 1 q = 0 := by unfold QW; exact if_pos h0
    rw [e]
    unfold qv
    rw [h0]
    generalize qG q = g
    generalize qD q = d
    have T0 := BL.start1 w (.bool g) (.string (natS 0)) (.string (natS d)) 24
    obtain ⟨p0, p1, p2, p3, p4, p5, p6⟩ := T0.box0
    have e1 : (natS 0).toList = [] := natS_empty rfl
    go_enter Tryz.func41, Tryz.ntmps41
    go_wp2_with fail
    go_ret
    exact ⟨rfl, T0.1⟩
  · have e : QW 1 q = RW 1 (qG q) (qN q) (qD q) := by unfold QW; exact if_neg h0
    rw [e]
    exact rBelow4_n _ _ _ w h0 (qD_pos q) hq.1 hq.2
set_option maxRecDepth 100000 in
set_option maxHeartbeats 1000000 in
theorem rAbove4_n (g : Bool) (n d : Nat) (w : World) (h0 : n ≠ 0) (hd0 : d ≠ 0) (h1 : nd 256 n ≤ 2400) (h2 : nd 256 d ≤ 2400) :
    Calls Tryz.prog 42 #[.agg #[.bool g, .string (natS n), .string (natS d)]] w fun e w' => e = .returned (.float .f64 (RW 2 g n d)) ∧ Below w.heap.size w w' := by
  have T0 := BL.start1 w (.bool g) (.string (natS n)) (.string (natS d)) 24
  obtain ⟨p0, p1, p2, p3, p4, p5, p6⟩ := T0.box0
  have e1 := natS_full h0
  have e2 := natS_full2 h0
  have KA := Lib.hid fun w => rAround4_c g n d w h0 hd0 h1 h2
  obtain ⟨m1, m2⟩ := aM_b h0 hd0
  have KS1 := Lib.hid fun w => rSgn4_c g (pk (aM n d) (aQ n d)) (by have := pk_lt (m := aM n d) (by omega) m2; omega) w
  have KS2 := Lib.hid fun w => rSgn4_c g (pk (aM n d + 1) (aQ n d)) (by have := pk_lt (m := aM n d + 1) (by omega) m2; omega) w
  have HE := aE_at n d
  have HC := aR_c n d
  have HR := Lib.hid (RW_a 2 g n d)
  unfold ARes at KA
  unfold mUp upW at HR
  clear m1 m2 h0 hd0 h1 h2
  generalize aM n d = M at *
  generalize aQ n d = Q at *
  generalize aR n d = R at *
  generalize aE n d = E at *
  generalize RW 2 g n d = Z at *
  have HWF := Lib.hid wf_false
  rcases HC with rfl | rfl | rfl | rfl <;> rcases HE with ⟨rfl, he⟩ | ⟨rfl, he⟩ <;> cases g
  all_goals
    simp [he] at HR
    clear he
    go_enter Tryz.func42, Tryz.ntmps42
    go_wp2_with (first
      | (go_at_call 94; (with_reducible refine (KA.out _).mono ?_); rintro ee wx ⟨rfl, hb⟩; replace T0 := T0.step hb; clear p0 p1 p2 p3 p4 p5 p6; obtain ⟨p0, p1, p2, p3, p4, p5, p6⟩ := T0.box0; clear hb)
      | (go_at_call 95; (with_reducible refine (KS1.out _).mono ?_); rintro ee wx ⟨rfl, rfl⟩)
      | (go_at_call 95; (with_reducible refine (KS2.out _).mono ?_); rintro ee wx ⟨rfl, rfl⟩))
    go_ret
    exact ⟨by rw [HR.out]; first | rfl | (rw [wf_false]; rfl), T0.1⟩
set_option maxRecDepth 100000 in
theorem rAbove4_c (q : Rat) (w : World) (hq : Bq q 2400) :
    Calls Tryz.prog 42 #[qv q] w fun e w' => e = .returned (.float .f64 (QW 2 q)) ∧ Below w.heap.size w w' := by
  by_cases h0 : qN q = 0
  · have e : QW 2 q = 0 := by unfold QW; exact if_pos h0
    rw [e]
    unfold qv
    rw [h0]
    generalize qG q = g
    generalize qD q = d
    have T0 := BL.start1 w (.bool g) (.string (natS 0)) (.string (natS d)) 24
    obtain ⟨p0, p1, p2, p3, p4, p5, p6⟩ := T0.box0
    have e1 : (natS 0).toList = [] := natS_empty rfl
    go_enter Tryz.func42, Tryz.ntmps42
    go_wp2_with fail
    go_ret
    exact ⟨rfl, T0.1⟩
  · have e : QW 2 q = RW 2 (qG q) (qN q) (qD q) := by unfold QW; exact if_neg h0
    rw [e]
    exact rAbove4_n _ _ _ w h0 (qD_pos q) hq.1 hq.2
end Go.Proofs.YtajcapliokblfaaGreatDoor
set_option linter.unusedSimpArgs false
set_option linter.unusedVariables false
namespace Go.Proofs.YtajcapliokblfaaGreatDoor
open Go Go.RowKit Nt
@[irreducible] noncomputable def flQ (q : Rat) : Rat := fr (qG q) (fqN (qG q) (qN q) (qD q)) 1
@[irreducible] noncomputable def ptQ (q : Rat) : Rat := fr false (pqN (qG q) (qN q) (qD q)) (qD q)
theorem flQ_low (q : Rat) : Low (qG q) (fqN (qG q) (qN q) (qD q)) 1 := by
  refine ⟨by decide, Nat.gcd_one_right _, fun h => ?_⟩
  obtain ⟨hd, _, h3⟩ := low_q q
  have hm := Nat.div_add_mod (qN q) (qD q)
  cases hg : qG q with
  | false => rfl
  | true =>
    rw [hg] at h
    by_cases h0 : qN q % qD q = 0
    · rw [(fl_0 h0).1] at h
      rw [h, h0, Nat.mul_zero] at hm
      rw [← hg]; exact h3 hm.symm
    · rw [(fl_1 h0).1] at h; exact absurd h (Nat.succ_ne_zero _)
theorem ptQ_low (q : Rat) (h0 : qN q % qD q ≠ 0) : Low false (pqN (qG q) (qN q) (qD q)) (qD q) := by
  obtain ⟨hd, hc, _⟩ := low_q q
  have e : Nat.gcd (qN q % qD q) (qD q) = 1 := by rw [← Nat.gcd_rec, Nat.gcd_comm]; exact hc
  refine ⟨hd, ?_, fun _ => rfl⟩
  cases hg : qG q with
  | false => rw [(fl_f _ _).2]; exact e
  | true =>
    rw [(fl_1 h0).2, Nat.gcd_self_sub_left (Nat.le_of_lt (Nat.mod_lt _ (Nat.pos_of_ne_zero hd)))]
    exact e
theorem qv_flQ (q : Rat) : qv (flQ q) = .agg #[.bool (qG q), .string (natS (fqN (qG q) (qN q) (qD q))), .string ⟨#[1]⟩] := by
  obtain ⟨e1, e2, e3⟩ := low_fr (flQ_low q)
  unfold flQ
  rw [qv, e1, e2, e3, natS_1r]
theorem qv_ptQ (q : Rat) (h0 : qN q % qD q ≠ 0) : qv (ptQ q) = .agg #[.bool false, .string (natS (pqN (qG q) (qN q) (qD q))), .string (natS (qD q))] := by
  obtain ⟨e1, e2, e3⟩ := low_fr (ptQ_low q h0)
  unfold ptQ
  rw [qv, e1, e2, e3]
theorem qv_ptQ0 (q : Rat) (h0 : qN q % qD q = 0) : qv (ptQ q) = .agg #[.bool false, .string ⟨#[]⟩, .string ⟨#[1]⟩] := by
  unfold ptQ
  rw [(fl_0 h0).2, h0, fr_zero, qv_zero]
theorem ptQ_eq (q : Rat) : q + -(flQ q) = ptQ q := by
  have hd := qD_pos q
  have key : ∀ (g : Bool) (n d : Nat), d ≠ 0 → fr g n d + -(fr g (fqN g n d) 1) = fr false (pqN g n d) d := by
    intro g n d hd
    unfold fr
    rw [Rat.neg_mkRat, Rat.mkRat_add_mkRat _ _ hd (by decide), Nat.mul_one]
    congr 1
    have hm := Nat.div_add_mod n d
    have hl := Nat.mod_lt n (Nat.pos_of_ne_zero hd)
    have hk : ∀ (a : Nat), ((a : Int) * (d : Int)) = ((d * a : Nat) : Int) := fun a => by rw [Nat.mul_comm]; exact (Int.natCast_mul _ _).symm
    have hk1 := hk (n / d)
    have hk2 := hk (n / d + 1)
    have h1 : (n : Int) * ((1 : Nat) : Int) = n := by omega
    have h1' : -(n : Int) * ((1 : Nat) : Int) = -n := by omega
    cases g with
    | false =>
      rw [(fl_f n d).1, (fl_f n d).2, sgI_false, sgI_false, sgI_false, Int.neg_mul, hk1, h1]
      generalize d * (n / d) = t at *
      generalize n % d = r at *
      omega
    | true =>
      by_cases h0 : n % d = 0
      · rw [(fl_0 h0).1, (fl_0 h0).2, sgI_true, sgI_true, sgI_false, Int.neg_neg, hk1, h1']
        generalize d * (n / d) = t at *
        generalize n % d = r at *
        omega
      · have hs : d * (n / d + 1) = d * (n / d) + d := Nat.mul_succ _ _
        rw [(fl_1 h0).1, (fl_1 h0).2, sgI_true, sgI_true, sgI_false, Int.neg_neg, hk2, hs, h1']
        generalize d * (n / d) = t at *
        generalize n % d = r at *
        omega
  have h := key (qG q) (qN q) (qD q) hd
  rw [fr_q] at h
  unfold flQ ptQ
  exact h
theorem PFloor_c (q : Rat) (w : World) (h : qfits q) : Calls Tryz.prog 33 #[qv q] w fun e w' => e = .returned (.tuple #[qv (flQ q), .int .i64 0]) ∧ Below w.heap.size w w' := by
  have hM := fun w => PMay_yes q w h
  rw [qv_flQ]
  unfold qv at hM ⊢
  cases hg : qG q with
  | false => rw [hg] at hM; exact PFloor_f _ _ h.1 h.2 (qD_pos q) hM w
  | true =>
    rw [hg] at hM
    by_cases h0 : qN q % qD q = 0
    · exact PFloor_z _ _ h.1 h.2 (qD_pos q) h0 hM w
    · exact PFloor_n _ _ h.1 h.2 (qD_pos q) h0 hM w
theorem PPart_c (q : Rat) (w : World) (h : qfits q) : Calls Tryz.prog 34 #[qv q] w fun e w' => e = .returned (.tuple #[qv (ptQ q), .int .i64 0]) ∧ Below w.heap.size w w' := by
  have hM := fun w => PMay_yes q w h
  by_cases h0 : qN q % qD q = 0
  · rw [qv_ptQ0 q h0]
    unfold qv at hM ⊢
    cases hg : qG q with
    | false => rw [hg] at hM; exact PPart_f0 _ _ h.1 h.2 (qD_pos q) h0 hM w
    | true => rw [hg] at hM; exact PPart_z0 _ _ h.1 h.2 (qD_pos q) h0 hM w
  · rw [qv_ptQ q h0]
    unfold qv at hM ⊢
    cases hg : qG q with
    | false => rw [hg] at hM; exact PPart_f1 _ _ h.1 h.2 (qD_pos q) h0 hM w
    | true => rw [hg] at hM; exact PPart_n1 _ _ h.1 h.2 (qD_pos q) h0 hM w
theorem rFloor4_c (q : Rat) (w : World) (h : Bq q 2400) : Calls Tryz.prog 39 #[qv q] w fun e w' => e = .returned (qv (flQ q)) ∧ Below w.heap.size w w' := by
  unfold flQ
  rw [show qv q = .agg #[.bool (qG q), .string (natS (qN q)), .string (natS (qD q))] from rfl]
  cases hg : qG q with
  | false => exact rFloor4_f _ _ (qD_pos q) h.1 h.2 w
  | true =>
    by_cases h0 : qN q % qD q = 0
    · exact rFloor4_z _ _ (qD_pos q) h.1 h.2 h0 w
    · exact rFloor4_n _ _ (qD_pos q) h.1 h.2 h0 w
theorem flQ_b (q : Rat) (h : Bq q 300) : Bq (flQ q) 2400 := by
  obtain ⟨e1, e2, e3⟩ := low_fr (flQ_low q)
  have hle : fqN (qG q) (qN q) (qD q) ≤ qN q := by
    cases hg : qG q with
    | false => rw [(fl_f _ _).1]; exact Nat.div_le_self _ _
    | true =>
      by_cases h0 : qN q % qD q = 0
      · rw [(fl_0 h0).1]; exact Nat.div_le_self _ _
      · rw [(fl_1 h0).1]; exact fl_le _ _ (qD_pos q) h0
  unfold flQ
  refine ⟨?_, ?_⟩
  · rw [e2]; exact Nat.le_trans (ndB_mono hle) (Nat.le_trans h.1 (by decide))
  · rw [e3, nd_unique (b := 256) (n := 1) (k := 0) (by omega) (by decide) (by decide)]; omega
set_option maxRecDepth 100000 in
set_option maxHeartbeats 1000000 in
theorem PFloor_no (r : Rx) (w : World) (h : r.No) :
    Calls Tryz.prog 33 #[.agg #[.bool r.g, .string r.s, .string r.t]] w fun e w' => e = .returned (.tuple #[.agg #[.bool false, .string ⟨#[]⟩, .string ⟨#[]⟩], .int .i64 2]) ∧ Below w.heap.size w w' := by
  have K := Lib.hid (fun w => PMay_no r w h)
  clear h
  obtain ⟨bl, hbl⟩ : ∃ bl : List C3, bl = [(.bool r.g, .string r.s, .string r.t)] := ⟨_, rfl⟩
  have hbn : bl.length = 1 := by rw [hbl]; rfl
  have T0 := BR.start1 w (.bool r.g) (.string r.s) (.string r.t) false (.string ⟨#[]⟩) (.string ⟨#[]⟩) 24 24
  rw [← hbl] at T0
  have L0 : ∀ U, BR w bl U → U.cell? ⟨w.heap.size, 0, none⟩ = some (.bool r.g) := fun U hU => (hU.box 0 (.bool r.g, .string r.s, .string r.t) (by rw [hbl]; rfl)).2.1
  have L1 : ∀ U, BR w bl U → U.cell? ⟨w.heap.size, 1, none⟩ = some (.string r.s) := fun U hU => (hU.box 0 (.bool r.g, .string r.s, .string r.t) (by rw [hbl]; rfl)).2.2.1
  have L2 : ∀ U, BR w bl U → U.cell? ⟨w.heap.size, 2, none⟩ = some (.string r.t) := fun U hU => (hU.box 0 (.bool r.g, .string r.s, .string r.t) (by rw [hbl]; rfl)).2.2.2.1
  have M1 := fun U (hU : BR w bl U) => (hU.res (n := 1) hbn).2.1
  have M2 := fun U (hU : BR w bl U) => (hU.res (n := 1) hbn).2.2.1
  have M3 := fun U (hU : BR w bl U) => (hU.res (n := 1) hbn).2.2.2.1
  have M4 := fun U (hU : BR w bl U) => (hU.res (n := 1) hbn).2.2.2.2.1
  have M5 := fun U (hU : BR w bl U) => (hU.res (n := 1) hbn).2.2.2.2.2.1
  have M6 := fun U (hU : BR w bl U) => (hU.res (n := 1) hbn).2.2.2.2.2.2
  have HBL := Lib.hid hbl
  clear hbl L0 L1 L2 M1 M2 M3 M4 M5 M6
  go_enter Tryz.func33, Tryz.ntmps33
  go_wp2_with fail
  refine (K.out _).mono ?_
  rintro ee w1 ⟨rfl, hb⟩
  replace T0 := T0.step hb
  clear hb
  obtain ⟨q0, q1, q2, q3, q4, q5, q6⟩ := T0.res (n := 1) hbn
  have hfin := below_put3 T0.1 (show w.heap.size ≤ w.heap.size + 1 by omega)
  go_wp2_with fail
  refine bodyPost_ret (v := .tuple #[.agg #[.bool false, .string ⟨#[]⟩, .string ⟨#[]⟩], .int .i64 2]) (by simp [results, Tryz.results33, go_sem, q0, q1, q2, q3]) rfl ⟨rfl, hfin _ _ _⟩
set_option maxRecDepth 100000 in
set_option maxHeartbeats 1000000 in
theorem PPart_no (r : Rx) (w : World) (h : r.No) :
    Calls Tryz.prog 34 #[.agg #[.bool r.g, .string r.s, .string r.t]] w fun e w' => e = .returned (.tuple #[.agg #[.bool false, .string ⟨#[]⟩, .string ⟨#[]⟩], .int .i64 2]) ∧ Below w.heap.size w w' := by
  have K := Lib.hid (fun w => PMay_no r w h)
  clear h
  obtain ⟨bl, hbl⟩ : ∃ bl : List C3, bl = [(.bool r.g, .string r.s, .string r.t)] := ⟨_, rfl⟩
  have hbn : bl.length = 1 := by rw [hbl]; rfl
  have T0 := BR.start1 w (.bool r.g) (.string r.s) (.string r.t) false (.string ⟨#[]⟩) (.string ⟨#[]⟩) 24 24
  rw [← hbl] at T0
  have L0 : ∀ U, BR w bl U → U.cell? ⟨w.heap.size, 0, none⟩ = some (.bool r.g) := fun U hU => (hU.box 0 (.bool r.g, .string r.s, .string r.t) (by rw [hbl]; rfl)).2.1
  have L1 : ∀ U, BR w bl U → U.cell? ⟨w.heap.size, 1, none⟩ = some (.string r.s) := fun U hU => (hU.box 0 (.bool r.g, .string r.s, .string r.t) (by rw [hbl]; rfl)).2.2.1
  have L2 : ∀ U, BR w bl U → U.cell? ⟨w.heap.size, 2, none⟩ = some (.string r.t) := fun U hU => (hU.box 0 (.bool r.g, .string r.s, .string r.t) (by rw [hbl]; rfl)).2.2.2.1
  have M1 := fun U (hU : BR w bl U) => (hU.res (n := 1) hbn).2.1
  have M2 := fun U (hU : BR w bl U) => (hU.res (n := 1) hbn).2.2.1
  have M3 := fun U (hU : BR w bl U) => (hU.res (n := 1) hbn).2.2.2.1
  have M4 := fun U (hU : BR w bl U) => (hU.res (n := 1) hbn).2.2.2.2.1
  have M5 := fun U (hU : BR w bl U) => (hU.res (n := 1) hbn).2.2.2.2.2.1
  have M6 := fun U (hU : BR w bl U) => (hU.res (n := 1) hbn).2.2.2.2.2.2
  have HBL := Lib.hid hbl
  clear hbl L0 L1 L2 M1 M2 M3 M4 M5 M6
  go_enter Tryz.func34, Tryz.ntmps34
  go_wp2_with fail
  refine (K.out _).mono ?_
  rintro ee w1 ⟨rfl, hb⟩
  replace T0 := T0.step hb
  clear hb
  obtain ⟨q0, q1, q2, q3, q4, q5, q6⟩ := T0.res (n := 1) hbn
  have hfin := below_put3 T0.1 (show w.heap.size ≤ w.heap.size + 1 by omega)
  go_wp2_with fail
  refine bodyPost_ret (v := .tuple #[.agg #[.bool false, .string ⟨#[]⟩, .string ⟨#[]⟩], .int .i64 2]) (by simp [results, Tryz.results34, go_sem, q0, q1, q2, q3]) rfl ⟨rfl, hfin _ _ _⟩
end Go.Proofs.YtajcapliokblfaaGreatDoor
set_option linter.unusedVariables false
set_option linter.unusedSimpArgs false
namespace Go.Proofs.YtajcapliokblfaaGreatDoor
open Go Go.RowKit Nt
theorem QW_ok (k : Nat) (q : Rat) : ¬ Bt.Ff.isn (QW k q) := by
  have key : ∀ (g : Bool) (p : Nat), p ≤ 9218868437227405312 → ¬ Bt.Ff.isn (Bt.wf g p) := by
    intro g p hp c
    have c' := (Bt.isn_iff _).1 c
    unfold Bt.Ff.rung at c'
    rw [Bt.wf_eq] at c'
    cases g
    · rw [if_neg Bool.false_ne_true] at c'; omega
    · rw [if_pos rfl, Bt.topped_eq] at c'; omega
  unfold QW
  by_cases h0 : qN q = 0
  · rw [if_pos h0]; intro c; have := (Bt.isn_iff _).1 c; exact absurd this (by decide)
  · rw [if_neg h0, RW_a]
    obtain ⟨m1, m2⟩ := aM_b h0 (qD_pos q)
    refine key _ _ (pk_lt ?_ m2)
    unfold mUp
    split <;> omega
theorem like4_c (x : Nat) (h : ¬ Bt.Ff.isn x) (w : World) : Calls Tryz.prog 38 #[.float .f64 x, .float .f64 x] w fun e w' => e = .returned (.bool true) ∧ Below w.heap.size w w' := by
  have h44 := Bt.ext_bits
  have hne := Bt.isn_ne x
  rw [decide_eq_false h] at hne
  have he : ((x : Int) == (x : Int)) = true := beq_iff_eq.2 rfl
  clear h
  go_enter Tryz.func38, Tryz.ntmps38
  go_wp2
  all_goals go_ret
  all_goals exact ⟨by first | rfl | simp, Below.refl _ _⟩
@[reducible] def RatioFloors_na_f : FuncId := 5
@[reducible] def RatioFloors_na_a : List AV := [.agg [.sym 0, .sym 1, .sym 2]]
@[reducible] noncomputable def RatioFloors_na_k : Know := ⟨[],
  [(9, [.agg [.sym 0, .sym 1, .sym 2]], .lit (.bool false)),
  (11, [], .lit (.bool true))]⟩
theorem RatioFloors_na_r1 : @comes RatioFloors_na_k Tryz.prog glT 3000 RatioFloors_na_f RatioFloors_na_a = some (.lit (.bool true)) := by kernel_rfl
set_option maxRecDepth 100000 in
set_option maxHeartbeats 4000000 in
theorem RatioFloors_na (a : Rx) (w : World) (hG : Globs glT w) (hsa : ∀ w, Calls Tryz.prog 9 #[.agg #[.bool a.g, .string a.s, .string a.t]] w fun e w' => e = .returned (.bool false) ∧ Below w.heap.size w w') : Calls Tryz.prog 5 #[.agg #[.bool a.g, .string a.s, .string a.t]] w fun e w' => e = .returned (.bool true) ∧ Below w.heap.size w w' := by
  letI : Env := mkEnv glT [.bool a.g, .string a.s, .string a.t] rfl
  have hops : OpsT Tryz.prog (@Know.ops RatioFloors_na_k) := trivial
  have hcalls : CallsT Tryz.prog (@Know.calls RatioFloors_na_k) := ⟨callt rfl rfl fun w hG => hsa w,
    callt rfl rfl fun w hG => lives4_c w hG,
    trivial⟩
  have fin : ∀ v, @comes RatioFloors_na_k Tryz.prog glT 3000 RatioFloors_na_f RatioFloors_na_a = some v → ground v = true → Ending.returned (gval v) = .returned (.bool true) → Calls Tryz.prog 5 #[.agg #[.bool a.g, .string a.s, .string a.t]] w fun e w' => e = .returned (.bool true) ∧ Below w.heap.size w w' := fun v h1 h2 h3 => (@sym_ok _ RatioFloors_na_k _ (@KnowOk.of _ RatioFloors_na_k _ hops hcalls) (by kernel_rfl) _ _ _ _ h1 rfl h2 _ hG).mono fun e w' h => ⟨h.1.trans h3, h.2⟩
  clear hops hcalls
  exact fin _ (RatioFloors_na_r1) rfl rfl
@[reducible] def RatioFloors_ba_f : FuncId := 5
@[reducible] def RatioFloors_ba_a : List AV := [.agg [.sym 0, .sym 1, .sym 2]]
@[reducible] noncomputable def RatioFloors_ba_k : Know := ⟨[],
  [(9, [.agg [.sym 0, .sym 1, .sym 2]], .lit (.bool true)),
  (33, [.agg [.sym 0, .sym 1, .sym 2]], .lit (.tuple #[.agg #[.bool false, .string ⟨#[]⟩, .string ⟨#[]⟩], .int .i64 2])),
  (34, [.agg [.sym 0, .sym 1, .sym 2]], .lit (.tuple #[.agg #[.bool false, .string ⟨#[]⟩, .string ⟨#[]⟩], .int .i64 2])),
  (35, [.agg [.sym 0, .sym 1, .sym 2]], .lit (.tuple #[.float .f64 0, .int .i64 2])),
  (36, [.agg [.sym 0, .sym 1, .sym 2]], .lit (.tuple #[.float .f64 0, .int .i64 2])),
  (37, [.agg [.sym 0, .sym 1, .sym 2]], .lit (.tuple #[.float .f64 0, .int .i64 2])),
  (19, [.agg [.sym 0, .sym 1, .sym 2]], .lit (.bool false)),
  (38, [.lit (.float .f64 0), .lit (.float .f64 0)], .lit (.bool true)),
  (11, [], .lit (.bool true))]⟩
theorem RatioFloors_ba_r1 : @comes RatioFloors_ba_k Tryz.prog glT 3000 RatioFloors_ba_f RatioFloors_ba_a = some (.lit (.bool true)) := by kernel_rfl
set_option maxRecDepth 100000 in
set_option maxHeartbeats 4000000 in
theorem RatioFloors_ba (a : Rx) (w : World) (hG : Globs glT w) (hna : a.No) (hsa : ∀ w, Calls Tryz.prog 9 #[.agg #[.bool a.g, .string a.s, .string a.t]] w fun e w' => e = .returned (.bool true) ∧ Below w.heap.size w w') (hma : ∀ w, Calls Tryz.prog 19 #[.agg #[.bool a.g, .string a.s, .string a.t]] w fun e w' => e = .returned (.bool false) ∧ Below w.heap.size w w') : Calls Tryz.prog 5 #[.agg #[.bool a.g, .string a.s, .string a.t]] w fun e w' => e = .returned (.bool true) ∧ Below w.heap.size w w' := by
  letI : Env := mkEnv glT [.bool a.g, .string a.s, .string a.t] rfl
  have hops : OpsT Tryz.prog (@Know.ops RatioFloors_ba_k) := trivial
  have hcalls : CallsT Tryz.prog (@Know.calls RatioFloors_ba_k) := ⟨callt rfl rfl fun w hG => hsa w,
    callt rfl rfl fun w hG => PFloor_no a w hna,
    callt rfl rfl fun w hG => PPart_no a w hna,
    callt rfl rfl fun w hG => PFloat_no a w hna,
    callt rfl rfl fun w hG => PBelow_no a w hna,
    callt rfl rfl fun w hG => PAbove_no a w hna,
    callt rfl rfl fun w hG => hma w,
    callt rfl rfl fun w hG => like4_c 0 (by decide) w,
    callt rfl rfl fun w hG => lives4_c w hG,
    trivial⟩
  have fin : ∀ v, @comes RatioFloors_ba_k Tryz.prog glT 3000 RatioFloors_ba_f RatioFloors_ba_a = some v → ground v = true → Ending.returned (gval v) = .returned (.bool true) → Calls Tryz.prog 5 #[.agg #[.bool a.g, .string a.s, .string a.t]] w fun e w' => e = .returned (.bool true) ∧ Below w.heap.size w w' := fun v h1 h2 h3 => (@sym_ok _ RatioFloors_ba_k _ (@KnowOk.of _ RatioFloors_ba_k _ hops hcalls) (by kernel_rfl) _ _ _ _ h1 rfl h2 _ hG).mono fun e w' h => ⟨h.1.trans h3, h.2⟩
  clear hops hcalls
  exact fin _ (RatioFloors_ba_r1) rfl rfl
@[reducible] def RatioFloors_n_f : FuncId := 5
@[reducible] def RatioFloors_n_a : List AV := [.agg [.sym 0, .sym 1, .sym 2]]
@[reducible] noncomputable def RatioFloors_n_k : Know := ⟨[([0, 11, 24], [.agg [.sym 3, .sym 4, .sym 5], .agg [.sym 12, .sym 13, .sym 14]], .lit (.bool true)),
  ([0, 11, 24], [.agg [.sym 6, .sym 7, .sym 8], .agg [.sym 18, .sym 19, .sym 20]], .lit (.bool true))],
  [(9, [.agg [.sym 0, .sym 1, .sym 2]], .lit (.bool true)),
  (33, [.agg [.sym 0, .sym 1, .sym 2]], .tup [.agg [.sym 3, .sym 4, .sym 5], .lit (.int .i64 0)]),
  (34, [.agg [.sym 0, .sym 1, .sym 2]], .tup [.agg [.sym 6, .sym 7, .sym 8], .lit (.int .i64 0)]),
  (35, [.agg [.sym 0, .sym 1, .sym 2]], .tup [.sym 9, .lit (.int .i64 0)]),
  (36, [.agg [.sym 0, .sym 1, .sym 2]], .tup [.sym 10, .lit (.int .i64 0)]),
  (37, [.agg [.sym 0, .sym 1, .sym 2]], .tup [.sym 11, .lit (.int .i64 0)]),
  (19, [.agg [.sym 0, .sym 1, .sym 2]], .lit (.bool true)),
  (39, [.agg [.sym 0, .sym 1, .sym 2]], .agg [.sym 12, .sym 13, .sym 14]),
  (28, [.agg [.sym 12, .sym 13, .sym 14]], .agg [.sym 15, .sym 16, .sym 17]),
  (29, [.agg [.sym 0, .sym 1, .sym 2], .agg [.sym 15, .sym 16, .sym 17]], .agg [.sym 18, .sym 19, .sym 20]),
  (40, [.agg [.sym 0, .sym 1, .sym 2]], .sym 21),
  (38, [.sym 9, .sym 21], .lit (.bool true)),
  (41, [.agg [.sym 0, .sym 1, .sym 2]], .sym 22),
  (38, [.sym 10, .sym 22], .lit (.bool true)),
  (42, [.agg [.sym 0, .sym 1, .sym 2]], .sym 23),
  (38, [.sym 11, .sym 23], .lit (.bool true)),
  (11, [], .lit (.bool true))]⟩
theorem RatioFloors_n_r1 : @comes RatioFloors_n_k Tryz.prog glT 3000 RatioFloors_n_f RatioFloors_n_a = some (.lit (.bool true)) := by kernel_rfl
set_option maxRecDepth 100000 in
set_option maxHeartbeats 4000000 in
theorem RatioFloors_n (x : Rat) (w : World) (hG : Globs glT w) (hx : Bq x 300) (hsx : ∀ w, Calls Tryz.prog 9 #[qv x] w fun e w' => e = .returned (.bool true) ∧ Below w.heap.size w w') (hmx : ∀ w, Calls Tryz.prog 19 #[qv x] w fun e w' => e = .returned (.bool true) ∧ Below w.heap.size w w') : Calls Tryz.prog 5 #[.agg #[.bool (qG x), .string (natS (qN x)), .string (natS (qD x))]] w fun e w' => e = .returned (.bool true) ∧ Below w.heap.size w w' := by
  letI : Env := mkEnv glT [.bool (qG x), .string (natS (qN x)), .string (natS (qD x)), .bool (qG (flQ x)), .string (natS (qN (flQ x))), .string (natS (qD (flQ x))), .bool (qG (ptQ x)), .string (natS (qN (ptQ x))), .string (natS (qD (ptQ x))), .float .f64 (QW 0 x), .float .f64 (QW 1 x), .float .f64 (QW 2 x), .bool (qG (flQ x)), .string (natS (qN (flQ x))), .string (natS (qD (flQ x))), .bool (qG (-(flQ x))), .string (natS (qN (-(flQ x)))), .string (natS (qD (-(flQ x)))), .bool (qG (ptQ x)), .string (natS (qN (ptQ x))), .string (natS (qD (ptQ x))), .float .f64 (QW 0 x), .float .f64 (QW 1 x), .float .f64 (QW 2 x)] rfl
  have hops : OpsT Tryz.prog (@Know.ops RatioFloors_n_k) := ⟨optR_eql_i (a := qr (flQ x)) (b := qr (flQ x)) rfl rfl ⟨fun _ => rfl, fun _ => rfl⟩,
    optR_eql_i (a := qr (ptQ x)) (b := qr (ptQ x)) rfl rfl ⟨fun _ => rfl, fun _ => rfl⟩,
    trivial⟩
  have hcalls : CallsT Tryz.prog (@Know.calls RatioFloors_n_k) := ⟨callt rfl rfl fun w hG => hsx w,
    callt rfl rfl fun w hG => PFloor_c x w (hx.fits (by decide)),
    callt rfl rfl fun w hG => PPart_c x w (hx.fits (by decide)),
    callt rfl rfl fun w hG => PFloat_c x w hG (hx.fits (by decide)),
    callt rfl rfl fun w hG => PBelow_c x w hG (hx.fits (by decide)),
    callt rfl rfl fun w hG => PAbove_c x w hG (hx.fits (by decide)),
    callt rfl rfl fun w hG => hmx w,
    callt rfl rfl fun w hG => rFloor4_c x w (hx.le (by decide)),
    callt rfl rfl fun w hG => rNeg4_c (flQ x) w,
    callt rfl rfl fun w hG => rAddQ x (-(flQ x)) (ptQ x) (ptQ_eq x) w (hx.le (by decide)) (flQ_b x hx).neg,
    callt rfl rfl fun w hG => rFloat4_c x w (hx.le (by decide)),
    callt rfl rfl fun w hG => like4_c (QW 0 x) (QW_ok _ _) w,
    callt rfl rfl fun w hG => rBelow4_c x w (hx.le (by decide)),
    callt rfl rfl fun w hG => like4_c (QW 1 x) (QW_ok _ _) w,
    callt rfl rfl fun w hG => rAbove4_c x w (hx.le (by decide)),
    callt rfl rfl fun w hG => like4_c (QW 2 x) (QW_ok _ _) w,
    callt rfl rfl fun w hG => lives4_c w hG,
    trivial⟩
  have fin : ∀ v, @comes RatioFloors_n_k Tryz.prog glT 3000 RatioFloors_n_f RatioFloors_n_a = some v → ground v = true → Ending.returned (gval v) = .returned (.bool true) → Calls Tryz.prog 5 #[.agg #[.bool (qG x), .string (natS (qN x)), .string (natS (qD x))]] w fun e w' => e = .returned (.bool true) ∧ Below w.heap.size w w' := fun v h1 h2 h3 => (@sym_ok _ RatioFloors_n_k _ (@KnowOk.of _ RatioFloors_n_k _ hops hcalls) (by kernel_rfl) _ _ _ _ h1 rfl h2 _ hG).mono fun e w' h => ⟨h.1.trans h3, h.2⟩
  clear hops hcalls
  exact fin _ (RatioFloors_n_r1) rfl rfl
theorem RatioFloors_law (a : Rx) (w : World) (hG : Globs glT w) (ha : a.s.size ≤ 9223372036854775807 ∧ a.t.size ≤ 9223372036854775807) : Calls Tryz.prog 5 #[.agg #[.bool a.g, .string a.s, .string a.t]] w fun e w' => e = .returned (.bool true) ∧ Below w.heap.size w w' := by
  have sa := fun w => Psmall_c a w ha.1 ha.2
  cases h1 : smB a with
  | false => rw [h1] at sa; exact RatioFloors_na a w hG sa
  | true =>
    rw [h1] at sa
    have z1 := smB_iff.1 h1
    have ma := fun w => rMay4_any a w ⟨Nat.le_trans z1.1 (by decide), Nat.le_trans z1.2 (by decide)⟩
    rcases a.cases_ with ⟨x, hx⟩ | hna
    · rw [mayR_iff.2 ⟨x, hx⟩] at ma
      have bx := hx.bytes z1
      obtain ⟨_, rfl⟩ := hx
      exact RatioFloors_n x w hG bx sa ma
    · have e : mayR a = false := Bool.eq_false_iff.2 (fun c => by obtain ⟨q, hq⟩ := mayR_iff.1 c; exact hna q hq)
      rw [e] at ma
      exact RatioFloors_ba a w hG hna sa ma
end Go.Proofs.YtajcapliokblfaaGreatDoor
namespace Go.Proofs.YtajcapliokblfaaGreatDoor
open Go Go.RowKit Go.WideShapes Go.ChangeShapes
variable {H : Type} {enc : TypeId × Value → H} {P : Program}
theorem postBelow {f : Func} {s : ChangeSpec} {apart fresh handsOn again : Bool} {W W' : World} {args : Array Value} {v : Value} {ds gs : List (DataW H)} {places pa pv : List MemPlace}
    (whole : DataW.Whole enc P f.params.toList s.vars apart W args.toList ds gs places)
    (res : ∀ (b : Nat) (sp : Nat → Bool) (hd : Bool), DataW.TrodAll enc P W' b sp hd f.resultTypes.toList (v.resultList f.resultTypes.size) (s.fn H (ds ++ gs)).results [])
    (left : ∀ sp : Nat → Bool, (∀ p ∈ places, sp p.block = true) → DataW.TrodAll enc P W' 0 sp true f.params.toList args.toList (s.fn H (ds ++ gs)).args pa)
    (vars : ∀ sp : Nat → Bool, (∀ p ∈ places, sp p.block = true) → DataW.TrodVars enc P W' sp s.vars (s.fn H (ds ++ gs)).vars pv)
    (split : places = pa ++ pv) (below : Below W.heap.size W W')
    (ok : ∀ (j : Nat) (t : TypeId) (r : Value), f.resultTypes[j]? = some t → (v.resultList f.resultTypes.size)[j]? = some r → Value.okWide P W' .any 0 t r) :
    s.post enc P f apart fresh handsOn again W args v W' := by
  have old : ∀ p ∈ places, p.block < W.heap.size := fun p hp => whole.lt p hp
  have same : ∀ p ∈ places, (fun b => decide (b < W.heap.size)) p.block = true := fun p hp => decide_eq_true (old p hp)
  have kept : W.keptBut W' (fun p => p ∈ places ∧ p ∈ pa ++ pv) :=
    World.keptBut_mono (fun p hp => ⟨hp, split ▸ hp⟩) (below.frame (· ∈ places))
  have free : ∀ b off, MemPlace.cell b off ∈ pa ++ pv → W'.frozen? ⟨b, off, none⟩ = false := fun b off hp => by
    have hin : MemPlace.cell b off ∈ places := split ▸ hp
    rw [below.frozen (p := ⟨b, off, none⟩) (old _ hin)]
    obtain ⟨_, _, _, _, _, hz, _⟩ := whole
    exact hz b off hin
  have apartNow : apart = true → (pa ++ pv).Nodup := fun ha => by
    obtain ⟨_, _, _, _, _, _, hn⟩ := whole
    exact split ▸ hn ha
  refine ⟨ds, gs, places, [], pa, pv, whole, res _ _ _, left _ same, vars _ same, ?_, fun _ => ⟨ok, _, _, ([] ++ pa) ++ pv, ⟨[] ++ pa, pv, trodAll_append (left _ (fun _ _ => rfl)) (res _ _ _), vars _ (fun _ _ => rfl), rfl, ?_, ?_⟩, ?_⟩⟩
  · exact World.keptBut_mono (fun p hp => ⟨hp.1, Or.inr (List.mem_append.1 hp.2)⟩) kept
  · intro b off hp; exact free b off (by simpa using hp)
  · intro ha; simpa using apartNow ha
  · intro p hp _; rw [split]; simpa using hp
end Go.Proofs.YtajcapliokblfaaGreatDoor
set_option linter.unusedVariables false
namespace Go.Proofs.YtajcapliokblfaaGreatDoor
open Go Go.ChangeShapes Go.WideShapes Go.ChangeAt Go.RowKit Go.Joins
variable {H : Type} {enc : TypeId × Value → H}
/-- A Ratio's datum. -/
def ratD (H : Type) (r : Rx) : DataW H := .agg [.lit (.bool r.g), .lit (.string r.s.data.toList), .lit (.string r.t.data.toList)]
def Rx.max (r : Rx) : Prop := r.s.size ≤ maxLen ∧ r.t.size ≤ maxLen
theorem Rx.max.sz {r : Rx} (h : r.max) : r.s.size ≤ 9223372036854775807 ∧ r.t.size ≤ 9223372036854775807 := by
  have h1 := h.1; have h2 := h.2
  unfold maxLen at h1 h2
  exact ⟨by omega, by omega⟩
set_option maxRecDepth 100000 in
theorem open_rat {w : World} {base : Nat} {spare : Nat → Bool} {held : Bool} {r : Go.Reach} {b0 : Nat} {v : Value} {d : DataW H} {p : List MemPlace}
    (hv : Value.okWide Tryz.prog w r b0 24 v) (h : DataW.Trod enc Tryz.prog w base spare held 24 v d p) :
    ∃ a : Rx, v = .agg #[.bool a.g, .string a.s, .string a.t] ∧ d = ratD H a ∧ p = [] ∧ a.max := by
  obtain ⟨c0, c1, c2, y0, y1, y2, m, rfl, rfl, rfl, hy0, hy1, hy2⟩ := open_agg3 Tryz.underlying24 (by kernel_rfl) (by kernel_rfl) hv h
  obtain ⟨g, e0, rfl⟩ := DataW.trod_bool Tryz.underlying4 hy0
  obtain ⟨s, e1, rfl, hs⟩ := DataW.trod_string Tryz.underlying22 hy1
  obtain ⟨t, e2, rfl, ht⟩ := DataW.trod_string Tryz.underlying22 hy2
  simp at e0 e1 e2
  subst e0 e1 e2
  exact ⟨⟨g, s, t⟩, rfl, rfl, rfl, hs, ht⟩
set_option maxRecDepth 100000 in
theorem shut_rat {W' : World} {b : Nat} {sp : Nat → Bool} {hd : Bool} {a : Rx} (hm : a.max) :
    DataW.Trod enc Tryz.prog W' b sp hd 24 (.agg #[.bool a.g, .string a.s, .string a.t]) (ratD H a) [] := by
  simpa [ratD] using shut_agg3 (enc := enc) (w := W') (base := b) (spare := sp) (held := hd) (y0 := (.lit (.bool a.g), [])) (y1 := (.lit (.string a.s.data.toList), [])) (y2 := (.lit (.string a.t.data.toList), [])) Tryz.underlying24 (by kernel_rfl) (by kernel_rfl) ⟨1, by simp [DataW.trod, Tryz.underlying4]⟩ ⟨1, by simp [DataW.trod, Tryz.underlying22, hm.1]⟩ ⟨1, by simp [DataW.trod, Tryz.underlying22, hm.2]⟩
end Go.Proofs.YtajcapliokblfaaGreatDoor
