/- Laws of layer 5: CplxOne. -/
import Derived.Test.YtcoddacbmjlcnaaM5
import Derived.Deep.RegionHeld3
set_option linter.unusedSimpArgs false
set_option linter.unusedVariables false
namespace Go.Proofs.Ytcoddacbmjlcnaa
open Go Go.RowKit Ff
attribute [local go_sem] f_lt f_gt f_eq f_ne run_add run_sub run_mul run_quo k_inf k_nan finC_ne

theorem bcell5 {W w1 : World} (hb : Below W.heap.size W w1) : (∀ b o, b < W.heap.size → w1.cell? ⟨b, o, none⟩ = W.cell? ⟨b, o, none⟩) ∧ (∀ b o, b < W.heap.size → w1.frozen? ⟨b, o, none⟩ = W.frozen? ⟨b, o, none⟩) :=
  ⟨fun b o h => hb.cell (p := ⟨b, o, none⟩) h, fun b o h => hb.frozen (p := ⟨b, o, none⟩) h⟩
theorem ckind_le (a b : Nat) : ckind a b ≤ 2 := by
  unfold ckind; repeat' split
  all_goals omega
theorem neg_turn {x : Nat} (hx : x < 18446744073709551616) : likeB (negW x) (turnW x) = true := turn_like hx
theorem below_al (w : World) (o : Obj) : Below w.heap.size w (w.alloc o) := (Below.refl _ _).alloc (Nat.le_refl _) _
@[irreducible] def negB (x : Nat) : Bool := !decide (isn x) && sgn x
theorem negB_eq (x : Nat) : negB x = (feqB x x && sgn x) := by unfold negB; rw [feq_self]
theorem SignsB_c (a b : Nat) (ha : a < 18446744073709551616) (hb : b < 18446744073709551616) (w : World) : Calls Try.prog 20 #[.complex .f64 a b] w fun e w' => e = .returned (.tuple #[.bool (negB a), .bool (negB b)]) ∧ w = w' :=
  (Signs_c a b ha hb w).mono fun e w' h => by unfold negB; exact h
/-- What stays as the call goes on: the two boxes' cells. -/
def S5 (w2 : World) (B0 B1 a b : Nat) (w' : World) : Prop :=
  Below w2.heap.size w2 w' ∧ B0 < w2.heap.size ∧ B1 < w2.heap.size ∧ w'.cell? ⟨B0, 0, none⟩ = some (.int .u64 a) ∧ w'.cell? ⟨B0, 1, none⟩ = some (.int .u64 b) ∧
    w'.cell? ⟨B1, 0, none⟩ = some (.int .u64 (bitsC a)) ∧ w'.cell? ⟨B1, 1, none⟩ = some (.int .u64 (bitsC b))
theorem S5_keep {w2 : World} {B0 B1 a b : Nat} {w' w'' : World} (h : S5 w2 B0 B1 a b w') (hb : Below w'.heap.size w' w'') : S5 w2 B0 B1 a b w'' := by
  obtain ⟨h1, h2, h3, h4, h5, h6, h7⟩ := h
  have hz := h1.size
  have k0 : B0 < w'.heap.size := by omega
  have k1 : B1 < w'.heap.size := by omega
  obtain ⟨hc, _⟩ := bcell5 hb
  exact ⟨h1.trans (hb.mono hz), h2, h3, (hc _ _ k0).trans h4, (hc _ _ k0).trans h5, (hc _ _ k1).trans h6, (hc _ _ k1).trans h7⟩
set_option maxHeartbeats 1000000 in
theorem CplxOne_law (a b : Nat) (ha : a < 18446744073709551616) (hb0 : b < 18446744073709551616) (w : World) : Calls Try.prog 3 #[.agg #[.int .u64 a, .int .u64 b]] w fun e w' => e = .returned (.bool true) ∧ Below w.heap.size w w' := by
  have hf := ext_from
  have kb := ckind_le a b
  have s1 := same_of (neg_turn ha) (neg_turn hb0)
  have s2 := same_of (like_refl a) (neg_turn hb0)
  have s3 := same_of (neg_turn hb0) (like_refl a)
  have s4 := same_of (like_refl a) (like_refl b)
  have f1 := feq_self a
  have f2 := feq_self b
  have K : ∃ k : Nat, ckind a b = k ∧ k ≤ 2 := ⟨_, rfl, kb⟩
  obtain ⟨k, K1, K2⟩ := K
  clear kb
  go_enter Try.func3, Try.ntmps3
  go_wp2_with (first
    | (go_at_call 13; refine (of_c _ _ _).mono ?_; rintro e w' ⟨rfl, rfl⟩)
    | (go_at_call 14; refine (Cut_c5 _ _ _).mono ?_; rintro e w1 ⟨rfl, hb1⟩; obtain ⟨hc1, hf1⟩ := bcell5 hb1; have hz1 := hb1.size)
    | (go_at_call 15; refine (Kind_c5 _ _ (by assumption) (by assumption) _).mono ?_; rw [K1]; rintro e w' ⟨rfl, rfl⟩)
    | (go_at_call 16; refine (rKind_c5 _ _ (by assumption) (by assumption) _).mono ?_; rw [K1]; rintro e w' ⟨rfl, rfl⟩)
    | (go_at_call 17; refine (rBits_c _ _).mono ?_; rintro e w' ⟨rfl, rfl⟩))
  have T0 : S5 ((w1.alloc (.cells #[.int .u64 (bitsC a), .int .u64 (bitsC b)] 24))) w.heap.size w1.heap.size a b ((w1.alloc (.cells #[.int .u64 (bitsC a), .int .u64 (bitsC b)] 24)).drew) := by
    refine ⟨(Below.refl _ _).drew, by simp at hz1 ⊢; omega, by simp, ?_, ?_, ?_, ?_⟩
    · show (w1.alloc _).cell? _ = _
      rw [World.cell?_alloc_past _ _ _ (by simp at hz1; omega), hc1 _ _ (by simp), World.cell?_alloc_at _ _ _ _ rfl]; rfl
    · show (w1.alloc _).cell? _ = _
      rw [World.cell?_alloc_past _ _ _ (by simp at hz1; omega), hc1 _ _ (by simp), World.cell?_alloc_at _ _ _ _ rfl]; rfl
    · show (w1.alloc _).cell? _ = _
      rw [World.cell?_alloc_at _ _ _ _ rfl]; rfl
    · show (w1.alloc _).cell? _ = _
      rw [World.cell?_alloc_at _ _ _ _ rfl]; rfl
  have L0 := fun w' (h : S5 ((w1.alloc (.cells #[.int .u64 (bitsC a), .int .u64 (bitsC b)] 24))) w.heap.size w1.heap.size a b w') => h.2.2.2.1
  have L1 := fun w' (h : S5 ((w1.alloc (.cells #[.int .u64 (bitsC a), .int .u64 (bitsC b)] 24))) w.heap.size w1.heap.size a b w') => h.2.2.2.2.1
  have L2 := fun w' (h : S5 ((w1.alloc (.cells #[.int .u64 (bitsC a), .int .u64 (bitsC b)] 24))) w.heap.size w1.heap.size a b w') => h.2.2.2.2.2.1
  have L3 := fun w' (h : S5 ((w1.alloc (.cells #[.int .u64 (bitsC a), .int .u64 (bitsC b)] 24))) w.heap.size w1.heap.size a b w') => h.2.2.2.2.2.2
  have ew : IntKind.i64.wrap (k : Int) = k := by rw [IntKind.wrap_i64]; omega
  have ne1 : ((k : Int) != (k : Int)) = false := bne_self_eq_false _
  go_region_held3 (S5 ((w1.alloc (.cells #[.int .u64 (bitsC a), .int .u64 (bitsC b)] 24))) w.heap.size w1.heap.size a b) (first | assumption | exact S5_keep (by assumption) (by assumption))
    (first
      | (go_at_call 15; refine (Kind_c5 _ _ (by assumption) (by assumption) _).mono ?_; rw [K1]; rintro e w' ⟨rfl, rfl⟩)
      | (go_at_call 16; refine (rKind_c5 _ _ (by assumption) (by assumption) _).mono ?_; rw [K1]; rintro e w' ⟨rfl, rfl⟩)
      | (go_at_call 17; refine (rBits_c _ _).mono ?_; rintro e w' ⟨rfl, rfl⟩)
      | (go_at_call 19; refine (Make_c5 _ _ _).mono ?_; rintro e w' ⟨rfl, hb7⟩)
      | (go_at_call 18; refine (like5_c _ _ _ _ _).mono ?_; rintro e w' ⟨rfl, rfl⟩))
  clear T0 L0 L1 L2 L3 ew ne1 hc1 hf1
  rename_i hHeld
  have hfin := hHeld.1
  clear hHeld hb7
  have HW : Below w.heap.size w w' := ((((Below.refl _ _).alloc (Nat.le_refl _) _).trans (hb1.mono (by simp))).trans ((below_al _ _).mono (by simp at hz1; omega))).trans (hfin.mono (by simp at hz1 ⊢; omega))
  clear hfin hb1
  have e1 := negB_eq a
  have e2 := negB_eq b
  cases q1 : feqB a a <;> cases q2 : sgn a <;> cases q3 : feqB b b <;> cases q4 : sgn b
  all_goals
    rw [q1, q2] at e1
    rw [q3, q4] at e2
    simp only [Bool.and_true, Bool.and_false, Bool.and_self] at e1 e2
    clear f1 f2
    go_wp2_with (first
      | (go_at_call 20; refine (SignsB_c _ _ (by assumption) (by assumption) _).mono ?_; rintro e w' ⟨rfl, rfl⟩)
      | (go_at_call 21; refine (Signbit_c _ (by assumption) _).mono ?_; rintro e w' ⟨rfl, rfl⟩)
      | (go_at_call 22; refine (Neg5_c _ _ _).mono ?_; rintro e w' ⟨rfl, rfl⟩)
      | (go_at_call 23; refine (rNeg5_c _ _ (by assumption) (by assumption) _).mono ?_; rintro e w' ⟨rfl, rfl⟩)
      | (go_at_call 24; refine (Conj_c _ _ _).mono ?_; rintro e w' ⟨rfl, rfl⟩)
      | (go_at_call 25; refine (rConj_c _ _ (by assumption) _).mono ?_; rintro e w' ⟨rfl, rfl⟩)
      | (go_at_call 26; refine (Turn_c _ _ _).mono ?_; rintro e w' ⟨rfl, rfl⟩)
      | (go_at_call 27; refine (rTurn_c _ _ (by assumption) _).mono ?_; rintro e w' ⟨rfl, rfl⟩)
      | (go_at_call 28; refine (Square_c _ _ _).mono ?_; rintro e w' ⟨a1, b1, n1, rfl, h1, h2, rfl⟩)
      | (go_at_call 29; refine (rSquare_c _ _ _).mono ?_; rintro e w' ⟨a2, b2, n2, rfl, h3, h4, rfl⟩; have hs := same_two h1 h2 h3 h4)
      | (go_at_call 18; refine (like5_c _ _ _ _ _).mono ?_; rintro e w' ⟨rfl, rfl⟩)
      | (go_at_call 30; refine (awake_c _).mono ?_; rintro e w' ⟨rfl, hb⟩))
    all_goals go_ret
    all_goals exact ⟨rfl, below_last (below_drewN HW _) hb⟩
end Go.Proofs.Ytcoddacbmjlcnaa
