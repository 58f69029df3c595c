/- Texts put together: D64 D65 D66 Post DP. -/
import Derived.Test.YtjkonfopajihdaaDoorQ6
import Derived.Test.YtjkonfopajihdaaDoorQ4
import Derived.Below
import Derived.ChangeSame
import Derived.Test.YtjkonfopajihdaaDoorRows
import Derived.ProofKit
import Derived.Lib.SmallJoins
import Derived.OpenShut
import Derived.ShutString
set_option linter.unusedVariables false
set_option linter.unusedSimpArgs false
namespace Go.Proofs.YtjkonfopajihdaaDoor
open Go Go.RowKit Nt


@[reducible] def DNear_far_f_f : FuncId := 29
@[reducible] def DNear_far_f_a : List AV := [.agg [.lit (.bool false), .sym 0, .sym 1]]
@[reducible] noncomputable def DNear_far_f_k (b1 b2 : Bool) : Know := ⟨[([0, 15, 3], [.sym 2, .lit (.int .i64 1023)], .lit (.bool b2))],
  [(15, [.agg [.lit (.bool false), .sym 0, .sym 1]], .lit (.int .i64 0)),
  (13, [.agg [.lit (.bool false), .sym 0, .sym 1]], .tup [.sym 2, .lit (.bool true)]),
  (128, [.lit (.bool false), .lit (.int .u64 9007199254740992), .lit (.int .i64 971)], .tup [.sym 3, .lit (.bool b1)])]⟩
theorem DNear_far_f_r1 : @comes (DNear_far_f_k false true) Tryd.prog glT 3000 DNear_far_f_f DNear_far_f_a = some (.lit (.tuple #[.float .f64 9218868437227405312, .int .i64 0])) := by kernel_rfl

set_option maxRecDepth 100000 in
set_option maxHeartbeats 4000000 in
theorem DNear_far_f (n : Nat) (x : Int) (w : World) (hn : (Dy.mk false n x).Num) (h : 1024 ≤ rT n x) (hG : Globs glT w) : Calls Tryd.prog 29 #[.agg #[.bool false, .string (natS n), .int .i64 x]] w fun e w' => e = .returned (.tuple #[.float .f64 (rnd false n x (upNear n x)), .int .i64 0]) ∧ Below w.heap.size w w' := by
  obtain ⟨b1, i1⟩ := bex (okP 9007199254740992 971 = true)
  obtain ⟨b2, i2⟩ := bex (rT n x > 1023)
  letI : Env := mkEnv glT [.string (natS n), .int .i64 x, .int .i64 (rT n x), .float .f64 (mkW false 9007199254740992 971)] rfl
  have hops : OpsT Tryd.prog (@Know.ops (DNear_far_f_k b1 b2)) := ⟨opt_gtr_i rfl rfl i2,
    trivial⟩
  have hcalls : CallsT Tryd.prog (@Know.calls (DNear_far_f_k b1 b2)) := ⟨callt rfl rfl fun w hG => DCheck_dyr (Dy.mk false n x) (Or.inr hn) w,
    callt rfl rfl fun w hG => DTop_r false n x w hn,
    callt rfl rfl fun w hG => bMake_i false 9007199254740992 971 w (by omega) (by omega) (by omega) (Or.inl (by omega)) i1 hG,
    trivial⟩
  have fin : ∀ v, @comes (DNear_far_f_k b1 b2) Tryd.prog glT 3000 DNear_far_f_f DNear_far_f_a = some v → ground v = true → Ending.returned (gval v) = .returned (.tuple #[.float .f64 (rnd false n x (upNear n x)), .int .i64 0]) → Calls Tryd.prog 29 #[.agg #[.bool false, .string (natS n), .int .i64 x]] w fun e w' => e = .returned (.tuple #[.float .f64 (rnd false n x (upNear n x)), .int .i64 0]) ∧ Below w.heap.size w w' := fun v h1 h2 h3 => (@sym_ok _ (DNear_far_f_k b1 b2) _ (@KnowOk.of _ (DNear_far_f_k b1 b2) _ hops hcalls) (by kernel_rfl) _ _ _ _ h1 rfl h2 _ hG).mono fun e w' h => ⟨h.1.trans h3, h.2⟩
  clear hops hcalls
  cases b1 with
  | true =>
    exact absurd (i1.1 rfl) (fun c => okP_iff.1 c ⟨rfl, rfl⟩)
  | false =>
    have h1 : ¬ (okP 9007199254740992 971 = true) := fun c => Bool.false_ne_true (i1.2 c)
    cases b2 with
    | true =>
      have h2 : rT n x > 1023 := i2.1 rfl
      exact fin _ (DNear_far_f_r1) rfl (show Ending.returned (.tuple #[.float .f64 9218868437227405312, .int .i64 0]) = .returned (.tuple #[.float .f64 (rnd false n x (upNear n x)), .int .i64 0]) from by rw [upNear_t (Or.inl (rQ_far h).2.2), rnd_t, (rQ_far h).1, (rQ_far h).2.1, inf_f h1])
    | false =>
      exact absurd (i2.2 ((by omega))) Bool.false_ne_true

@[reducible] def DNear_up_f_f : FuncId := 29
@[reducible] def DNear_up_f_a : List AV := [.agg [.lit (.bool false), .sym 0, .sym 1]]
@[reducible] noncomputable def DNear_up_f_k (b1 b2 b3 : Bool) : Know := ⟨[([0, 15, 3], [.sym 2, .lit (.int .i64 1023)], .lit (.bool b1)),
  ([0, 1, 3], [.sym 3, .sym 1], .sym 4),
  ([1, 0, 3], [.sym 4], .sym 5),
  ([0, 14, 3], [.sym 4, .lit (.int .i64 0)], .lit (.bool b3))],
  [(15, [.agg [.lit (.bool false), .sym 0, .sym 1]], .lit (.int .i64 0)),
  (13, [.agg [.lit (.bool false), .sym 0, .sym 1]], .tup [.sym 2, .lit (.bool true)]),
  (107, [.sym 2], .sym 3),
  (65, [.sym 0, .sym 5], .tup [.sym 6, .lit (.int .i64 0)]),
  (108, [.sym 6], .tup [.sym 7, .lit (.bool true)]),
  (128, [.lit (.bool false), .sym 7, .sym 3], .tup [.sym 8, .lit (.bool b2)])]⟩
theorem DNear_up_f_r1 : @comes (DNear_up_f_k false true true) Tryd.prog glT 3000 DNear_up_f_f DNear_up_f_a = some (.tup [.sym 8, .lit (.int .i64 0)]) := by kernel_rfl

set_option maxRecDepth 100000 in
set_option maxHeartbeats 4000000 in
theorem DNear_up_f (n : Nat) (x : Int) (w : World) (hn : (Dy.mk false n x).Num) (h : ¬ 1024 ≤ rT n x) (hu : rQ n x ≤ x) (hG : Globs glT w) : Calls Tryd.prog 29 #[.agg #[.bool false, .string (natS n), .int .i64 x]] w fun e w' => e = .returned (.tuple #[.float .f64 (rnd false n x (upNear n x)), .int .i64 0]) ∧ Below w.heap.size w w' := by
  obtain ⟨b1, i1⟩ := bex (rT n x > 1023)
  obtain ⟨b2, i2⟩ := bex (okP (rM n x) (rQ n x) = true)
  obtain ⟨b3, i3⟩ := bex (rQ n x - x ≤ 0)
  letI : Env := mkEnv glT [.string (natS n), .int .i64 x, .int .i64 (rT n x), .int .i64 (rQ n x), .int .i64 (rQ n x - x), .int .i64 (-(rQ n x - x)), .string (natS (rM n x)), .int .u64 (((rM n x : Nat) : Int)), .float .f64 (mkW false (rM n x) (rQ n x))] rfl
  have hops : OpsT Tryd.prog (@Know.ops (DNear_up_f_k b1 b2 b3)) := ⟨opt_gtr_i rfl rfl i1,
    opt_sub rfl rfl rfl rfl rfl (by have := (rQ_b n x); have := hn.2.2.1; have := hn.2.2.2; simp only at *; omega),
    opt_neg rfl rfl rfl rfl (by have := (rQ_b n x); have := hn.2.2.1; have := hn.2.2.2; simp only at *; omega),
    opt_leq_i rfl rfl i3,
    trivial⟩
  have hcalls : CallsT Tryd.prog (@Know.calls (DNear_up_f_k b1 b2 b3)) := ⟨callt rfl rfl fun w hG => DCheck_dyr (Dy.mk false n x) (Or.inr hn) w,
    callt rfl rfl fun w hG => DTop_r false n x w hn,
    callt rfl rfl fun w hG => Least_r false n x w hn h,
    callt rfl rfl fun w hG => NShift_r false n x w hn h,
    callt rfl rfl fun w hG => NSmall_r false n x w hn,
    callt rfl rfl fun w hG => bMake_i false (rM n x) (rQ n x) w (Nat.le_of_lt (rM_b (x := x) (odd_ne hn.2.1)).1) (rQ_b n x).1 (rQ_b n x).2 (rM_b (x := x) (odd_ne hn.2.1)).2 i2 hG,
    trivial⟩
  have fin : ∀ v, @comes (DNear_up_f_k b1 b2 b3) Tryd.prog glT 3000 DNear_up_f_f DNear_up_f_a = some v → ground v = true → Ending.returned (gval v) = .returned (.tuple #[.float .f64 (rnd false n x (upNear n x)), .int .i64 0]) → Calls Tryd.prog 29 #[.agg #[.bool false, .string (natS n), .int .i64 x]] w fun e w' => e = .returned (.tuple #[.float .f64 (rnd false n x (upNear n x)), .int .i64 0]) ∧ Below w.heap.size w w' := fun v h1 h2 h3 => (@sym_ok _ (DNear_up_f_k b1 b2 b3) _ (@KnowOk.of _ (DNear_up_f_k b1 b2 b3) _ hops hcalls) (by kernel_rfl) _ _ _ _ h1 rfl h2 _ hG).mono fun e w' h => ⟨h.1.trans h3, h.2⟩
  clear hops hcalls
  cases b2 with
  | true =>
    have h2 : okP (rM n x) (rQ n x) = true := i2.1 rfl
    cases b1 with
    | true =>
      exact absurd (i1.1 rfl) ((by omega))
    | false =>
      have h1 : ¬ (rT n x > 1023) := fun c => Bool.false_ne_true (i1.2 c)
      cases b3 with
      | true =>
        have h3 : rQ n x - x ≤ 0 := i3.1 rfl
        exact fin _ (DNear_up_f_r1) rfl (show Ending.returned (.tuple #[.float .f64 (mkW false (rM n x) (rQ n x)), .int .i64 0]) = .returned (.tuple #[.float .f64 (rnd false n x (upNear n x)), .int .i64 0]) from by rw [upNear_f (by rw [(rM_up h hu).2]; omega), rnd_f, mkW_ok h2])
      | false =>
        exact absurd (i3.2 ((by omega))) Bool.false_ne_true
  | false =>
    exact absurd (i2.2 (okP_lt (rM_b (x := x) (odd_ne hn.2.1)).1)) Bool.false_ne_true

@[reducible] def DNear_dn_f_f : FuncId := 29
@[reducible] def DNear_dn_f_a : List AV := [.agg [.lit (.bool false), .sym 0, .sym 1]]
@[reducible] noncomputable def DNear_dn_f_k (b1 b2 b3 b4 b5 b6 b7 : Bool) : Know := ⟨[([0, 15, 3], [.sym 2, .lit (.int .i64 1023)], .lit (.bool b1)),
  ([0, 1, 3], [.sym 3, .sym 1], .sym 4),
  ([1, 0, 3], [.sym 4], .sym 5),
  ([0, 14, 3], [.sym 4, .lit (.int .i64 0)], .lit (.bool b3)),
  ([0, 1, 3], [.sym 4, .lit (.int .i64 1)], .sym 9),
  ([0, 11, 5], [.sym 10, .lit (.int .u8 0)], .lit (.bool b4)),
  ([0, 5, 80], [.sym 7, .lit (.int .u64 1)], .sym 11),
  ([0, 11, 80], [.sym 11, .lit (.int .u64 1)], .lit (.bool b5)),
  ([0, 11, 3], [.sym 4, .lit (.int .i64 1)], .lit (.bool b6)),
  ([0, 0, 80], [.sym 7, .lit (.int .u64 1)], .sym 12)],
  [(15, [.agg [.lit (.bool false), .sym 0, .sym 1]], .lit (.int .i64 0)),
  (13, [.agg [.lit (.bool false), .sym 0, .sym 1]], .tup [.sym 2, .lit (.bool true)]),
  (107, [.sym 2], .sym 3),
  (65, [.sym 0, .sym 5], .tup [.sym 6, .lit (.int .i64 0)]),
  (108, [.sym 6], .tup [.sym 7, .lit (.bool true)]),
  (128, [.lit (.bool false), .sym 7, .sym 3], .tup [.sym 8, .lit (.bool b2)]),
  (130, [.sym 0, .sym 9], .tup [.sym 10, .lit (.int .i64 0)]),
  (128, [.lit (.bool false), .sym 12, .sym 3], .tup [.sym 13, .lit (.bool b7)])]⟩
theorem DNear_dn_f_r1 (b6 b7 : Bool) : @comes (DNear_dn_f_k false true false true true b6 b7) Tryd.prog glT 3000 DNear_dn_f_f DNear_dn_f_a = some (.tup [.sym 8, .lit (.int .i64 0)]) := by kernel_rfl
theorem DNear_dn_f_r2 (b6 b7 : Bool) : @comes (DNear_dn_f_k false true false true false b6 b7) Tryd.prog glT 3000 DNear_dn_f_f DNear_dn_f_a = some (.tup [.sym 8, .lit (.int .i64 0)]) := by kernel_rfl
theorem DNear_dn_f_r3 (b2 : Bool) : @comes (DNear_dn_f_k false b2 false false true true true) Tryd.prog glT 3000 DNear_dn_f_f DNear_dn_f_a = some (.tup [.sym 13, .lit (.int .i64 0)]) := by kernel_rfl
theorem DNear_dn_f_r4 (b2 : Bool) : @comes (DNear_dn_f_k false b2 false false true true false) Tryd.prog glT 3000 DNear_dn_f_f DNear_dn_f_a = some (.lit (.tuple #[.float .f64 9218868437227405312, .int .i64 0])) := by kernel_rfl
theorem DNear_dn_f_r5 (b7 : Bool) : @comes (DNear_dn_f_k false true false false false true b7) Tryd.prog glT 3000 DNear_dn_f_f DNear_dn_f_a = some (.tup [.sym 8, .lit (.int .i64 0)]) := by kernel_rfl
theorem DNear_dn_f_r6 (b2 : Bool) : @comes (DNear_dn_f_k false b2 false false true false true) Tryd.prog glT 3000 DNear_dn_f_f DNear_dn_f_a = some (.tup [.sym 13, .lit (.int .i64 0)]) := by kernel_rfl
theorem DNear_dn_f_r7 (b2 : Bool) : @comes (DNear_dn_f_k false b2 false false true false false) Tryd.prog glT 3000 DNear_dn_f_f DNear_dn_f_a = some (.lit (.tuple #[.float .f64 9218868437227405312, .int .i64 0])) := by kernel_rfl
theorem DNear_dn_f_r8 (b2 : Bool) : @comes (DNear_dn_f_k false b2 false false false false true) Tryd.prog glT 3000 DNear_dn_f_f DNear_dn_f_a = some (.tup [.sym 13, .lit (.int .i64 0)]) := by kernel_rfl
theorem DNear_dn_f_r9 (b2 : Bool) : @comes (DNear_dn_f_k false b2 false false false false false) Tryd.prog glT 3000 DNear_dn_f_f DNear_dn_f_a = some (.lit (.tuple #[.float .f64 9218868437227405312, .int .i64 0])) := by kernel_rfl

set_option maxRecDepth 100000 in
set_option maxHeartbeats 4000000 in
theorem DNear_dn_f (n : Nat) (x : Int) (w : World) (hn : (Dy.mk false n x).Num) (h : ¬ 1024 ≤ rT n x) (hu : ¬ rQ n x ≤ x) (hG : Globs glT w) : Calls Tryd.prog 29 #[.agg #[.bool false, .string (natS n), .int .i64 x]] w fun e w' => e = .returned (.tuple #[.float .f64 (rnd false n x (upNear n x)), .int .i64 0]) ∧ Below w.heap.size w w' := by
  obtain ⟨b1, i1⟩ := bex (rT n x > 1023)
  obtain ⟨b2, i2⟩ := bex (okP (rM n x) (rQ n x) = true)
  obtain ⟨b3, i3⟩ := bex (rQ n x - x ≤ 0)
  obtain ⟨b4, i4⟩ := bex (((rB n x : Nat) : Int) = 0)
  obtain ⟨b5, i5⟩ := bex (((rM n x % 2 : Nat) : Int) = 1)
  obtain ⟨b6, i6⟩ := bex (rQ n x - x = 1)
  obtain ⟨b7, i7⟩ := bex (okP (rM n x + 1) (rQ n x) = true)
  letI : Env := mkEnv glT [.string (natS n), .int .i64 x, .int .i64 (rT n x), .int .i64 (rQ n x), .int .i64 (rQ n x - x), .int .i64 (-(rQ n x - x)), .string (natS (rM n x)), .int .u64 (((rM n x : Nat) : Int)), .float .f64 (mkW false (rM n x) (rQ n x)), .int .i64 (rQ n x - x - 1), .int .u8 (((rB n x : Nat) : Int)), .int .u64 (((rM n x % 2 : Nat) : Int)), .int .u64 (((rM n x + 1 : Nat) : Int)), .float .f64 (mkW false (rM n x + 1) (rQ n x))] rfl
  have hops : OpsT Tryd.prog (@Know.ops (DNear_dn_f_k b1 b2 b3 b4 b5 b6 b7)) := ⟨opt_gtr_i rfl rfl i1,
    opt_sub rfl rfl rfl rfl rfl (by have := (rQ_b n x); have := hn.2.2.1; have := hn.2.2.2; simp only at *; omega),
    opt_neg rfl rfl rfl rfl (by have := (rQ_b n x); have := hn.2.2.1; have := hn.2.2.2; simp only at *; omega),
    opt_leq_i rfl rfl i3,
    opt_sub rfl rfl rfl rfl rfl (by have := (rQ_b n x); have := hn.2.2.1; have := hn.2.2.2; simp only at *; omega),
    opt_eql_i rfl rfl i4,
    opt_odd rfl rfl rfl rfl (by have : rM n x < 9007199254740992 := (rM_b (x := x) (odd_ne hn.2.1)).1; omega),
    opt_eql_i rfl rfl i5,
    opt_eql_i rfl rfl i6,
    opt_add64 (y := 1) rfl rfl rfl rfl rfl (by have : rM n x < 9007199254740992 := (rM_b (x := x) (odd_ne hn.2.1)).1; omega),
    trivial⟩
  have hcalls : CallsT Tryd.prog (@Know.calls (DNear_dn_f_k b1 b2 b3 b4 b5 b6 b7)) := ⟨callt rfl rfl fun w hG => DCheck_dyr (Dy.mk false n x) (Or.inr hn) w,
    callt rfl rfl fun w hG => DTop_r false n x w hn,
    callt rfl rfl fun w hG => Least_r false n x w hn h,
    callt rfl rfl fun w hG => NShift_r false n x w hn h,
    callt rfl rfl fun w hG => NSmall_r false n x w hn,
    callt rfl rfl fun w hG => bMake_i false (rM n x) (rQ n x) w (Nat.le_of_lt (rM_b (x := x) (odd_ne hn.2.1)).1) (rQ_b n x).1 (rQ_b n x).2 (rM_b (x := x) (odd_ne hn.2.1)).2 i2 hG,
    callt rfl rfl fun w hG => NBit_r false n x w hn hu,
    callt rfl rfl fun w hG => bMake_i false (rM n x + 1) (rQ n x) w (rM_b (x := x) (odd_ne hn.2.1)).1 (rQ_b n x).1 (rQ_b n x).2 ((rM_b (x := x) (odd_ne hn.2.1)).2.imp (fun h => Nat.le_succ_of_le h) id) i7 hG,
    trivial⟩
  have fin : ∀ v, @comes (DNear_dn_f_k b1 b2 b3 b4 b5 b6 b7) Tryd.prog glT 3000 DNear_dn_f_f DNear_dn_f_a = some v → ground v = true → Ending.returned (gval v) = .returned (.tuple #[.float .f64 (rnd false n x (upNear n x)), .int .i64 0]) → Calls Tryd.prog 29 #[.agg #[.bool false, .string (natS n), .int .i64 x]] w fun e w' => e = .returned (.tuple #[.float .f64 (rnd false n x (upNear n x)), .int .i64 0]) ∧ Below w.heap.size w w' := fun v h1 h2 h3 => (@sym_ok _ (DNear_dn_f_k b1 b2 b3 b4 b5 b6 b7) _ (@KnowOk.of _ (DNear_dn_f_k b1 b2 b3 b4 b5 b6 b7) _ hops hcalls) (by kernel_rfl) _ _ _ _ h1 rfl h2 _ hG).mono fun e w' h => ⟨h.1.trans h3, h.2⟩
  clear hops hcalls
  cases b4 with
  | true =>
    have h4 : ((rB n x : Nat) : Int) = 0 := i4.1 rfl
    cases b5 with
    | true =>
      have h5 : ((rM n x % 2 : Nat) : Int) = 1 := i5.1 rfl
      cases b2 with
      | true =>
        have h2 : okP (rM n x) (rQ n x) = true := i2.1 rfl
        cases b1 with
        | true =>
          exact absurd (i1.1 rfl) ((by omega))
        | false =>
          have h1 : ¬ (rT n x > 1023) := fun c => Bool.false_ne_true (i1.2 c)
          cases b3 with
          | true =>
            exact absurd (i3.1 rfl) ((by omega))
          | false =>
            have h3 : ¬ (rQ n x - x ≤ 0) := fun c => Bool.false_ne_true (i3.2 c)
            exact fin _ (DNear_dn_f_r1 b6 b7) rfl (show Ending.returned (.tuple #[.float .f64 (mkW false (rM n x) (rQ n x)), .int .i64 0]) = .returned (.tuple #[.float .f64 (rnd false n x (upNear n x)), .int .i64 0]) from by rw [upNear_f (by rw [(show rW n x = 1 from (by rw [rW_dn hn h hu, if_pos (by have := h4; omega)]))]; omega), rnd_f, mkW_ok h2])
      | false =>
        exact absurd (i2.2 (okP_lt (rM_b (x := x) (odd_ne hn.2.1)).1)) Bool.false_ne_true
    | false =>
      have h5 : ¬ (((rM n x % 2 : Nat) : Int) = 1) := fun c => Bool.false_ne_true (i5.2 c)
      cases b2 with
      | true =>
        have h2 : okP (rM n x) (rQ n x) = true := i2.1 rfl
        cases b1 with
        | true =>
          exact absurd (i1.1 rfl) ((by omega))
        | false =>
          have h1 : ¬ (rT n x > 1023) := fun c => Bool.false_ne_true (i1.2 c)
          cases b3 with
          | true =>
            exact absurd (i3.1 rfl) ((by omega))
          | false =>
            have h3 : ¬ (rQ n x - x ≤ 0) := fun c => Bool.false_ne_true (i3.2 c)
            exact fin _ (DNear_dn_f_r2 b6 b7) rfl (show Ending.returned (.tuple #[.float .f64 (mkW false (rM n x) (rQ n x)), .int .i64 0]) = .returned (.tuple #[.float .f64 (rnd false n x (upNear n x)), .int .i64 0]) from by rw [upNear_f (by rw [(show rW n x = 1 from (by rw [rW_dn hn h hu, if_pos (by have := h4; omega)]))]; omega), rnd_f, mkW_ok h2])
      | false =>
        exact absurd (i2.2 (okP_lt (rM_b (x := x) (odd_ne hn.2.1)).1)) Bool.false_ne_true
  | false =>
    have h4 : ¬ (((rB n x : Nat) : Int) = 0) := fun c => Bool.false_ne_true (i4.2 c)
    cases b6 with
    | true =>
      have h6 : rQ n x - x = 1 := i6.1 rfl
      cases b5 with
      | true =>
        have h5 : ((rM n x % 2 : Nat) : Int) = 1 := i5.1 rfl
        cases b7 with
        | true =>
          have h7 : okP (rM n x + 1) (rQ n x) = true := i7.1 rfl
          cases b1 with
          | true =>
            exact absurd (i1.1 rfl) ((by omega))
          | false =>
            have h1 : ¬ (rT n x > 1023) := fun c => Bool.false_ne_true (i1.2 c)
            cases b3 with
            | true =>
              exact absurd (i3.1 rfl) ((by omega))
            | false =>
              have h3 : ¬ (rQ n x - x ≤ 0) := fun c => Bool.false_ne_true (i3.2 c)
              exact fin _ (DNear_dn_f_r3 b2) rfl (show Ending.returned (.tuple #[.float .f64 (mkW false (rM n x + 1) (rQ n x)), .int .i64 0]) = .returned (.tuple #[.float .f64 (rnd false n x (upNear n x)), .int .i64 0]) from by rw [upNear_t (Or.inr ⟨(show rW n x = 2 from (by rw [rW_dn hn h hu, if_neg (fun c => h4 (by rw [c]; rfl)), if_pos h6])), by have := h5; omega⟩), rnd_t, mkW_ok h7])
        | false =>
          have h7 : ¬ (okP (rM n x + 1) (rQ n x) = true) := fun c => Bool.false_ne_true (i7.2 c)
          cases b1 with
          | true =>
            exact absurd (i1.1 rfl) ((by omega))
          | false =>
            have h1 : ¬ (rT n x > 1023) := fun c => Bool.false_ne_true (i1.2 c)
            cases b3 with
            | true =>
              exact absurd (i3.1 rfl) ((by omega))
            | false =>
              have h3 : ¬ (rQ n x - x ≤ 0) := fun c => Bool.false_ne_true (i3.2 c)
              exact fin _ (DNear_dn_f_r4 b2) rfl (show Ending.returned (.tuple #[.float .f64 9218868437227405312, .int .i64 0]) = .returned (.tuple #[.float .f64 (rnd false n x (upNear n x)), .int .i64 0]) from by rw [upNear_t (Or.inr ⟨(show rW n x = 2 from (by rw [rW_dn hn h hu, if_neg (fun c => h4 (by rw [c]; rfl)), if_pos h6])), by have := h5; omega⟩), rnd_t, inf_f h7])
      | false =>
        have h5 : ¬ (((rM n x % 2 : Nat) : Int) = 1) := fun c => Bool.false_ne_true (i5.2 c)
        cases b2 with
        | true =>
          have h2 : okP (rM n x) (rQ n x) = true := i2.1 rfl
          cases b1 with
          | true =>
            exact absurd (i1.1 rfl) ((by omega))
          | false =>
            have h1 : ¬ (rT n x > 1023) := fun c => Bool.false_ne_true (i1.2 c)
            cases b3 with
            | true =>
              exact absurd (i3.1 rfl) ((by omega))
            | false =>
              have h3 : ¬ (rQ n x - x ≤ 0) := fun c => Bool.false_ne_true (i3.2 c)
              exact fin _ (DNear_dn_f_r5 b7) rfl (show Ending.returned (.tuple #[.float .f64 (mkW false (rM n x) (rQ n x)), .int .i64 0]) = .returned (.tuple #[.float .f64 (rnd false n x (upNear n x)), .int .i64 0]) from by rw [upNear_f (fun c => by rcases c with c | ⟨_, c⟩; exact absurd ((show rW n x = 2 from (by rw [rW_dn hn h hu, if_neg (fun c => h4 (by rw [c]; rfl)), if_pos h6])).symm.trans c) (by decide); exact h5 (by rw [c]; rfl)), rnd_f, mkW_ok h2])
        | false =>
          exact absurd (i2.2 (okP_lt (rM_b (x := x) (odd_ne hn.2.1)).1)) Bool.false_ne_true
    | false =>
      have h6 : ¬ (rQ n x - x = 1) := fun c => Bool.false_ne_true (i6.2 c)
      cases b5 with
      | true =>
        have h5 : ((rM n x % 2 : Nat) : Int) = 1 := i5.1 rfl
        cases b7 with
        | true =>
          have h7 : okP (rM n x + 1) (rQ n x) = true := i7.1 rfl
          cases b1 with
          | true =>
            exact absurd (i1.1 rfl) ((by omega))
          | false =>
            have h1 : ¬ (rT n x > 1023) := fun c => Bool.false_ne_true (i1.2 c)
            cases b3 with
            | true =>
              exact absurd (i3.1 rfl) ((by omega))
            | false =>
              have h3 : ¬ (rQ n x - x ≤ 0) := fun c => Bool.false_ne_true (i3.2 c)
              exact fin _ (DNear_dn_f_r6 b2) rfl (show Ending.returned (.tuple #[.float .f64 (mkW false (rM n x + 1) (rQ n x)), .int .i64 0]) = .returned (.tuple #[.float .f64 (rnd false n x (upNear n x)), .int .i64 0]) from by rw [upNear_t (Or.inl (show rW n x = 3 from (by rw [rW_dn hn h hu, if_neg (fun c => h4 (by rw [c]; rfl)), if_neg h6]))), rnd_t, mkW_ok h7])
        | false =>
          have h7 : ¬ (okP (rM n x + 1) (rQ n x) = true) := fun c => Bool.false_ne_true (i7.2 c)
          cases b1 with
          | true =>
            exact absurd (i1.1 rfl) ((by omega))
          | false =>
            have h1 : ¬ (rT n x > 1023) := fun c => Bool.false_ne_true (i1.2 c)
            cases b3 with
            | true =>
              exact absurd (i3.1 rfl) ((by omega))
            | false =>
              have h3 : ¬ (rQ n x - x ≤ 0) := fun c => Bool.false_ne_true (i3.2 c)
              exact fin _ (DNear_dn_f_r7 b2) rfl (show Ending.returned (.tuple #[.float .f64 9218868437227405312, .int .i64 0]) = .returned (.tuple #[.float .f64 (rnd false n x (upNear n x)), .int .i64 0]) from by rw [upNear_t (Or.inl (show rW n x = 3 from (by rw [rW_dn hn h hu, if_neg (fun c => h4 (by rw [c]; rfl)), if_neg h6]))), rnd_t, inf_f h7])
      | false =>
        have h5 : ¬ (((rM n x % 2 : Nat) : Int) = 1) := fun c => Bool.false_ne_true (i5.2 c)
        cases b7 with
        | true =>
          have h7 : okP (rM n x + 1) (rQ n x) = true := i7.1 rfl
          cases b1 with
          | true =>
            exact absurd (i1.1 rfl) ((by omega))
          | false =>
            have h1 : ¬ (rT n x > 1023) := fun c => Bool.false_ne_true (i1.2 c)
            cases b3 with
            | true =>
              exact absurd (i3.1 rfl) ((by omega))
            | false =>
              have h3 : ¬ (rQ n x - x ≤ 0) := fun c => Bool.false_ne_true (i3.2 c)
              exact fin _ (DNear_dn_f_r8 b2) rfl (show Ending.returned (.tuple #[.float .f64 (mkW false (rM n x + 1) (rQ n x)), .int .i64 0]) = .returned (.tuple #[.float .f64 (rnd false n x (upNear n x)), .int .i64 0]) from by rw [upNear_t (Or.inl (show rW n x = 3 from (by rw [rW_dn hn h hu, if_neg (fun c => h4 (by rw [c]; rfl)), if_neg h6]))), rnd_t, mkW_ok h7])
        | false =>
          have h7 : ¬ (okP (rM n x + 1) (rQ n x) = true) := fun c => Bool.false_ne_true (i7.2 c)
          cases b1 with
          | true =>
            exact absurd (i1.1 rfl) ((by omega))
          | false =>
            have h1 : ¬ (rT n x > 1023) := fun c => Bool.false_ne_true (i1.2 c)
            cases b3 with
            | true =>
              exact absurd (i3.1 rfl) ((by omega))
            | false =>
              have h3 : ¬ (rQ n x - x ≤ 0) := fun c => Bool.false_ne_true (i3.2 c)
              exact fin _ (DNear_dn_f_r9 b2) rfl (show Ending.returned (.tuple #[.float .f64 9218868437227405312, .int .i64 0]) = .returned (.tuple #[.float .f64 (rnd false n x (upNear n x)), .int .i64 0]) from by rw [upNear_t (Or.inl (show rW n x = 3 from (by rw [rW_dn hn h hu, if_neg (fun c => h4 (by rw [c]; rfl)), if_neg h6]))), rnd_t, inf_f h7])

theorem DNear_f (n : Nat) (x : Int) (w : World) (hn : (Dy.mk false n x).Num) (hG : Globs glT w) : Calls Tryd.prog 29 #[.agg #[.bool false, .string (natS n), .int .i64 x]] w fun e w' => e = .returned (.tuple #[.float .f64 (rnd false n x (upNear n x)), .int .i64 0]) ∧ Below w.heap.size w w' := by
  by_cases h : 1024 ≤ rT n x
  · exact DNear_far_f n x w hn h hG
  · by_cases hu : rQ n x ≤ x
    · exact DNear_up_f n x w hn h hu hG
    · exact DNear_dn_f n x w hn h hu hG
@[reducible] def DNear_far_t_f : FuncId := 29
@[reducible] def DNear_far_t_a : List AV := [.agg [.lit (.bool true), .sym 0, .sym 1]]
@[reducible] noncomputable def DNear_far_t_k (b1 b2 : Bool) : Know := ⟨[([0, 15, 3], [.sym 2, .lit (.int .i64 1023)], .lit (.bool b2))],
  [(15, [.agg [.lit (.bool true), .sym 0, .sym 1]], .lit (.int .i64 0)),
  (13, [.agg [.lit (.bool true), .sym 0, .sym 1]], .tup [.sym 2, .lit (.bool true)]),
  (128, [.lit (.bool true), .lit (.int .u64 9007199254740992), .lit (.int .i64 971)], .tup [.sym 3, .lit (.bool b1)])]⟩
theorem DNear_far_t_r1 : @comes (DNear_far_t_k false true) Tryd.prog glT 3000 DNear_far_t_f DNear_far_t_a = some (.lit (.tuple #[.float .f64 18442240474082181120, .int .i64 0])) := by kernel_rfl

set_option maxRecDepth 100000 in
set_option maxHeartbeats 4000000 in
theorem DNear_far_t (n : Nat) (x : Int) (w : World) (hn : (Dy.mk true n x).Num) (h : 1024 ≤ rT n x) (hG : Globs glT w) : Calls Tryd.prog 29 #[.agg #[.bool true, .string (natS n), .int .i64 x]] w fun e w' => e = .returned (.tuple #[.float .f64 (rnd true n x (upNear n x)), .int .i64 0]) ∧ Below w.heap.size w w' := by
  obtain ⟨b1, i1⟩ := bex (okP 9007199254740992 971 = true)
  obtain ⟨b2, i2⟩ := bex (rT n x > 1023)
  letI : Env := mkEnv glT [.string (natS n), .int .i64 x, .int .i64 (rT n x), .float .f64 (mkW true 9007199254740992 971)] rfl
  have hops : OpsT Tryd.prog (@Know.ops (DNear_far_t_k b1 b2)) := ⟨opt_gtr_i rfl rfl i2,
    trivial⟩
  have hcalls : CallsT Tryd.prog (@Know.calls (DNear_far_t_k b1 b2)) := ⟨callt rfl rfl fun w hG => DCheck_dyr (Dy.mk true n x) (Or.inr hn) w,
    callt rfl rfl fun w hG => DTop_r true n x w hn,
    callt rfl rfl fun w hG => bMake_i true 9007199254740992 971 w (by omega) (by omega) (by omega) (Or.inl (by omega)) i1 hG,
    trivial⟩
  have fin : ∀ v, @comes (DNear_far_t_k b1 b2) Tryd.prog glT 3000 DNear_far_t_f DNear_far_t_a = some v → ground v = true → Ending.returned (gval v) = .returned (.tuple #[.float .f64 (rnd true n x (upNear n x)), .int .i64 0]) → Calls Tryd.prog 29 #[.agg #[.bool true, .string (natS n), .int .i64 x]] w fun e w' => e = .returned (.tuple #[.float .f64 (rnd true n x (upNear n x)), .int .i64 0]) ∧ Below w.heap.size w w' := fun v h1 h2 h3 => (@sym_ok _ (DNear_far_t_k b1 b2) _ (@KnowOk.of _ (DNear_far_t_k b1 b2) _ hops hcalls) (by kernel_rfl) _ _ _ _ h1 rfl h2 _ hG).mono fun e w' h => ⟨h.1.trans h3, h.2⟩
  clear hops hcalls
  cases b1 with
  | true =>
    exact absurd (i1.1 rfl) (fun c => okP_iff.1 c ⟨rfl, rfl⟩)
  | false =>
    have h1 : ¬ (okP 9007199254740992 971 = true) := fun c => Bool.false_ne_true (i1.2 c)
    cases b2 with
    | true =>
      have h2 : rT n x > 1023 := i2.1 rfl
      exact fin _ (DNear_far_t_r1) rfl (show Ending.returned (.tuple #[.float .f64 18442240474082181120, .int .i64 0]) = .returned (.tuple #[.float .f64 (rnd true n x (upNear n x)), .int .i64 0]) from by rw [upNear_t (Or.inl (rQ_far h).2.2), rnd_t, (rQ_far h).1, (rQ_far h).2.1, inf_t h1])
    | false =>
      exact absurd (i2.2 ((by omega))) Bool.false_ne_true

@[reducible] def DNear_up_t_f : FuncId := 29
@[reducible] def DNear_up_t_a : List AV := [.agg [.lit (.bool true), .sym 0, .sym 1]]
@[reducible] noncomputable def DNear_up_t_k (b1 b2 b3 : Bool) : Know := ⟨[([0, 15, 3], [.sym 2, .lit (.int .i64 1023)], .lit (.bool b1)),
  ([0, 1, 3], [.sym 3, .sym 1], .sym 4),
  ([1, 0, 3], [.sym 4], .sym 5),
  ([0, 14, 3], [.sym 4, .lit (.int .i64 0)], .lit (.bool b3))],
  [(15, [.agg [.lit (.bool true), .sym 0, .sym 1]], .lit (.int .i64 0)),
  (13, [.agg [.lit (.bool true), .sym 0, .sym 1]], .tup [.sym 2, .lit (.bool true)]),
  (107, [.sym 2], .sym 3),
  (65, [.sym 0, .sym 5], .tup [.sym 6, .lit (.int .i64 0)]),
  (108, [.sym 6], .tup [.sym 7, .lit (.bool true)]),
  (128, [.lit (.bool true), .sym 7, .sym 3], .tup [.sym 8, .lit (.bool b2)])]⟩
theorem DNear_up_t_r1 : @comes (DNear_up_t_k false true true) Tryd.prog glT 3000 DNear_up_t_f DNear_up_t_a = some (.tup [.sym 8, .lit (.int .i64 0)]) := by kernel_rfl

set_option maxRecDepth 100000 in
set_option maxHeartbeats 4000000 in
theorem DNear_up_t (n : Nat) (x : Int) (w : World) (hn : (Dy.mk true n x).Num) (h : ¬ 1024 ≤ rT n x) (hu : rQ n x ≤ x) (hG : Globs glT w) : Calls Tryd.prog 29 #[.agg #[.bool true, .string (natS n), .int .i64 x]] w fun e w' => e = .returned (.tuple #[.float .f64 (rnd true n x (upNear n x)), .int .i64 0]) ∧ Below w.heap.size w w' := by
  obtain ⟨b1, i1⟩ := bex (rT n x > 1023)
  obtain ⟨b2, i2⟩ := bex (okP (rM n x) (rQ n x) = true)
  obtain ⟨b3, i3⟩ := bex (rQ n x - x ≤ 0)
  letI : Env := mkEnv glT [.string (natS n), .int .i64 x, .int .i64 (rT n x), .int .i64 (rQ n x), .int .i64 (rQ n x - x), .int .i64 (-(rQ n x - x)), .string (natS (rM n x)), .int .u64 (((rM n x : Nat) : Int)), .float .f64 (mkW true (rM n x) (rQ n x))] rfl
  have hops : OpsT Tryd.prog (@Know.ops (DNear_up_t_k b1 b2 b3)) := ⟨opt_gtr_i rfl rfl i1,
    opt_sub rfl rfl rfl rfl rfl (by have := (rQ_b n x); have := hn.2.2.1; have := hn.2.2.2; simp only at *; omega),
    opt_neg rfl rfl rfl rfl (by have := (rQ_b n x); have := hn.2.2.1; have := hn.2.2.2; simp only at *; omega),
    opt_leq_i rfl rfl i3,
    trivial⟩
  have hcalls : CallsT Tryd.prog (@Know.calls (DNear_up_t_k b1 b2 b3)) := ⟨callt rfl rfl fun w hG => DCheck_dyr (Dy.mk true n x) (Or.inr hn) w,
    callt rfl rfl fun w hG => DTop_r true n x w hn,
    callt rfl rfl fun w hG => Least_r true n x w hn h,
    callt rfl rfl fun w hG => NShift_r true n x w hn h,
    callt rfl rfl fun w hG => NSmall_r true n x w hn,
    callt rfl rfl fun w hG => bMake_i true (rM n x) (rQ n x) w (Nat.le_of_lt (rM_b (x := x) (odd_ne hn.2.1)).1) (rQ_b n x).1 (rQ_b n x).2 (rM_b (x := x) (odd_ne hn.2.1)).2 i2 hG,
    trivial⟩
  have fin : ∀ v, @comes (DNear_up_t_k b1 b2 b3) Tryd.prog glT 3000 DNear_up_t_f DNear_up_t_a = some v → ground v = true → Ending.returned (gval v) = .returned (.tuple #[.float .f64 (rnd true n x (upNear n x)), .int .i64 0]) → Calls Tryd.prog 29 #[.agg #[.bool true, .string (natS n), .int .i64 x]] w fun e w' => e = .returned (.tuple #[.float .f64 (rnd true n x (upNear n x)), .int .i64 0]) ∧ Below w.heap.size w w' := fun v h1 h2 h3 => (@sym_ok _ (DNear_up_t_k b1 b2 b3) _ (@KnowOk.of _ (DNear_up_t_k b1 b2 b3) _ hops hcalls) (by kernel_rfl) _ _ _ _ h1 rfl h2 _ hG).mono fun e w' h => ⟨h.1.trans h3, h.2⟩
  clear hops hcalls
  cases b2 with
  | true =>
    have h2 : okP (rM n x) (rQ n x) = true := i2.1 rfl
    cases b1 with
    | true =>
      exact absurd (i1.1 rfl) ((by omega))
    | false =>
      have h1 : ¬ (rT n x > 1023) := fun c => Bool.false_ne_true (i1.2 c)
      cases b3 with
      | true =>
        have h3 : rQ n x - x ≤ 0 := i3.1 rfl
        exact fin _ (DNear_up_t_r1) rfl (show Ending.returned (.tuple #[.float .f64 (mkW true (rM n x) (rQ n x)), .int .i64 0]) = .returned (.tuple #[.float .f64 (rnd true n x (upNear n x)), .int .i64 0]) from by rw [upNear_f (by rw [(rM_up h hu).2]; omega), rnd_f, mkW_ok h2])
      | false =>
        exact absurd (i3.2 ((by omega))) Bool.false_ne_true
  | false =>
    exact absurd (i2.2 (okP_lt (rM_b (x := x) (odd_ne hn.2.1)).1)) Bool.false_ne_true

@[reducible] def DNear_dn_t_f : FuncId := 29
@[reducible] def DNear_dn_t_a : List AV := [.agg [.lit (.bool true), .sym 0, .sym 1]]
@[reducible] noncomputable def DNear_dn_t_k (b1 b2 b3 b4 b5 b6 b7 : Bool) : Know := ⟨[([0, 15, 3], [.sym 2, .lit (.int .i64 1023)], .lit (.bool b1)),
  ([0, 1, 3], [.sym 3, .sym 1], .sym 4),
  ([1, 0, 3], [.sym 4], .sym 5),
  ([0, 14, 3], [.sym 4, .lit (.int .i64 0)], .lit (.bool b3)),
  ([0, 1, 3], [.sym 4, .lit (.int .i64 1)], .sym 9),
  ([0, 11, 5], [.sym 10, .lit (.int .u8 0)], .lit (.bool b4)),
  ([0, 5, 80], [.sym 7, .lit (.int .u64 1)], .sym 11),
  ([0, 11, 80], [.sym 11, .lit (.int .u64 1)], .lit (.bool b5)),
  ([0, 11, 3], [.sym 4, .lit (.int .i64 1)], .lit (.bool b6)),
  ([0, 0, 80], [.sym 7, .lit (.int .u64 1)], .sym 12)],
  [(15, [.agg [.lit (.bool true), .sym 0, .sym 1]], .lit (.int .i64 0)),
  (13, [.agg [.lit (.bool true), .sym 0, .sym 1]], .tup [.sym 2, .lit (.bool true)]),
  (107, [.sym 2], .sym 3),
  (65, [.sym 0, .sym 5], .tup [.sym 6, .lit (.int .i64 0)]),
  (108, [.sym 6], .tup [.sym 7, .lit (.bool true)]),
  (128, [.lit (.bool true), .sym 7, .sym 3], .tup [.sym 8, .lit (.bool b2)]),
  (130, [.sym 0, .sym 9], .tup [.sym 10, .lit (.int .i64 0)]),
  (128, [.lit (.bool true), .sym 12, .sym 3], .tup [.sym 13, .lit (.bool b7)])]⟩
theorem DNear_dn_t_r1 (b6 b7 : Bool) : @comes (DNear_dn_t_k false true false true true b6 b7) Tryd.prog glT 3000 DNear_dn_t_f DNear_dn_t_a = some (.tup [.sym 8, .lit (.int .i64 0)]) := by kernel_rfl
theorem DNear_dn_t_r2 (b6 b7 : Bool) : @comes (DNear_dn_t_k false true false true false b6 b7) Tryd.prog glT 3000 DNear_dn_t_f DNear_dn_t_a = some (.tup [.sym 8, .lit (.int .i64 0)]) := by kernel_rfl
theorem DNear_dn_t_r3 (b2 : Bool) : @comes (DNear_dn_t_k false b2 false false true true true) Tryd.prog glT 3000 DNear_dn_t_f DNear_dn_t_a = some (.tup [.sym 13, .lit (.int .i64 0)]) := by kernel_rfl
theorem DNear_dn_t_r4 (b2 : Bool) : @comes (DNear_dn_t_k false b2 false false true true false) Tryd.prog glT 3000 DNear_dn_t_f DNear_dn_t_a = some (.lit (.tuple #[.float .f64 18442240474082181120, .int .i64 0])) := by kernel_rfl
theorem DNear_dn_t_r5 (b7 : Bool) : @comes (DNear_dn_t_k false true false false false true b7) Tryd.prog glT 3000 DNear_dn_t_f DNear_dn_t_a = some (.tup [.sym 8, .lit (.int .i64 0)]) := by kernel_rfl
theorem DNear_dn_t_r6 (b2 : Bool) : @comes (DNear_dn_t_k false b2 false false true false true) Tryd.prog glT 3000 DNear_dn_t_f DNear_dn_t_a = some (.tup [.sym 13, .lit (.int .i64 0)]) := by kernel_rfl
theorem DNear_dn_t_r7 (b2 : Bool) : @comes (DNear_dn_t_k false b2 false false true false false) Tryd.prog glT 3000 DNear_dn_t_f DNear_dn_t_a = some (.lit (.tuple #[.float .f64 18442240474082181120, .int .i64 0])) := by kernel_rfl
theorem DNear_dn_t_r8 (b2 : Bool) : @comes (DNear_dn_t_k false b2 false false false false true) Tryd.prog glT 3000 DNear_dn_t_f DNear_dn_t_a = some (.tup [.sym 13, .lit (.int .i64 0)]) := by kernel_rfl
theorem DNear_dn_t_r9 (b2 : Bool) : @comes (DNear_dn_t_k false b2 false false false false false) Tryd.prog glT 3000 DNear_dn_t_f DNear_dn_t_a = some (.lit (.tuple #[.float .f64 18442240474082181120, .int .i64 0])) := by kernel_rfl

set_option maxRecDepth 100000 in
set_option maxHeartbeats 4000000 in
theorem DNear_dn_t (n : Nat) (x : Int) (w : World) (hn : (Dy.mk true n x).Num) (h : ¬ 1024 ≤ rT n x) (hu : ¬ rQ n x ≤ x) (hG : Globs glT w) : Calls Tryd.prog 29 #[.agg #[.bool true, .string (natS n), .int .i64 x]] w fun e w' => e = .returned (.tuple #[.float .f64 (rnd true n x (upNear n x)), .int .i64 0]) ∧ Below w.heap.size w w' := by
  obtain ⟨b1, i1⟩ := bex (rT n x > 1023)
  obtain ⟨b2, i2⟩ := bex (okP (rM n x) (rQ n x) = true)
  obtain ⟨b3, i3⟩ := bex (rQ n x - x ≤ 0)
  obtain ⟨b4, i4⟩ := bex (((rB n x : Nat) : Int) = 0)
  obtain ⟨b5, i5⟩ := bex (((rM n x % 2 : Nat) : Int) = 1)
  obtain ⟨b6, i6⟩ := bex (rQ n x - x = 1)
  obtain ⟨b7, i7⟩ := bex (okP (rM n x + 1) (rQ n x) = true)
  letI : Env := mkEnv glT [.string (natS n), .int .i64 x, .int .i64 (rT n x), .int .i64 (rQ n x), .int .i64 (rQ n x - x), .int .i64 (-(rQ n x - x)), .string (natS (rM n x)), .int .u64 (((rM n x : Nat) : Int)), .float .f64 (mkW true (rM n x) (rQ n x)), .int .i64 (rQ n x - x - 1), .int .u8 (((rB n x : Nat) : Int)), .int .u64 (((rM n x % 2 : Nat) : Int)), .int .u64 (((rM n x + 1 : Nat) : Int)), .float .f64 (mkW true (rM n x + 1) (rQ n x))] rfl
  have hops : OpsT Tryd.prog (@Know.ops (DNear_dn_t_k b1 b2 b3 b4 b5 b6 b7)) := ⟨opt_gtr_i rfl rfl i1,
    opt_sub rfl rfl rfl rfl rfl (by have := (rQ_b n x); have := hn.2.2.1; have := hn.2.2.2; simp only at *; omega),
    opt_neg rfl rfl rfl rfl (by have := (rQ_b n x); have := hn.2.2.1; have := hn.2.2.2; simp only at *; omega),
    opt_leq_i rfl rfl i3,
    opt_sub rfl rfl rfl rfl rfl (by have := (rQ_b n x); have := hn.2.2.1; have := hn.2.2.2; simp only at *; omega),
    opt_eql_i rfl rfl i4,
    opt_odd rfl rfl rfl rfl (by have : rM n x < 9007199254740992 := (rM_b (x := x) (odd_ne hn.2.1)).1; omega),
    opt_eql_i rfl rfl i5,
    opt_eql_i rfl rfl i6,
    opt_add64 (y := 1) rfl rfl rfl rfl rfl (by have : rM n x < 9007199254740992 := (rM_b (x := x) (odd_ne hn.2.1)).1; omega),
    trivial⟩
  have hcalls : CallsT Tryd.prog (@Know.calls (DNear_dn_t_k b1 b2 b3 b4 b5 b6 b7)) := ⟨callt rfl rfl fun w hG => DCheck_dyr (Dy.mk true n x) (Or.inr hn) w,
    callt rfl rfl fun w hG => DTop_r true n x w hn,
    callt rfl rfl fun w hG => Least_r true n x w hn h,
    callt rfl rfl fun w hG => NShift_r true n x w hn h,
    callt rfl rfl fun w hG => NSmall_r true n x w hn,
    callt rfl rfl fun w hG => bMake_i true (rM n x) (rQ n x) w (Nat.le_of_lt (rM_b (x := x) (odd_ne hn.2.1)).1) (rQ_b n x).1 (rQ_b n x).2 (rM_b (x := x) (odd_ne hn.2.1)).2 i2 hG,
    callt rfl rfl fun w hG => NBit_r true n x w hn hu,
    callt rfl rfl fun w hG => bMake_i true (rM n x + 1) (rQ n x) w (rM_b (x := x) (odd_ne hn.2.1)).1 (rQ_b n x).1 (rQ_b n x).2 ((rM_b (x := x) (odd_ne hn.2.1)).2.imp (fun h => Nat.le_succ_of_le h) id) i7 hG,
    trivial⟩
  have fin : ∀ v, @comes (DNear_dn_t_k b1 b2 b3 b4 b5 b6 b7) Tryd.prog glT 3000 DNear_dn_t_f DNear_dn_t_a = some v → ground v = true → Ending.returned (gval v) = .returned (.tuple #[.float .f64 (rnd true n x (upNear n x)), .int .i64 0]) → Calls Tryd.prog 29 #[.agg #[.bool true, .string (natS n), .int .i64 x]] w fun e w' => e = .returned (.tuple #[.float .f64 (rnd true n x (upNear n x)), .int .i64 0]) ∧ Below w.heap.size w w' := fun v h1 h2 h3 => (@sym_ok _ (DNear_dn_t_k b1 b2 b3 b4 b5 b6 b7) _ (@KnowOk.of _ (DNear_dn_t_k b1 b2 b3 b4 b5 b6 b7) _ hops hcalls) (by kernel_rfl) _ _ _ _ h1 rfl h2 _ hG).mono fun e w' h => ⟨h.1.trans h3, h.2⟩
  clear hops hcalls
  cases b4 with
  | true =>
    have h4 : ((rB n x : Nat) : Int) = 0 := i4.1 rfl
    cases b5 with
    | true =>
      have h5 : ((rM n x % 2 : Nat) : Int) = 1 := i5.1 rfl
      cases b2 with
      | true =>
        have h2 : okP (rM n x) (rQ n x) = true := i2.1 rfl
        cases b1 with
        | true =>
          exact absurd (i1.1 rfl) ((by omega))
        | false =>
          have h1 : ¬ (rT n x > 1023) := fun c => Bool.false_ne_true (i1.2 c)
          cases b3 with
          | true =>
            exact absurd (i3.1 rfl) ((by omega))
          | false =>
            have h3 : ¬ (rQ n x - x ≤ 0) := fun c => Bool.false_ne_true (i3.2 c)
            exact fin _ (DNear_dn_t_r1 b6 b7) rfl (show Ending.returned (.tuple #[.float .f64 (mkW true (rM n x) (rQ n x)), .int .i64 0]) = .returned (.tuple #[.float .f64 (rnd true n x (upNear n x)), .int .i64 0]) from by rw [upNear_f (by rw [(show rW n x = 1 from (by rw [rW_dn hn h hu, if_pos (by have := h4; omega)]))]; omega), rnd_f, mkW_ok h2])
      | false =>
        exact absurd (i2.2 (okP_lt (rM_b (x := x) (odd_ne hn.2.1)).1)) Bool.false_ne_true
    | false =>
      have h5 : ¬ (((rM n x % 2 : Nat) : Int) = 1) := fun c => Bool.false_ne_true (i5.2 c)
      cases b2 with
      | true =>
        have h2 : okP (rM n x) (rQ n x) = true := i2.1 rfl
        cases b1 with
        | true =>
          exact absurd (i1.1 rfl) ((by omega))
        | false =>
          have h1 : ¬ (rT n x > 1023) := fun c => Bool.false_ne_true (i1.2 c)
          cases b3 with
          | true =>
            exact absurd (i3.1 rfl) ((by omega))
          | false =>
            have h3 : ¬ (rQ n x - x ≤ 0) := fun c => Bool.false_ne_true (i3.2 c)
            exact fin _ (DNear_dn_t_r2 b6 b7) rfl (show Ending.returned (.tuple #[.float .f64 (mkW true (rM n x) (rQ n x)), .int .i64 0]) = .returned (.tuple #[.float .f64 (rnd true n x (upNear n x)), .int .i64 0]) from by rw [upNear_f (by rw [(show rW n x = 1 from (by rw [rW_dn hn h hu, if_pos (by have := h4; omega)]))]; omega), rnd_f, mkW_ok h2])
      | false =>
        exact absurd (i2.2 (okP_lt (rM_b (x := x) (odd_ne hn.2.1)).1)) Bool.false_ne_true
  | false =>
    have h4 : ¬ (((rB n x : Nat) : Int) = 0) := fun c => Bool.false_ne_true (i4.2 c)
    cases b6 with
    | true =>
      have h6 : rQ n x - x = 1 := i6.1 rfl
      cases b5 with
      | true =>
        have h5 : ((rM n x % 2 : Nat) : Int) = 1 := i5.1 rfl
        cases b7 with
        | true =>
          have h7 : okP (rM n x + 1) (rQ n x) = true := i7.1 rfl
          cases b1 with
          | true =>
            exact absurd (i1.1 rfl) ((by omega))
          | false =>
            have h1 : ¬ (rT n x > 1023) := fun c => Bool.false_ne_true (i1.2 c)
            cases b3 with
            | true =>
              exact absurd (i3.1 rfl) ((by omega))
            | false =>
              have h3 : ¬ (rQ n x - x ≤ 0) := fun c => Bool.false_ne_true (i3.2 c)
              exact fin _ (DNear_dn_t_r3 b2) rfl (show Ending.returned (.tuple #[.float .f64 (mkW true (rM n x + 1) (rQ n x)), .int .i64 0]) = .returned (.tuple #[.float .f64 (rnd true n x (upNear n x)), .int .i64 0]) from by rw [upNear_t (Or.inr ⟨(show rW n x = 2 from (by rw [rW_dn hn h hu, if_neg (fun c => h4 (by rw [c]; rfl)), if_pos h6])), by have := h5; omega⟩), rnd_t, mkW_ok h7])
        | false =>
          have h7 : ¬ (okP (rM n x + 1) (rQ n x) = true) := fun c => Bool.false_ne_true (i7.2 c)
          cases b1 with
          | true =>
            exact absurd (i1.1 rfl) ((by omega))
          | false =>
            have h1 : ¬ (rT n x > 1023) := fun c => Bool.false_ne_true (i1.2 c)
            cases b3 with
            | true =>
              exact absurd (i3.1 rfl) ((by omega))
            | false =>
              have h3 : ¬ (rQ n x - x ≤ 0) := fun c => Bool.false_ne_true (i3.2 c)
              exact fin _ (DNear_dn_t_r4 b2) rfl (show Ending.returned (.tuple #[.float .f64 18442240474082181120, .int .i64 0]) = .returned (.tuple #[.float .f64 (rnd true n x (upNear n x)), .int .i64 0]) from by rw [upNear_t (Or.inr ⟨(show rW n x = 2 from (by rw [rW_dn hn h hu, if_neg (fun c => h4 (by rw [c]; rfl)), if_pos h6])), by have := h5; omega⟩), rnd_t, inf_t h7])
      | false =>
        have h5 : ¬ (((rM n x % 2 : Nat) : Int) = 1) := fun c => Bool.false_ne_true (i5.2 c)
        cases b2 with
        | true =>
          have h2 : okP (rM n x) (rQ n x) = true := i2.1 rfl
          cases b1 with
          | true =>
            exact absurd (i1.1 rfl) ((by omega))
          | false =>
            have h1 : ¬ (rT n x > 1023) := fun c => Bool.false_ne_true (i1.2 c)
            cases b3 with
            | true =>
              exact absurd (i3.1 rfl) ((by omega))
            | false =>
              have h3 : ¬ (rQ n x - x ≤ 0) := fun c => Bool.false_ne_true (i3.2 c)
              exact fin _ (DNear_dn_t_r5 b7) rfl (show Ending.returned (.tuple #[.float .f64 (mkW true (rM n x) (rQ n x)), .int .i64 0]) = .returned (.tuple #[.float .f64 (rnd true n x (upNear n x)), .int .i64 0]) from by rw [upNear_f (fun c => by rcases c with c | ⟨_, c⟩; exact absurd ((show rW n x = 2 from (by rw [rW_dn hn h hu, if_neg (fun c => h4 (by rw [c]; rfl)), if_pos h6])).symm.trans c) (by decide); exact h5 (by rw [c]; rfl)), rnd_f, mkW_ok h2])
        | false =>
          exact absurd (i2.2 (okP_lt (rM_b (x := x) (odd_ne hn.2.1)).1)) Bool.false_ne_true
    | false =>
      have h6 : ¬ (rQ n x - x = 1) := fun c => Bool.false_ne_true (i6.2 c)
      cases b5 with
      | true =>
        have h5 : ((rM n x % 2 : Nat) : Int) = 1 := i5.1 rfl
        cases b7 with
        | true =>
          have h7 : okP (rM n x + 1) (rQ n x) = true := i7.1 rfl
          cases b1 with
          | true =>
            exact absurd (i1.1 rfl) ((by omega))
          | false =>
            have h1 : ¬ (rT n x > 1023) := fun c => Bool.false_ne_true (i1.2 c)
            cases b3 with
            | true =>
              exact absurd (i3.1 rfl) ((by omega))
            | false =>
              have h3 : ¬ (rQ n x - x ≤ 0) := fun c => Bool.false_ne_true (i3.2 c)
              exact fin _ (DNear_dn_t_r6 b2) rfl (show Ending.returned (.tuple #[.float .f64 (mkW true (rM n x + 1) (rQ n x)), .int .i64 0]) = .returned (.tuple #[.float .f64 (rnd true n x (upNear n x)), .int .i64 0]) from by rw [upNear_t (Or.inl (show rW n x = 3 from (by rw [rW_dn hn h hu, if_neg (fun c => h4 (by rw [c]; rfl)), if_neg h6]))), rnd_t, mkW_ok h7])
        | false =>
          have h7 : ¬ (okP (rM n x + 1) (rQ n x) = true) := fun c => Bool.false_ne_true (i7.2 c)
          cases b1 with
          | true =>
            exact absurd (i1.1 rfl) ((by omega))
          | false =>
            have h1 : ¬ (rT n x > 1023) := fun c => Bool.false_ne_true (i1.2 c)
            cases b3 with
            | true =>
              exact absurd (i3.1 rfl) ((by omega))
            | false =>
              have h3 : ¬ (rQ n x - x ≤ 0) := fun c => Bool.false_ne_true (i3.2 c)
              exact fin _ (DNear_dn_t_r7 b2) rfl (show Ending.returned (.tuple #[.float .f64 18442240474082181120, .int .i64 0]) = .returned (.tuple #[.float .f64 (rnd true n x (upNear n x)), .int .i64 0]) from by rw [upNear_t (Or.inl (show rW n x = 3 from (by rw [rW_dn hn h hu, if_neg (fun c => h4 (by rw [c]; rfl)), if_neg h6]))), rnd_t, inf_t h7])
      | false =>
        have h5 : ¬ (((rM n x % 2 : Nat) : Int) = 1) := fun c => Bool.false_ne_true (i5.2 c)
        cases b7 with
        | true =>
          have h7 : okP (rM n x + 1) (rQ n x) = true := i7.1 rfl
          cases b1 with
          | true =>
            exact absurd (i1.1 rfl) ((by omega))
          | false =>
            have h1 : ¬ (rT n x > 1023) := fun c => Bool.false_ne_true (i1.2 c)
            cases b3 with
            | true =>
              exact absurd (i3.1 rfl) ((by omega))
            | false =>
              have h3 : ¬ (rQ n x - x ≤ 0) := fun c => Bool.false_ne_true (i3.2 c)
              exact fin _ (DNear_dn_t_r8 b2) rfl (show Ending.returned (.tuple #[.float .f64 (mkW true (rM n x + 1) (rQ n x)), .int .i64 0]) = .returned (.tuple #[.float .f64 (rnd true n x (upNear n x)), .int .i64 0]) from by rw [upNear_t (Or.inl (show rW n x = 3 from (by rw [rW_dn hn h hu, if_neg (fun c => h4 (by rw [c]; rfl)), if_neg h6]))), rnd_t, mkW_ok h7])
        | false =>
          have h7 : ¬ (okP (rM n x + 1) (rQ n x) = true) := fun c => Bool.false_ne_true (i7.2 c)
          cases b1 with
          | true =>
            exact absurd (i1.1 rfl) ((by omega))
          | false =>
            have h1 : ¬ (rT n x > 1023) := fun c => Bool.false_ne_true (i1.2 c)
            cases b3 with
            | true =>
              exact absurd (i3.1 rfl) ((by omega))
            | false =>
              have h3 : ¬ (rQ n x - x ≤ 0) := fun c => Bool.false_ne_true (i3.2 c)
              exact fin _ (DNear_dn_t_r9 b2) rfl (show Ending.returned (.tuple #[.float .f64 18442240474082181120, .int .i64 0]) = .returned (.tuple #[.float .f64 (rnd true n x (upNear n x)), .int .i64 0]) from by rw [upNear_t (Or.inl (show rW n x = 3 from (by rw [rW_dn hn h hu, if_neg (fun c => h4 (by rw [c]; rfl)), if_neg h6]))), rnd_t, inf_t h7])

theorem DNear_t (n : Nat) (x : Int) (w : World) (hn : (Dy.mk true n x).Num) (hG : Globs glT w) : Calls Tryd.prog 29 #[.agg #[.bool true, .string (natS n), .int .i64 x]] w fun e w' => e = .returned (.tuple #[.float .f64 (rnd true n x (upNear n x)), .int .i64 0]) ∧ Below w.heap.size w w' := by
  by_cases h : 1024 ≤ rT n x
  · exact DNear_far_t n x w hn h hG
  · by_cases hu : rQ n x ≤ x
    · exact DNear_up_t n x w hn h hu hG
    · exact DNear_dn_t n x w hn h hu hG
@[reducible] def DAbove_far_f_f : FuncId := 31
@[reducible] def DAbove_far_f_a : List AV := [.agg [.lit (.bool false), .sym 0, .sym 1]]
@[reducible] noncomputable def DAbove_far_f_k (b1 b2 : Bool) : Know := ⟨[([0, 15, 3], [.sym 2, .lit (.int .i64 1023)], .lit (.bool b2))],
  [(15, [.agg [.lit (.bool false), .sym 0, .sym 1]], .lit (.int .i64 0)),
  (13, [.agg [.lit (.bool false), .sym 0, .sym 1]], .tup [.sym 2, .lit (.bool true)]),
  (128, [.lit (.bool false), .lit (.int .u64 9007199254740992), .lit (.int .i64 971)], .tup [.sym 3, .lit (.bool b1)])]⟩
theorem DAbove_far_f_r1 : @comes (DAbove_far_f_k false true) Tryd.prog glT 3000 DAbove_far_f_f DAbove_far_f_a = some (.lit (.tuple #[.float .f64 9218868437227405312, .int .i64 0])) := by kernel_rfl

set_option maxRecDepth 100000 in
set_option maxHeartbeats 4000000 in
theorem DAbove_far_f (n : Nat) (x : Int) (w : World) (hn : (Dy.mk false n x).Num) (h : 1024 ≤ rT n x) (hG : Globs glT w) : Calls Tryd.prog 31 #[.agg #[.bool false, .string (natS n), .int .i64 x]] w fun e w' => e = .returned (.tuple #[.float .f64 (rnd false n x (upAbove false n x)), .int .i64 0]) ∧ Below w.heap.size w w' := by
  obtain ⟨b1, i1⟩ := bex (okP 9007199254740992 971 = true)
  obtain ⟨b2, i2⟩ := bex (rT n x > 1023)
  letI : Env := mkEnv glT [.string (natS n), .int .i64 x, .int .i64 (rT n x), .float .f64 (mkW false 9007199254740992 971)] rfl
  have hops : OpsT Tryd.prog (@Know.ops (DAbove_far_f_k b1 b2)) := ⟨opt_gtr_i rfl rfl i2,
    trivial⟩
  have hcalls : CallsT Tryd.prog (@Know.calls (DAbove_far_f_k b1 b2)) := ⟨callt rfl rfl fun w hG => DCheck_dyr (Dy.mk false n x) (Or.inr hn) w,
    callt rfl rfl fun w hG => DTop_r false n x w hn,
    callt rfl rfl fun w hG => bMake_i false 9007199254740992 971 w (by omega) (by omega) (by omega) (Or.inl (by omega)) i1 hG,
    trivial⟩
  have fin : ∀ v, @comes (DAbove_far_f_k b1 b2) Tryd.prog glT 3000 DAbove_far_f_f DAbove_far_f_a = some v → ground v = true → Ending.returned (gval v) = .returned (.tuple #[.float .f64 (rnd false n x (upAbove false n x)), .int .i64 0]) → Calls Tryd.prog 31 #[.agg #[.bool false, .string (natS n), .int .i64 x]] w fun e w' => e = .returned (.tuple #[.float .f64 (rnd false n x (upAbove false n x)), .int .i64 0]) ∧ Below w.heap.size w w' := fun v h1 h2 h3 => (@sym_ok _ (DAbove_far_f_k b1 b2) _ (@KnowOk.of _ (DAbove_far_f_k b1 b2) _ hops hcalls) (by kernel_rfl) _ _ _ _ h1 rfl h2 _ hG).mono fun e w' h => ⟨h.1.trans h3, h.2⟩
  clear hops hcalls
  cases b1 with
  | true =>
    exact absurd (i1.1 rfl) (fun c => okP_iff.1 c ⟨rfl, rfl⟩)
  | false =>
    have h1 : ¬ (okP 9007199254740992 971 = true) := fun c => Bool.false_ne_true (i1.2 c)
    cases b2 with
    | true =>
      have h2 : rT n x > 1023 := i2.1 rfl
      exact fin _ (DAbove_far_f_r1) rfl (show Ending.returned (.tuple #[.float .f64 9218868437227405312, .int .i64 0]) = .returned (.tuple #[.float .f64 (rnd false n x (upAbove false n x)), .int .i64 0]) from by rw [upAbove_t (by rw [(rQ_far h).2.2]; decide), rnd_t, (rQ_far h).1, (rQ_far h).2.1, inf_f h1])
    | false =>
      exact absurd (i2.2 ((by omega))) Bool.false_ne_true

@[reducible] def DAbove_up_f_f : FuncId := 31
@[reducible] def DAbove_up_f_a : List AV := [.agg [.lit (.bool false), .sym 0, .sym 1]]
@[reducible] noncomputable def DAbove_up_f_k (b1 b2 b3 : Bool) : Know := ⟨[([0, 15, 3], [.sym 2, .lit (.int .i64 1023)], .lit (.bool b1)),
  ([0, 1, 3], [.sym 3, .sym 1], .sym 4),
  ([1, 0, 3], [.sym 4], .sym 5),
  ([0, 14, 3], [.sym 4, .lit (.int .i64 0)], .lit (.bool b3))],
  [(15, [.agg [.lit (.bool false), .sym 0, .sym 1]], .lit (.int .i64 0)),
  (13, [.agg [.lit (.bool false), .sym 0, .sym 1]], .tup [.sym 2, .lit (.bool true)]),
  (107, [.sym 2], .sym 3),
  (65, [.sym 0, .sym 5], .tup [.sym 6, .lit (.int .i64 0)]),
  (108, [.sym 6], .tup [.sym 7, .lit (.bool true)]),
  (128, [.lit (.bool false), .sym 7, .sym 3], .tup [.sym 8, .lit (.bool b2)])]⟩
theorem DAbove_up_f_r1 : @comes (DAbove_up_f_k false true true) Tryd.prog glT 3000 DAbove_up_f_f DAbove_up_f_a = some (.tup [.sym 8, .lit (.int .i64 0)]) := by kernel_rfl

set_option maxRecDepth 100000 in
set_option maxHeartbeats 4000000 in
theorem DAbove_up_f (n : Nat) (x : Int) (w : World) (hn : (Dy.mk false n x).Num) (h : ¬ 1024 ≤ rT n x) (hu : rQ n x ≤ x) (hG : Globs glT w) : Calls Tryd.prog 31 #[.agg #[.bool false, .string (natS n), .int .i64 x]] w fun e w' => e = .returned (.tuple #[.float .f64 (rnd false n x (upAbove false n x)), .int .i64 0]) ∧ Below w.heap.size w w' := by
  obtain ⟨b1, i1⟩ := bex (rT n x > 1023)
  obtain ⟨b2, i2⟩ := bex (okP (rM n x) (rQ n x) = true)
  obtain ⟨b3, i3⟩ := bex (rQ n x - x ≤ 0)
  letI : Env := mkEnv glT [.string (natS n), .int .i64 x, .int .i64 (rT n x), .int .i64 (rQ n x), .int .i64 (rQ n x - x), .int .i64 (-(rQ n x - x)), .string (natS (rM n x)), .int .u64 (((rM n x : Nat) : Int)), .float .f64 (mkW false (rM n x) (rQ n x))] rfl
  have hops : OpsT Tryd.prog (@Know.ops (DAbove_up_f_k b1 b2 b3)) := ⟨opt_gtr_i rfl rfl i1,
    opt_sub rfl rfl rfl rfl rfl (by have := (rQ_b n x); have := hn.2.2.1; have := hn.2.2.2; simp only at *; omega),
    opt_neg rfl rfl rfl rfl (by have := (rQ_b n x); have := hn.2.2.1; have := hn.2.2.2; simp only at *; omega),
    opt_leq_i rfl rfl i3,
    trivial⟩
  have hcalls : CallsT Tryd.prog (@Know.calls (DAbove_up_f_k b1 b2 b3)) := ⟨callt rfl rfl fun w hG => DCheck_dyr (Dy.mk false n x) (Or.inr hn) w,
    callt rfl rfl fun w hG => DTop_r false n x w hn,
    callt rfl rfl fun w hG => Least_r false n x w hn h,
    callt rfl rfl fun w hG => NShift_r false n x w hn h,
    callt rfl rfl fun w hG => NSmall_r false n x w hn,
    callt rfl rfl fun w hG => bMake_i false (rM n x) (rQ n x) w (Nat.le_of_lt (rM_b (x := x) (odd_ne hn.2.1)).1) (rQ_b n x).1 (rQ_b n x).2 (rM_b (x := x) (odd_ne hn.2.1)).2 i2 hG,
    trivial⟩
  have fin : ∀ v, @comes (DAbove_up_f_k b1 b2 b3) Tryd.prog glT 3000 DAbove_up_f_f DAbove_up_f_a = some v → ground v = true → Ending.returned (gval v) = .returned (.tuple #[.float .f64 (rnd false n x (upAbove false n x)), .int .i64 0]) → Calls Tryd.prog 31 #[.agg #[.bool false, .string (natS n), .int .i64 x]] w fun e w' => e = .returned (.tuple #[.float .f64 (rnd false n x (upAbove false n x)), .int .i64 0]) ∧ Below w.heap.size w w' := fun v h1 h2 h3 => (@sym_ok _ (DAbove_up_f_k b1 b2 b3) _ (@KnowOk.of _ (DAbove_up_f_k b1 b2 b3) _ hops hcalls) (by kernel_rfl) _ _ _ _ h1 rfl h2 _ hG).mono fun e w' h => ⟨h.1.trans h3, h.2⟩
  clear hops hcalls
  cases b2 with
  | true =>
    have h2 : okP (rM n x) (rQ n x) = true := i2.1 rfl
    cases b1 with
    | true =>
      exact absurd (i1.1 rfl) ((by omega))
    | false =>
      have h1 : ¬ (rT n x > 1023) := fun c => Bool.false_ne_true (i1.2 c)
      cases b3 with
      | true =>
        have h3 : rQ n x - x ≤ 0 := i3.1 rfl
        exact fin _ (DAbove_up_f_r1) rfl (show Ending.returned (.tuple #[.float .f64 (mkW false (rM n x) (rQ n x)), .int .i64 0]) = .returned (.tuple #[.float .f64 (rnd false n x (upAbove false n x)), .int .i64 0]) from by rw [upAbove_f (rM_up h hu).2, rnd_f, mkW_ok h2])
      | false =>
        exact absurd (i3.2 ((by omega))) Bool.false_ne_true
  | false =>
    exact absurd (i2.2 (okP_lt (rM_b (x := x) (odd_ne hn.2.1)).1)) Bool.false_ne_true

@[reducible] def DAbove_dn_f_f : FuncId := 31
@[reducible] def DAbove_dn_f_a : List AV := [.agg [.lit (.bool false), .sym 0, .sym 1]]
@[reducible] noncomputable def DAbove_dn_f_k (b1 b2 b3 b4 b5 b6 : Bool) : Know := ⟨[([0, 15, 3], [.sym 2, .lit (.int .i64 1023)], .lit (.bool b1)),
  ([0, 1, 3], [.sym 3, .sym 1], .sym 4),
  ([1, 0, 3], [.sym 4], .sym 5),
  ([0, 14, 3], [.sym 4, .lit (.int .i64 0)], .lit (.bool b2)),
  ([0, 1, 3], [.sym 4, .lit (.int .i64 1)], .sym 8),
  ([0, 11, 5], [.sym 9, .lit (.int .u8 0)], .lit (.bool b3)),
  ([0, 5, 80], [.sym 7, .lit (.int .u64 1)], .sym 10),
  ([0, 11, 80], [.sym 10, .lit (.int .u64 1)], .lit (.bool b4)),
  ([0, 0, 80], [.sym 7, .lit (.int .u64 1)], .sym 11),
  ([0, 11, 3], [.sym 4, .lit (.int .i64 1)], .lit (.bool b6))],
  [(15, [.agg [.lit (.bool false), .sym 0, .sym 1]], .lit (.int .i64 0)),
  (13, [.agg [.lit (.bool false), .sym 0, .sym 1]], .tup [.sym 2, .lit (.bool true)]),
  (107, [.sym 2], .sym 3),
  (65, [.sym 0, .sym 5], .tup [.sym 6, .lit (.int .i64 0)]),
  (108, [.sym 6], .tup [.sym 7, .lit (.bool true)]),
  (130, [.sym 0, .sym 8], .tup [.sym 9, .lit (.int .i64 0)]),
  (128, [.lit (.bool false), .sym 11, .sym 3], .tup [.sym 12, .lit (.bool b5)])]⟩
theorem DAbove_dn_f_r1 (b6 : Bool) : @comes (DAbove_dn_f_k false false true true true b6) Tryd.prog glT 3000 DAbove_dn_f_f DAbove_dn_f_a = some (.tup [.sym 12, .lit (.int .i64 0)]) := by kernel_rfl
theorem DAbove_dn_f_r2 (b6 : Bool) : @comes (DAbove_dn_f_k false false true true false b6) Tryd.prog glT 3000 DAbove_dn_f_f DAbove_dn_f_a = some (.lit (.tuple #[.float .f64 9218868437227405312, .int .i64 0])) := by kernel_rfl
theorem DAbove_dn_f_r3 (b6 : Bool) : @comes (DAbove_dn_f_k false false true false true b6) Tryd.prog glT 3000 DAbove_dn_f_f DAbove_dn_f_a = some (.tup [.sym 12, .lit (.int .i64 0)]) := by kernel_rfl
theorem DAbove_dn_f_r4 (b6 : Bool) : @comes (DAbove_dn_f_k false false true false false b6) Tryd.prog glT 3000 DAbove_dn_f_f DAbove_dn_f_a = some (.lit (.tuple #[.float .f64 9218868437227405312, .int .i64 0])) := by kernel_rfl
theorem DAbove_dn_f_r5 : @comes (DAbove_dn_f_k false false false true true true) Tryd.prog glT 3000 DAbove_dn_f_f DAbove_dn_f_a = some (.tup [.sym 12, .lit (.int .i64 0)]) := by kernel_rfl
theorem DAbove_dn_f_r6 : @comes (DAbove_dn_f_k false false false true false true) Tryd.prog glT 3000 DAbove_dn_f_f DAbove_dn_f_a = some (.lit (.tuple #[.float .f64 9218868437227405312, .int .i64 0])) := by kernel_rfl
theorem DAbove_dn_f_r7 : @comes (DAbove_dn_f_k false false false false true true) Tryd.prog glT 3000 DAbove_dn_f_f DAbove_dn_f_a = some (.tup [.sym 12, .lit (.int .i64 0)]) := by kernel_rfl
theorem DAbove_dn_f_r8 : @comes (DAbove_dn_f_k false false false false false true) Tryd.prog glT 3000 DAbove_dn_f_f DAbove_dn_f_a = some (.lit (.tuple #[.float .f64 9218868437227405312, .int .i64 0])) := by kernel_rfl
theorem DAbove_dn_f_r9 : @comes (DAbove_dn_f_k false false false true true false) Tryd.prog glT 3000 DAbove_dn_f_f DAbove_dn_f_a = some (.tup [.sym 12, .lit (.int .i64 0)]) := by kernel_rfl
theorem DAbove_dn_f_r10 : @comes (DAbove_dn_f_k false false false true false false) Tryd.prog glT 3000 DAbove_dn_f_f DAbove_dn_f_a = some (.lit (.tuple #[.float .f64 9218868437227405312, .int .i64 0])) := by kernel_rfl
theorem DAbove_dn_f_r11 : @comes (DAbove_dn_f_k false false false false true false) Tryd.prog glT 3000 DAbove_dn_f_f DAbove_dn_f_a = some (.tup [.sym 12, .lit (.int .i64 0)]) := by kernel_rfl
theorem DAbove_dn_f_r12 : @comes (DAbove_dn_f_k false false false false false false) Tryd.prog glT 3000 DAbove_dn_f_f DAbove_dn_f_a = some (.lit (.tuple #[.float .f64 9218868437227405312, .int .i64 0])) := by kernel_rfl

set_option maxRecDepth 100000 in
set_option maxHeartbeats 4000000 in
theorem DAbove_dn_f (n : Nat) (x : Int) (w : World) (hn : (Dy.mk false n x).Num) (h : ¬ 1024 ≤ rT n x) (hu : ¬ rQ n x ≤ x) (hG : Globs glT w) : Calls Tryd.prog 31 #[.agg #[.bool false, .string (natS n), .int .i64 x]] w fun e w' => e = .returned (.tuple #[.float .f64 (rnd false n x (upAbove false n x)), .int .i64 0]) ∧ Below w.heap.size w w' := by
  obtain ⟨b1, i1⟩ := bex (rT n x > 1023)
  obtain ⟨b2, i2⟩ := bex (rQ n x - x ≤ 0)
  obtain ⟨b3, i3⟩ := bex (((rB n x : Nat) : Int) = 0)
  obtain ⟨b4, i4⟩ := bex (((rM n x % 2 : Nat) : Int) = 1)
  obtain ⟨b5, i5⟩ := bex (okP (rM n x + 1) (rQ n x) = true)
  obtain ⟨b6, i6⟩ := bex (rQ n x - x = 1)
  letI : Env := mkEnv glT [.string (natS n), .int .i64 x, .int .i64 (rT n x), .int .i64 (rQ n x), .int .i64 (rQ n x - x), .int .i64 (-(rQ n x - x)), .string (natS (rM n x)), .int .u64 (((rM n x : Nat) : Int)), .int .i64 (rQ n x - x - 1), .int .u8 (((rB n x : Nat) : Int)), .int .u64 (((rM n x % 2 : Nat) : Int)), .int .u64 (((rM n x + 1 : Nat) : Int)), .float .f64 (mkW false (rM n x + 1) (rQ n x))] rfl
  have hops : OpsT Tryd.prog (@Know.ops (DAbove_dn_f_k b1 b2 b3 b4 b5 b6)) := ⟨opt_gtr_i rfl rfl i1,
    opt_sub rfl rfl rfl rfl rfl (by have := (rQ_b n x); have := hn.2.2.1; have := hn.2.2.2; simp only at *; omega),
    opt_neg rfl rfl rfl rfl (by have := (rQ_b n x); have := hn.2.2.1; have := hn.2.2.2; simp only at *; omega),
    opt_leq_i rfl rfl i2,
    opt_sub rfl rfl rfl rfl rfl (by have := (rQ_b n x); have := hn.2.2.1; have := hn.2.2.2; simp only at *; omega),
    opt_eql_i rfl rfl i3,
    opt_odd rfl rfl rfl rfl (by have : rM n x < 9007199254740992 := (rM_b (x := x) (odd_ne hn.2.1)).1; omega),
    opt_eql_i rfl rfl i4,
    opt_add64 (y := 1) rfl rfl rfl rfl rfl (by have : rM n x < 9007199254740992 := (rM_b (x := x) (odd_ne hn.2.1)).1; omega),
    opt_eql_i rfl rfl i6,
    trivial⟩
  have hcalls : CallsT Tryd.prog (@Know.calls (DAbove_dn_f_k b1 b2 b3 b4 b5 b6)) := ⟨callt rfl rfl fun w hG => DCheck_dyr (Dy.mk false n x) (Or.inr hn) w,
    callt rfl rfl fun w hG => DTop_r false n x w hn,
    callt rfl rfl fun w hG => Least_r false n x w hn h,
    callt rfl rfl fun w hG => NShift_r false n x w hn h,
    callt rfl rfl fun w hG => NSmall_r false n x w hn,
    callt rfl rfl fun w hG => NBit_r false n x w hn hu,
    callt rfl rfl fun w hG => bMake_i false (rM n x + 1) (rQ n x) w (rM_b (x := x) (odd_ne hn.2.1)).1 (rQ_b n x).1 (rQ_b n x).2 ((rM_b (x := x) (odd_ne hn.2.1)).2.imp (fun h => Nat.le_succ_of_le h) id) i5 hG,
    trivial⟩
  have fin : ∀ v, @comes (DAbove_dn_f_k b1 b2 b3 b4 b5 b6) Tryd.prog glT 3000 DAbove_dn_f_f DAbove_dn_f_a = some v → ground v = true → Ending.returned (gval v) = .returned (.tuple #[.float .f64 (rnd false n x (upAbove false n x)), .int .i64 0]) → Calls Tryd.prog 31 #[.agg #[.bool false, .string (natS n), .int .i64 x]] w fun e w' => e = .returned (.tuple #[.float .f64 (rnd false n x (upAbove false n x)), .int .i64 0]) ∧ Below w.heap.size w w' := fun v h1 h2 h3 => (@sym_ok _ (DAbove_dn_f_k b1 b2 b3 b4 b5 b6) _ (@KnowOk.of _ (DAbove_dn_f_k b1 b2 b3 b4 b5 b6) _ hops hcalls) (by kernel_rfl) _ _ _ _ h1 rfl h2 _ hG).mono fun e w' h => ⟨h.1.trans h3, h.2⟩
  clear hops hcalls
  cases b3 with
  | true =>
    have h3 : ((rB n x : Nat) : Int) = 0 := i3.1 rfl
    cases b4 with
    | true =>
      have h4 : ((rM n x % 2 : Nat) : Int) = 1 := i4.1 rfl
      cases b5 with
      | true =>
        have h5 : okP (rM n x + 1) (rQ n x) = true := i5.1 rfl
        cases b1 with
        | true =>
          exact absurd (i1.1 rfl) ((by omega))
        | false =>
          have h1 : ¬ (rT n x > 1023) := fun c => Bool.false_ne_true (i1.2 c)
          cases b2 with
          | true =>
            exact absurd (i2.1 rfl) ((by omega))
          | false =>
            have h2 : ¬ (rQ n x - x ≤ 0) := fun c => Bool.false_ne_true (i2.2 c)
            exact fin _ (DAbove_dn_f_r1 b6) rfl (show Ending.returned (.tuple #[.float .f64 (mkW false (rM n x + 1) (rQ n x)), .int .i64 0]) = .returned (.tuple #[.float .f64 (rnd false n x (upAbove false n x)), .int .i64 0]) from by rw [upAbove_t (by rw [(show rW n x = 1 from (by rw [rW_dn hn h hu, if_pos (by have := h3; omega)]))]; decide), rnd_t, mkW_ok h5])
      | false =>
        have h5 : ¬ (okP (rM n x + 1) (rQ n x) = true) := fun c => Bool.false_ne_true (i5.2 c)
        cases b1 with
        | true =>
          exact absurd (i1.1 rfl) ((by omega))
        | false =>
          have h1 : ¬ (rT n x > 1023) := fun c => Bool.false_ne_true (i1.2 c)
          cases b2 with
          | true =>
            exact absurd (i2.1 rfl) ((by omega))
          | false =>
            have h2 : ¬ (rQ n x - x ≤ 0) := fun c => Bool.false_ne_true (i2.2 c)
            exact fin _ (DAbove_dn_f_r2 b6) rfl (show Ending.returned (.tuple #[.float .f64 9218868437227405312, .int .i64 0]) = .returned (.tuple #[.float .f64 (rnd false n x (upAbove false n x)), .int .i64 0]) from by rw [upAbove_t (by rw [(show rW n x = 1 from (by rw [rW_dn hn h hu, if_pos (by have := h3; omega)]))]; decide), rnd_t, inf_f h5])
    | false =>
      have h4 : ¬ (((rM n x % 2 : Nat) : Int) = 1) := fun c => Bool.false_ne_true (i4.2 c)
      cases b5 with
      | true =>
        have h5 : okP (rM n x + 1) (rQ n x) = true := i5.1 rfl
        cases b1 with
        | true =>
          exact absurd (i1.1 rfl) ((by omega))
        | false =>
          have h1 : ¬ (rT n x > 1023) := fun c => Bool.false_ne_true (i1.2 c)
          cases b2 with
          | true =>
            exact absurd (i2.1 rfl) ((by omega))
          | false =>
            have h2 : ¬ (rQ n x - x ≤ 0) := fun c => Bool.false_ne_true (i2.2 c)
            exact fin _ (DAbove_dn_f_r3 b6) rfl (show Ending.returned (.tuple #[.float .f64 (mkW false (rM n x + 1) (rQ n x)), .int .i64 0]) = .returned (.tuple #[.float .f64 (rnd false n x (upAbove false n x)), .int .i64 0]) from by rw [upAbove_t (by rw [(show rW n x = 1 from (by rw [rW_dn hn h hu, if_pos (by have := h3; omega)]))]; decide), rnd_t, mkW_ok h5])
      | false =>
        have h5 : ¬ (okP (rM n x + 1) (rQ n x) = true) := fun c => Bool.false_ne_true (i5.2 c)
        cases b1 with
        | true =>
          exact absurd (i1.1 rfl) ((by omega))
        | false =>
          have h1 : ¬ (rT n x > 1023) := fun c => Bool.false_ne_true (i1.2 c)
          cases b2 with
          | true =>
            exact absurd (i2.1 rfl) ((by omega))
          | false =>
            have h2 : ¬ (rQ n x - x ≤ 0) := fun c => Bool.false_ne_true (i2.2 c)
            exact fin _ (DAbove_dn_f_r4 b6) rfl (show Ending.returned (.tuple #[.float .f64 9218868437227405312, .int .i64 0]) = .returned (.tuple #[.float .f64 (rnd false n x (upAbove false n x)), .int .i64 0]) from by rw [upAbove_t (by rw [(show rW n x = 1 from (by rw [rW_dn hn h hu, if_pos (by have := h3; omega)]))]; decide), rnd_t, inf_f h5])
  | false =>
    have h3 : ¬ (((rB n x : Nat) : Int) = 0) := fun c => Bool.false_ne_true (i3.2 c)
    cases b6 with
    | true =>
      have h6 : rQ n x - x = 1 := i6.1 rfl
      cases b4 with
      | true =>
        have h4 : ((rM n x % 2 : Nat) : Int) = 1 := i4.1 rfl
        cases b5 with
        | true =>
          have h5 : okP (rM n x + 1) (rQ n x) = true := i5.1 rfl
          cases b1 with
          | true =>
            exact absurd (i1.1 rfl) ((by omega))
          | false =>
            have h1 : ¬ (rT n x > 1023) := fun c => Bool.false_ne_true (i1.2 c)
            cases b2 with
            | true =>
              exact absurd (i2.1 rfl) ((by omega))
            | false =>
              have h2 : ¬ (rQ n x - x ≤ 0) := fun c => Bool.false_ne_true (i2.2 c)
              exact fin _ (DAbove_dn_f_r5) rfl (show Ending.returned (.tuple #[.float .f64 (mkW false (rM n x + 1) (rQ n x)), .int .i64 0]) = .returned (.tuple #[.float .f64 (rnd false n x (upAbove false n x)), .int .i64 0]) from by rw [upAbove_t (by rw [(show rW n x = 2 from (by rw [rW_dn hn h hu, if_neg (fun c => h3 (by rw [c]; rfl)), if_pos h6]))]; decide), rnd_t, mkW_ok h5])
        | false =>
          have h5 : ¬ (okP (rM n x + 1) (rQ n x) = true) := fun c => Bool.false_ne_true (i5.2 c)
          cases b1 with
          | true =>
            exact absurd (i1.1 rfl) ((by omega))
          | false =>
            have h1 : ¬ (rT n x > 1023) := fun c => Bool.false_ne_true (i1.2 c)
            cases b2 with
            | true =>
              exact absurd (i2.1 rfl) ((by omega))
            | false =>
              have h2 : ¬ (rQ n x - x ≤ 0) := fun c => Bool.false_ne_true (i2.2 c)
              exact fin _ (DAbove_dn_f_r6) rfl (show Ending.returned (.tuple #[.float .f64 9218868437227405312, .int .i64 0]) = .returned (.tuple #[.float .f64 (rnd false n x (upAbove false n x)), .int .i64 0]) from by rw [upAbove_t (by rw [(show rW n x = 2 from (by rw [rW_dn hn h hu, if_neg (fun c => h3 (by rw [c]; rfl)), if_pos h6]))]; decide), rnd_t, inf_f h5])
      | false =>
        have h4 : ¬ (((rM n x % 2 : Nat) : Int) = 1) := fun c => Bool.false_ne_true (i4.2 c)
        cases b5 with
        | true =>
          have h5 : okP (rM n x + 1) (rQ n x) = true := i5.1 rfl
          cases b1 with
          | true =>
            exact absurd (i1.1 rfl) ((by omega))
          | false =>
            have h1 : ¬ (rT n x > 1023) := fun c => Bool.false_ne_true (i1.2 c)
            cases b2 with
            | true =>
              exact absurd (i2.1 rfl) ((by omega))
            | false =>
              have h2 : ¬ (rQ n x - x ≤ 0) := fun c => Bool.false_ne_true (i2.2 c)
              exact fin _ (DAbove_dn_f_r7) rfl (show Ending.returned (.tuple #[.float .f64 (mkW false (rM n x + 1) (rQ n x)), .int .i64 0]) = .returned (.tuple #[.float .f64 (rnd false n x (upAbove false n x)), .int .i64 0]) from by rw [upAbove_t (by rw [(show rW n x = 2 from (by rw [rW_dn hn h hu, if_neg (fun c => h3 (by rw [c]; rfl)), if_pos h6]))]; decide), rnd_t, mkW_ok h5])
        | false =>
          have h5 : ¬ (okP (rM n x + 1) (rQ n x) = true) := fun c => Bool.false_ne_true (i5.2 c)
          cases b1 with
          | true =>
            exact absurd (i1.1 rfl) ((by omega))
          | false =>
            have h1 : ¬ (rT n x > 1023) := fun c => Bool.false_ne_true (i1.2 c)
            cases b2 with
            | true =>
              exact absurd (i2.1 rfl) ((by omega))
            | false =>
              have h2 : ¬ (rQ n x - x ≤ 0) := fun c => Bool.false_ne_true (i2.2 c)
              exact fin _ (DAbove_dn_f_r8) rfl (show Ending.returned (.tuple #[.float .f64 9218868437227405312, .int .i64 0]) = .returned (.tuple #[.float .f64 (rnd false n x (upAbove false n x)), .int .i64 0]) from by rw [upAbove_t (by rw [(show rW n x = 2 from (by rw [rW_dn hn h hu, if_neg (fun c => h3 (by rw [c]; rfl)), if_pos h6]))]; decide), rnd_t, inf_f h5])
    | false =>
      have h6 : ¬ (rQ n x - x = 1) := fun c => Bool.false_ne_true (i6.2 c)
      cases b4 with
      | true =>
        have h4 : ((rM n x % 2 : Nat) : Int) = 1 := i4.1 rfl
        cases b5 with
        | true =>
          have h5 : okP (rM n x + 1) (rQ n x) = true := i5.1 rfl
          cases b1 with
          | true =>
            exact absurd (i1.1 rfl) ((by omega))
          | false =>
            have h1 : ¬ (rT n x > 1023) := fun c => Bool.false_ne_true (i1.2 c)
            cases b2 with
            | true =>
              exact absurd (i2.1 rfl) ((by omega))
            | false =>
              have h2 : ¬ (rQ n x - x ≤ 0) := fun c => Bool.false_ne_true (i2.2 c)
              exact fin _ (DAbove_dn_f_r9) rfl (show Ending.returned (.tuple #[.float .f64 (mkW false (rM n x + 1) (rQ n x)), .int .i64 0]) = .returned (.tuple #[.float .f64 (rnd false n x (upAbove false n x)), .int .i64 0]) from by rw [upAbove_t (by rw [(show rW n x = 3 from (by rw [rW_dn hn h hu, if_neg (fun c => h3 (by rw [c]; rfl)), if_neg h6]))]; decide), rnd_t, mkW_ok h5])
        | false =>
          have h5 : ¬ (okP (rM n x + 1) (rQ n x) = true) := fun c => Bool.false_ne_true (i5.2 c)
          cases b1 with
          | true =>
            exact absurd (i1.1 rfl) ((by omega))
          | false =>
            have h1 : ¬ (rT n x > 1023) := fun c => Bool.false_ne_true (i1.2 c)
            cases b2 with
            | true =>
              exact absurd (i2.1 rfl) ((by omega))
            | false =>
              have h2 : ¬ (rQ n x - x ≤ 0) := fun c => Bool.false_ne_true (i2.2 c)
              exact fin _ (DAbove_dn_f_r10) rfl (show Ending.returned (.tuple #[.float .f64 9218868437227405312, .int .i64 0]) = .returned (.tuple #[.float .f64 (rnd false n x (upAbove false n x)), .int .i64 0]) from by rw [upAbove_t (by rw [(show rW n x = 3 from (by rw [rW_dn hn h hu, if_neg (fun c => h3 (by rw [c]; rfl)), if_neg h6]))]; decide), rnd_t, inf_f h5])
      | false =>
        have h4 : ¬ (((rM n x % 2 : Nat) : Int) = 1) := fun c => Bool.false_ne_true (i4.2 c)
        cases b5 with
        | true =>
          have h5 : okP (rM n x + 1) (rQ n x) = true := i5.1 rfl
          cases b1 with
          | true =>
            exact absurd (i1.1 rfl) ((by omega))
          | false =>
            have h1 : ¬ (rT n x > 1023) := fun c => Bool.false_ne_true (i1.2 c)
            cases b2 with
            | true =>
              exact absurd (i2.1 rfl) ((by omega))
            | false =>
              have h2 : ¬ (rQ n x - x ≤ 0) := fun c => Bool.false_ne_true (i2.2 c)
              exact fin _ (DAbove_dn_f_r11) rfl (show Ending.returned (.tuple #[.float .f64 (mkW false (rM n x + 1) (rQ n x)), .int .i64 0]) = .returned (.tuple #[.float .f64 (rnd false n x (upAbove false n x)), .int .i64 0]) from by rw [upAbove_t (by rw [(show rW n x = 3 from (by rw [rW_dn hn h hu, if_neg (fun c => h3 (by rw [c]; rfl)), if_neg h6]))]; decide), rnd_t, mkW_ok h5])
        | false =>
          have h5 : ¬ (okP (rM n x + 1) (rQ n x) = true) := fun c => Bool.false_ne_true (i5.2 c)
          cases b1 with
          | true =>
            exact absurd (i1.1 rfl) ((by omega))
          | false =>
            have h1 : ¬ (rT n x > 1023) := fun c => Bool.false_ne_true (i1.2 c)
            cases b2 with
            | true =>
              exact absurd (i2.1 rfl) ((by omega))
            | false =>
              have h2 : ¬ (rQ n x - x ≤ 0) := fun c => Bool.false_ne_true (i2.2 c)
              exact fin _ (DAbove_dn_f_r12) rfl (show Ending.returned (.tuple #[.float .f64 9218868437227405312, .int .i64 0]) = .returned (.tuple #[.float .f64 (rnd false n x (upAbove false n x)), .int .i64 0]) from by rw [upAbove_t (by rw [(show rW n x = 3 from (by rw [rW_dn hn h hu, if_neg (fun c => h3 (by rw [c]; rfl)), if_neg h6]))]; decide), rnd_t, inf_f h5])

theorem DAbove_f (n : Nat) (x : Int) (w : World) (hn : (Dy.mk false n x).Num) (hG : Globs glT w) : Calls Tryd.prog 31 #[.agg #[.bool false, .string (natS n), .int .i64 x]] w fun e w' => e = .returned (.tuple #[.float .f64 (rnd false n x (upAbove false n x)), .int .i64 0]) ∧ Below w.heap.size w w' := by
  by_cases h : 1024 ≤ rT n x
  · exact DAbove_far_f n x w hn h hG
  · by_cases hu : rQ n x ≤ x
    · exact DAbove_up_f n x w hn h hu hG
    · exact DAbove_dn_f n x w hn h hu hG
@[reducible] def DAbove_far_t_f : FuncId := 31
@[reducible] def DAbove_far_t_a : List AV := [.agg [.lit (.bool true), .sym 0, .sym 1]]
@[reducible] noncomputable def DAbove_far_t_k (b1 b2 : Bool) : Know := ⟨[([0, 15, 3], [.sym 2, .lit (.int .i64 1023)], .lit (.bool b2))],
  [(15, [.agg [.lit (.bool true), .sym 0, .sym 1]], .lit (.int .i64 0)),
  (13, [.agg [.lit (.bool true), .sym 0, .sym 1]], .tup [.sym 2, .lit (.bool true)]),
  (128, [.lit (.bool true), .lit (.int .u64 9007199254740991), .lit (.int .i64 971)], .tup [.sym 3, .lit (.bool b1)])]⟩
theorem DAbove_far_t_r1 : @comes (DAbove_far_t_k true true) Tryd.prog glT 3000 DAbove_far_t_f DAbove_far_t_a = some (.tup [.sym 3, .lit (.int .i64 0)]) := by kernel_rfl

set_option maxRecDepth 100000 in
set_option maxHeartbeats 4000000 in
theorem DAbove_far_t (n : Nat) (x : Int) (w : World) (hn : (Dy.mk true n x).Num) (h : 1024 ≤ rT n x) (hG : Globs glT w) : Calls Tryd.prog 31 #[.agg #[.bool true, .string (natS n), .int .i64 x]] w fun e w' => e = .returned (.tuple #[.float .f64 (rnd true n x (upAbove true n x)), .int .i64 0]) ∧ Below w.heap.size w w' := by
  obtain ⟨b1, i1⟩ := bex (okP 9007199254740991 971 = true)
  obtain ⟨b2, i2⟩ := bex (rT n x > 1023)
  letI : Env := mkEnv glT [.string (natS n), .int .i64 x, .int .i64 (rT n x), .float .f64 (mkW true 9007199254740991 971)] rfl
  have hops : OpsT Tryd.prog (@Know.ops (DAbove_far_t_k b1 b2)) := ⟨opt_gtr_i rfl rfl i2,
    trivial⟩
  have hcalls : CallsT Tryd.prog (@Know.calls (DAbove_far_t_k b1 b2)) := ⟨callt rfl rfl fun w hG => DCheck_dyr (Dy.mk true n x) (Or.inr hn) w,
    callt rfl rfl fun w hG => DTop_r true n x w hn,
    callt rfl rfl fun w hG => bMake_i true 9007199254740991 971 w (by omega) (by omega) (by omega) (Or.inl (by omega)) i1 hG,
    trivial⟩
  have fin : ∀ v, @comes (DAbove_far_t_k b1 b2) Tryd.prog glT 3000 DAbove_far_t_f DAbove_far_t_a = some v → ground v = true → Ending.returned (gval v) = .returned (.tuple #[.float .f64 (rnd true n x (upAbove true n x)), .int .i64 0]) → Calls Tryd.prog 31 #[.agg #[.bool true, .string (natS n), .int .i64 x]] w fun e w' => e = .returned (.tuple #[.float .f64 (rnd true n x (upAbove true n x)), .int .i64 0]) ∧ Below w.heap.size w w' := fun v h1 h2 h3 => (@sym_ok _ (DAbove_far_t_k b1 b2) _ (@KnowOk.of _ (DAbove_far_t_k b1 b2) _ hops hcalls) (by kernel_rfl) _ _ _ _ h1 rfl h2 _ hG).mono fun e w' h => ⟨h.1.trans h3, h.2⟩
  clear hops hcalls
  cases b1 with
  | true =>
    have h1 : okP 9007199254740991 971 = true := i1.1 rfl
    cases b2 with
    | true =>
      have h2 : rT n x > 1023 := i2.1 rfl
      exact fin _ (DAbove_far_t_r1) rfl (show Ending.returned (.tuple #[.float .f64 (mkW true 9007199254740991 971), .int .i64 0]) = .returned (.tuple #[.float .f64 (rnd true n x (upAbove true n x)), .int .i64 0]) from by rw [upAbove_n n x, rnd_f, (rQ_far h).1, (rQ_far h).2.1, mkW_ok h1])
    | false =>
      exact absurd (i2.2 ((by omega))) Bool.false_ne_true
  | false =>
    exact absurd (i1.2 (okP_lt (by omega))) Bool.false_ne_true

@[reducible] def DAbove_up_t_f : FuncId := 31
@[reducible] def DAbove_up_t_a : List AV := [.agg [.lit (.bool true), .sym 0, .sym 1]]
@[reducible] noncomputable def DAbove_up_t_k (b1 b2 b3 : Bool) : Know := ⟨[([0, 15, 3], [.sym 2, .lit (.int .i64 1023)], .lit (.bool b1)),
  ([0, 1, 3], [.sym 3, .sym 1], .sym 4),
  ([1, 0, 3], [.sym 4], .sym 5),
  ([0, 14, 3], [.sym 4, .lit (.int .i64 0)], .lit (.bool b3))],
  [(15, [.agg [.lit (.bool true), .sym 0, .sym 1]], .lit (.int .i64 0)),
  (13, [.agg [.lit (.bool true), .sym 0, .sym 1]], .tup [.sym 2, .lit (.bool true)]),
  (107, [.sym 2], .sym 3),
  (65, [.sym 0, .sym 5], .tup [.sym 6, .lit (.int .i64 0)]),
  (108, [.sym 6], .tup [.sym 7, .lit (.bool true)]),
  (128, [.lit (.bool true), .sym 7, .sym 3], .tup [.sym 8, .lit (.bool b2)])]⟩
theorem DAbove_up_t_r1 : @comes (DAbove_up_t_k false true true) Tryd.prog glT 3000 DAbove_up_t_f DAbove_up_t_a = some (.tup [.sym 8, .lit (.int .i64 0)]) := by kernel_rfl

set_option maxRecDepth 100000 in
set_option maxHeartbeats 4000000 in
theorem DAbove_up_t (n : Nat) (x : Int) (w : World) (hn : (Dy.mk true n x).Num) (h : ¬ 1024 ≤ rT n x) (hu : rQ n x ≤ x) (hG : Globs glT w) : Calls Tryd.prog 31 #[.agg #[.bool true, .string (natS n), .int .i64 x]] w fun e w' => e = .returned (.tuple #[.float .f64 (rnd true n x (upAbove true n x)), .int .i64 0]) ∧ Below w.heap.size w w' := by
  obtain ⟨b1, i1⟩ := bex (rT n x > 1023)
  obtain ⟨b2, i2⟩ := bex (okP (rM n x) (rQ n x) = true)
  obtain ⟨b3, i3⟩ := bex (rQ n x - x ≤ 0)
  letI : Env := mkEnv glT [.string (natS n), .int .i64 x, .int .i64 (rT n x), .int .i64 (rQ n x), .int .i64 (rQ n x - x), .int .i64 (-(rQ n x - x)), .string (natS (rM n x)), .int .u64 (((rM n x : Nat) : Int)), .float .f64 (mkW true (rM n x) (rQ n x))] rfl
  have hops : OpsT Tryd.prog (@Know.ops (DAbove_up_t_k b1 b2 b3)) := ⟨opt_gtr_i rfl rfl i1,
    opt_sub rfl rfl rfl rfl rfl (by have := (rQ_b n x); have := hn.2.2.1; have := hn.2.2.2; simp only at *; omega),
    opt_neg rfl rfl rfl rfl (by have := (rQ_b n x); have := hn.2.2.1; have := hn.2.2.2; simp only at *; omega),
    opt_leq_i rfl rfl i3,
    trivial⟩
  have hcalls : CallsT Tryd.prog (@Know.calls (DAbove_up_t_k b1 b2 b3)) := ⟨callt rfl rfl fun w hG => DCheck_dyr (Dy.mk true n x) (Or.inr hn) w,
    callt rfl rfl fun w hG => DTop_r true n x w hn,
    callt rfl rfl fun w hG => Least_r true n x w hn h,
    callt rfl rfl fun w hG => NShift_r true n x w hn h,
    callt rfl rfl fun w hG => NSmall_r true n x w hn,
    callt rfl rfl fun w hG => bMake_i true (rM n x) (rQ n x) w (Nat.le_of_lt (rM_b (x := x) (odd_ne hn.2.1)).1) (rQ_b n x).1 (rQ_b n x).2 (rM_b (x := x) (odd_ne hn.2.1)).2 i2 hG,
    trivial⟩
  have fin : ∀ v, @comes (DAbove_up_t_k b1 b2 b3) Tryd.prog glT 3000 DAbove_up_t_f DAbove_up_t_a = some v → ground v = true → Ending.returned (gval v) = .returned (.tuple #[.float .f64 (rnd true n x (upAbove true n x)), .int .i64 0]) → Calls Tryd.prog 31 #[.agg #[.bool true, .string (natS n), .int .i64 x]] w fun e w' => e = .returned (.tuple #[.float .f64 (rnd true n x (upAbove true n x)), .int .i64 0]) ∧ Below w.heap.size w w' := fun v h1 h2 h3 => (@sym_ok _ (DAbove_up_t_k b1 b2 b3) _ (@KnowOk.of _ (DAbove_up_t_k b1 b2 b3) _ hops hcalls) (by kernel_rfl) _ _ _ _ h1 rfl h2 _ hG).mono fun e w' h => ⟨h.1.trans h3, h.2⟩
  clear hops hcalls
  cases b2 with
  | true =>
    have h2 : okP (rM n x) (rQ n x) = true := i2.1 rfl
    cases b1 with
    | true =>
      exact absurd (i1.1 rfl) ((by omega))
    | false =>
      have h1 : ¬ (rT n x > 1023) := fun c => Bool.false_ne_true (i1.2 c)
      cases b3 with
      | true =>
        have h3 : rQ n x - x ≤ 0 := i3.1 rfl
        exact fin _ (DAbove_up_t_r1) rfl (show Ending.returned (.tuple #[.float .f64 (mkW true (rM n x) (rQ n x)), .int .i64 0]) = .returned (.tuple #[.float .f64 (rnd true n x (upAbove true n x)), .int .i64 0]) from by rw [upAbove_n n x, rnd_f, mkW_ok h2])
      | false =>
        exact absurd (i3.2 ((by omega))) Bool.false_ne_true
  | false =>
    exact absurd (i2.2 (okP_lt (rM_b (x := x) (odd_ne hn.2.1)).1)) Bool.false_ne_true

@[reducible] def DAbove_dn_t_f : FuncId := 31
@[reducible] def DAbove_dn_t_a : List AV := [.agg [.lit (.bool true), .sym 0, .sym 1]]
@[reducible] noncomputable def DAbove_dn_t_k (b1 b2 b3 b4 b5 b6 : Bool) : Know := ⟨[([0, 15, 3], [.sym 2, .lit (.int .i64 1023)], .lit (.bool b1)),
  ([0, 1, 3], [.sym 3, .sym 1], .sym 4),
  ([1, 0, 3], [.sym 4], .sym 5),
  ([0, 14, 3], [.sym 4, .lit (.int .i64 0)], .lit (.bool b3)),
  ([0, 1, 3], [.sym 4, .lit (.int .i64 1)], .sym 9),
  ([0, 11, 5], [.sym 10, .lit (.int .u8 0)], .lit (.bool b4)),
  ([0, 5, 80], [.sym 7, .lit (.int .u64 1)], .sym 11),
  ([0, 11, 80], [.sym 11, .lit (.int .u64 1)], .lit (.bool b5)),
  ([0, 11, 3], [.sym 4, .lit (.int .i64 1)], .lit (.bool b6))],
  [(15, [.agg [.lit (.bool true), .sym 0, .sym 1]], .lit (.int .i64 0)),
  (13, [.agg [.lit (.bool true), .sym 0, .sym 1]], .tup [.sym 2, .lit (.bool true)]),
  (107, [.sym 2], .sym 3),
  (65, [.sym 0, .sym 5], .tup [.sym 6, .lit (.int .i64 0)]),
  (108, [.sym 6], .tup [.sym 7, .lit (.bool true)]),
  (128, [.lit (.bool true), .sym 7, .sym 3], .tup [.sym 8, .lit (.bool b2)]),
  (130, [.sym 0, .sym 9], .tup [.sym 10, .lit (.int .i64 0)])]⟩
theorem DAbove_dn_t_r1 (b6 : Bool) : @comes (DAbove_dn_t_k false true false true true b6) Tryd.prog glT 3000 DAbove_dn_t_f DAbove_dn_t_a = some (.tup [.sym 8, .lit (.int .i64 0)]) := by kernel_rfl
theorem DAbove_dn_t_r2 (b6 : Bool) : @comes (DAbove_dn_t_k false true false true false b6) Tryd.prog glT 3000 DAbove_dn_t_f DAbove_dn_t_a = some (.tup [.sym 8, .lit (.int .i64 0)]) := by kernel_rfl
theorem DAbove_dn_t_r3 : @comes (DAbove_dn_t_k false true false false true true) Tryd.prog glT 3000 DAbove_dn_t_f DAbove_dn_t_a = some (.tup [.sym 8, .lit (.int .i64 0)]) := by kernel_rfl
theorem DAbove_dn_t_r4 : @comes (DAbove_dn_t_k false true false false false true) Tryd.prog glT 3000 DAbove_dn_t_f DAbove_dn_t_a = some (.tup [.sym 8, .lit (.int .i64 0)]) := by kernel_rfl
theorem DAbove_dn_t_r5 : @comes (DAbove_dn_t_k false true false false true false) Tryd.prog glT 3000 DAbove_dn_t_f DAbove_dn_t_a = some (.tup [.sym 8, .lit (.int .i64 0)]) := by kernel_rfl
theorem DAbove_dn_t_r6 : @comes (DAbove_dn_t_k false true false false false false) Tryd.prog glT 3000 DAbove_dn_t_f DAbove_dn_t_a = some (.tup [.sym 8, .lit (.int .i64 0)]) := by kernel_rfl

set_option maxRecDepth 100000 in
set_option maxHeartbeats 4000000 in
theorem DAbove_dn_t (n : Nat) (x : Int) (w : World) (hn : (Dy.mk true n x).Num) (h : ¬ 1024 ≤ rT n x) (hu : ¬ rQ n x ≤ x) (hG : Globs glT w) : Calls Tryd.prog 31 #[.agg #[.bool true, .string (natS n), .int .i64 x]] w fun e w' => e = .returned (.tuple #[.float .f64 (rnd true n x (upAbove true n x)), .int .i64 0]) ∧ Below w.heap.size w w' := by
  obtain ⟨b1, i1⟩ := bex (rT n x > 1023)
  obtain ⟨b2, i2⟩ := bex (okP (rM n x) (rQ n x) = true)
  obtain ⟨b3, i3⟩ := bex (rQ n x - x ≤ 0)
  obtain ⟨b4, i4⟩ := bex (((rB n x : Nat) : Int) = 0)
  obtain ⟨b5, i5⟩ := bex (((rM n x % 2 : Nat) : Int) = 1)
  obtain ⟨b6, i6⟩ := bex (rQ n x - x = 1)
  letI : Env := mkEnv glT [.string (natS n), .int .i64 x, .int .i64 (rT n x), .int .i64 (rQ n x), .int .i64 (rQ n x - x), .int .i64 (-(rQ n x - x)), .string (natS (rM n x)), .int .u64 (((rM n x : Nat) : Int)), .float .f64 (mkW true (rM n x) (rQ n x)), .int .i64 (rQ n x - x - 1), .int .u8 (((rB n x : Nat) : Int)), .int .u64 (((rM n x % 2 : Nat) : Int))] rfl
  have hops : OpsT Tryd.prog (@Know.ops (DAbove_dn_t_k b1 b2 b3 b4 b5 b6)) := ⟨opt_gtr_i rfl rfl i1,
    opt_sub rfl rfl rfl rfl rfl (by have := (rQ_b n x); have := hn.2.2.1; have := hn.2.2.2; simp only at *; omega),
    opt_neg rfl rfl rfl rfl (by have := (rQ_b n x); have := hn.2.2.1; have := hn.2.2.2; simp only at *; omega),
    opt_leq_i rfl rfl i3,
    opt_sub rfl rfl rfl rfl rfl (by have := (rQ_b n x); have := hn.2.2.1; have := hn.2.2.2; simp only at *; omega),
    opt_eql_i rfl rfl i4,
    opt_odd rfl rfl rfl rfl (by have : rM n x < 9007199254740992 := (rM_b (x := x) (odd_ne hn.2.1)).1; omega),
    opt_eql_i rfl rfl i5,
    opt_eql_i rfl rfl i6,
    trivial⟩
  have hcalls : CallsT Tryd.prog (@Know.calls (DAbove_dn_t_k b1 b2 b3 b4 b5 b6)) := ⟨callt rfl rfl fun w hG => DCheck_dyr (Dy.mk true n x) (Or.inr hn) w,
    callt rfl rfl fun w hG => DTop_r true n x w hn,
    callt rfl rfl fun w hG => Least_r true n x w hn h,
    callt rfl rfl fun w hG => NShift_r true n x w hn h,
    callt rfl rfl fun w hG => NSmall_r true n x w hn,
    callt rfl rfl fun w hG => bMake_i true (rM n x) (rQ n x) w (Nat.le_of_lt (rM_b (x := x) (odd_ne hn.2.1)).1) (rQ_b n x).1 (rQ_b n x).2 (rM_b (x := x) (odd_ne hn.2.1)).2 i2 hG,
    callt rfl rfl fun w hG => NBit_r true n x w hn hu,
    trivial⟩
  have fin : ∀ v, @comes (DAbove_dn_t_k b1 b2 b3 b4 b5 b6) Tryd.prog glT 3000 DAbove_dn_t_f DAbove_dn_t_a = some v → ground v = true → Ending.returned (gval v) = .returned (.tuple #[.float .f64 (rnd true n x (upAbove true n x)), .int .i64 0]) → Calls Tryd.prog 31 #[.agg #[.bool true, .string (natS n), .int .i64 x]] w fun e w' => e = .returned (.tuple #[.float .f64 (rnd true n x (upAbove true n x)), .int .i64 0]) ∧ Below w.heap.size w w' := fun v h1 h2 h3 => (@sym_ok _ (DAbove_dn_t_k b1 b2 b3 b4 b5 b6) _ (@KnowOk.of _ (DAbove_dn_t_k b1 b2 b3 b4 b5 b6) _ hops hcalls) (by kernel_rfl) _ _ _ _ h1 rfl h2 _ hG).mono fun e w' h => ⟨h.1.trans h3, h.2⟩
  clear hops hcalls
  cases b4 with
  | true =>
    have h4 : ((rB n x : Nat) : Int) = 0 := i4.1 rfl
    cases b5 with
    | true =>
      have h5 : ((rM n x % 2 : Nat) : Int) = 1 := i5.1 rfl
      cases b2 with
      | true =>
        have h2 : okP (rM n x) (rQ n x) = true := i2.1 rfl
        cases b1 with
        | true =>
          exact absurd (i1.1 rfl) ((by omega))
        | false =>
          have h1 : ¬ (rT n x > 1023) := fun c => Bool.false_ne_true (i1.2 c)
          cases b3 with
          | true =>
            exact absurd (i3.1 rfl) ((by omega))
          | false =>
            have h3 : ¬ (rQ n x - x ≤ 0) := fun c => Bool.false_ne_true (i3.2 c)
            exact fin _ (DAbove_dn_t_r1 b6) rfl (show Ending.returned (.tuple #[.float .f64 (mkW true (rM n x) (rQ n x)), .int .i64 0]) = .returned (.tuple #[.float .f64 (rnd true n x (upAbove true n x)), .int .i64 0]) from by rw [upAbove_n n x, rnd_f, mkW_ok h2])
      | false =>
        exact absurd (i2.2 (okP_lt (rM_b (x := x) (odd_ne hn.2.1)).1)) Bool.false_ne_true
    | false =>
      have h5 : ¬ (((rM n x % 2 : Nat) : Int) = 1) := fun c => Bool.false_ne_true (i5.2 c)
      cases b2 with
      | true =>
        have h2 : okP (rM n x) (rQ n x) = true := i2.1 rfl
        cases b1 with
        | true =>
          exact absurd (i1.1 rfl) ((by omega))
        | false =>
          have h1 : ¬ (rT n x > 1023) := fun c => Bool.false_ne_true (i1.2 c)
          cases b3 with
          | true =>
            exact absurd (i3.1 rfl) ((by omega))
          | false =>
            have h3 : ¬ (rQ n x - x ≤ 0) := fun c => Bool.false_ne_true (i3.2 c)
            exact fin _ (DAbove_dn_t_r2 b6) rfl (show Ending.returned (.tuple #[.float .f64 (mkW true (rM n x) (rQ n x)), .int .i64 0]) = .returned (.tuple #[.float .f64 (rnd true n x (upAbove true n x)), .int .i64 0]) from by rw [upAbove_n n x, rnd_f, mkW_ok h2])
      | false =>
        exact absurd (i2.2 (okP_lt (rM_b (x := x) (odd_ne hn.2.1)).1)) Bool.false_ne_true
  | false =>
    have h4 : ¬ (((rB n x : Nat) : Int) = 0) := fun c => Bool.false_ne_true (i4.2 c)
    cases b6 with
    | true =>
      have h6 : rQ n x - x = 1 := i6.1 rfl
      cases b5 with
      | true =>
        have h5 : ((rM n x % 2 : Nat) : Int) = 1 := i5.1 rfl
        cases b2 with
        | true =>
          have h2 : okP (rM n x) (rQ n x) = true := i2.1 rfl
          cases b1 with
          | true =>
            exact absurd (i1.1 rfl) ((by omega))
          | false =>
            have h1 : ¬ (rT n x > 1023) := fun c => Bool.false_ne_true (i1.2 c)
            cases b3 with
            | true =>
              exact absurd (i3.1 rfl) ((by omega))
            | false =>
              have h3 : ¬ (rQ n x - x ≤ 0) := fun c => Bool.false_ne_true (i3.2 c)
              exact fin _ (DAbove_dn_t_r3) rfl (show Ending.returned (.tuple #[.float .f64 (mkW true (rM n x) (rQ n x)), .int .i64 0]) = .returned (.tuple #[.float .f64 (rnd true n x (upAbove true n x)), .int .i64 0]) from by rw [upAbove_n n x, rnd_f, mkW_ok h2])
        | false =>
          exact absurd (i2.2 (okP_lt (rM_b (x := x) (odd_ne hn.2.1)).1)) Bool.false_ne_true
      | false =>
        have h5 : ¬ (((rM n x % 2 : Nat) : Int) = 1) := fun c => Bool.false_ne_true (i5.2 c)
        cases b2 with
        | true =>
          have h2 : okP (rM n x) (rQ n x) = true := i2.1 rfl
          cases b1 with
          | true =>
            exact absurd (i1.1 rfl) ((by omega))
          | false =>
            have h1 : ¬ (rT n x > 1023) := fun c => Bool.false_ne_true (i1.2 c)
            cases b3 with
            | true =>
              exact absurd (i3.1 rfl) ((by omega))
            | false =>
              have h3 : ¬ (rQ n x - x ≤ 0) := fun c => Bool.false_ne_true (i3.2 c)
              exact fin _ (DAbove_dn_t_r4) rfl (show Ending.returned (.tuple #[.float .f64 (mkW true (rM n x) (rQ n x)), .int .i64 0]) = .returned (.tuple #[.float .f64 (rnd true n x (upAbove true n x)), .int .i64 0]) from by rw [upAbove_n n x, rnd_f, mkW_ok h2])
        | false =>
          exact absurd (i2.2 (okP_lt (rM_b (x := x) (odd_ne hn.2.1)).1)) Bool.false_ne_true
    | false =>
      have h6 : ¬ (rQ n x - x = 1) := fun c => Bool.false_ne_true (i6.2 c)
      cases b5 with
      | true =>
        have h5 : ((rM n x % 2 : Nat) : Int) = 1 := i5.1 rfl
        cases b2 with
        | true =>
          have h2 : okP (rM n x) (rQ n x) = true := i2.1 rfl
          cases b1 with
          | true =>
            exact absurd (i1.1 rfl) ((by omega))
          | false =>
            have h1 : ¬ (rT n x > 1023) := fun c => Bool.false_ne_true (i1.2 c)
            cases b3 with
            | true =>
              exact absurd (i3.1 rfl) ((by omega))
            | false =>
              have h3 : ¬ (rQ n x - x ≤ 0) := fun c => Bool.false_ne_true (i3.2 c)
              exact fin _ (DAbove_dn_t_r5) rfl (show Ending.returned (.tuple #[.float .f64 (mkW true (rM n x) (rQ n x)), .int .i64 0]) = .returned (.tuple #[.float .f64 (rnd true n x (upAbove true n x)), .int .i64 0]) from by rw [upAbove_n n x, rnd_f, mkW_ok h2])
        | false =>
          exact absurd (i2.2 (okP_lt (rM_b (x := x) (odd_ne hn.2.1)).1)) Bool.false_ne_true
      | false =>
        have h5 : ¬ (((rM n x % 2 : Nat) : Int) = 1) := fun c => Bool.false_ne_true (i5.2 c)
        cases b2 with
        | true =>
          have h2 : okP (rM n x) (rQ n x) = true := i2.1 rfl
          cases b1 with
          | true =>
            exact absurd (i1.1 rfl) ((by omega))
          | false =>
            have h1 : ¬ (rT n x > 1023) := fun c => Bool.false_ne_true (i1.2 c)
            cases b3 with
            | true =>
              exact absurd (i3.1 rfl) ((by omega))
            | false =>
              have h3 : ¬ (rQ n x - x ≤ 0) := fun c => Bool.false_ne_true (i3.2 c)
              exact fin _ (DAbove_dn_t_r6) rfl (show Ending.returned (.tuple #[.float .f64 (mkW true (rM n x) (rQ n x)), .int .i64 0]) = .returned (.tuple #[.float .f64 (rnd true n x (upAbove true n x)), .int .i64 0]) from by rw [upAbove_n n x, rnd_f, mkW_ok h2])
        | false =>
          exact absurd (i2.2 (okP_lt (rM_b (x := x) (odd_ne hn.2.1)).1)) Bool.false_ne_true

theorem DAbove_t (n : Nat) (x : Int) (w : World) (hn : (Dy.mk true n x).Num) (hG : Globs glT w) : Calls Tryd.prog 31 #[.agg #[.bool true, .string (natS n), .int .i64 x]] w fun e w' => e = .returned (.tuple #[.float .f64 (rnd true n x (upAbove true n x)), .int .i64 0]) ∧ Below w.heap.size w w' := by
  by_cases h : 1024 ≤ rT n x
  · exact DAbove_far_t n x w hn h hG
  · by_cases hu : rQ n x ≤ x
    · exact DAbove_up_t n x w hn h hu hG
    · exact DAbove_dn_t n x w hn h hu hG
@[reducible] def DBelow_far_f_f : FuncId := 30
@[reducible] def DBelow_far_f_a : List AV := [.agg [.lit (.bool false), .sym 0, .sym 1]]
@[reducible] noncomputable def DBelow_far_f_k (b1 b2 : Bool) : Know := ⟨[([0, 15, 3], [.sym 2, .lit (.int .i64 1023)], .lit (.bool b2))],
  [(15, [.agg [.lit (.bool false), .sym 0, .sym 1]], .lit (.int .i64 0)),
  (13, [.agg [.lit (.bool false), .sym 0, .sym 1]], .tup [.sym 2, .lit (.bool true)]),
  (128, [.lit (.bool false), .lit (.int .u64 9007199254740991), .lit (.int .i64 971)], .tup [.sym 3, .lit (.bool b1)])]⟩
theorem DBelow_far_f_r1 : @comes (DBelow_far_f_k true true) Tryd.prog glT 3000 DBelow_far_f_f DBelow_far_f_a = some (.tup [.sym 3, .lit (.int .i64 0)]) := by kernel_rfl

set_option maxRecDepth 100000 in
set_option maxHeartbeats 4000000 in
theorem DBelow_far_f (n : Nat) (x : Int) (w : World) (hn : (Dy.mk false n x).Num) (h : 1024 ≤ rT n x) (hG : Globs glT w) : Calls Tryd.prog 30 #[.agg #[.bool false, .string (natS n), .int .i64 x]] w fun e w' => e = .returned (.tuple #[.float .f64 (rnd false n x (upBelow false n x)), .int .i64 0]) ∧ Below w.heap.size w w' := by
  obtain ⟨b1, i1⟩ := bex (okP 9007199254740991 971 = true)
  obtain ⟨b2, i2⟩ := bex (rT n x > 1023)
  letI : Env := mkEnv glT [.string (natS n), .int .i64 x, .int .i64 (rT n x), .float .f64 (mkW false 9007199254740991 971)] rfl
  have hops : OpsT Tryd.prog (@Know.ops (DBelow_far_f_k b1 b2)) := ⟨opt_gtr_i rfl rfl i2,
    trivial⟩
  have hcalls : CallsT Tryd.prog (@Know.calls (DBelow_far_f_k b1 b2)) := ⟨callt rfl rfl fun w hG => DCheck_dyr (Dy.mk false n x) (Or.inr hn) w,
    callt rfl rfl fun w hG => DTop_r false n x w hn,
    callt rfl rfl fun w hG => bMake_i false 9007199254740991 971 w (by omega) (by omega) (by omega) (Or.inl (by omega)) i1 hG,
    trivial⟩
  have fin : ∀ v, @comes (DBelow_far_f_k b1 b2) Tryd.prog glT 3000 DBelow_far_f_f DBelow_far_f_a = some v → ground v = true → Ending.returned (gval v) = .returned (.tuple #[.float .f64 (rnd false n x (upBelow false n x)), .int .i64 0]) → Calls Tryd.prog 30 #[.agg #[.bool false, .string (natS n), .int .i64 x]] w fun e w' => e = .returned (.tuple #[.float .f64 (rnd false n x (upBelow false n x)), .int .i64 0]) ∧ Below w.heap.size w w' := fun v h1 h2 h3 => (@sym_ok _ (DBelow_far_f_k b1 b2) _ (@KnowOk.of _ (DBelow_far_f_k b1 b2) _ hops hcalls) (by kernel_rfl) _ _ _ _ h1 rfl h2 _ hG).mono fun e w' h => ⟨h.1.trans h3, h.2⟩
  clear hops hcalls
  cases b1 with
  | true =>
    have h1 : okP 9007199254740991 971 = true := i1.1 rfl
    cases b2 with
    | true =>
      have h2 : rT n x > 1023 := i2.1 rfl
      exact fin _ (DBelow_far_f_r1) rfl (show Ending.returned (.tuple #[.float .f64 (mkW false 9007199254740991 971), .int .i64 0]) = .returned (.tuple #[.float .f64 (rnd false n x (upBelow false n x)), .int .i64 0]) from by rw [upBelow_n n x, rnd_f, (rQ_far h).1, (rQ_far h).2.1, mkW_ok h1])
    | false =>
      exact absurd (i2.2 ((by omega))) Bool.false_ne_true
  | false =>
    exact absurd (i1.2 (okP_lt (by omega))) Bool.false_ne_true

@[reducible] def DBelow_up_f_f : FuncId := 30
@[reducible] def DBelow_up_f_a : List AV := [.agg [.lit (.bool false), .sym 0, .sym 1]]
@[reducible] noncomputable def DBelow_up_f_k (b1 b2 b3 : Bool) : Know := ⟨[([0, 15, 3], [.sym 2, .lit (.int .i64 1023)], .lit (.bool b1)),
  ([0, 1, 3], [.sym 3, .sym 1], .sym 4),
  ([1, 0, 3], [.sym 4], .sym 5),
  ([0, 14, 3], [.sym 4, .lit (.int .i64 0)], .lit (.bool b3))],
  [(15, [.agg [.lit (.bool false), .sym 0, .sym 1]], .lit (.int .i64 0)),
  (13, [.agg [.lit (.bool false), .sym 0, .sym 1]], .tup [.sym 2, .lit (.bool true)]),
  (107, [.sym 2], .sym 3),
  (65, [.sym 0, .sym 5], .tup [.sym 6, .lit (.int .i64 0)]),
  (108, [.sym 6], .tup [.sym 7, .lit (.bool true)]),
  (128, [.lit (.bool false), .sym 7, .sym 3], .tup [.sym 8, .lit (.bool b2)])]⟩
theorem DBelow_up_f_r1 : @comes (DBelow_up_f_k false true true) Tryd.prog glT 3000 DBelow_up_f_f DBelow_up_f_a = some (.tup [.sym 8, .lit (.int .i64 0)]) := by kernel_rfl

set_option maxRecDepth 100000 in
set_option maxHeartbeats 4000000 in
theorem DBelow_up_f (n : Nat) (x : Int) (w : World) (hn : (Dy.mk false n x).Num) (h : ¬ 1024 ≤ rT n x) (hu : rQ n x ≤ x) (hG : Globs glT w) : Calls Tryd.prog 30 #[.agg #[.bool false, .string (natS n), .int .i64 x]] w fun e w' => e = .returned (.tuple #[.float .f64 (rnd false n x (upBelow false n x)), .int .i64 0]) ∧ Below w.heap.size w w' := by
  obtain ⟨b1, i1⟩ := bex (rT n x > 1023)
  obtain ⟨b2, i2⟩ := bex (okP (rM n x) (rQ n x) = true)
  obtain ⟨b3, i3⟩ := bex (rQ n x - x ≤ 0)
  letI : Env := mkEnv glT [.string (natS n), .int .i64 x, .int .i64 (rT n x), .int .i64 (rQ n x), .int .i64 (rQ n x - x), .int .i64 (-(rQ n x - x)), .string (natS (rM n x)), .int .u64 (((rM n x : Nat) : Int)), .float .f64 (mkW false (rM n x) (rQ n x))] rfl
  have hops : OpsT Tryd.prog (@Know.ops (DBelow_up_f_k b1 b2 b3)) := ⟨opt_gtr_i rfl rfl i1,
    opt_sub rfl rfl rfl rfl rfl (by have := (rQ_b n x); have := hn.2.2.1; have := hn.2.2.2; simp only at *; omega),
    opt_neg rfl rfl rfl rfl (by have := (rQ_b n x); have := hn.2.2.1; have := hn.2.2.2; simp only at *; omega),
    opt_leq_i rfl rfl i3,
    trivial⟩
  have hcalls : CallsT Tryd.prog (@Know.calls (DBelow_up_f_k b1 b2 b3)) := ⟨callt rfl rfl fun w hG => DCheck_dyr (Dy.mk false n x) (Or.inr hn) w,
    callt rfl rfl fun w hG => DTop_r false n x w hn,
    callt rfl rfl fun w hG => Least_r false n x w hn h,
    callt rfl rfl fun w hG => NShift_r false n x w hn h,
    callt rfl rfl fun w hG => NSmall_r false n x w hn,
    callt rfl rfl fun w hG => bMake_i false (rM n x) (rQ n x) w (Nat.le_of_lt (rM_b (x := x) (odd_ne hn.2.1)).1) (rQ_b n x).1 (rQ_b n x).2 (rM_b (x := x) (odd_ne hn.2.1)).2 i2 hG,
    trivial⟩
  have fin : ∀ v, @comes (DBelow_up_f_k b1 b2 b3) Tryd.prog glT 3000 DBelow_up_f_f DBelow_up_f_a = some v → ground v = true → Ending.returned (gval v) = .returned (.tuple #[.float .f64 (rnd false n x (upBelow false n x)), .int .i64 0]) → Calls Tryd.prog 30 #[.agg #[.bool false, .string (natS n), .int .i64 x]] w fun e w' => e = .returned (.tuple #[.float .f64 (rnd false n x (upBelow false n x)), .int .i64 0]) ∧ Below w.heap.size w w' := fun v h1 h2 h3 => (@sym_ok _ (DBelow_up_f_k b1 b2 b3) _ (@KnowOk.of _ (DBelow_up_f_k b1 b2 b3) _ hops hcalls) (by kernel_rfl) _ _ _ _ h1 rfl h2 _ hG).mono fun e w' h => ⟨h.1.trans h3, h.2⟩
  clear hops hcalls
  cases b2 with
  | true =>
    have h2 : okP (rM n x) (rQ n x) = true := i2.1 rfl
    cases b1 with
    | true =>
      exact absurd (i1.1 rfl) ((by omega))
    | false =>
      have h1 : ¬ (rT n x > 1023) := fun c => Bool.false_ne_true (i1.2 c)
      cases b3 with
      | true =>
        have h3 : rQ n x - x ≤ 0 := i3.1 rfl
        exact fin _ (DBelow_up_f_r1) rfl (show Ending.returned (.tuple #[.float .f64 (mkW false (rM n x) (rQ n x)), .int .i64 0]) = .returned (.tuple #[.float .f64 (rnd false n x (upBelow false n x)), .int .i64 0]) from by rw [upBelow_n n x, rnd_f, mkW_ok h2])
      | false =>
        exact absurd (i3.2 ((by omega))) Bool.false_ne_true
  | false =>
    exact absurd (i2.2 (okP_lt (rM_b (x := x) (odd_ne hn.2.1)).1)) Bool.false_ne_true

@[reducible] def DBelow_dn_f_f : FuncId := 30
@[reducible] def DBelow_dn_f_a : List AV := [.agg [.lit (.bool false), .sym 0, .sym 1]]
@[reducible] noncomputable def DBelow_dn_f_k (b1 b2 b3 b4 b5 b6 : Bool) : Know := ⟨[([0, 15, 3], [.sym 2, .lit (.int .i64 1023)], .lit (.bool b1)),
  ([0, 1, 3], [.sym 3, .sym 1], .sym 4),
  ([1, 0, 3], [.sym 4], .sym 5),
  ([0, 14, 3], [.sym 4, .lit (.int .i64 0)], .lit (.bool b3)),
  ([0, 1, 3], [.sym 4, .lit (.int .i64 1)], .sym 9),
  ([0, 11, 5], [.sym 10, .lit (.int .u8 0)], .lit (.bool b4)),
  ([0, 5, 80], [.sym 7, .lit (.int .u64 1)], .sym 11),
  ([0, 11, 80], [.sym 11, .lit (.int .u64 1)], .lit (.bool b5)),
  ([0, 11, 3], [.sym 4, .lit (.int .i64 1)], .lit (.bool b6))],
  [(15, [.agg [.lit (.bool false), .sym 0, .sym 1]], .lit (.int .i64 0)),
  (13, [.agg [.lit (.bool false), .sym 0, .sym 1]], .tup [.sym 2, .lit (.bool true)]),
  (107, [.sym 2], .sym 3),
  (65, [.sym 0, .sym 5], .tup [.sym 6, .lit (.int .i64 0)]),
  (108, [.sym 6], .tup [.sym 7, .lit (.bool true)]),
  (128, [.lit (.bool false), .sym 7, .sym 3], .tup [.sym 8, .lit (.bool b2)]),
  (130, [.sym 0, .sym 9], .tup [.sym 10, .lit (.int .i64 0)])]⟩
theorem DBelow_dn_f_r1 (b6 : Bool) : @comes (DBelow_dn_f_k false true false true true b6) Tryd.prog glT 3000 DBelow_dn_f_f DBelow_dn_f_a = some (.tup [.sym 8, .lit (.int .i64 0)]) := by kernel_rfl
theorem DBelow_dn_f_r2 (b6 : Bool) : @comes (DBelow_dn_f_k false true false true false b6) Tryd.prog glT 3000 DBelow_dn_f_f DBelow_dn_f_a = some (.tup [.sym 8, .lit (.int .i64 0)]) := by kernel_rfl
theorem DBelow_dn_f_r3 : @comes (DBelow_dn_f_k false true false false true true) Tryd.prog glT 3000 DBelow_dn_f_f DBelow_dn_f_a = some (.tup [.sym 8, .lit (.int .i64 0)]) := by kernel_rfl
theorem DBelow_dn_f_r4 : @comes (DBelow_dn_f_k false true false false false true) Tryd.prog glT 3000 DBelow_dn_f_f DBelow_dn_f_a = some (.tup [.sym 8, .lit (.int .i64 0)]) := by kernel_rfl
theorem DBelow_dn_f_r5 : @comes (DBelow_dn_f_k false true false false true false) Tryd.prog glT 3000 DBelow_dn_f_f DBelow_dn_f_a = some (.tup [.sym 8, .lit (.int .i64 0)]) := by kernel_rfl
theorem DBelow_dn_f_r6 : @comes (DBelow_dn_f_k false true false false false false) Tryd.prog glT 3000 DBelow_dn_f_f DBelow_dn_f_a = some (.tup [.sym 8, .lit (.int .i64 0)]) := by kernel_rfl

set_option maxRecDepth 100000 in
set_option maxHeartbeats 4000000 in
theorem DBelow_dn_f (n : Nat) (x : Int) (w : World) (hn : (Dy.mk false n x).Num) (h : ¬ 1024 ≤ rT n x) (hu : ¬ rQ n x ≤ x) (hG : Globs glT w) : Calls Tryd.prog 30 #[.agg #[.bool false, .string (natS n), .int .i64 x]] w fun e w' => e = .returned (.tuple #[.float .f64 (rnd false n x (upBelow false n x)), .int .i64 0]) ∧ Below w.heap.size w w' := by
  obtain ⟨b1, i1⟩ := bex (rT n x > 1023)
  obtain ⟨b2, i2⟩ := bex (okP (rM n x) (rQ n x) = true)
  obtain ⟨b3, i3⟩ := bex (rQ n x - x ≤ 0)
  obtain ⟨b4, i4⟩ := bex (((rB n x : Nat) : Int) = 0)
  obtain ⟨b5, i5⟩ := bex (((rM n x % 2 : Nat) : Int) = 1)
  obtain ⟨b6, i6⟩ := bex (rQ n x - x = 1)
  letI : Env := mkEnv glT [.string (natS n), .int .i64 x, .int .i64 (rT n x), .int .i64 (rQ n x), .int .i64 (rQ n x - x), .int .i64 (-(rQ n x - x)), .string (natS (rM n x)), .int .u64 (((rM n x : Nat) : Int)), .float .f64 (mkW false (rM n x) (rQ n x)), .int .i64 (rQ n x - x - 1), .int .u8 (((rB n x : Nat) : Int)), .int .u64 (((rM n x % 2 : Nat) : Int))] rfl
  have hops : OpsT Tryd.prog (@Know.ops (DBelow_dn_f_k b1 b2 b3 b4 b5 b6)) := ⟨opt_gtr_i rfl rfl i1,
    opt_sub rfl rfl rfl rfl rfl (by have := (rQ_b n x); have := hn.2.2.1; have := hn.2.2.2; simp only at *; omega),
    opt_neg rfl rfl rfl rfl (by have := (rQ_b n x); have := hn.2.2.1; have := hn.2.2.2; simp only at *; omega),
    opt_leq_i rfl rfl i3,
    opt_sub rfl rfl rfl rfl rfl (by have := (rQ_b n x); have := hn.2.2.1; have := hn.2.2.2; simp only at *; omega),
    opt_eql_i rfl rfl i4,
    opt_odd rfl rfl rfl rfl (by have : rM n x < 9007199254740992 := (rM_b (x := x) (odd_ne hn.2.1)).1; omega),
    opt_eql_i rfl rfl i5,
    opt_eql_i rfl rfl i6,
    trivial⟩
  have hcalls : CallsT Tryd.prog (@Know.calls (DBelow_dn_f_k b1 b2 b3 b4 b5 b6)) := ⟨callt rfl rfl fun w hG => DCheck_dyr (Dy.mk false n x) (Or.inr hn) w,
    callt rfl rfl fun w hG => DTop_r false n x w hn,
    callt rfl rfl fun w hG => Least_r false n x w hn h,
    callt rfl rfl fun w hG => NShift_r false n x w hn h,
    callt rfl rfl fun w hG => NSmall_r false n x w hn,
    callt rfl rfl fun w hG => bMake_i false (rM n x) (rQ n x) w (Nat.le_of_lt (rM_b (x := x) (odd_ne hn.2.1)).1) (rQ_b n x).1 (rQ_b n x).2 (rM_b (x := x) (odd_ne hn.2.1)).2 i2 hG,
    callt rfl rfl fun w hG => NBit_r false n x w hn hu,
    trivial⟩
  have fin : ∀ v, @comes (DBelow_dn_f_k b1 b2 b3 b4 b5 b6) Tryd.prog glT 3000 DBelow_dn_f_f DBelow_dn_f_a = some v → ground v = true → Ending.returned (gval v) = .returned (.tuple #[.float .f64 (rnd false n x (upBelow false n x)), .int .i64 0]) → Calls Tryd.prog 30 #[.agg #[.bool false, .string (natS n), .int .i64 x]] w fun e w' => e = .returned (.tuple #[.float .f64 (rnd false n x (upBelow false n x)), .int .i64 0]) ∧ Below w.heap.size w w' := fun v h1 h2 h3 => (@sym_ok _ (DBelow_dn_f_k b1 b2 b3 b4 b5 b6) _ (@KnowOk.of _ (DBelow_dn_f_k b1 b2 b3 b4 b5 b6) _ hops hcalls) (by kernel_rfl) _ _ _ _ h1 rfl h2 _ hG).mono fun e w' h => ⟨h.1.trans h3, h.2⟩
  clear hops hcalls
  cases b4 with
  | true =>
    have h4 : ((rB n x : Nat) : Int) = 0 := i4.1 rfl
    cases b5 with
    | true =>
      have h5 : ((rM n x % 2 : Nat) : Int) = 1 := i5.1 rfl
      cases b2 with
      | true =>
        have h2 : okP (rM n x) (rQ n x) = true := i2.1 rfl
        cases b1 with
        | true =>
          exact absurd (i1.1 rfl) ((by omega))
        | false =>
          have h1 : ¬ (rT n x > 1023) := fun c => Bool.false_ne_true (i1.2 c)
          cases b3 with
          | true =>
            exact absurd (i3.1 rfl) ((by omega))
          | false =>
            have h3 : ¬ (rQ n x - x ≤ 0) := fun c => Bool.false_ne_true (i3.2 c)
            exact fin _ (DBelow_dn_f_r1 b6) rfl (show Ending.returned (.tuple #[.float .f64 (mkW false (rM n x) (rQ n x)), .int .i64 0]) = .returned (.tuple #[.float .f64 (rnd false n x (upBelow false n x)), .int .i64 0]) from by rw [upBelow_n n x, rnd_f, mkW_ok h2])
      | false =>
        exact absurd (i2.2 (okP_lt (rM_b (x := x) (odd_ne hn.2.1)).1)) Bool.false_ne_true
    | false =>
      have h5 : ¬ (((rM n x % 2 : Nat) : Int) = 1) := fun c => Bool.false_ne_true (i5.2 c)
      cases b2 with
      | true =>
        have h2 : okP (rM n x) (rQ n x) = true := i2.1 rfl
        cases b1 with
        | true =>
          exact absurd (i1.1 rfl) ((by omega))
        | false =>
          have h1 : ¬ (rT n x > 1023) := fun c => Bool.false_ne_true (i1.2 c)
          cases b3 with
          | true =>
            exact absurd (i3.1 rfl) ((by omega))
          | false =>
            have h3 : ¬ (rQ n x - x ≤ 0) := fun c => Bool.false_ne_true (i3.2 c)
            exact fin _ (DBelow_dn_f_r2 b6) rfl (show Ending.returned (.tuple #[.float .f64 (mkW false (rM n x) (rQ n x)), .int .i64 0]) = .returned (.tuple #[.float .f64 (rnd false n x (upBelow false n x)), .int .i64 0]) from by rw [upBelow_n n x, rnd_f, mkW_ok h2])
      | false =>
        exact absurd (i2.2 (okP_lt (rM_b (x := x) (odd_ne hn.2.1)).1)) Bool.false_ne_true
  | false =>
    have h4 : ¬ (((rB n x : Nat) : Int) = 0) := fun c => Bool.false_ne_true (i4.2 c)
    cases b6 with
    | true =>
      have h6 : rQ n x - x = 1 := i6.1 rfl
      cases b5 with
      | true =>
        have h5 : ((rM n x % 2 : Nat) : Int) = 1 := i5.1 rfl
        cases b2 with
        | true =>
          have h2 : okP (rM n x) (rQ n x) = true := i2.1 rfl
          cases b1 with
          | true =>
            exact absurd (i1.1 rfl) ((by omega))
          | false =>
            have h1 : ¬ (rT n x > 1023) := fun c => Bool.false_ne_true (i1.2 c)
            cases b3 with
            | true =>
              exact absurd (i3.1 rfl) ((by omega))
            | false =>
              have h3 : ¬ (rQ n x - x ≤ 0) := fun c => Bool.false_ne_true (i3.2 c)
              exact fin _ (DBelow_dn_f_r3) rfl (show Ending.returned (.tuple #[.float .f64 (mkW false (rM n x) (rQ n x)), .int .i64 0]) = .returned (.tuple #[.float .f64 (rnd false n x (upBelow false n x)), .int .i64 0]) from by rw [upBelow_n n x, rnd_f, mkW_ok h2])
        | false =>
          exact absurd (i2.2 (okP_lt (rM_b (x := x) (odd_ne hn.2.1)).1)) Bool.false_ne_true
      | false =>
        have h5 : ¬ (((rM n x % 2 : Nat) : Int) = 1) := fun c => Bool.false_ne_true (i5.2 c)
        cases b2 with
        | true =>
          have h2 : okP (rM n x) (rQ n x) = true := i2.1 rfl
          cases b1 with
          | true =>
            exact absurd (i1.1 rfl) ((by omega))
          | false =>
            have h1 : ¬ (rT n x > 1023) := fun c => Bool.false_ne_true (i1.2 c)
            cases b3 with
            | true =>
              exact absurd (i3.1 rfl) ((by omega))
            | false =>
              have h3 : ¬ (rQ n x - x ≤ 0) := fun c => Bool.false_ne_true (i3.2 c)
              exact fin _ (DBelow_dn_f_r4) rfl (show Ending.returned (.tuple #[.float .f64 (mkW false (rM n x) (rQ n x)), .int .i64 0]) = .returned (.tuple #[.float .f64 (rnd false n x (upBelow false n x)), .int .i64 0]) from by rw [upBelow_n n x, rnd_f, mkW_ok h2])
        | false =>
          exact absurd (i2.2 (okP_lt (rM_b (x := x) (odd_ne hn.2.1)).1)) Bool.false_ne_true
    | false =>
      have h6 : ¬ (rQ n x - x = 1) := fun c => Bool.false_ne_true (i6.2 c)
      cases b5 with
      | true =>
        have h5 : ((rM n x % 2 : Nat) : Int) = 1 := i5.1 rfl
        cases b2 with
        | true =>
          have h2 : okP (rM n x) (rQ n x) = true := i2.1 rfl
          cases b1 with
          | true =>
            exact absurd (i1.1 rfl) ((by omega))
          | false =>
            have h1 : ¬ (rT n x > 1023) := fun c => Bool.false_ne_true (i1.2 c)
            cases b3 with
            | true =>
              exact absurd (i3.1 rfl) ((by omega))
            | false =>
              have h3 : ¬ (rQ n x - x ≤ 0) := fun c => Bool.false_ne_true (i3.2 c)
              exact fin _ (DBelow_dn_f_r5) rfl (show Ending.returned (.tuple #[.float .f64 (mkW false (rM n x) (rQ n x)), .int .i64 0]) = .returned (.tuple #[.float .f64 (rnd false n x (upBelow false n x)), .int .i64 0]) from by rw [upBelow_n n x, rnd_f, mkW_ok h2])
        | false =>
          exact absurd (i2.2 (okP_lt (rM_b (x := x) (odd_ne hn.2.1)).1)) Bool.false_ne_true
      | false =>
        have h5 : ¬ (((rM n x % 2 : Nat) : Int) = 1) := fun c => Bool.false_ne_true (i5.2 c)
        cases b2 with
        | true =>
          have h2 : okP (rM n x) (rQ n x) = true := i2.1 rfl
          cases b1 with
          | true =>
            exact absurd (i1.1 rfl) ((by omega))
          | false =>
            have h1 : ¬ (rT n x > 1023) := fun c => Bool.false_ne_true (i1.2 c)
            cases b3 with
            | true =>
              exact absurd (i3.1 rfl) ((by omega))
            | false =>
              have h3 : ¬ (rQ n x - x ≤ 0) := fun c => Bool.false_ne_true (i3.2 c)
              exact fin _ (DBelow_dn_f_r6) rfl (show Ending.returned (.tuple #[.float .f64 (mkW false (rM n x) (rQ n x)), .int .i64 0]) = .returned (.tuple #[.float .f64 (rnd false n x (upBelow false n x)), .int .i64 0]) from by rw [upBelow_n n x, rnd_f, mkW_ok h2])
        | false =>
          exact absurd (i2.2 (okP_lt (rM_b (x := x) (odd_ne hn.2.1)).1)) Bool.false_ne_true

theorem DBelow_f (n : Nat) (x : Int) (w : World) (hn : (Dy.mk false n x).Num) (hG : Globs glT w) : Calls Tryd.prog 30 #[.agg #[.bool false, .string (natS n), .int .i64 x]] w fun e w' => e = .returned (.tuple #[.float .f64 (rnd false n x (upBelow false n x)), .int .i64 0]) ∧ Below w.heap.size w w' := by
  by_cases h : 1024 ≤ rT n x
  · exact DBelow_far_f n x w hn h hG
  · by_cases hu : rQ n x ≤ x
    · exact DBelow_up_f n x w hn h hu hG
    · exact DBelow_dn_f n x w hn h hu hG
@[reducible] def DBelow_far_t_f : FuncId := 30
@[reducible] def DBelow_far_t_a : List AV := [.agg [.lit (.bool true), .sym 0, .sym 1]]
@[reducible] noncomputable def DBelow_far_t_k (b1 b2 : Bool) : Know := ⟨[([0, 15, 3], [.sym 2, .lit (.int .i64 1023)], .lit (.bool b2))],
  [(15, [.agg [.lit (.bool true), .sym 0, .sym 1]], .lit (.int .i64 0)),
  (13, [.agg [.lit (.bool true), .sym 0, .sym 1]], .tup [.sym 2, .lit (.bool true)]),
  (128, [.lit (.bool true), .lit (.int .u64 9007199254740992), .lit (.int .i64 971)], .tup [.sym 3, .lit (.bool b1)])]⟩
theorem DBelow_far_t_r1 : @comes (DBelow_far_t_k false true) Tryd.prog glT 3000 DBelow_far_t_f DBelow_far_t_a = some (.lit (.tuple #[.float .f64 18442240474082181120, .int .i64 0])) := by kernel_rfl

set_option maxRecDepth 100000 in
set_option maxHeartbeats 4000000 in
theorem DBelow_far_t (n : Nat) (x : Int) (w : World) (hn : (Dy.mk true n x).Num) (h : 1024 ≤ rT n x) (hG : Globs glT w) : Calls Tryd.prog 30 #[.agg #[.bool true, .string (natS n), .int .i64 x]] w fun e w' => e = .returned (.tuple #[.float .f64 (rnd true n x (upBelow true n x)), .int .i64 0]) ∧ Below w.heap.size w w' := by
  obtain ⟨b1, i1⟩ := bex (okP 9007199254740992 971 = true)
  obtain ⟨b2, i2⟩ := bex (rT n x > 1023)
  letI : Env := mkEnv glT [.string (natS n), .int .i64 x, .int .i64 (rT n x), .float .f64 (mkW true 9007199254740992 971)] rfl
  have hops : OpsT Tryd.prog (@Know.ops (DBelow_far_t_k b1 b2)) := ⟨opt_gtr_i rfl rfl i2,
    trivial⟩
  have hcalls : CallsT Tryd.prog (@Know.calls (DBelow_far_t_k b1 b2)) := ⟨callt rfl rfl fun w hG => DCheck_dyr (Dy.mk true n x) (Or.inr hn) w,
    callt rfl rfl fun w hG => DTop_r true n x w hn,
    callt rfl rfl fun w hG => bMake_i true 9007199254740992 971 w (by omega) (by omega) (by omega) (Or.inl (by omega)) i1 hG,
    trivial⟩
  have fin : ∀ v, @comes (DBelow_far_t_k b1 b2) Tryd.prog glT 3000 DBelow_far_t_f DBelow_far_t_a = some v → ground v = true → Ending.returned (gval v) = .returned (.tuple #[.float .f64 (rnd true n x (upBelow true n x)), .int .i64 0]) → Calls Tryd.prog 30 #[.agg #[.bool true, .string (natS n), .int .i64 x]] w fun e w' => e = .returned (.tuple #[.float .f64 (rnd true n x (upBelow true n x)), .int .i64 0]) ∧ Below w.heap.size w w' := fun v h1 h2 h3 => (@sym_ok _ (DBelow_far_t_k b1 b2) _ (@KnowOk.of _ (DBelow_far_t_k b1 b2) _ hops hcalls) (by kernel_rfl) _ _ _ _ h1 rfl h2 _ hG).mono fun e w' h => ⟨h.1.trans h3, h.2⟩
  clear hops hcalls
  cases b1 with
  | true =>
    exact absurd (i1.1 rfl) (fun c => okP_iff.1 c ⟨rfl, rfl⟩)
  | false =>
    have h1 : ¬ (okP 9007199254740992 971 = true) := fun c => Bool.false_ne_true (i1.2 c)
    cases b2 with
    | true =>
      have h2 : rT n x > 1023 := i2.1 rfl
      exact fin _ (DBelow_far_t_r1) rfl (show Ending.returned (.tuple #[.float .f64 18442240474082181120, .int .i64 0]) = .returned (.tuple #[.float .f64 (rnd true n x (upBelow true n x)), .int .i64 0]) from by rw [upBelow_t (by rw [(rQ_far h).2.2]; decide), rnd_t, (rQ_far h).1, (rQ_far h).2.1, inf_t h1])
    | false =>
      exact absurd (i2.2 ((by omega))) Bool.false_ne_true

@[reducible] def DBelow_up_t_f : FuncId := 30
@[reducible] def DBelow_up_t_a : List AV := [.agg [.lit (.bool true), .sym 0, .sym 1]]
@[reducible] noncomputable def DBelow_up_t_k (b1 b2 b3 : Bool) : Know := ⟨[([0, 15, 3], [.sym 2, .lit (.int .i64 1023)], .lit (.bool b1)),
  ([0, 1, 3], [.sym 3, .sym 1], .sym 4),
  ([1, 0, 3], [.sym 4], .sym 5),
  ([0, 14, 3], [.sym 4, .lit (.int .i64 0)], .lit (.bool b3))],
  [(15, [.agg [.lit (.bool true), .sym 0, .sym 1]], .lit (.int .i64 0)),
  (13, [.agg [.lit (.bool true), .sym 0, .sym 1]], .tup [.sym 2, .lit (.bool true)]),
  (107, [.sym 2], .sym 3),
  (65, [.sym 0, .sym 5], .tup [.sym 6, .lit (.int .i64 0)]),
  (108, [.sym 6], .tup [.sym 7, .lit (.bool true)]),
  (128, [.lit (.bool true), .sym 7, .sym 3], .tup [.sym 8, .lit (.bool b2)])]⟩
theorem DBelow_up_t_r1 : @comes (DBelow_up_t_k false true true) Tryd.prog glT 3000 DBelow_up_t_f DBelow_up_t_a = some (.tup [.sym 8, .lit (.int .i64 0)]) := by kernel_rfl

set_option maxRecDepth 100000 in
set_option maxHeartbeats 4000000 in
theorem DBelow_up_t (n : Nat) (x : Int) (w : World) (hn : (Dy.mk true n x).Num) (h : ¬ 1024 ≤ rT n x) (hu : rQ n x ≤ x) (hG : Globs glT w) : Calls Tryd.prog 30 #[.agg #[.bool true, .string (natS n), .int .i64 x]] w fun e w' => e = .returned (.tuple #[.float .f64 (rnd true n x (upBelow true n x)), .int .i64 0]) ∧ Below w.heap.size w w' := by
  obtain ⟨b1, i1⟩ := bex (rT n x > 1023)
  obtain ⟨b2, i2⟩ := bex (okP (rM n x) (rQ n x) = true)
  obtain ⟨b3, i3⟩ := bex (rQ n x - x ≤ 0)
  letI : Env := mkEnv glT [.string (natS n), .int .i64 x, .int .i64 (rT n x), .int .i64 (rQ n x), .int .i64 (rQ n x - x), .int .i64 (-(rQ n x - x)), .string (natS (rM n x)), .int .u64 (((rM n x : Nat) : Int)), .float .f64 (mkW true (rM n x) (rQ n x))] rfl
  have hops : OpsT Tryd.prog (@Know.ops (DBelow_up_t_k b1 b2 b3)) := ⟨opt_gtr_i rfl rfl i1,
    opt_sub rfl rfl rfl rfl rfl (by have := (rQ_b n x); have := hn.2.2.1; have := hn.2.2.2; simp only at *; omega),
    opt_neg rfl rfl rfl rfl (by have := (rQ_b n x); have := hn.2.2.1; have := hn.2.2.2; simp only at *; omega),
    opt_leq_i rfl rfl i3,
    trivial⟩
  have hcalls : CallsT Tryd.prog (@Know.calls (DBelow_up_t_k b1 b2 b3)) := ⟨callt rfl rfl fun w hG => DCheck_dyr (Dy.mk true n x) (Or.inr hn) w,
    callt rfl rfl fun w hG => DTop_r true n x w hn,
    callt rfl rfl fun w hG => Least_r true n x w hn h,
    callt rfl rfl fun w hG => NShift_r true n x w hn h,
    callt rfl rfl fun w hG => NSmall_r true n x w hn,
    callt rfl rfl fun w hG => bMake_i true (rM n x) (rQ n x) w (Nat.le_of_lt (rM_b (x := x) (odd_ne hn.2.1)).1) (rQ_b n x).1 (rQ_b n x).2 (rM_b (x := x) (odd_ne hn.2.1)).2 i2 hG,
    trivial⟩
  have fin : ∀ v, @comes (DBelow_up_t_k b1 b2 b3) Tryd.prog glT 3000 DBelow_up_t_f DBelow_up_t_a = some v → ground v = true → Ending.returned (gval v) = .returned (.tuple #[.float .f64 (rnd true n x (upBelow true n x)), .int .i64 0]) → Calls Tryd.prog 30 #[.agg #[.bool true, .string (natS n), .int .i64 x]] w fun e w' => e = .returned (.tuple #[.float .f64 (rnd true n x (upBelow true n x)), .int .i64 0]) ∧ Below w.heap.size w w' := fun v h1 h2 h3 => (@sym_ok _ (DBelow_up_t_k b1 b2 b3) _ (@KnowOk.of _ (DBelow_up_t_k b1 b2 b3) _ hops hcalls) (by kernel_rfl) _ _ _ _ h1 rfl h2 _ hG).mono fun e w' h => ⟨h.1.trans h3, h.2⟩
  clear hops hcalls
  cases b2 with
  | true =>
    have h2 : okP (rM n x) (rQ n x) = true := i2.1 rfl
    cases b1 with
    | true =>
      exact absurd (i1.1 rfl) ((by omega))
    | false =>
      have h1 : ¬ (rT n x > 1023) := fun c => Bool.false_ne_true (i1.2 c)
      cases b3 with
      | true =>
        have h3 : rQ n x - x ≤ 0 := i3.1 rfl
        exact fin _ (DBelow_up_t_r1) rfl (show Ending.returned (.tuple #[.float .f64 (mkW true (rM n x) (rQ n x)), .int .i64 0]) = .returned (.tuple #[.float .f64 (rnd true n x (upBelow true n x)), .int .i64 0]) from by rw [upBelow_f (rM_up h hu).2, rnd_f, mkW_ok h2])
      | false =>
        exact absurd (i3.2 ((by omega))) Bool.false_ne_true
  | false =>
    exact absurd (i2.2 (okP_lt (rM_b (x := x) (odd_ne hn.2.1)).1)) Bool.false_ne_true

@[reducible] def DBelow_dn_t_f : FuncId := 30
@[reducible] def DBelow_dn_t_a : List AV := [.agg [.lit (.bool true), .sym 0, .sym 1]]
@[reducible] noncomputable def DBelow_dn_t_k (b1 b2 b3 b4 b5 b6 : Bool) : Know := ⟨[([0, 15, 3], [.sym 2, .lit (.int .i64 1023)], .lit (.bool b1)),
  ([0, 1, 3], [.sym 3, .sym 1], .sym 4),
  ([1, 0, 3], [.sym 4], .sym 5),
  ([0, 14, 3], [.sym 4, .lit (.int .i64 0)], .lit (.bool b2)),
  ([0, 1, 3], [.sym 4, .lit (.int .i64 1)], .sym 8),
  ([0, 11, 5], [.sym 9, .lit (.int .u8 0)], .lit (.bool b3)),
  ([0, 5, 80], [.sym 7, .lit (.int .u64 1)], .sym 10),
  ([0, 11, 80], [.sym 10, .lit (.int .u64 1)], .lit (.bool b4)),
  ([0, 0, 80], [.sym 7, .lit (.int .u64 1)], .sym 11),
  ([0, 11, 3], [.sym 4, .lit (.int .i64 1)], .lit (.bool b6))],
  [(15, [.agg [.lit (.bool true), .sym 0, .sym 1]], .lit (.int .i64 0)),
  (13, [.agg [.lit (.bool true), .sym 0, .sym 1]], .tup [.sym 2, .lit (.bool true)]),
  (107, [.sym 2], .sym 3),
  (65, [.sym 0, .sym 5], .tup [.sym 6, .lit (.int .i64 0)]),
  (108, [.sym 6], .tup [.sym 7, .lit (.bool true)]),
  (130, [.sym 0, .sym 8], .tup [.sym 9, .lit (.int .i64 0)]),
  (128, [.lit (.bool true), .sym 11, .sym 3], .tup [.sym 12, .lit (.bool b5)])]⟩
theorem DBelow_dn_t_r1 (b6 : Bool) : @comes (DBelow_dn_t_k false false true true true b6) Tryd.prog glT 3000 DBelow_dn_t_f DBelow_dn_t_a = some (.tup [.sym 12, .lit (.int .i64 0)]) := by kernel_rfl
theorem DBelow_dn_t_r2 (b6 : Bool) : @comes (DBelow_dn_t_k false false true true false b6) Tryd.prog glT 3000 DBelow_dn_t_f DBelow_dn_t_a = some (.lit (.tuple #[.float .f64 18442240474082181120, .int .i64 0])) := by kernel_rfl
theorem DBelow_dn_t_r3 (b6 : Bool) : @comes (DBelow_dn_t_k false false true false true b6) Tryd.prog glT 3000 DBelow_dn_t_f DBelow_dn_t_a = some (.tup [.sym 12, .lit (.int .i64 0)]) := by kernel_rfl
theorem DBelow_dn_t_r4 (b6 : Bool) : @comes (DBelow_dn_t_k false false true false false b6) Tryd.prog glT 3000 DBelow_dn_t_f DBelow_dn_t_a = some (.lit (.tuple #[.float .f64 18442240474082181120, .int .i64 0])) := by kernel_rfl
theorem DBelow_dn_t_r5 : @comes (DBelow_dn_t_k false false false true true true) Tryd.prog glT 3000 DBelow_dn_t_f DBelow_dn_t_a = some (.tup [.sym 12, .lit (.int .i64 0)]) := by kernel_rfl
theorem DBelow_dn_t_r6 : @comes (DBelow_dn_t_k false false false true false true) Tryd.prog glT 3000 DBelow_dn_t_f DBelow_dn_t_a = some (.lit (.tuple #[.float .f64 18442240474082181120, .int .i64 0])) := by kernel_rfl
theorem DBelow_dn_t_r7 : @comes (DBelow_dn_t_k false false false false true true) Tryd.prog glT 3000 DBelow_dn_t_f DBelow_dn_t_a = some (.tup [.sym 12, .lit (.int .i64 0)]) := by kernel_rfl
theorem DBelow_dn_t_r8 : @comes (DBelow_dn_t_k false false false false false true) Tryd.prog glT 3000 DBelow_dn_t_f DBelow_dn_t_a = some (.lit (.tuple #[.float .f64 18442240474082181120, .int .i64 0])) := by kernel_rfl
theorem DBelow_dn_t_r9 : @comes (DBelow_dn_t_k false false false true true false) Tryd.prog glT 3000 DBelow_dn_t_f DBelow_dn_t_a = some (.tup [.sym 12, .lit (.int .i64 0)]) := by kernel_rfl
theorem DBelow_dn_t_r10 : @comes (DBelow_dn_t_k false false false true false false) Tryd.prog glT 3000 DBelow_dn_t_f DBelow_dn_t_a = some (.lit (.tuple #[.float .f64 18442240474082181120, .int .i64 0])) := by kernel_rfl
theorem DBelow_dn_t_r11 : @comes (DBelow_dn_t_k false false false false true false) Tryd.prog glT 3000 DBelow_dn_t_f DBelow_dn_t_a = some (.tup [.sym 12, .lit (.int .i64 0)]) := by kernel_rfl
theorem DBelow_dn_t_r12 : @comes (DBelow_dn_t_k false false false false false false) Tryd.prog glT 3000 DBelow_dn_t_f DBelow_dn_t_a = some (.lit (.tuple #[.float .f64 18442240474082181120, .int .i64 0])) := by kernel_rfl

set_option maxRecDepth 100000 in
set_option maxHeartbeats 4000000 in
theorem DBelow_dn_t (n : Nat) (x : Int) (w : World) (hn : (Dy.mk true n x).Num) (h : ¬ 1024 ≤ rT n x) (hu : ¬ rQ n x ≤ x) (hG : Globs glT w) : Calls Tryd.prog 30 #[.agg #[.bool true, .string (natS n), .int .i64 x]] w fun e w' => e = .returned (.tuple #[.float .f64 (rnd true n x (upBelow true n x)), .int .i64 0]) ∧ Below w.heap.size w w' := by
  obtain ⟨b1, i1⟩ := bex (rT n x > 1023)
  obtain ⟨b2, i2⟩ := bex (rQ n x - x ≤ 0)
  obtain ⟨b3, i3⟩ := bex (((rB n x : Nat) : Int) = 0)
  obtain ⟨b4, i4⟩ := bex (((rM n x % 2 : Nat) : Int) = 1)
  obtain ⟨b5, i5⟩ := bex (okP (rM n x + 1) (rQ n x) = true)
  obtain ⟨b6, i6⟩ := bex (rQ n x - x = 1)
  letI : Env := mkEnv glT [.string (natS n), .int .i64 x, .int .i64 (rT n x), .int .i64 (rQ n x), .int .i64 (rQ n x - x), .int .i64 (-(rQ n x - x)), .string (natS (rM n x)), .int .u64 (((rM n x : Nat) : Int)), .int .i64 (rQ n x - x - 1), .int .u8 (((rB n x : Nat) : Int)), .int .u64 (((rM n x % 2 : Nat) : Int)), .int .u64 (((rM n x + 1 : Nat) : Int)), .float .f64 (mkW true (rM n x + 1) (rQ n x))] rfl
  have hops : OpsT Tryd.prog (@Know.ops (DBelow_dn_t_k b1 b2 b3 b4 b5 b6)) := ⟨opt_gtr_i rfl rfl i1,
    opt_sub rfl rfl rfl rfl rfl (by have := (rQ_b n x); have := hn.2.2.1; have := hn.2.2.2; simp only at *; omega),
    opt_neg rfl rfl rfl rfl (by have := (rQ_b n x); have := hn.2.2.1; have := hn.2.2.2; simp only at *; omega),
    opt_leq_i rfl rfl i2,
    opt_sub rfl rfl rfl rfl rfl (by have := (rQ_b n x); have := hn.2.2.1; have := hn.2.2.2; simp only at *; omega),
    opt_eql_i rfl rfl i3,
    opt_odd rfl rfl rfl rfl (by have : rM n x < 9007199254740992 := (rM_b (x := x) (odd_ne hn.2.1)).1; omega),
    opt_eql_i rfl rfl i4,
    opt_add64 (y := 1) rfl rfl rfl rfl rfl (by have : rM n x < 9007199254740992 := (rM_b (x := x) (odd_ne hn.2.1)).1; omega),
    opt_eql_i rfl rfl i6,
    trivial⟩
  have hcalls : CallsT Tryd.prog (@Know.calls (DBelow_dn_t_k b1 b2 b3 b4 b5 b6)) := ⟨callt rfl rfl fun w hG => DCheck_dyr (Dy.mk true n x) (Or.inr hn) w,
    callt rfl rfl fun w hG => DTop_r true n x w hn,
    callt rfl rfl fun w hG => Least_r true n x w hn h,
    callt rfl rfl fun w hG => NShift_r true n x w hn h,
    callt rfl rfl fun w hG => NSmall_r true n x w hn,
    callt rfl rfl fun w hG => NBit_r true n x w hn hu,
    callt rfl rfl fun w hG => bMake_i true (rM n x + 1) (rQ n x) w (rM_b (x := x) (odd_ne hn.2.1)).1 (rQ_b n x).1 (rQ_b n x).2 ((rM_b (x := x) (odd_ne hn.2.1)).2.imp (fun h => Nat.le_succ_of_le h) id) i5 hG,
    trivial⟩
  have fin : ∀ v, @comes (DBelow_dn_t_k b1 b2 b3 b4 b5 b6) Tryd.prog glT 3000 DBelow_dn_t_f DBelow_dn_t_a = some v → ground v = true → Ending.returned (gval v) = .returned (.tuple #[.float .f64 (rnd true n x (upBelow true n x)), .int .i64 0]) → Calls Tryd.prog 30 #[.agg #[.bool true, .string (natS n), .int .i64 x]] w fun e w' => e = .returned (.tuple #[.float .f64 (rnd true n x (upBelow true n x)), .int .i64 0]) ∧ Below w.heap.size w w' := fun v h1 h2 h3 => (@sym_ok _ (DBelow_dn_t_k b1 b2 b3 b4 b5 b6) _ (@KnowOk.of _ (DBelow_dn_t_k b1 b2 b3 b4 b5 b6) _ hops hcalls) (by kernel_rfl) _ _ _ _ h1 rfl h2 _ hG).mono fun e w' h => ⟨h.1.trans h3, h.2⟩
  clear hops hcalls
  cases b3 with
  | true =>
    have h3 : ((rB n x : Nat) : Int) = 0 := i3.1 rfl
    cases b4 with
    | true =>
      have h4 : ((rM n x % 2 : Nat) : Int) = 1 := i4.1 rfl
      cases b5 with
      | true =>
        have h5 : okP (rM n x + 1) (rQ n x) = true := i5.1 rfl
        cases b1 with
        | true =>
          exact absurd (i1.1 rfl) ((by omega))
        | false =>
          have h1 : ¬ (rT n x > 1023) := fun c => Bool.false_ne_true (i1.2 c)
          cases b2 with
          | true =>
            exact absurd (i2.1 rfl) ((by omega))
          | false =>
            have h2 : ¬ (rQ n x - x ≤ 0) := fun c => Bool.false_ne_true (i2.2 c)
            exact fin _ (DBelow_dn_t_r1 b6) rfl (show Ending.returned (.tuple #[.float .f64 (mkW true (rM n x + 1) (rQ n x)), .int .i64 0]) = .returned (.tuple #[.float .f64 (rnd true n x (upBelow true n x)), .int .i64 0]) from by rw [upBelow_t (by rw [(show rW n x = 1 from (by rw [rW_dn hn h hu, if_pos (by have := h3; omega)]))]; decide), rnd_t, mkW_ok h5])
      | false =>
        have h5 : ¬ (okP (rM n x + 1) (rQ n x) = true) := fun c => Bool.false_ne_true (i5.2 c)
        cases b1 with
        | true =>
          exact absurd (i1.1 rfl) ((by omega))
        | false =>
          have h1 : ¬ (rT n x > 1023) := fun c => Bool.false_ne_true (i1.2 c)
          cases b2 with
          | true =>
            exact absurd (i2.1 rfl) ((by omega))
          | false =>
            have h2 : ¬ (rQ n x - x ≤ 0) := fun c => Bool.false_ne_true (i2.2 c)
            exact fin _ (DBelow_dn_t_r2 b6) rfl (show Ending.returned (.tuple #[.float .f64 18442240474082181120, .int .i64 0]) = .returned (.tuple #[.float .f64 (rnd true n x (upBelow true n x)), .int .i64 0]) from by rw [upBelow_t (by rw [(show rW n x = 1 from (by rw [rW_dn hn h hu, if_pos (by have := h3; omega)]))]; decide), rnd_t, inf_t h5])
    | false =>
      have h4 : ¬ (((rM n x % 2 : Nat) : Int) = 1) := fun c => Bool.false_ne_true (i4.2 c)
      cases b5 with
      | true =>
        have h5 : okP (rM n x + 1) (rQ n x) = true := i5.1 rfl
        cases b1 with
        | true =>
          exact absurd (i1.1 rfl) ((by omega))
        | false =>
          have h1 : ¬ (rT n x > 1023) := fun c => Bool.false_ne_true (i1.2 c)
          cases b2 with
          | true =>
            exact absurd (i2.1 rfl) ((by omega))
          | false =>
            have h2 : ¬ (rQ n x - x ≤ 0) := fun c => Bool.false_ne_true (i2.2 c)
            exact fin _ (DBelow_dn_t_r3 b6) rfl (show Ending.returned (.tuple #[.float .f64 (mkW true (rM n x + 1) (rQ n x)), .int .i64 0]) = .returned (.tuple #[.float .f64 (rnd true n x (upBelow true n x)), .int .i64 0]) from by rw [upBelow_t (by rw [(show rW n x = 1 from (by rw [rW_dn hn h hu, if_pos (by have := h3; omega)]))]; decide), rnd_t, mkW_ok h5])
      | false =>
        have h5 : ¬ (okP (rM n x + 1) (rQ n x) = true) := fun c => Bool.false_ne_true (i5.2 c)
        cases b1 with
        | true =>
          exact absurd (i1.1 rfl) ((by omega))
        | false =>
          have h1 : ¬ (rT n x > 1023) := fun c => Bool.false_ne_true (i1.2 c)
          cases b2 with
          | true =>
            exact absurd (i2.1 rfl) ((by omega))
          | false =>
            have h2 : ¬ (rQ n x - x ≤ 0) := fun c => Bool.false_ne_true (i2.2 c)
            exact fin _ (DBelow_dn_t_r4 b6) rfl (show Ending.returned (.tuple #[.float .f64 18442240474082181120, .int .i64 0]) = .returned (.tuple #[.float .f64 (rnd true n x (upBelow true n x)), .int .i64 0]) from by rw [upBelow_t (by rw [(show rW n x = 1 from (by rw [rW_dn hn h hu, if_pos (by have := h3; omega)]))]; decide), rnd_t, inf_t h5])
  | false =>
    have h3 : ¬ (((rB n x : Nat) : Int) = 0) := fun c => Bool.false_ne_true (i3.2 c)
    cases b6 with
    | true =>
      have h6 : rQ n x - x = 1 := i6.1 rfl
      cases b4 with
      | true =>
        have h4 : ((rM n x % 2 : Nat) : Int) = 1 := i4.1 rfl
        cases b5 with
        | true =>
          have h5 : okP (rM n x + 1) (rQ n x) = true := i5.1 rfl
          cases b1 with
          | true =>
            exact absurd (i1.1 rfl) ((by omega))
          | false =>
            have h1 : ¬ (rT n x > 1023) := fun c => Bool.false_ne_true (i1.2 c)
            cases b2 with
            | true =>
              exact absurd (i2.1 rfl) ((by omega))
            | false =>
              have h2 : ¬ (rQ n x - x ≤ 0) := fun c => Bool.false_ne_true (i2.2 c)
              exact fin _ (DBelow_dn_t_r5) rfl (show Ending.returned (.tuple #[.float .f64 (mkW true (rM n x + 1) (rQ n x)), .int .i64 0]) = .returned (.tuple #[.float .f64 (rnd true n x (upBelow true n x)), .int .i64 0]) from by rw [upBelow_t (by rw [(show rW n x = 2 from (by rw [rW_dn hn h hu, if_neg (fun c => h3 (by rw [c]; rfl)), if_pos h6]))]; decide), rnd_t, mkW_ok h5])
        | false =>
          have h5 : ¬ (okP (rM n x + 1) (rQ n x) = true) := fun c => Bool.false_ne_true (i5.2 c)
          cases b1 with
          | true =>
            exact absurd (i1.1 rfl) ((by omega))
          | false =>
            have h1 : ¬ (rT n x > 1023) := fun c => Bool.false_ne_true (i1.2 c)
            cases b2 with
            | true =>
              exact absurd (i2.1 rfl) ((by omega))
            | false =>
              have h2 : ¬ (rQ n x - x ≤ 0) := fun c => Bool.false_ne_true (i2.2 c)
              exact fin _ (DBelow_dn_t_r6) rfl (show Ending.returned (.tuple #[.float .f64 18442240474082181120, .int .i64 0]) = .returned (.tuple #[.float .f64 (rnd true n x (upBelow true n x)), .int .i64 0]) from by rw [upBelow_t (by rw [(show rW n x = 2 from (by rw [rW_dn hn h hu, if_neg (fun c => h3 (by rw [c]; rfl)), if_pos h6]))]; decide), rnd_t, inf_t h5])
      | false =>
        have h4 : ¬ (((rM n x % 2 : Nat) : Int) = 1) := fun c => Bool.false_ne_true (i4.2 c)
        cases b5 with
        | true =>
          have h5 : okP (rM n x + 1) (rQ n x) = true := i5.1 rfl
          cases b1 with
          | true =>
            exact absurd (i1.1 rfl) ((by omega))
          | false =>
            have h1 : ¬ (rT n x > 1023) := fun c => Bool.false_ne_true (i1.2 c)
            cases b2 with
            | true =>
              exact absurd (i2.1 rfl) ((by omega))
            | false =>
              have h2 : ¬ (rQ n x - x ≤ 0) := fun c => Bool.false_ne_true (i2.2 c)
              exact fin _ (DBelow_dn_t_r7) rfl (show Ending.returned (.tuple #[.float .f64 (mkW true (rM n x + 1) (rQ n x)), .int .i64 0]) = .returned (.tuple #[.float .f64 (rnd true n x (upBelow true n x)), .int .i64 0]) from by rw [upBelow_t (by rw [(show rW n x = 2 from (by rw [rW_dn hn h hu, if_neg (fun c => h3 (by rw [c]; rfl)), if_pos h6]))]; decide), rnd_t, mkW_ok h5])
        | false =>
          have h5 : ¬ (okP (rM n x + 1) (rQ n x) = true) := fun c => Bool.false_ne_true (i5.2 c)
          cases b1 with
          | true =>
            exact absurd (i1.1 rfl) ((by omega))
          | false =>
            have h1 : ¬ (rT n x > 1023) := fun c => Bool.false_ne_true (i1.2 c)
            cases b2 with
            | true =>
              exact absurd (i2.1 rfl) ((by omega))
            | false =>
              have h2 : ¬ (rQ n x - x ≤ 0) := fun c => Bool.false_ne_true (i2.2 c)
              exact fin _ (DBelow_dn_t_r8) rfl (show Ending.returned (.tuple #[.float .f64 18442240474082181120, .int .i64 0]) = .returned (.tuple #[.float .f64 (rnd true n x (upBelow true n x)), .int .i64 0]) from by rw [upBelow_t (by rw [(show rW n x = 2 from (by rw [rW_dn hn h hu, if_neg (fun c => h3 (by rw [c]; rfl)), if_pos h6]))]; decide), rnd_t, inf_t h5])
    | false =>
      have h6 : ¬ (rQ n x - x = 1) := fun c => Bool.false_ne_true (i6.2 c)
      cases b4 with
      | true =>
        have h4 : ((rM n x % 2 : Nat) : Int) = 1 := i4.1 rfl
        cases b5 with
        | true =>
          have h5 : okP (rM n x + 1) (rQ n x) = true := i5.1 rfl
          cases b1 with
          | true =>
            exact absurd (i1.1 rfl) ((by omega))
          | false =>
            have h1 : ¬ (rT n x > 1023) := fun c => Bool.false_ne_true (i1.2 c)
            cases b2 with
            | true =>
              exact absurd (i2.1 rfl) ((by omega))
            | false =>
              have h2 : ¬ (rQ n x - x ≤ 0) := fun c => Bool.false_ne_true (i2.2 c)
              exact fin _ (DBelow_dn_t_r9) rfl (show Ending.returned (.tuple #[.float .f64 (mkW true (rM n x + 1) (rQ n x)), .int .i64 0]) = .returned (.tuple #[.float .f64 (rnd true n x (upBelow true n x)), .int .i64 0]) from by rw [upBelow_t (by rw [(show rW n x = 3 from (by rw [rW_dn hn h hu, if_neg (fun c => h3 (by rw [c]; rfl)), if_neg h6]))]; decide), rnd_t, mkW_ok h5])
        | false =>
          have h5 : ¬ (okP (rM n x + 1) (rQ n x) = true) := fun c => Bool.false_ne_true (i5.2 c)
          cases b1 with
          | true =>
            exact absurd (i1.1 rfl) ((by omega))
          | false =>
            have h1 : ¬ (rT n x > 1023) := fun c => Bool.false_ne_true (i1.2 c)
            cases b2 with
            | true =>
              exact absurd (i2.1 rfl) ((by omega))
            | false =>
              have h2 : ¬ (rQ n x - x ≤ 0) := fun c => Bool.false_ne_true (i2.2 c)
              exact fin _ (DBelow_dn_t_r10) rfl (show Ending.returned (.tuple #[.float .f64 18442240474082181120, .int .i64 0]) = .returned (.tuple #[.float .f64 (rnd true n x (upBelow true n x)), .int .i64 0]) from by rw [upBelow_t (by rw [(show rW n x = 3 from (by rw [rW_dn hn h hu, if_neg (fun c => h3 (by rw [c]; rfl)), if_neg h6]))]; decide), rnd_t, inf_t h5])
      | false =>
        have h4 : ¬ (((rM n x % 2 : Nat) : Int) = 1) := fun c => Bool.false_ne_true (i4.2 c)
        cases b5 with
        | true =>
          have h5 : okP (rM n x + 1) (rQ n x) = true := i5.1 rfl
          cases b1 with
          | true =>
            exact absurd (i1.1 rfl) ((by omega))
          | false =>
            have h1 : ¬ (rT n x > 1023) := fun c => Bool.false_ne_true (i1.2 c)
            cases b2 with
            | true =>
              exact absurd (i2.1 rfl) ((by omega))
            | false =>
              have h2 : ¬ (rQ n x - x ≤ 0) := fun c => Bool.false_ne_true (i2.2 c)
              exact fin _ (DBelow_dn_t_r11) rfl (show Ending.returned (.tuple #[.float .f64 (mkW true (rM n x + 1) (rQ n x)), .int .i64 0]) = .returned (.tuple #[.float .f64 (rnd true n x (upBelow true n x)), .int .i64 0]) from by rw [upBelow_t (by rw [(show rW n x = 3 from (by rw [rW_dn hn h hu, if_neg (fun c => h3 (by rw [c]; rfl)), if_neg h6]))]; decide), rnd_t, mkW_ok h5])
        | false =>
          have h5 : ¬ (okP (rM n x + 1) (rQ n x) = true) := fun c => Bool.false_ne_true (i5.2 c)
          cases b1 with
          | true =>
            exact absurd (i1.1 rfl) ((by omega))
          | false =>
            have h1 : ¬ (rT n x > 1023) := fun c => Bool.false_ne_true (i1.2 c)
            cases b2 with
            | true =>
              exact absurd (i2.1 rfl) ((by omega))
            | false =>
              have h2 : ¬ (rQ n x - x ≤ 0) := fun c => Bool.false_ne_true (i2.2 c)
              exact fin _ (DBelow_dn_t_r12) rfl (show Ending.returned (.tuple #[.float .f64 18442240474082181120, .int .i64 0]) = .returned (.tuple #[.float .f64 (rnd true n x (upBelow true n x)), .int .i64 0]) from by rw [upBelow_t (by rw [(show rW n x = 3 from (by rw [rW_dn hn h hu, if_neg (fun c => h3 (by rw [c]; rfl)), if_neg h6]))]; decide), rnd_t, inf_t h5])

theorem DBelow_t (n : Nat) (x : Int) (w : World) (hn : (Dy.mk true n x).Num) (hG : Globs glT w) : Calls Tryd.prog 30 #[.agg #[.bool true, .string (natS n), .int .i64 x]] w fun e w' => e = .returned (.tuple #[.float .f64 (rnd true n x (upBelow true n x)), .int .i64 0]) ∧ Below w.heap.size w w' := by
  by_cases h : 1024 ≤ rT n x
  · exact DBelow_far_t n x w hn h hG
  · by_cases hu : rQ n x ≤ x
    · exact DBelow_up_t n x w hn h hu hG
    · exact DBelow_dn_t n x w hn h hu hG
end Go.Proofs.YtjkonfopajihdaaDoor
set_option linter.unusedVariables false
set_option linter.unusedSimpArgs false
namespace Go.Proofs.YtjkonfopajihdaaDoor
open Go Go.RowKit Nt


theorem natS_not {n : Nat} (h : n ≠ 0) : ¬ natS n = ⟨#[]⟩ := fun c => by
  have := congrArg ByteArray.size c
  rw [natS_size] at this
  exact h ((nd_eq_zero (by omega)).1 this)
theorem pk_small (m : Nat) (n : Nat) (x : Int) (h : m ≤ 9007199254740992) : pk m (rQ n x) < 9223372036854775808 := by
  have := pk_lt h (rQ_b n x).2; omega
theorem rAround_i (g : Bool) (n : Nat) (x : Int) (w : World) (hn : (Dy.mk g n x).Num) {b : Bool} (hb : b = true ↔ (rM n x % 2 == 0) = true) :
    Calls Tryd.prog 73 #[.agg #[.bool g, .string (natS n), .int .i64 x]] w fun e w' => e = .returned (.tuple #[.float .f64 (pk (rM n x) (rQ n x)), .float .f64 (pk (rM n x + 1) (rQ n x)), .int .i64 (rW n x), .bool b]) ∧ Below w.heap.size w w' := by
  have := rAround_c g n x w hn
  unfold ArPost at this
  rw [Bool.eq_iff_iff.2 hb]; exact this
theorem rSigned_r (g : Bool) (x : Nat) (w : World) (h : x < 9223372036854775808) :
    Calls Tryd.prog 74 #[.bool g, .float .f64 x] w fun e w' => e = .returned (.float .f64 (Bt.wf g x)) ∧ Below w.heap.size w w' := by
  refine (rSigned3_c g x w h).mono ?_
  rintro e w' ⟨h1, rfl⟩
  exact ⟨h1, Below.refl _ _⟩

@[reducible] def rNear_f_f : FuncId := 33
@[reducible] def rNear_f_a : List AV := [.agg [.lit (.bool false), .sym 0, .sym 1]]
@[reducible] noncomputable def rNear_f_k (b1 b2 b3 b4 b5 : Bool) : Know := ⟨[([0, 11, 22], [.sym 0, .lit (.string ⟨#[]⟩)], .lit (.bool b1)),
  ([0, 16, 3], [.sym 5, .lit (.int .i64 1024)], .lit (.bool b3)),
  ([0, 13, 3], [.sym 4, .lit (.int .i64 2)], .lit (.bool b4)),
  ([0, 11, 3], [.sym 4, .lit (.int .i64 2)], .lit (.bool b5))],
  [(73, [.agg [.lit (.bool false), .sym 0, .sym 1]], .tup [.sym 2, .sym 3, .sym 4, .lit (.bool b2)]),
  (20, [.agg [.lit (.bool false), .sym 0, .sym 1]], .tup [.sym 5, .lit (.bool true)]),
  (74, [.lit (.bool false), .sym 3], .sym 6),
  (74, [.lit (.bool false), .sym 2], .sym 7)]⟩
theorem rNear_f_r1 (b2 b4 b5 : Bool) : @comes (rNear_f_k false b2 true b4 b5) Tryd.prog glT 3000 rNear_f_f rNear_f_a = some (.sym 6) := by kernel_rfl
theorem rNear_f_r2 (b2 b5 : Bool) : @comes (rNear_f_k false b2 false true b5) Tryd.prog glT 3000 rNear_f_f rNear_f_a = some (.sym 7) := by kernel_rfl
theorem rNear_f_r3 : @comes (rNear_f_k false true false false true) Tryd.prog glT 3000 rNear_f_f rNear_f_a = some (.sym 7) := by kernel_rfl
theorem rNear_f_r4 : @comes (rNear_f_k false false false false true) Tryd.prog glT 3000 rNear_f_f rNear_f_a = some (.sym 6) := by kernel_rfl
theorem rNear_f_r5 (b2 : Bool) : @comes (rNear_f_k false b2 false false false) Tryd.prog glT 3000 rNear_f_f rNear_f_a = some (.sym 6) := by kernel_rfl

set_option maxRecDepth 100000 in
set_option maxHeartbeats 4000000 in
theorem rNear_f (n : Nat) (x : Int) (w : World) (hn : (Dy.mk false n x).Num) (hG : Globs glT w) : Calls Tryd.prog 33 #[.agg #[.bool false, .string (natS n), .int .i64 x]] w fun e w' => e = .returned (.float .f64 (rnd false n x (upNear n x))) ∧ Below w.heap.size w w' := by
  obtain ⟨b1, i1⟩ := bex (natS n = ⟨#[]⟩)
  obtain ⟨b2, i2⟩ := bex ((rM n x % 2 == 0) = true)
  obtain ⟨b3, i3⟩ := bex (rT n x ≥ 1024)
  obtain ⟨b4, i4⟩ := bex (rW n x < 2)
  obtain ⟨b5, i5⟩ := bex (rW n x = 2)
  letI : Env := mkEnv glT [.string (natS n), .int .i64 x, .float .f64 (pk (rM n x) (rQ n x)), .float .f64 (pk (rM n x + 1) (rQ n x)), .int .i64 (rW n x), .int .i64 (rT n x), .float .f64 (Bt.wf false (pk (rM n x + 1) (rQ n x))), .float .f64 (Bt.wf false (pk (rM n x) (rQ n x)))] rfl
  have hops : OpsT Tryd.prog (@Know.ops (rNear_f_k b1 b2 b3 b4 b5)) := ⟨optS_eql_i rfl rfl i1,
    opt_geq_i rfl rfl i3,
    opt_lss_i rfl rfl i4,
    opt_eql_i rfl rfl i5,
    trivial⟩
  have hcalls : CallsT Tryd.prog (@Know.calls (rNear_f_k b1 b2 b3 b4 b5)) := ⟨callt rfl rfl fun w hG => rAround_i false n x w hn i2,
    callt rfl rfl fun w hG => rTop_r false n x w hn,
    callt rfl rfl fun w hG => rSigned_r false (pk (rM n x + 1) (rQ n x)) w (pk_small _ n x (by have : rM n x < 9007199254740992 := (rM_b (x := x) (odd_ne hn.2.1)).1; omega)),
    callt rfl rfl fun w hG => rSigned_r false (pk (rM n x) (rQ n x)) w (pk_small _ n x (by have : rM n x < 9007199254740992 := (rM_b (x := x) (odd_ne hn.2.1)).1; omega)),
    trivial⟩
  have fin : ∀ v, @comes (rNear_f_k b1 b2 b3 b4 b5) Tryd.prog glT 3000 rNear_f_f rNear_f_a = some v → ground v = true → Ending.returned (gval v) = .returned (.float .f64 (rnd false n x (upNear n x))) → Calls Tryd.prog 33 #[.agg #[.bool false, .string (natS n), .int .i64 x]] w fun e w' => e = .returned (.float .f64 (rnd false n x (upNear n x))) ∧ Below w.heap.size w w' := fun v h1 h2 h3 => (@sym_ok _ (rNear_f_k b1 b2 b3 b4 b5) _ (@KnowOk.of _ (rNear_f_k b1 b2 b3 b4 b5) _ hops hcalls) (by kernel_rfl) _ _ _ _ h1 rfl h2 _ hG).mono fun e w' h => ⟨h.1.trans h3, h.2⟩
  clear hops hcalls
  cases b1 with
  | true =>
    exact absurd (i1.1 rfl) (natS_not (odd_ne hn.2.1))
  | false =>
    have h1 : ¬ (natS n = ⟨#[]⟩) := fun c => Bool.false_ne_true (i1.2 c)
    cases b3 with
    | true =>
      have h3 : rT n x ≥ 1024 := i3.1 rfl
      exact fin _ (rNear_f_r1 b2 b4 b5) rfl (show Ending.returned (.float .f64 (Bt.wf false (pk (rM n x + 1) (rQ n x)))) = .returned (.float .f64 (rnd false n x (upNear n x))) from by rw [upNear_t (Or.inl (rQ_far (show 1024 ≤ rT n x from h3)).2.2), rnd_t])
    | false =>
      have h3 : ¬ (rT n x ≥ 1024) := fun c => Bool.false_ne_true (i3.2 c)
      cases b4 with
      | true =>
        have h4 : rW n x < 2 := i4.1 rfl
        exact fin _ (rNear_f_r2 b2 b5) rfl (show Ending.returned (.float .f64 (Bt.wf false (pk (rM n x) (rQ n x)))) = .returned (.float .f64 (rnd false n x (upNear n x))) from by rw [upNear_f (by have := h4; omega), rnd_f])
      | false =>
        have h4 : ¬ (rW n x < 2) := fun c => Bool.false_ne_true (i4.2 c)
        cases b5 with
        | true =>
          have h5 : rW n x = 2 := i5.1 rfl
          cases b2 with
          | true =>
            have h2 : (rM n x % 2 == 0) = true := i2.1 rfl
            exact fin _ (rNear_f_r3) rfl (show Ending.returned (.float .f64 (Bt.wf false (pk (rM n x) (rQ n x)))) = .returned (.float .f64 (rnd false n x (upNear n x))) from by rw [upNear_f (by have := h5; have := beq_iff_eq.1 h2; omega), rnd_f])
          | false =>
            have h2 : ¬ ((rM n x % 2 == 0) = true) := fun c => Bool.false_ne_true (i2.2 c)
            exact fin _ (rNear_f_r4) rfl (show Ending.returned (.float .f64 (Bt.wf false (pk (rM n x + 1) (rQ n x)))) = .returned (.float .f64 (rnd false n x (upNear n x))) from by rw [upNear_t (by have := h5; have := mt beq_iff_eq.2 h2; omega), rnd_t])
        | false =>
          have h5 : ¬ (rW n x = 2) := fun c => Bool.false_ne_true (i5.2 c)
          exact fin _ (rNear_f_r5 b2) rfl (show Ending.returned (.float .f64 (Bt.wf false (pk (rM n x + 1) (rQ n x)))) = .returned (.float .f64 (rnd false n x (upNear n x))) from by rw [upNear_t (by have := rW_b (n := n) (x := x); have := h4; have := h5; omega), rnd_t])

@[reducible] def rNear_t_f : FuncId := 33
@[reducible] def rNear_t_a : List AV := [.agg [.lit (.bool true), .sym 0, .sym 1]]
@[reducible] noncomputable def rNear_t_k (b1 b2 b3 b4 b5 : Bool) : Know := ⟨[([0, 11, 22], [.sym 0, .lit (.string ⟨#[]⟩)], .lit (.bool b1)),
  ([0, 16, 3], [.sym 5, .lit (.int .i64 1024)], .lit (.bool b3)),
  ([0, 13, 3], [.sym 4, .lit (.int .i64 2)], .lit (.bool b4)),
  ([0, 11, 3], [.sym 4, .lit (.int .i64 2)], .lit (.bool b5))],
  [(73, [.agg [.lit (.bool true), .sym 0, .sym 1]], .tup [.sym 2, .sym 3, .sym 4, .lit (.bool b2)]),
  (20, [.agg [.lit (.bool true), .sym 0, .sym 1]], .tup [.sym 5, .lit (.bool true)]),
  (74, [.lit (.bool true), .sym 3], .sym 6),
  (74, [.lit (.bool true), .sym 2], .sym 7)]⟩
theorem rNear_t_r1 (b2 b4 b5 : Bool) : @comes (rNear_t_k false b2 true b4 b5) Tryd.prog glT 3000 rNear_t_f rNear_t_a = some (.sym 6) := by kernel_rfl
theorem rNear_t_r2 (b2 b5 : Bool) : @comes (rNear_t_k false b2 false true b5) Tryd.prog glT 3000 rNear_t_f rNear_t_a = some (.sym 7) := by kernel_rfl
theorem rNear_t_r3 : @comes (rNear_t_k false true false false true) Tryd.prog glT 3000 rNear_t_f rNear_t_a = some (.sym 7) := by kernel_rfl
theorem rNear_t_r4 : @comes (rNear_t_k false false false false true) Tryd.prog glT 3000 rNear_t_f rNear_t_a = some (.sym 6) := by kernel_rfl
theorem rNear_t_r5 (b2 : Bool) : @comes (rNear_t_k false b2 false false false) Tryd.prog glT 3000 rNear_t_f rNear_t_a = some (.sym 6) := by kernel_rfl

set_option maxRecDepth 100000 in
set_option maxHeartbeats 4000000 in
theorem rNear_t (n : Nat) (x : Int) (w : World) (hn : (Dy.mk true n x).Num) (hG : Globs glT w) : Calls Tryd.prog 33 #[.agg #[.bool true, .string (natS n), .int .i64 x]] w fun e w' => e = .returned (.float .f64 (rnd true n x (upNear n x))) ∧ Below w.heap.size w w' := by
  obtain ⟨b1, i1⟩ := bex (natS n = ⟨#[]⟩)
  obtain ⟨b2, i2⟩ := bex ((rM n x % 2 == 0) = true)
  obtain ⟨b3, i3⟩ := bex (rT n x ≥ 1024)
  obtain ⟨b4, i4⟩ := bex (rW n x < 2)
  obtain ⟨b5, i5⟩ := bex (rW n x = 2)
  letI : Env := mkEnv glT [.string (natS n), .int .i64 x, .float .f64 (pk (rM n x) (rQ n x)), .float .f64 (pk (rM n x + 1) (rQ n x)), .int .i64 (rW n x), .int .i64 (rT n x), .float .f64 (Bt.wf true (pk (rM n x + 1) (rQ n x))), .float .f64 (Bt.wf true (pk (rM n x) (rQ n x)))] rfl
  have hops : OpsT Tryd.prog (@Know.ops (rNear_t_k b1 b2 b3 b4 b5)) := ⟨optS_eql_i rfl rfl i1,
    opt_geq_i rfl rfl i3,
    opt_lss_i rfl rfl i4,
    opt_eql_i rfl rfl i5,
    trivial⟩
  have hcalls : CallsT Tryd.prog (@Know.calls (rNear_t_k b1 b2 b3 b4 b5)) := ⟨callt rfl rfl fun w hG => rAround_i true n x w hn i2,
    callt rfl rfl fun w hG => rTop_r true n x w hn,
    callt rfl rfl fun w hG => rSigned_r true (pk (rM n x + 1) (rQ n x)) w (pk_small _ n x (by have : rM n x < 9007199254740992 := (rM_b (x := x) (odd_ne hn.2.1)).1; omega)),
    callt rfl rfl fun w hG => rSigned_r true (pk (rM n x) (rQ n x)) w (pk_small _ n x (by have : rM n x < 9007199254740992 := (rM_b (x := x) (odd_ne hn.2.1)).1; omega)),
    trivial⟩
  have fin : ∀ v, @comes (rNear_t_k b1 b2 b3 b4 b5) Tryd.prog glT 3000 rNear_t_f rNear_t_a = some v → ground v = true → Ending.returned (gval v) = .returned (.float .f64 (rnd true n x (upNear n x))) → Calls Tryd.prog 33 #[.agg #[.bool true, .string (natS n), .int .i64 x]] w fun e w' => e = .returned (.float .f64 (rnd true n x (upNear n x))) ∧ Below w.heap.size w w' := fun v h1 h2 h3 => (@sym_ok _ (rNear_t_k b1 b2 b3 b4 b5) _ (@KnowOk.of _ (rNear_t_k b1 b2 b3 b4 b5) _ hops hcalls) (by kernel_rfl) _ _ _ _ h1 rfl h2 _ hG).mono fun e w' h => ⟨h.1.trans h3, h.2⟩
  clear hops hcalls
  cases b1 with
  | true =>
    exact absurd (i1.1 rfl) (natS_not (odd_ne hn.2.1))
  | false =>
    have h1 : ¬ (natS n = ⟨#[]⟩) := fun c => Bool.false_ne_true (i1.2 c)
    cases b3 with
    | true =>
      have h3 : rT n x ≥ 1024 := i3.1 rfl
      exact fin _ (rNear_t_r1 b2 b4 b5) rfl (show Ending.returned (.float .f64 (Bt.wf true (pk (rM n x + 1) (rQ n x)))) = .returned (.float .f64 (rnd true n x (upNear n x))) from by rw [upNear_t (Or.inl (rQ_far (show 1024 ≤ rT n x from h3)).2.2), rnd_t])
    | false =>
      have h3 : ¬ (rT n x ≥ 1024) := fun c => Bool.false_ne_true (i3.2 c)
      cases b4 with
      | true =>
        have h4 : rW n x < 2 := i4.1 rfl
        exact fin _ (rNear_t_r2 b2 b5) rfl (show Ending.returned (.float .f64 (Bt.wf true (pk (rM n x) (rQ n x)))) = .returned (.float .f64 (rnd true n x (upNear n x))) from by rw [upNear_f (by have := h4; omega), rnd_f])
      | false =>
        have h4 : ¬ (rW n x < 2) := fun c => Bool.false_ne_true (i4.2 c)
        cases b5 with
        | true =>
          have h5 : rW n x = 2 := i5.1 rfl
          cases b2 with
          | true =>
            have h2 : (rM n x % 2 == 0) = true := i2.1 rfl
            exact fin _ (rNear_t_r3) rfl (show Ending.returned (.float .f64 (Bt.wf true (pk (rM n x) (rQ n x)))) = .returned (.float .f64 (rnd true n x (upNear n x))) from by rw [upNear_f (by have := h5; have := beq_iff_eq.1 h2; omega), rnd_f])
          | false =>
            have h2 : ¬ ((rM n x % 2 == 0) = true) := fun c => Bool.false_ne_true (i2.2 c)
            exact fin _ (rNear_t_r4) rfl (show Ending.returned (.float .f64 (Bt.wf true (pk (rM n x + 1) (rQ n x)))) = .returned (.float .f64 (rnd true n x (upNear n x))) from by rw [upNear_t (by have := h5; have := mt beq_iff_eq.2 h2; omega), rnd_t])
        | false =>
          have h5 : ¬ (rW n x = 2) := fun c => Bool.false_ne_true (i5.2 c)
          exact fin _ (rNear_t_r5 b2) rfl (show Ending.returned (.float .f64 (Bt.wf true (pk (rM n x + 1) (rQ n x)))) = .returned (.float .f64 (rnd true n x (upNear n x))) from by rw [upNear_t (by have := rW_b (n := n) (x := x); have := h4; have := h5; omega), rnd_t])

@[reducible] def rAbove_f_f : FuncId := 35
@[reducible] def rAbove_f_a : List AV := [.agg [.lit (.bool false), .sym 0, .sym 1]]
@[reducible] noncomputable def rAbove_f_k (b1 b2 b3 : Bool) : Know := ⟨[([0, 11, 22], [.sym 0, .lit (.string ⟨#[]⟩)], .lit (.bool b1)),
  ([0, 15, 3], [.sym 4, .lit (.int .i64 0)], .lit (.bool b3))],
  [(73, [.agg [.lit (.bool false), .sym 0, .sym 1]], .tup [.sym 2, .sym 3, .sym 4, .lit (.bool b2)]),
  (74, [.lit (.bool false), .sym 2], .sym 5)]⟩
theorem rAbove_f_r1 (b2 : Bool) : @comes (rAbove_f_k false b2 true) Tryd.prog glT 3000 rAbove_f_f rAbove_f_a = some (.sym 3) := by kernel_rfl
theorem rAbove_f_r2 (b2 : Bool) : @comes (rAbove_f_k false b2 false) Tryd.prog glT 3000 rAbove_f_f rAbove_f_a = some (.sym 5) := by kernel_rfl

set_option maxRecDepth 100000 in
set_option maxHeartbeats 4000000 in
theorem rAbove_f (n : Nat) (x : Int) (w : World) (hn : (Dy.mk false n x).Num) (hG : Globs glT w) : Calls Tryd.prog 35 #[.agg #[.bool false, .string (natS n), .int .i64 x]] w fun e w' => e = .returned (.float .f64 (rnd false n x (upAbove false n x))) ∧ Below w.heap.size w w' := by
  obtain ⟨b1, i1⟩ := bex (natS n = ⟨#[]⟩)
  obtain ⟨b2, i2⟩ := bex ((rM n x % 2 == 0) = true)
  obtain ⟨b3, i3⟩ := bex (rW n x > 0)
  letI : Env := mkEnv glT [.string (natS n), .int .i64 x, .float .f64 (pk (rM n x) (rQ n x)), .float .f64 (pk (rM n x + 1) (rQ n x)), .int .i64 (rW n x), .float .f64 (Bt.wf false (pk (rM n x) (rQ n x)))] rfl
  have hops : OpsT Tryd.prog (@Know.ops (rAbove_f_k b1 b2 b3)) := ⟨optS_eql_i rfl rfl i1,
    opt_gtr_i rfl rfl i3,
    trivial⟩
  have hcalls : CallsT Tryd.prog (@Know.calls (rAbove_f_k b1 b2 b3)) := ⟨callt rfl rfl fun w hG => rAround_i false n x w hn i2,
    callt rfl rfl fun w hG => rSigned_r false (pk (rM n x) (rQ n x)) w (pk_small _ n x (by have : rM n x < 9007199254740992 := (rM_b (x := x) (odd_ne hn.2.1)).1; omega)),
    trivial⟩
  have fin : ∀ v, @comes (rAbove_f_k b1 b2 b3) Tryd.prog glT 3000 rAbove_f_f rAbove_f_a = some v → ground v = true → Ending.returned (gval v) = .returned (.float .f64 (rnd false n x (upAbove false n x))) → Calls Tryd.prog 35 #[.agg #[.bool false, .string (natS n), .int .i64 x]] w fun e w' => e = .returned (.float .f64 (rnd false n x (upAbove false n x))) ∧ Below w.heap.size w w' := fun v h1 h2 h3 => (@sym_ok _ (rAbove_f_k b1 b2 b3) _ (@KnowOk.of _ (rAbove_f_k b1 b2 b3) _ hops hcalls) (by kernel_rfl) _ _ _ _ h1 rfl h2 _ hG).mono fun e w' h => ⟨h.1.trans h3, h.2⟩
  clear hops hcalls
  cases b1 with
  | true =>
    exact absurd (i1.1 rfl) (natS_not (odd_ne hn.2.1))
  | false =>
    have h1 : ¬ (natS n = ⟨#[]⟩) := fun c => Bool.false_ne_true (i1.2 c)
    cases b3 with
    | true =>
      have h3 : rW n x > 0 := i3.1 rfl
      exact fin _ (rAbove_f_r1 b2) rfl (show Ending.returned (.float .f64 (pk (rM n x + 1) (rQ n x))) = .returned (.float .f64 (rnd false n x (upAbove false n x))) from by rw [upAbove_t (by have := h3; omega), rnd_t, wf_f])
    | false =>
      have h3 : ¬ (rW n x > 0) := fun c => Bool.false_ne_true (i3.2 c)
      exact fin _ (rAbove_f_r2 b2) rfl (show Ending.returned (.float .f64 (Bt.wf false (pk (rM n x) (rQ n x)))) = .returned (.float .f64 (rnd false n x (upAbove false n x))) from by rw [upAbove_f (by have := rW_b (n := n) (x := x); have := h3; omega), rnd_f])

@[reducible] def rAbove_t_f : FuncId := 35
@[reducible] def rAbove_t_a : List AV := [.agg [.lit (.bool true), .sym 0, .sym 1]]
@[reducible] noncomputable def rAbove_t_k (b1 b2 : Bool) : Know := ⟨[([0, 11, 22], [.sym 0, .lit (.string ⟨#[]⟩)], .lit (.bool b1))],
  [(73, [.agg [.lit (.bool true), .sym 0, .sym 1]], .tup [.sym 2, .sym 3, .sym 4, .lit (.bool b2)]),
  (74, [.lit (.bool true), .sym 2], .sym 5)]⟩
theorem rAbove_t_r1 (b2 : Bool) : @comes (rAbove_t_k false b2) Tryd.prog glT 3000 rAbove_t_f rAbove_t_a = some (.sym 5) := by kernel_rfl

set_option maxRecDepth 100000 in
set_option maxHeartbeats 4000000 in
theorem rAbove_t (n : Nat) (x : Int) (w : World) (hn : (Dy.mk true n x).Num) (hG : Globs glT w) : Calls Tryd.prog 35 #[.agg #[.bool true, .string (natS n), .int .i64 x]] w fun e w' => e = .returned (.float .f64 (rnd true n x (upAbove true n x))) ∧ Below w.heap.size w w' := by
  obtain ⟨b1, i1⟩ := bex (natS n = ⟨#[]⟩)
  obtain ⟨b2, i2⟩ := bex ((rM n x % 2 == 0) = true)
  letI : Env := mkEnv glT [.string (natS n), .int .i64 x, .float .f64 (pk (rM n x) (rQ n x)), .float .f64 (pk (rM n x + 1) (rQ n x)), .int .i64 (rW n x), .float .f64 (Bt.wf true (pk (rM n x) (rQ n x)))] rfl
  have hops : OpsT Tryd.prog (@Know.ops (rAbove_t_k b1 b2)) := ⟨optS_eql_i rfl rfl i1,
    trivial⟩
  have hcalls : CallsT Tryd.prog (@Know.calls (rAbove_t_k b1 b2)) := ⟨callt rfl rfl fun w hG => rAround_i true n x w hn i2,
    callt rfl rfl fun w hG => rSigned_r true (pk (rM n x) (rQ n x)) w (pk_small _ n x (by have : rM n x < 9007199254740992 := (rM_b (x := x) (odd_ne hn.2.1)).1; omega)),
    trivial⟩
  have fin : ∀ v, @comes (rAbove_t_k b1 b2) Tryd.prog glT 3000 rAbove_t_f rAbove_t_a = some v → ground v = true → Ending.returned (gval v) = .returned (.float .f64 (rnd true n x (upAbove true n x))) → Calls Tryd.prog 35 #[.agg #[.bool true, .string (natS n), .int .i64 x]] w fun e w' => e = .returned (.float .f64 (rnd true n x (upAbove true n x))) ∧ Below w.heap.size w w' := fun v h1 h2 h3 => (@sym_ok _ (rAbove_t_k b1 b2) _ (@KnowOk.of _ (rAbove_t_k b1 b2) _ hops hcalls) (by kernel_rfl) _ _ _ _ h1 rfl h2 _ hG).mono fun e w' h => ⟨h.1.trans h3, h.2⟩
  clear hops hcalls
  cases b1 with
  | true =>
    exact absurd (i1.1 rfl) (natS_not (odd_ne hn.2.1))
  | false =>
    have h1 : ¬ (natS n = ⟨#[]⟩) := fun c => Bool.false_ne_true (i1.2 c)
    exact fin _ (rAbove_t_r1 b2) rfl (show Ending.returned (.float .f64 (Bt.wf true (pk (rM n x) (rQ n x)))) = .returned (.float .f64 (rnd true n x (upAbove true n x))) from by rw [upAbove_n n x, rnd_f])

@[reducible] def rBelow_f_f : FuncId := 34
@[reducible] def rBelow_f_a : List AV := [.agg [.lit (.bool false), .sym 0, .sym 1]]
@[reducible] noncomputable def rBelow_f_k (b1 b2 : Bool) : Know := ⟨[([0, 11, 22], [.sym 0, .lit (.string ⟨#[]⟩)], .lit (.bool b1))],
  [(73, [.agg [.lit (.bool false), .sym 0, .sym 1]], .tup [.sym 2, .sym 3, .sym 4, .lit (.bool b2)]),
  (74, [.lit (.bool false), .sym 2], .sym 5)]⟩
theorem rBelow_f_r1 (b2 : Bool) : @comes (rBelow_f_k false b2) Tryd.prog glT 3000 rBelow_f_f rBelow_f_a = some (.sym 5) := by kernel_rfl

set_option maxRecDepth 100000 in
set_option maxHeartbeats 4000000 in
theorem rBelow_f (n : Nat) (x : Int) (w : World) (hn : (Dy.mk false n x).Num) (hG : Globs glT w) : Calls Tryd.prog 34 #[.agg #[.bool false, .string (natS n), .int .i64 x]] w fun e w' => e = .returned (.float .f64 (rnd false n x (upBelow false n x))) ∧ Below w.heap.size w w' := by
  obtain ⟨b1, i1⟩ := bex (natS n = ⟨#[]⟩)
  obtain ⟨b2, i2⟩ := bex ((rM n x % 2 == 0) = true)
  letI : Env := mkEnv glT [.string (natS n), .int .i64 x, .float .f64 (pk (rM n x) (rQ n x)), .float .f64 (pk (rM n x + 1) (rQ n x)), .int .i64 (rW n x), .float .f64 (Bt.wf false (pk (rM n x) (rQ n x)))] rfl
  have hops : OpsT Tryd.prog (@Know.ops (rBelow_f_k b1 b2)) := ⟨optS_eql_i rfl rfl i1,
    trivial⟩
  have hcalls : CallsT Tryd.prog (@Know.calls (rBelow_f_k b1 b2)) := ⟨callt rfl rfl fun w hG => rAround_i false n x w hn i2,
    callt rfl rfl fun w hG => rSigned_r false (pk (rM n x) (rQ n x)) w (pk_small _ n x (by have : rM n x < 9007199254740992 := (rM_b (x := x) (odd_ne hn.2.1)).1; omega)),
    trivial⟩
  have fin : ∀ v, @comes (rBelow_f_k b1 b2) Tryd.prog glT 3000 rBelow_f_f rBelow_f_a = some v → ground v = true → Ending.returned (gval v) = .returned (.float .f64 (rnd false n x (upBelow false n x))) → Calls Tryd.prog 34 #[.agg #[.bool false, .string (natS n), .int .i64 x]] w fun e w' => e = .returned (.float .f64 (rnd false n x (upBelow false n x))) ∧ Below w.heap.size w w' := fun v h1 h2 h3 => (@sym_ok _ (rBelow_f_k b1 b2) _ (@KnowOk.of _ (rBelow_f_k b1 b2) _ hops hcalls) (by kernel_rfl) _ _ _ _ h1 rfl h2 _ hG).mono fun e w' h => ⟨h.1.trans h3, h.2⟩
  clear hops hcalls
  cases b1 with
  | true =>
    exact absurd (i1.1 rfl) (natS_not (odd_ne hn.2.1))
  | false =>
    have h1 : ¬ (natS n = ⟨#[]⟩) := fun c => Bool.false_ne_true (i1.2 c)
    exact fin _ (rBelow_f_r1 b2) rfl (show Ending.returned (.float .f64 (Bt.wf false (pk (rM n x) (rQ n x)))) = .returned (.float .f64 (rnd false n x (upBelow false n x))) from by rw [upBelow_n n x, rnd_f])

@[reducible] def rBelow_t_f : FuncId := 34
@[reducible] def rBelow_t_a : List AV := [.agg [.lit (.bool true), .sym 0, .sym 1]]
@[reducible] noncomputable def rBelow_t_k (b1 b2 b3 : Bool) : Know := ⟨[([0, 11, 22], [.sym 0, .lit (.string ⟨#[]⟩)], .lit (.bool b1)),
  ([0, 15, 3], [.sym 4, .lit (.int .i64 0)], .lit (.bool b3))],
  [(73, [.agg [.lit (.bool true), .sym 0, .sym 1]], .tup [.sym 2, .sym 3, .sym 4, .lit (.bool b2)]),
  (74, [.lit (.bool true), .sym 3], .sym 5),
  (74, [.lit (.bool true), .sym 2], .sym 6)]⟩
theorem rBelow_t_r1 (b2 : Bool) : @comes (rBelow_t_k false b2 true) Tryd.prog glT 3000 rBelow_t_f rBelow_t_a = some (.sym 5) := by kernel_rfl
theorem rBelow_t_r2 (b2 : Bool) : @comes (rBelow_t_k false b2 false) Tryd.prog glT 3000 rBelow_t_f rBelow_t_a = some (.sym 6) := by kernel_rfl

set_option maxRecDepth 100000 in
set_option maxHeartbeats 4000000 in
theorem rBelow_t (n : Nat) (x : Int) (w : World) (hn : (Dy.mk true n x).Num) (hG : Globs glT w) : Calls Tryd.prog 34 #[.agg #[.bool true, .string (natS n), .int .i64 x]] w fun e w' => e = .returned (.float .f64 (rnd true n x (upBelow true n x))) ∧ Below w.heap.size w w' := by
  obtain ⟨b1, i1⟩ := bex (natS n = ⟨#[]⟩)
  obtain ⟨b2, i2⟩ := bex ((rM n x % 2 == 0) = true)
  obtain ⟨b3, i3⟩ := bex (rW n x > 0)
  letI : Env := mkEnv glT [.string (natS n), .int .i64 x, .float .f64 (pk (rM n x) (rQ n x)), .float .f64 (pk (rM n x + 1) (rQ n x)), .int .i64 (rW n x), .float .f64 (Bt.wf true (pk (rM n x + 1) (rQ n x))), .float .f64 (Bt.wf true (pk (rM n x) (rQ n x)))] rfl
  have hops : OpsT Tryd.prog (@Know.ops (rBelow_t_k b1 b2 b3)) := ⟨optS_eql_i rfl rfl i1,
    opt_gtr_i rfl rfl i3,
    trivial⟩
  have hcalls : CallsT Tryd.prog (@Know.calls (rBelow_t_k b1 b2 b3)) := ⟨callt rfl rfl fun w hG => rAround_i true n x w hn i2,
    callt rfl rfl fun w hG => rSigned_r true (pk (rM n x + 1) (rQ n x)) w (pk_small _ n x (by have : rM n x < 9007199254740992 := (rM_b (x := x) (odd_ne hn.2.1)).1; omega)),
    callt rfl rfl fun w hG => rSigned_r true (pk (rM n x) (rQ n x)) w (pk_small _ n x (by have : rM n x < 9007199254740992 := (rM_b (x := x) (odd_ne hn.2.1)).1; omega)),
    trivial⟩
  have fin : ∀ v, @comes (rBelow_t_k b1 b2 b3) Tryd.prog glT 3000 rBelow_t_f rBelow_t_a = some v → ground v = true → Ending.returned (gval v) = .returned (.float .f64 (rnd true n x (upBelow true n x))) → Calls Tryd.prog 34 #[.agg #[.bool true, .string (natS n), .int .i64 x]] w fun e w' => e = .returned (.float .f64 (rnd true n x (upBelow true n x))) ∧ Below w.heap.size w w' := fun v h1 h2 h3 => (@sym_ok _ (rBelow_t_k b1 b2 b3) _ (@KnowOk.of _ (rBelow_t_k b1 b2 b3) _ hops hcalls) (by kernel_rfl) _ _ _ _ h1 rfl h2 _ hG).mono fun e w' h => ⟨h.1.trans h3, h.2⟩
  clear hops hcalls
  cases b1 with
  | true =>
    exact absurd (i1.1 rfl) (natS_not (odd_ne hn.2.1))
  | false =>
    have h1 : ¬ (natS n = ⟨#[]⟩) := fun c => Bool.false_ne_true (i1.2 c)
    cases b3 with
    | true =>
      have h3 : rW n x > 0 := i3.1 rfl
      exact fin _ (rBelow_t_r1 b2) rfl (show Ending.returned (.float .f64 (Bt.wf true (pk (rM n x + 1) (rQ n x)))) = .returned (.float .f64 (rnd true n x (upBelow true n x))) from by rw [upBelow_t (by have := h3; omega), rnd_t])
    | false =>
      have h3 : ¬ (rW n x > 0) := fun c => Bool.false_ne_true (i3.2 c)
      exact fin _ (rBelow_t_r2 b2) rfl (show Ending.returned (.float .f64 (Bt.wf true (pk (rM n x) (rQ n x)))) = .returned (.float .f64 (rnd true n x (upBelow true n x))) from by rw [upBelow_f (by have := rW_b (n := n) (x := x); have := h3; omega), rnd_f])

end Go.Proofs.YtjkonfopajihdaaDoor
set_option linter.unusedVariables false
set_option linter.unusedSimpArgs false
namespace Go.Proofs.YtjkonfopajihdaaDoor
open Go Go.RowKit Nt


set_option maxRecDepth 100000 in
theorem lBits_c (x : Nat) (w : World) : Calls Tryd.prog 32 #[.float .f64 x, .float .f64 x] w fun e w' => e = .returned (.bool true) ∧ Below w.heap.size w w' := by
  have hx := Bt.ext_bits
  have hy : ((x : Int) == (x : Int)) = true := beq_iff_eq.2 rfl
  go_enter Tryd.func32, Tryd.ntmps32
  go_wp2
  go_ret
  exact ⟨rfl, Below.refl _ _⟩
theorem DCheck_bd (t : Dt) (w : World) (zt : t.s.size ≤ 9223372036854775807) (nt : ¬ t.Ok) : Calls Tryd.prog 15 #[.agg #[.bool t.g, .string t.s, .int .i64 t.x]] w fun e w' => e = .returned (.int .i64 2) ∧ Below w.heap.size w w' := by
  have h := DCheck_c t w zt
  rwa [dE_no (List.mem_singleton.2 rfl) nt] at h

@[reducible] def DNear_bad_f : FuncId := 29
@[reducible] def DNear_bad_a : List AV := [.agg [.sym 0, .sym 1, .sym 2]]
@[reducible] noncomputable def DNear_bad_k : Know := ⟨[],
  [(15, [.agg [.sym 0, .sym 1, .sym 2]], .lit (.int .i64 2))]⟩
theorem DNear_bad_r1 : @comes DNear_bad_k Tryd.prog glT 3000 DNear_bad_f DNear_bad_a = some (.lit (.tuple #[.float .f64 0, .int .i64 2])) := by kernel_rfl

set_option maxRecDepth 100000 in
set_option maxHeartbeats 4000000 in
theorem DNear_bad (t : Dt) (w : World) (zt : t.s.size ≤ 9223372036854775807) (nt : ¬ t.Ok) (hG : Globs glT w) : Calls Tryd.prog 29 #[.agg #[.bool t.g, .string t.s, .int .i64 t.x]] w fun e w' => e = .returned (.tuple #[.float .f64 0, .int .i64 2]) ∧ Below w.heap.size w w' := by
  letI : Env := mkEnv glT [.bool t.g, .string t.s, .int .i64 t.x] rfl
  have hops : OpsT Tryd.prog (@Know.ops DNear_bad_k) := trivial
  have hcalls : CallsT Tryd.prog (@Know.calls DNear_bad_k) := ⟨callt rfl rfl fun w hG => DCheck_bd t w zt nt,
    trivial⟩
  have fin : ∀ v, @comes DNear_bad_k Tryd.prog glT 3000 DNear_bad_f DNear_bad_a = some v → ground v = true → Ending.returned (gval v) = .returned (.tuple #[.float .f64 0, .int .i64 2]) → Calls Tryd.prog 29 #[.agg #[.bool t.g, .string t.s, .int .i64 t.x]] w fun e w' => e = .returned (.tuple #[.float .f64 0, .int .i64 2]) ∧ Below w.heap.size w w' := fun v h1 h2 h3 => (@sym_ok _ DNear_bad_k _ (@KnowOk.of _ DNear_bad_k _ hops hcalls) (by kernel_rfl) _ _ _ _ h1 rfl h2 _ hG).mono fun e w' h => ⟨h.1.trans h3, h.2⟩
  clear hops hcalls
  exact fin _ (DNear_bad_r1) rfl rfl

@[reducible] def DAbove_bad_f : FuncId := 31
@[reducible] def DAbove_bad_a : List AV := [.agg [.sym 0, .sym 1, .sym 2]]
@[reducible] noncomputable def DAbove_bad_k : Know := ⟨[],
  [(15, [.agg [.sym 0, .sym 1, .sym 2]], .lit (.int .i64 2))]⟩
theorem DAbove_bad_r1 : @comes DAbove_bad_k Tryd.prog glT 3000 DAbove_bad_f DAbove_bad_a = some (.lit (.tuple #[.float .f64 0, .int .i64 2])) := by kernel_rfl

set_option maxRecDepth 100000 in
set_option maxHeartbeats 4000000 in
theorem DAbove_bad (t : Dt) (w : World) (zt : t.s.size ≤ 9223372036854775807) (nt : ¬ t.Ok) (hG : Globs glT w) : Calls Tryd.prog 31 #[.agg #[.bool t.g, .string t.s, .int .i64 t.x]] w fun e w' => e = .returned (.tuple #[.float .f64 0, .int .i64 2]) ∧ Below w.heap.size w w' := by
  letI : Env := mkEnv glT [.bool t.g, .string t.s, .int .i64 t.x] rfl
  have hops : OpsT Tryd.prog (@Know.ops DAbove_bad_k) := trivial
  have hcalls : CallsT Tryd.prog (@Know.calls DAbove_bad_k) := ⟨callt rfl rfl fun w hG => DCheck_bd t w zt nt,
    trivial⟩
  have fin : ∀ v, @comes DAbove_bad_k Tryd.prog glT 3000 DAbove_bad_f DAbove_bad_a = some v → ground v = true → Ending.returned (gval v) = .returned (.tuple #[.float .f64 0, .int .i64 2]) → Calls Tryd.prog 31 #[.agg #[.bool t.g, .string t.s, .int .i64 t.x]] w fun e w' => e = .returned (.tuple #[.float .f64 0, .int .i64 2]) ∧ Below w.heap.size w w' := fun v h1 h2 h3 => (@sym_ok _ DAbove_bad_k _ (@KnowOk.of _ DAbove_bad_k _ hops hcalls) (by kernel_rfl) _ _ _ _ h1 rfl h2 _ hG).mono fun e w' h => ⟨h.1.trans h3, h.2⟩
  clear hops hcalls
  exact fin _ (DAbove_bad_r1) rfl rfl

@[reducible] def DBelow_bad_f : FuncId := 30
@[reducible] def DBelow_bad_a : List AV := [.agg [.sym 0, .sym 1, .sym 2]]
@[reducible] noncomputable def DBelow_bad_k : Know := ⟨[],
  [(15, [.agg [.sym 0, .sym 1, .sym 2]], .lit (.int .i64 2))]⟩
theorem DBelow_bad_r1 : @comes DBelow_bad_k Tryd.prog glT 3000 DBelow_bad_f DBelow_bad_a = some (.lit (.tuple #[.float .f64 0, .int .i64 2])) := by kernel_rfl

set_option maxRecDepth 100000 in
set_option maxHeartbeats 4000000 in
theorem DBelow_bad (t : Dt) (w : World) (zt : t.s.size ≤ 9223372036854775807) (nt : ¬ t.Ok) (hG : Globs glT w) : Calls Tryd.prog 30 #[.agg #[.bool t.g, .string t.s, .int .i64 t.x]] w fun e w' => e = .returned (.tuple #[.float .f64 0, .int .i64 2]) ∧ Below w.heap.size w w' := by
  letI : Env := mkEnv glT [.bool t.g, .string t.s, .int .i64 t.x] rfl
  have hops : OpsT Tryd.prog (@Know.ops DBelow_bad_k) := trivial
  have hcalls : CallsT Tryd.prog (@Know.calls DBelow_bad_k) := ⟨callt rfl rfl fun w hG => DCheck_bd t w zt nt,
    trivial⟩
  have fin : ∀ v, @comes DBelow_bad_k Tryd.prog glT 3000 DBelow_bad_f DBelow_bad_a = some v → ground v = true → Ending.returned (gval v) = .returned (.tuple #[.float .f64 0, .int .i64 2]) → Calls Tryd.prog 30 #[.agg #[.bool t.g, .string t.s, .int .i64 t.x]] w fun e w' => e = .returned (.tuple #[.float .f64 0, .int .i64 2]) ∧ Below w.heap.size w w' := fun v h1 h2 h3 => (@sym_ok _ DBelow_bad_k _ (@KnowOk.of _ DBelow_bad_k _ hops hcalls) (by kernel_rfl) _ _ _ _ h1 rfl h2 _ hG).mono fun e w' h => ⟨h.1.trans h3, h.2⟩
  clear hops hcalls
  exact fin _ (DBelow_bad_r1) rfl rfl

@[reducible] def DyadRounds_f_f : FuncId := 5
@[reducible] def DyadRounds_f_a : List AV := [.agg [.lit (.bool false), .sym 0, .sym 1]]
@[reducible] noncomputable def DyadRounds_f_k : Know := ⟨[],
  [(29, [.agg [.lit (.bool false), .sym 0, .sym 1]], .tup [.sym 2, .lit (.int .i64 0)]),
  (30, [.agg [.lit (.bool false), .sym 0, .sym 1]], .tup [.sym 3, .lit (.int .i64 0)]),
  (31, [.agg [.lit (.bool false), .sym 0, .sym 1]], .tup [.sym 4, .lit (.int .i64 0)]),
  (14, [.agg [.lit (.bool false), .sym 0, .sym 1]], .lit (.bool true)),
  (33, [.agg [.lit (.bool false), .sym 0, .sym 1]], .sym 5),
  (32, [.sym 2, .sym 5], .lit (.bool true)),
  (34, [.agg [.lit (.bool false), .sym 0, .sym 1]], .sym 6),
  (32, [.sym 3, .sym 6], .lit (.bool true)),
  (35, [.agg [.lit (.bool false), .sym 0, .sym 1]], .sym 7),
  (32, [.sym 4, .sym 7], .lit (.bool true)),
  (19, [], .lit (.bool true))]⟩
theorem DyadRounds_f_r1 : @comes DyadRounds_f_k Tryd.prog glT 3000 DyadRounds_f_f DyadRounds_f_a = some (.lit (.bool true)) := by kernel_rfl

set_option maxRecDepth 100000 in
set_option maxHeartbeats 4000000 in
theorem DyadRounds_f (n : Nat) (x : Int) (w : World) (hn : (Dy.mk false n x).Num) (hG : Globs glT w) : Calls Tryd.prog 5 #[.agg #[.bool false, .string (natS n), .int .i64 x]] w fun e w' => e = .returned (.bool true) ∧ Below w.heap.size w w' := by
  letI : Env := mkEnv glT [.string (natS n), .int .i64 x, .float .f64 (rnd false n x (upNear n x)), .float .f64 (rnd false n x (upBelow false n x)), .float .f64 (rnd false n x (upAbove false n x)), .float .f64 (rnd false n x (upNear n x)), .float .f64 (rnd false n x (upBelow false n x)), .float .f64 (rnd false n x (upAbove false n x))] rfl
  have hops : OpsT Tryd.prog (@Know.ops DyadRounds_f_k) := trivial
  have hcalls : CallsT Tryd.prog (@Know.calls DyadRounds_f_k) := ⟨callt rfl rfl fun w hG => DNear_f n x w hn hG,
    callt rfl rfl fun w hG => DBelow_f n x w hn hG,
    callt rfl rfl fun w hG => DAbove_f n x w hn hG,
    callt rfl rfl fun w hG => rMayT_ok (Dy.mk false n x) w (Or.inr hn),
    callt rfl rfl fun w hG => rNear_f n x w hn hG,
    callt rfl rfl fun w hG => lBits_c (rnd false n x (upNear n x)) w,
    callt rfl rfl fun w hG => rBelow_f n x w hn hG,
    callt rfl rfl fun w hG => lBits_c (rnd false n x (upBelow false n x)) w,
    callt rfl rfl fun w hG => rAbove_f n x w hn hG,
    callt rfl rfl fun w hG => lBits_c (rnd false n x (upAbove false n x)) w,
    callt rfl rfl fun w hG => awake3_c w hG,
    trivial⟩
  have fin : ∀ v, @comes DyadRounds_f_k Tryd.prog glT 3000 DyadRounds_f_f DyadRounds_f_a = some v → ground v = true → Ending.returned (gval v) = .returned (.bool true) → Calls Tryd.prog 5 #[.agg #[.bool false, .string (natS n), .int .i64 x]] w fun e w' => e = .returned (.bool true) ∧ Below w.heap.size w w' := fun v h1 h2 h3 => (@sym_ok _ DyadRounds_f_k _ (@KnowOk.of _ DyadRounds_f_k _ hops hcalls) (by kernel_rfl) _ _ _ _ h1 rfl h2 _ hG).mono fun e w' h => ⟨h.1.trans h3, h.2⟩
  clear hops hcalls
  exact fin _ (DyadRounds_f_r1) rfl rfl

@[reducible] def DyadRounds_t_f : FuncId := 5
@[reducible] def DyadRounds_t_a : List AV := [.agg [.lit (.bool true), .sym 0, .sym 1]]
@[reducible] noncomputable def DyadRounds_t_k : Know := ⟨[],
  [(29, [.agg [.lit (.bool true), .sym 0, .sym 1]], .tup [.sym 2, .lit (.int .i64 0)]),
  (30, [.agg [.lit (.bool true), .sym 0, .sym 1]], .tup [.sym 3, .lit (.int .i64 0)]),
  (31, [.agg [.lit (.bool true), .sym 0, .sym 1]], .tup [.sym 4, .lit (.int .i64 0)]),
  (14, [.agg [.lit (.bool true), .sym 0, .sym 1]], .lit (.bool true)),
  (33, [.agg [.lit (.bool true), .sym 0, .sym 1]], .sym 5),
  (32, [.sym 2, .sym 5], .lit (.bool true)),
  (34, [.agg [.lit (.bool true), .sym 0, .sym 1]], .sym 6),
  (32, [.sym 3, .sym 6], .lit (.bool true)),
  (35, [.agg [.lit (.bool true), .sym 0, .sym 1]], .sym 7),
  (32, [.sym 4, .sym 7], .lit (.bool true)),
  (19, [], .lit (.bool true))]⟩
theorem DyadRounds_t_r1 : @comes DyadRounds_t_k Tryd.prog glT 3000 DyadRounds_t_f DyadRounds_t_a = some (.lit (.bool true)) := by kernel_rfl

set_option maxRecDepth 100000 in
set_option maxHeartbeats 4000000 in
theorem DyadRounds_t (n : Nat) (x : Int) (w : World) (hn : (Dy.mk true n x).Num) (hG : Globs glT w) : Calls Tryd.prog 5 #[.agg #[.bool true, .string (natS n), .int .i64 x]] w fun e w' => e = .returned (.bool true) ∧ Below w.heap.size w w' := by
  letI : Env := mkEnv glT [.string (natS n), .int .i64 x, .float .f64 (rnd true n x (upNear n x)), .float .f64 (rnd true n x (upBelow true n x)), .float .f64 (rnd true n x (upAbove true n x)), .float .f64 (rnd true n x (upNear n x)), .float .f64 (rnd true n x (upBelow true n x)), .float .f64 (rnd true n x (upAbove true n x))] rfl
  have hops : OpsT Tryd.prog (@Know.ops DyadRounds_t_k) := trivial
  have hcalls : CallsT Tryd.prog (@Know.calls DyadRounds_t_k) := ⟨callt rfl rfl fun w hG => DNear_t n x w hn hG,
    callt rfl rfl fun w hG => DBelow_t n x w hn hG,
    callt rfl rfl fun w hG => DAbove_t n x w hn hG,
    callt rfl rfl fun w hG => rMayT_ok (Dy.mk true n x) w (Or.inr hn),
    callt rfl rfl fun w hG => rNear_t n x w hn hG,
    callt rfl rfl fun w hG => lBits_c (rnd true n x (upNear n x)) w,
    callt rfl rfl fun w hG => rBelow_t n x w hn hG,
    callt rfl rfl fun w hG => lBits_c (rnd true n x (upBelow true n x)) w,
    callt rfl rfl fun w hG => rAbove_t n x w hn hG,
    callt rfl rfl fun w hG => lBits_c (rnd true n x (upAbove true n x)) w,
    callt rfl rfl fun w hG => awake3_c w hG,
    trivial⟩
  have fin : ∀ v, @comes DyadRounds_t_k Tryd.prog glT 3000 DyadRounds_t_f DyadRounds_t_a = some v → ground v = true → Ending.returned (gval v) = .returned (.bool true) → Calls Tryd.prog 5 #[.agg #[.bool true, .string (natS n), .int .i64 x]] w fun e w' => e = .returned (.bool true) ∧ Below w.heap.size w w' := fun v h1 h2 h3 => (@sym_ok _ DyadRounds_t_k _ (@KnowOk.of _ DyadRounds_t_k _ hops hcalls) (by kernel_rfl) _ _ _ _ h1 rfl h2 _ hG).mono fun e w' h => ⟨h.1.trans h3, h.2⟩
  clear hops hcalls
  exact fin _ (DyadRounds_t_r1) rfl rfl

@[reducible] def DyadRounds_b_f : FuncId := 5
@[reducible] def DyadRounds_b_a : List AV := [.agg [.sym 0, .sym 1, .sym 2]]
@[reducible] noncomputable def DyadRounds_b_k : Know := ⟨[],
  [(29, [.agg [.sym 0, .sym 1, .sym 2]], .lit (.tuple #[.float .f64 0, .int .i64 2])),
  (30, [.agg [.sym 0, .sym 1, .sym 2]], .lit (.tuple #[.float .f64 0, .int .i64 2])),
  (31, [.agg [.sym 0, .sym 1, .sym 2]], .lit (.tuple #[.float .f64 0, .int .i64 2])),
  (14, [.agg [.sym 0, .sym 1, .sym 2]], .lit (.bool false)),
  (19, [], .lit (.bool true))]⟩
theorem DyadRounds_b_r1 : @comes DyadRounds_b_k Tryd.prog glT 3000 DyadRounds_b_f DyadRounds_b_a = some (.lit (.bool true)) := by kernel_rfl

set_option maxRecDepth 100000 in
set_option maxHeartbeats 4000000 in
theorem DyadRounds_b (t : Dt) (w : World) (zt : t.s.size ≤ 9223372036854775807) (nt : ¬ t.Ok) (hG : Globs glT w) : Calls Tryd.prog 5 #[.agg #[.bool t.g, .string t.s, .int .i64 t.x]] w fun e w' => e = .returned (.bool true) ∧ Below w.heap.size w w' := by
  letI : Env := mkEnv glT [.bool t.g, .string t.s, .int .i64 t.x] rfl
  have hops : OpsT Tryd.prog (@Know.ops DyadRounds_b_k) := trivial
  have hcalls : CallsT Tryd.prog (@Know.calls DyadRounds_b_k) := ⟨callt rfl rfl fun w hG => DNear_bad t w zt nt hG,
    callt rfl rfl fun w hG => DBelow_bad t w zt nt hG,
    callt rfl rfl fun w hG => DAbove_bad t w zt nt hG,
    callt rfl rfl fun w hG => rMayT_no t w zt nt,
    callt rfl rfl fun w hG => awake3_c w hG,
    trivial⟩
  have fin : ∀ v, @comes DyadRounds_b_k Tryd.prog glT 3000 DyadRounds_b_f DyadRounds_b_a = some v → ground v = true → Ending.returned (gval v) = .returned (.bool true) → Calls Tryd.prog 5 #[.agg #[.bool t.g, .string t.s, .int .i64 t.x]] w fun e w' => e = .returned (.bool true) ∧ Below w.heap.size w w' := fun v h1 h2 h3 => (@sym_ok _ DyadRounds_b_k _ (@KnowOk.of _ DyadRounds_b_k _ hops hcalls) (by kernel_rfl) _ _ _ _ h1 rfl h2 _ hG).mono fun e w' h => ⟨h.1.trans h3, h.2⟩
  clear hops hcalls
  exact fin _ (DyadRounds_b_r1) rfl rfl

set_option maxRecDepth 100000 in
theorem DyadRounds_zs : saysG Tryd.prog glT 20000 5 [.agg #[.bool false, .string ⟨#[]⟩, .int .i64 0]] true = true := by kernel_rfl
theorem DyadRounds_law (t : Dt) (w : World) (zt : t.s.size ≤ 9223372036854775807) (hG : Globs glT w) : Calls Tryd.prog 5 #[.agg #[.bool t.g, .string t.s, .int .i64 t.x]] w fun e w' => e = .returned (.bool true) ∧ Below w.heap.size w w' := by
  by_cases h : t.Ok
  · obtain ⟨d, hd, rfl⟩ := Dt.dy h
    rcases hd with rfl | hn
    · have := closed_with (by kernel_rfl) DyadRounds_zs hG
      show Calls Tryd.prog _ #[.agg #[.bool false, .string (natS 0), .int .i64 0]] w _
      rw [natS_zero]
      exact this
    · obtain ⟨g, n, x⟩ := d
      cases g with
      | false => exact DyadRounds_f n x w hn hG
      | true => exact DyadRounds_t n x w hn hG
  · exact DyadRounds_b t w zt h hG
end Go.Proofs.YtjkonfopajihdaaDoor
namespace Go.Proofs.YtjkonfopajihdaaDoor
open Go Go.RowKit Go.WideShapes Go.ChangeShapes
variable {H : Type} {enc : TypeId × Value → H} {P : Program}

theorem postBelow {f : Func} {s : ChangeSpec} {apart fresh handsOn again : Bool} {W W' : World} {args : Array Value} {v : Value} {ds gs : List (DataW H)} {places pa pv : List MemPlace}
    (whole : DataW.Whole enc P f.params.toList s.vars apart W args.toList ds gs places)
    (res : ∀ (b : Nat) (sp : Nat → Bool) (hd : Bool), DataW.TrodAll enc P W' b sp hd f.resultTypes.toList (v.resultList f.resultTypes.size) (s.fn H (ds ++ gs)).results [])
    (left : ∀ sp : Nat → Bool, (∀ p ∈ places, sp p.block = true) → DataW.TrodAll enc P W' 0 sp true f.params.toList args.toList (s.fn H (ds ++ gs)).args pa)
    (vars : ∀ sp : Nat → Bool, (∀ p ∈ places, sp p.block = true) → DataW.TrodVars enc P W' sp s.vars (s.fn H (ds ++ gs)).vars pv)
    (split : places = pa ++ pv) (below : Below W.heap.size W W')
    (ok : ∀ (j : Nat) (t : TypeId) (r : Value), f.resultTypes[j]? = some t → (v.resultList f.resultTypes.size)[j]? = some r → Value.okWide P W' .any 0 t r) :
    s.post enc P f apart fresh handsOn again W args v W' := by
  have old : ∀ p ∈ places, p.block < W.heap.size := fun p hp => whole.lt p hp
  have same : ∀ p ∈ places, (fun b => decide (b < W.heap.size)) p.block = true := fun p hp => decide_eq_true (old p hp)
  have kept : W.keptBut W' (fun p => p ∈ places ∧ p ∈ pa ++ pv) :=
    World.keptBut_mono (fun p hp => ⟨hp, split ▸ hp⟩) (below.frame (· ∈ places))
  have free : ∀ b off, MemPlace.cell b off ∈ pa ++ pv → W'.frozen? ⟨b, off, none⟩ = false := fun b off hp => by
    have hin : MemPlace.cell b off ∈ places := split ▸ hp
    rw [below.frozen (p := ⟨b, off, none⟩) (old _ hin)]
    obtain ⟨_, _, _, _, _, hz, _⟩ := whole
    exact hz b off hin
  have apartNow : apart = true → (pa ++ pv).Nodup := fun ha => by
    obtain ⟨_, _, _, _, _, _, hn⟩ := whole
    exact split ▸ hn ha
  refine ⟨ds, gs, places, [], pa, pv, whole, res _ _ _, left _ same, vars _ same, ?_, fun _ => ⟨ok, _, _, ([] ++ pa) ++ pv, ⟨[] ++ pa, pv, trodAll_append (left _ (fun _ _ => rfl)) (res _ _ _), vars _ (fun _ _ => rfl), rfl, ?_, ?_⟩, ?_⟩⟩
  · exact World.keptBut_mono (fun p hp => ⟨hp.1, Or.inr (List.mem_append.1 hp.2)⟩) kept
  · intro b off hp; exact free b off (by simpa using hp)
  · intro ha; simpa using apartNow ha
  · intro p hp _; rw [split]; simpa using hp
end Go.Proofs.YtjkonfopajihdaaDoor
set_option linter.unusedVariables false
namespace Go.Proofs.YtjkonfopajihdaaDoor
open Go.ChangeShapes Go.WideShapes Go.ChangeAt Go.RowKit Go.Joins
variable {H : Type} {enc : TypeId × Value → H}
/-- A Dyad's datum. -/
def dyadD (H : Type) (g : Bool) (s : ByteArray) (x : Int) : DataW H := .agg [.lit (.bool g), .lit (.string s.data.toList), .lit (.int .i64 x)]
set_option maxRecDepth 100000 in
theorem open_dyad {w : World} {base : Nat} {spare : Nat → Bool} {held : Bool} {r : Go.Reach} {b0 : Nat} {v : Value} {d : DataW H} {p : List MemPlace}
    (hv : Value.okWide Tryd.prog w r b0 24 v) (h : DataW.Trod enc Tryd.prog w base spare held 24 v d p) :
    ∃ (g : Bool) (s : ByteArray) (x : Int), v = .agg #[.bool g, .string s, .int .i64 x] ∧ d = dyadD H g s x ∧ p = [] ∧ s.size ≤ maxLen ∧ (Lit.int .i64 x).wf = true := by
  obtain ⟨c0, c1, c2, y0, y1, y2, m, rfl, rfl, rfl, hy0, hy1, hy2⟩ := open_agg3 Tryd.underlying24 (by kernel_rfl) (by kernel_rfl) hv h
  obtain ⟨g, e0, rfl⟩ := DataW.trod_bool Tryd.underlying4 hy0
  obtain ⟨s, e1, rfl, hs⟩ := DataW.trod_string Tryd.underlying22 hy1
  obtain ⟨x, e2, rfl, wx⟩ := DataW.trod_int Tryd.underlying3 hy2
  simp at e0 e1 e2
  subst e0 e1 e2
  exact ⟨g, s, x, rfl, rfl, rfl, hs, wx⟩
set_option maxRecDepth 100000 in
theorem shut_dyad {W' : World} {b : Nat} {sp : Nat → Bool} {hd : Bool} {g : Bool} {s : ByteArray} {x : Int} (hs : s.size ≤ maxLen) (wx : (Lit.int .i64 x).wf = true) :
    DataW.Trod enc Tryd.prog W' b sp hd 24 (.agg #[.bool g, .string s, .int .i64 x]) (dyadD H g s x) [] := by
  simpa [dyadD] using shut_agg3 (enc := enc) (w := W') (base := b) (spare := sp) (held := hd) (y0 := (.lit (.bool g), [])) (y1 := (.lit (.string s.data.toList), [])) (y2 := (.lit (.int .i64 x), [])) Tryd.underlying24 (by kernel_rfl) (by kernel_rfl) ⟨1, by simp [DataW.trod, Tryd.underlying4]⟩ ⟨1, by simp [DataW.trod, Tryd.underlying22, hs]⟩ ⟨1, by simp [DataW.trod, Tryd.underlying3, wx]⟩
theorem int64_bounds {x : Int} (h : (Lit.int .i64 x).wf = true) : -9223372036854775808 ≤ x ∧ x ≤ 9223372036854775807 := by
  unfold Lit.wf at h
  rw [Bool.and_eq_true, decide_eq_true_iff, decide_eq_true_iff] at h
  exact h
theorem float_bound {b : Nat} (h : (Lit.float .f64 b).wf = true) : b < 18446744073709551616 := by
  unfold Lit.wf at h
  exact of_decide_eq_true h
end Go.Proofs.YtjkonfopajihdaaDoor
