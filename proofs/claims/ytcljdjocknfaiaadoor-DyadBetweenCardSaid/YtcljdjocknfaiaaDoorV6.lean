/- Texts put together: D64 D46 D47 D48 Frt D67 D68 D66. -/
import Derived.Test.YtcljdjocknfaiaaDoorV5
import Derived.Test.YtcljdjocknfaiaaDoorV4
import Derived.Test.YtcljdjocknfaiaaDoorV1
set_option linter.unusedVariables false
set_option linter.unusedSimpArgs false
namespace Go.Proofs.YtcljdjocknfaiaaDoor
open Go Go.RowKit Nt
@[reducible] def DNear_far_f_f : FuncId := 6
@[reducible] def DNear_far_f_a : List AV := [.agg [.lit (.bool false), .sym 0, .sym 1]]
@[reducible] noncomputable def DNear_far_f_k (b1 b2 : Bool) : Know := ⟨[([0, 15, 3], [.sym 2, .lit (.int .i64 1023)], .lit (.bool b2))],
  [(12, [.agg [.lit (.bool false), .sym 0, .sym 1]], .lit (.int .i64 0)),
  (44, [.agg [.lit (.bool false), .sym 0, .sym 1]], .tup [.sym 2, .lit (.bool true)]),
  (68, [.lit (.bool false), .lit (.int .u64 9007199254740992), .lit (.int .i64 971)], .tup [.sym 3, .lit (.bool b1)])]⟩
theorem DNear_far_f_r1 : @comes (DNear_far_f_k false true) Tryd.prog glT 3000 DNear_far_f_f DNear_far_f_a = some (.lit (.tuple #[.float .f64 9218868437227405312, .int .i64 0])) := by kernel_rfl
set_option maxRecDepth 100000 in
set_option maxHeartbeats 4000000 in
theorem DNear_far_f (n : Nat) (x : Int) (w : World) (hn : (Dy.mk false n x).Num) (h : 1024 ≤ rT n x) (hG : Globs glT w) : Calls Tryd.prog 6 #[.agg #[.bool false, .string (natS n), .int .i64 x]] w fun e w' => e = .returned (.tuple #[.float .f64 (rnd false n x (upNear n x)), .int .i64 0]) ∧ Below w.heap.size w w' := by
  obtain ⟨b1, i1⟩ := bex (okP 9007199254740992 971 = true)
  obtain ⟨b2, i2⟩ := bex (rT n x > 1023)
  letI : Env := mkEnv glT [.string (natS n), .int .i64 x, .int .i64 (rT n x), .float .f64 (mkW false 9007199254740992 971)] rfl
  have hops : OpsT Tryd.prog (@Know.ops (DNear_far_f_k b1 b2)) := ⟨opt_gtr_i rfl rfl i2,
    trivial⟩
  have hcalls : CallsT Tryd.prog (@Know.calls (DNear_far_f_k b1 b2)) := ⟨callt rfl rfl fun w hG => DCheck_dyr (Dy.mk false n x) (Or.inr hn) w,
    callt rfl rfl fun w hG => DTop_r false n x w hn,
    callt rfl rfl fun w hG => bMake_i false 9007199254740992 971 w (by omega) (by omega) (by omega) (Or.inl (by omega)) i1 hG,
    trivial⟩
  have fin : ∀ v, @comes (DNear_far_f_k b1 b2) Tryd.prog glT 3000 DNear_far_f_f DNear_far_f_a = some v → ground v = true → Ending.returned (gval v) = .returned (.tuple #[.float .f64 (rnd false n x (upNear n x)), .int .i64 0]) → Calls Tryd.prog 6 #[.agg #[.bool false, .string (natS n), .int .i64 x]] w fun e w' => e = .returned (.tuple #[.float .f64 (rnd false n x (upNear n x)), .int .i64 0]) ∧ Below w.heap.size w w' := fun v h1 h2 h3 => (@sym_ok _ (DNear_far_f_k b1 b2) _ (@KnowOk.of _ (DNear_far_f_k b1 b2) _ hops hcalls) (by kernel_rfl) _ _ _ _ h1 rfl h2 _ hG).mono fun e w' h => ⟨h.1.trans h3, h.2⟩
  clear hops hcalls
  cases b1 with
  | true =>
    exact absurd (i1.1 rfl) (fun c => okP_iff.1 c ⟨rfl, rfl⟩)
  | false =>
    have h1 : ¬ (okP 9007199254740992 971 = true) := fun c => Bool.false_ne_true (i1.2 c)
    cases b2 with
    | true =>
      have h2 : rT n x > 1023 := i2.1 rfl
      exact fin _ (DNear_far_f_r1) rfl (show Ending.returned (.tuple #[.float .f64 9218868437227405312, .int .i64 0]) = .returned (.tuple #[.float .f64 (rnd false n x (upNear n x)), .int .i64 0]) from by rw [upNear_t (Or.inl (rQ_far h).2.2), rnd_t, (rQ_far h).1, (rQ_far h).2.1, inf_f h1])
    | false =>
      exact absurd (i2.2 ((by omega))) Bool.false_ne_true
@[reducible] def DNear_up_f_f : FuncId := 6
@[reducible] def DNear_up_f_a : List AV := [.agg [.lit (.bool false), .sym 0, .sym 1]]
@[reducible] noncomputable def DNear_up_f_k (b1 b2 b3 : Bool) : Know := ⟨[([0, 15, 3], [.sym 2, .lit (.int .i64 1023)], .lit (.bool b1)),
  ([0, 1, 3], [.sym 3, .sym 1], .sym 4),
  ([1, 0, 3], [.sym 4], .sym 5),
  ([0, 14, 3], [.sym 4, .lit (.int .i64 0)], .lit (.bool b3))],
  [(12, [.agg [.lit (.bool false), .sym 0, .sym 1]], .lit (.int .i64 0)),
  (44, [.agg [.lit (.bool false), .sym 0, .sym 1]], .tup [.sym 2, .lit (.bool true)]),
  (46, [.sym 2], .sym 3),
  (47, [.sym 0, .sym 5], .tup [.sym 6, .lit (.int .i64 0)]),
  (48, [.sym 6], .tup [.sym 7, .lit (.bool true)]),
  (68, [.lit (.bool false), .sym 7, .sym 3], .tup [.sym 8, .lit (.bool b2)])]⟩
theorem DNear_up_f_r1 : @comes (DNear_up_f_k false true true) Tryd.prog glT 3000 DNear_up_f_f DNear_up_f_a = some (.tup [.sym 8, .lit (.int .i64 0)]) := by kernel_rfl
set_option maxRecDepth 100000 in
set_option maxHeartbeats 4000000 in
theorem DNear_up_f (n : Nat) (x : Int) (w : World) (hn : (Dy.mk false n x).Num) (h : ¬ 1024 ≤ rT n x) (hu : rQ n x ≤ x) (hG : Globs glT w) : Calls Tryd.prog 6 #[.agg #[.bool false, .string (natS n), .int .i64 x]] w fun e w' => e = .returned (.tuple #[.float .f64 (rnd false n x (upNear n x)), .int .i64 0]) ∧ Below w.heap.size w w' := by
  obtain ⟨b1, i1⟩ := bex (rT n x > 1023)
  obtain ⟨b2, i2⟩ := bex (okP (rM n x) (rQ n x) = true)
  obtain ⟨b3, i3⟩ := bex (rQ n x - x ≤ 0)
  letI : Env := mkEnv glT [.string (natS n), .int .i64 x, .int .i64 (rT n x), .int .i64 (rQ n x), .int .i64 (rQ n x - x), .int .i64 (-(rQ n x - x)), .string (natS (rM n x)), .int .u64 (((rM n x : Nat) : Int)), .float .f64 (mkW false (rM n x) (rQ n x))] rfl
  have hops : OpsT Tryd.prog (@Know.ops (DNear_up_f_k b1 b2 b3)) := ⟨opt_gtr_i rfl rfl i1,
    opt_sub rfl rfl rfl rfl rfl (by have := (rQ_b n x); have := hn.2.2.1; have := hn.2.2.2; simp only at *; omega),
    opt_neg rfl rfl rfl rfl (by have := (rQ_b n x); have := hn.2.2.1; have := hn.2.2.2; simp only at *; omega),
    opt_leq_i rfl rfl i3,
    trivial⟩
  have hcalls : CallsT Tryd.prog (@Know.calls (DNear_up_f_k b1 b2 b3)) := ⟨callt rfl rfl fun w hG => DCheck_dyr (Dy.mk false n x) (Or.inr hn) w,
    callt rfl rfl fun w hG => DTop_r false n x w hn,
    callt rfl rfl fun w hG => Least_r false n x w hn h,
    callt rfl rfl fun w hG => NShift_r false n x w hn h,
    callt rfl rfl fun w hG => NSmall_r false n x w hn,
    callt rfl rfl fun w hG => bMake_i false (rM n x) (rQ n x) w (Nat.le_of_lt (rM_b (x := x) (odd_ne hn.2.1)).1) (rQ_b n x).1 (rQ_b n x).2 (rM_b (x := x) (odd_ne hn.2.1)).2 i2 hG,
    trivial⟩
  have fin : ∀ v, @comes (DNear_up_f_k b1 b2 b3) Tryd.prog glT 3000 DNear_up_f_f DNear_up_f_a = some v → ground v = true → Ending.returned (gval v) = .returned (.tuple #[.float .f64 (rnd false n x (upNear n x)), .int .i64 0]) → Calls Tryd.prog 6 #[.agg #[.bool false, .string (natS n), .int .i64 x]] w fun e w' => e = .returned (.tuple #[.float .f64 (rnd false n x (upNear n x)), .int .i64 0]) ∧ Below w.heap.size w w' := fun v h1 h2 h3 => (@sym_ok _ (DNear_up_f_k b1 b2 b3) _ (@KnowOk.of _ (DNear_up_f_k b1 b2 b3) _ hops hcalls) (by kernel_rfl) _ _ _ _ h1 rfl h2 _ hG).mono fun e w' h => ⟨h.1.trans h3, h.2⟩
  clear hops hcalls
  cases b2 with
  | true =>
    have h2 : okP (rM n x) (rQ n x) = true := i2.1 rfl
    cases b1 with
    | true =>
      exact absurd (i1.1 rfl) ((by omega))
    | false =>
      have h1 : ¬ (rT n x > 1023) := fun c => Bool.false_ne_true (i1.2 c)
      cases b3 with
      | true =>
        have h3 : rQ n x - x ≤ 0 := i3.1 rfl
        exact fin _ (DNear_up_f_r1) rfl (show Ending.returned (.tuple #[.float .f64 (mkW false (rM n x) (rQ n x)), .int .i64 0]) = .returned (.tuple #[.float .f64 (rnd false n x (upNear n x)), .int .i64 0]) from by rw [upNear_f (by rw [(rM_up h hu).2]; omega), rnd_f, mkW_ok h2])
      | false =>
        exact absurd (i3.2 ((by omega))) Bool.false_ne_true
  | false =>
    exact absurd (i2.2 (okP_lt (rM_b (x := x) (odd_ne hn.2.1)).1)) Bool.false_ne_true
@[reducible] def DNear_dn_f_f : FuncId := 6
@[reducible] def DNear_dn_f_a : List AV := [.agg [.lit (.bool false), .sym 0, .sym 1]]
@[reducible] noncomputable def DNear_dn_f_k (b1 b2 b3 b4 b5 b6 b7 : Bool) : Know := ⟨[([0, 15, 3], [.sym 2, .lit (.int .i64 1023)], .lit (.bool b1)),
  ([0, 1, 3], [.sym 3, .sym 1], .sym 4),
  ([1, 0, 3], [.sym 4], .sym 5),
  ([0, 14, 3], [.sym 4, .lit (.int .i64 0)], .lit (.bool b3)),
  ([0, 1, 3], [.sym 4, .lit (.int .i64 1)], .sym 9),
  ([0, 11, 5], [.sym 10, .lit (.int .u8 0)], .lit (.bool b4)),
  ([0, 5, 44], [.sym 7, .lit (.int .u64 1)], .sym 11),
  ([0, 11, 44], [.sym 11, .lit (.int .u64 1)], .lit (.bool b5)),
  ([0, 11, 3], [.sym 4, .lit (.int .i64 1)], .lit (.bool b6)),
  ([0, 0, 44], [.sym 7, .lit (.int .u64 1)], .sym 12)],
  [(12, [.agg [.lit (.bool false), .sym 0, .sym 1]], .lit (.int .i64 0)),
  (44, [.agg [.lit (.bool false), .sym 0, .sym 1]], .tup [.sym 2, .lit (.bool true)]),
  (46, [.sym 2], .sym 3),
  (47, [.sym 0, .sym 5], .tup [.sym 6, .lit (.int .i64 0)]),
  (48, [.sym 6], .tup [.sym 7, .lit (.bool true)]),
  (68, [.lit (.bool false), .sym 7, .sym 3], .tup [.sym 8, .lit (.bool b2)]),
  (70, [.sym 0, .sym 9], .tup [.sym 10, .lit (.int .i64 0)]),
  (68, [.lit (.bool false), .sym 12, .sym 3], .tup [.sym 13, .lit (.bool b7)])]⟩
theorem DNear_dn_f_r1 (b6 b7 : Bool) : @comes (DNear_dn_f_k false true false true true b6 b7) Tryd.prog glT 3000 DNear_dn_f_f DNear_dn_f_a = some (.tup [.sym 8, .lit (.int .i64 0)]) := by kernel_rfl
theorem DNear_dn_f_r2 (b6 b7 : Bool) : @comes (DNear_dn_f_k false true false true false b6 b7) Tryd.prog glT 3000 DNear_dn_f_f DNear_dn_f_a = some (.tup [.sym 8, .lit (.int .i64 0)]) := by kernel_rfl
theorem DNear_dn_f_r3 (b2 : Bool) : @comes (DNear_dn_f_k false b2 false false true true true) Tryd.prog glT 3000 DNear_dn_f_f DNear_dn_f_a = some (.tup [.sym 13, .lit (.int .i64 0)]) := by kernel_rfl
theorem DNear_dn_f_r4 (b2 : Bool) : @comes (DNear_dn_f_k false b2 false false true true false) Tryd.prog glT 3000 DNear_dn_f_f DNear_dn_f_a = some (.lit (.tuple #[.float .f64 9218868437227405312, .int .i64 0])) := by kernel_rfl
theorem DNear_dn_f_r5 (b7 : Bool) : @comes (DNear_dn_f_k false true false false false true b7) Tryd.prog glT 3000 DNear_dn_f_f DNear_dn_f_a = some (.tup [.sym 8, .lit (.int .i64 0)]) := by kernel_rfl
theorem DNear_dn_f_r6 (b2 : Bool) : @comes (DNear_dn_f_k false b2 false false true false true) Tryd.prog glT 3000 DNear_dn_f_f DNear_dn_f_a = some (.tup [.sym 13, .lit (.int .i64 0)]) := by kernel_rfl
theorem DNear_dn_f_r7 (b2 : Bool) : @comes (DNear_dn_f_k false b2 false false true false false) Tryd.prog glT 3000 DNear_dn_f_f DNear_dn_f_a = some (.lit (.tuple #[.float .f64 9218868437227405312, .int .i64 0])) := by kernel_rfl
theorem DNear_dn_f_r8 (b2 : Bool) : @comes (DNear_dn_f_k false b2 false false false false true) Tryd.prog glT 3000 DNear_dn_f_f DNear_dn_f_a = some (.tup [.sym 13, .lit (.int .i64 0)]) := by kernel_rfl
theorem DNear_dn_f_r9 (b2 : Bool) : @comes (DNear_dn_f_k false b2 false false false false false) Tryd.prog glT 3000 DNear_dn_f_f DNear_dn_f_a = some (.lit (.tuple #[.float .f64 9218868437227405312, .int .i64 0])) := by kernel_rfl
set_option maxRecDepth 100000 in
set_option maxHeartbeats 4000000 in
theorem DNear_dn_f (n : Nat) (x : Int) (w : World) (hn : (Dy.mk false n x).Num) (h : ¬ 1024 ≤ rT n x) (hu : ¬ rQ n x ≤ x) (hG : Globs glT w) : Calls Tryd.prog 6 #[.agg #[.bool false, .string (natS n), .int .i64 x]] w fun e w' => e = .returned (.tuple #[.float .f64 (rnd false n x (upNear n x)), .int .i64 0]) ∧ Below w.heap.size w w' := by
  obtain ⟨b1, i1⟩ := bex (rT n x > 1023)
  obtain ⟨b2, i2⟩ := bex (okP (rM n x) (rQ n x) = true)
  obtain ⟨b3, i3⟩ := bex (rQ n x - x ≤ 0)
  obtain ⟨b4, i4⟩ := bex (((rB n x : Nat) : Int) = 0)
  obtain ⟨b5, i5⟩ := bex (((rM n x % 2 : Nat) : Int) = 1)
  obtain ⟨b6, i6⟩ := bex (rQ n x - x = 1)
  obtain ⟨b7, i7⟩ := bex (okP (rM n x + 1) (rQ n x) = true)
  letI : Env := mkEnv glT [.string (natS n), .int .i64 x, .int .i64 (rT n x), .int .i64 (rQ n x), .int .i64 (rQ n x - x), .int .i64 (-(rQ n x - x)), .string (natS (rM n x)), .int .u64 (((rM n x : Nat) : Int)), .float .f64 (mkW false (rM n x) (rQ n x)), .int .i64 (rQ n x - x - 1), .int .u8 (((rB n x : Nat) : Int)), .int .u64 (((rM n x % 2 : Nat) : Int)), .int .u64 (((rM n x + 1 : Nat) : Int)), .float .f64 (mkW false (rM n x + 1) (rQ n x))] rfl
  have hops : OpsT Tryd.prog (@Know.ops (DNear_dn_f_k b1 b2 b3 b4 b5 b6 b7)) := ⟨opt_gtr_i rfl rfl i1,
    opt_sub rfl rfl rfl rfl rfl (by have := (rQ_b n x); have := hn.2.2.1; have := hn.2.2.2; simp only at *; omega),
    opt_neg rfl rfl rfl rfl (by have := (rQ_b n x); have := hn.2.2.1; have := hn.2.2.2; simp only at *; omega),
    opt_leq_i rfl rfl i3,
    opt_sub rfl rfl rfl rfl rfl (by have := (rQ_b n x); have := hn.2.2.1; have := hn.2.2.2; simp only at *; omega),
    opt_eql_i rfl rfl i4,
    opt_odd rfl rfl rfl rfl (by have : rM n x < 9007199254740992 := (rM_b (x := x) (odd_ne hn.2.1)).1; omega),
    opt_eql_i rfl rfl i5,
    opt_eql_i rfl rfl i6,
    opt_add64 (y := 1) rfl rfl rfl rfl rfl (by have : rM n x < 9007199254740992 := (rM_b (x := x) (odd_ne hn.2.1)).1; omega),
    trivial⟩
  have hcalls : CallsT Tryd.prog (@Know.calls (DNear_dn_f_k b1 b2 b3 b4 b5 b6 b7)) := ⟨callt rfl rfl fun w hG => DCheck_dyr (Dy.mk false n x) (Or.inr hn) w,
    callt rfl rfl fun w hG => DTop_r false n x w hn,
    callt rfl rfl fun w hG => Least_r false n x w hn h,
    callt rfl rfl fun w hG => NShift_r false n x w hn h,
    callt rfl rfl fun w hG => NSmall_r false n x w hn,
    callt rfl rfl fun w hG => bMake_i false (rM n x) (rQ n x) w (Nat.le_of_lt (rM_b (x := x) (odd_ne hn.2.1)).1) (rQ_b n x).1 (rQ_b n x).2 (rM_b (x := x) (odd_ne hn.2.1)).2 i2 hG,
    callt rfl rfl fun w hG => NBit_r false n x w hn hu,
    callt rfl rfl fun w hG => bMake_i false (rM n x + 1) (rQ n x) w (rM_b (x := x) (odd_ne hn.2.1)).1 (rQ_b n x).1 (rQ_b n x).2 ((rM_b (x := x) (odd_ne hn.2.1)).2.imp (fun h => Nat.le_succ_of_le h) id) i7 hG,
    trivial⟩
  have fin : ∀ v, @comes (DNear_dn_f_k b1 b2 b3 b4 b5 b6 b7) Tryd.prog glT 3000 DNear_dn_f_f DNear_dn_f_a = some v → ground v = true → Ending.returned (gval v) = .returned (.tuple #[.float .f64 (rnd false n x (upNear n x)), .int .i64 0]) → Calls Tryd.prog 6 #[.agg #[.bool false, .string (natS n), .int .i64 x]] w fun e w' => e = .returned (.tuple #[.float .f64 (rnd false n x (upNear n x)), .int .i64 0]) ∧ Below w.heap.size w w' := fun v h1 h2 h3 => (@sym_ok _ (DNear_dn_f_k b1 b2 b3 b4 b5 b6 b7) _ (@KnowOk.of _ (DNear_dn_f_k b1 b2 b3 b4 b5 b6 b7) _ hops hcalls) (by kernel_rfl) _ _ _ _ h1 rfl h2 _ hG).mono fun e w' h => ⟨h.1.trans h3, h.2⟩
  clear hops hcalls
  cases b4 with
  | true =>
    have h4 : ((rB n x : Nat) : Int) = 0 := i4.1 rfl
    cases b5 with
    | true =>
      have h5 : ((rM n x % 2 : Nat) : Int) = 1 := i5.1 rfl
      cases b2 with
      | true =>
        have h2 : okP (rM n x) (rQ n x) = true := i2.1 rfl
        cases b1 with
        | true =>
          exact absurd (i1.1 rfl) ((by omega))
        | false =>
          have h1 : ¬ (rT n x > 1023) := fun c => Bool.false_ne_true (i1.2 c)
          cases b3 with
          | true =>
            exact absurd (i3.1 rfl) ((by omega))
          | false =>
            have h3 : ¬ (rQ n x - x ≤ 0) := fun c => Bool.false_ne_true (i3.2 c)
            exact fin _ (DNear_dn_f_r1 b6 b7) rfl (show Ending.returned (.tuple #[.float .f64 (mkW false (rM n x) (rQ n x)), .int .i64 0]) = .returned (.tuple #[.float .f64 (rnd false n x (upNear n x)), .int .i64 0]) from by rw [upNear_f (by rw [(show rW n x = 1 from (by rw [rW_dn hn h hu, if_pos (by have := h4; omega)]))]; omega), rnd_f, mkW_ok h2])
      | false =>
        exact absurd (i2.2 (okP_lt (rM_b (x := x) (odd_ne hn.2.1)).1)) Bool.false_ne_true
    | false =>
      have h5 : ¬ (((rM n x % 2 : Nat) : Int) = 1) := fun c => Bool.false_ne_true (i5.2 c)
      cases b2 with
      | true =>
        have h2 : okP (rM n x) (rQ n x) = true := i2.1 rfl
        cases b1 with
        | true =>
          exact absurd (i1.1 rfl) ((by omega))
        | false =>
          have h1 : ¬ (rT n x > 1023) := fun c => Bool.false_ne_true (i1.2 c)
          cases b3 with
          | true =>
            exact absurd (i3.1 rfl) ((by omega))
          | false =>
            have h3 : ¬ (rQ n x - x ≤ 0) := fun c => Bool.false_ne_true (i3.2 c)
            exact fin _ (DNear_dn_f_r2 b6 b7) rfl (show Ending.returned (.tuple #[.float .f64 (mkW false (rM n x) (rQ n x)), .int .i64 0]) = .returned (.tuple #[.float .f64 (rnd false n x (upNear n x)), .int .i64 0]) from by rw [upNear_f (by rw [(show rW n x = 1 from (by rw [rW_dn hn h hu, if_pos (by have := h4; omega)]))]; omega), rnd_f, mkW_ok h2])
      | false =>
        exact absurd (i2.2 (okP_lt (rM_b (x := x) (odd_ne hn.2.1)).1)) Bool.false_ne_true
  | false =>
    have h4 : ¬ (((rB n x : Nat) : Int) = 0) := fun c => Bool.false_ne_true (i4.2 c)
    cases b6 with
    | true =>
      have h6 : rQ n x - x = 1 := i6.1 rfl
      cases b5 with
      | true =>
        have h5 : ((rM n x % 2 : Nat) : Int) = 1 := i5.1 rfl
        cases b7 with
        | true =>
          have h7 : okP (rM n x + 1) (rQ n x) = true := i7.1 rfl
          cases b1 with
          | true =>
            exact absurd (i1.1 rfl) ((by omega))
          | false =>
            have h1 : ¬ (rT n x > 1023) := fun c => Bool.false_ne_true (i1.2 c)
            cases b3 with
            | true =>
              exact absurd (i3.1 rfl) ((by omega))
            | false =>
              have h3 : ¬ (rQ n x - x ≤ 0) := fun c => Bool.false_ne_true (i3.2 c)
              exact fin _ (DNear_dn_f_r3 b2) rfl (show Ending.returned (.tuple #[.float .f64 (mkW false (rM n x + 1) (rQ n x)), .int .i64 0]) = .returned (.tuple #[.float .f64 (rnd false n x (upNear n x)), .int .i64 0]) from by rw [upNear_t (Or.inr ⟨(show rW n x = 2 from (by rw [rW_dn hn h hu, if_neg (fun c => h4 (by rw [c]; rfl)), if_pos h6])), by have := h5; omega⟩), rnd_t, mkW_ok h7])
        | false =>
          have h7 : ¬ (okP (rM n x + 1) (rQ n x) = true) := fun c => Bool.false_ne_true (i7.2 c)
          cases b1 with
          | true =>
            exact absurd (i1.1 rfl) ((by omega))
          | false =>
            have h1 : ¬ (rT n x > 1023) := fun c => Bool.false_ne_true (i1.2 c)
            cases b3 with
            | true =>
              exact absurd (i3.1 rfl) ((by omega))
            | false =>
              have h3 : ¬ (rQ n x - x ≤ 0) := fun c => Bool.false_ne_true (i3.2 c)
              exact fin _ (DNear_dn_f_r4 b2) rfl (show Ending.returned (.tuple #[.float .f64 9218868437227405312, .int .i64 0]) = .returned (.tuple #[.float .f64 (rnd false n x (upNear n x)), .int .i64 0]) from by rw [upNear_t (Or.inr ⟨(show rW n x = 2 from (by rw [rW_dn hn h hu, if_neg (fun c => h4 (by rw [c]; rfl)), if_pos h6])), by have := h5; omega⟩), rnd_t, inf_f h7])
      | false =>
        have h5 : ¬ (((rM n x % 2 : Nat) : Int) = 1) := fun c => Bool.false_ne_true (i5.2 c)
        cases b2 with
        | true =>
          have h2 : okP (rM n x) (rQ n x) = true := i2.1 rfl
          cases b1 with
          | true =>
            exact absurd (i1.1 rfl) ((by omega))
          | false =>
            have h1 : ¬ (rT n x > 1023) := fun c => Bool.false_ne_true (i1.2 c)
            cases b3 with
            | true =>
              exact absurd (i3.1 rfl) ((by omega))
            | false =>
              have h3 : ¬ (rQ n x - x ≤ 0) := fun c => Bool.false_ne_true (i3.2 c)
              exact fin _ (DNear_dn_f_r5 b7) rfl (show Ending.returned (.tuple #[.float .f64 (mkW false (rM n x) (rQ n x)), .int .i64 0]) = .returned (.tuple #[.float .f64 (rnd false n x (upNear n x)), .int .i64 0]) from by rw [upNear_f (fun c => by rcases c with c | ⟨_, c⟩; exact absurd ((show rW n x = 2 from (by rw [rW_dn hn h hu, if_neg (fun c => h4 (by rw [c]; rfl)), if_pos h6])).symm.trans c) (by decide); exact h5 (by rw [c]; rfl)), rnd_f, mkW_ok h2])
        | false =>
          exact absurd (i2.2 (okP_lt (rM_b (x := x) (odd_ne hn.2.1)).1)) Bool.false_ne_true
    | false =>
      have h6 : ¬ (rQ n x - x = 1) := fun c => Bool.false_ne_true (i6.2 c)
      cases b5 with
      | true =>
        have h5 : ((rM n x % 2 : Nat) : Int) = 1 := i5.1 rfl
        cases b7 with
        | true =>
          have h7 : okP (rM n x + 1) (rQ n x) = true := i7.1 rfl
          cases b1 with
          | true =>
            exact absurd (i1.1 rfl) ((by omega))
          | false =>
            have h1 : ¬ (rT n x > 1023) := fun c => Bool.false_ne_true (i1.2 c)
            cases b3 with
            | true =>
              exact absurd (i3.1 rfl) ((by omega))
            | false =>
              have h3 : ¬ (rQ n x - x ≤ 0) := fun c => Bool.false_ne_true (i3.2 c)
              exact fin _ (DNear_dn_f_r6 b2) rfl (show Ending.returned (.tuple #[.float .f64 (mkW false (rM n x + 1) (rQ n x)), .int .i64 0]) = .returned (.tuple #[.float .f64 (rnd false n x (upNear n x)), .int .i64 0]) from by rw [upNear_t (Or.inl (show rW n x = 3 from (by rw [rW_dn hn h hu, if_neg (fun c => h4 (by rw [c]; rfl)), if_neg h6]))), rnd_t, mkW_ok h7])
        | false =>
          have h7 : ¬ (okP (rM n x + 1) (rQ n x) = true) := fun c => Bool.false_ne_true (i7.2 c)
          cases b1 with
          | true =>
            exact absurd (i1.1 rfl) ((by omega))
          | false =>
            have h1 : ¬ (rT n x > 1023) := fun c => Bool.false_ne_true (i1.2 c)
            cases b3 with
            | true =>
              exact absurd (i3.1 rfl) ((by omega))
            | false =>
              have h3 : ¬ (rQ n x - x ≤ 0) := fun c => Bool.false_ne_true (i3.2 c)
              exact fin _ (DNear_dn_f_r7 b2) rfl (show Ending.returned (.tuple #[.float .f64 9218868437227405312, .int .i64 0]) = .returned (.tuple #[.float .f64 (rnd false n x (upNear n x)), .int .i64 0]) from by rw [upNear_t (Or.inl (show rW n x = 3 from (by rw [rW_dn hn h hu, if_neg (fun c => h4 (by rw [c]; rfl)), if_neg h6]))), rnd_t, inf_f h7])
      | false =>
        have h5 : ¬ (((rM n x % 2 : Nat) : Int) = 1) := fun c => Bool.false_ne_true (i5.2 c)
        cases b7 with
        | true =>
          have h7 : okP (rM n x + 1) (rQ n x) = true := i7.1 rfl
          cases b1 with
          | true =>
            exact absurd (i1.1 rfl) ((by omega))
          | false =>
            have h1 : ¬ (rT n x > 1023) := fun c => Bool.false_ne_true (i1.2 c)
            cases b3 with
            | true =>
              exact absurd (i3.1 rfl) ((by omega))
            | false =>
              have h3 : ¬ (rQ n x - x ≤ 0) := fun c => Bool.false_ne_true (i3.2 c)
              exact fin _ (DNear_dn_f_r8 b2) rfl (show Ending.returned (.tuple #[.float .f64 (mkW false (rM n x + 1) (rQ n x)), .int .i64 0]) = .returned (.tuple #[.float .f64 (rnd false n x (upNear n x)), .int .i64 0]) from by rw [upNear_t (Or.inl (show rW n x = 3 from (by rw [rW_dn hn h hu, if_neg (fun c => h4 (by rw [c]; rfl)), if_neg h6]))), rnd_t, mkW_ok h7])
        | false =>
          have h7 : ¬ (okP (rM n x + 1) (rQ n x) = true) := fun c => Bool.false_ne_true (i7.2 c)
          cases b1 with
          | true =>
            exact absurd (i1.1 rfl) ((by omega))
          | false =>
            have h1 : ¬ (rT n x > 1023) := fun c => Bool.false_ne_true (i1.2 c)
            cases b3 with
            | true =>
              exact absurd (i3.1 rfl) ((by omega))
            | false =>
              have h3 : ¬ (rQ n x - x ≤ 0) := fun c => Bool.false_ne_true (i3.2 c)
              exact fin _ (DNear_dn_f_r9 b2) rfl (show Ending.returned (.tuple #[.float .f64 9218868437227405312, .int .i64 0]) = .returned (.tuple #[.float .f64 (rnd false n x (upNear n x)), .int .i64 0]) from by rw [upNear_t (Or.inl (show rW n x = 3 from (by rw [rW_dn hn h hu, if_neg (fun c => h4 (by rw [c]; rfl)), if_neg h6]))), rnd_t, inf_f h7])
theorem DNear_f (n : Nat) (x : Int) (w : World) (hn : (Dy.mk false n x).Num) (hG : Globs glT w) : Calls Tryd.prog 6 #[.agg #[.bool false, .string (natS n), .int .i64 x]] w fun e w' => e = .returned (.tuple #[.float .f64 (rnd false n x (upNear n x)), .int .i64 0]) ∧ Below w.heap.size w w' := by
  by_cases h : 1024 ≤ rT n x
  · exact DNear_far_f n x w hn h hG
  · by_cases hu : rQ n x ≤ x
    · exact DNear_up_f n x w hn h hu hG
    · exact DNear_dn_f n x w hn h hu hG
@[reducible] def DNear_far_t_f : FuncId := 6
@[reducible] def DNear_far_t_a : List AV := [.agg [.lit (.bool true), .sym 0, .sym 1]]
@[reducible] noncomputable def DNear_far_t_k (b1 b2 : Bool) : Know := ⟨[([0, 15, 3], [.sym 2, .lit (.int .i64 1023)], .lit (.bool b2))],
  [(12, [.agg [.lit (.bool true), .sym 0, .sym 1]], .lit (.int .i64 0)),
  (44, [.agg [.lit (.bool true), .sym 0, .sym 1]], .tup [.sym 2, .lit (.bool true)]),
  (68, [.lit (.bool true), .lit (.int .u64 9007199254740992), .lit (.int .i64 971)], .tup [.sym 3, .lit (.bool b1)])]⟩
theorem DNear_far_t_r1 : @comes (DNear_far_t_k false true) Tryd.prog glT 3000 DNear_far_t_f DNear_far_t_a = some (.lit (.tuple #[.float .f64 18442240474082181120, .int .i64 0])) := by kernel_rfl
set_option maxRecDepth 100000 in
set_option maxHeartbeats 4000000 in
theorem DNear_far_t (n : Nat) (x : Int) (w : World) (hn : (Dy.mk true n x).Num) (h : 1024 ≤ rT n x) (hG : Globs glT w) : Calls Tryd.prog 6 #[.agg #[.bool true, .string (natS n), .int .i64 x]] w fun e w' => e = .returned (.tuple #[.float .f64 (rnd true n x (upNear n x)), .int .i64 0]) ∧ Below w.heap.size w w' := by
  obtain ⟨b1, i1⟩ := bex (okP 9007199254740992 971 = true)
  obtain ⟨b2, i2⟩ := bex (rT n x > 1023)
  letI : Env := mkEnv glT [.string (natS n), .int .i64 x, .int .i64 (rT n x), .float .f64 (mkW true 9007199254740992 971)] rfl
  have hops : OpsT Tryd.prog (@Know.ops (DNear_far_t_k b1 b2)) := ⟨opt_gtr_i rfl rfl i2,
    trivial⟩
  have hcalls : CallsT Tryd.prog (@Know.calls (DNear_far_t_k b1 b2)) := ⟨callt rfl rfl fun w hG => DCheck_dyr (Dy.mk true n x) (Or.inr hn) w,
    callt rfl rfl fun w hG => DTop_r true n x w hn,
    callt rfl rfl fun w hG => bMake_i true 9007199254740992 971 w (by omega) (by omega) (by omega) (Or.inl (by omega)) i1 hG,
    trivial⟩
  have fin : ∀ v, @comes (DNear_far_t_k b1 b2) Tryd.prog glT 3000 DNear_far_t_f DNear_far_t_a = some v → ground v = true → Ending.returned (gval v) = .returned (.tuple #[.float .f64 (rnd true n x (upNear n x)), .int .i64 0]) → Calls Tryd.prog 6 #[.agg #[.bool true, .string (natS n), .int .i64 x]] w fun e w' => e = .returned (.tuple #[.float .f64 (rnd true n x (upNear n x)), .int .i64 0]) ∧ Below w.heap.size w w' := fun v h1 h2 h3 => (@sym_ok _ (DNear_far_t_k b1 b2) _ (@KnowOk.of _ (DNear_far_t_k b1 b2) _ hops hcalls) (by kernel_rfl) _ _ _ _ h1 rfl h2 _ hG).mono fun e w' h => ⟨h.1.trans h3, h.2⟩
  clear hops hcalls
  cases b1 with
  | true =>
    exact absurd (i1.1 rfl) (fun c => okP_iff.1 c ⟨rfl, rfl⟩)
  | false =>
    have h1 : ¬ (okP 9007199254740992 971 = true) := fun c => Bool.false_ne_true (i1.2 c)
    cases b2 with
    | true =>
      have h2 : rT n x > 1023 := i2.1 rfl
      exact fin _ (DNear_far_t_r1) rfl (show Ending.returned (.tuple #[.float .f64 18442240474082181120, .int .i64 0]) = .returned (.tuple #[.float .f64 (rnd true n x (upNear n x)), .int .i64 0]) from by rw [upNear_t (Or.inl (rQ_far h).2.2), rnd_t, (rQ_far h).1, (rQ_far h).2.1, inf_t h1])
    | false =>
      exact absurd (i2.2 ((by omega))) Bool.false_ne_true
@[reducible] def DNear_up_t_f : FuncId := 6
@[reducible] def DNear_up_t_a : List AV := [.agg [.lit (.bool true), .sym 0, .sym 1]]
@[reducible] noncomputable def DNear_up_t_k (b1 b2 b3 : Bool) : Know := ⟨[([0, 15, 3], [.sym 2, .lit (.int .i64 1023)], .lit (.bool b1)),
  ([0, 1, 3], [.sym 3, .sym 1], .sym 4),
  ([1, 0, 3], [.sym 4], .sym 5),
  ([0, 14, 3], [.sym 4, .lit (.int .i64 0)], .lit (.bool b3))],
  [(12, [.agg [.lit (.bool true), .sym 0, .sym 1]], .lit (.int .i64 0)),
  (44, [.agg [.lit (.bool true), .sym 0, .sym 1]], .tup [.sym 2, .lit (.bool true)]),
  (46, [.sym 2], .sym 3),
  (47, [.sym 0, .sym 5], .tup [.sym 6, .lit (.int .i64 0)]),
  (48, [.sym 6], .tup [.sym 7, .lit (.bool true)]),
  (68, [.lit (.bool true), .sym 7, .sym 3], .tup [.sym 8, .lit (.bool b2)])]⟩
theorem DNear_up_t_r1 : @comes (DNear_up_t_k false true true) Tryd.prog glT 3000 DNear_up_t_f DNear_up_t_a = some (.tup [.sym 8, .lit (.int .i64 0)]) := by kernel_rfl
set_option maxRecDepth 100000 in
set_option maxHeartbeats 4000000 in
theorem DNear_up_t (n : Nat) (x : Int) (w : World) (hn : (Dy.mk true n x).Num) (h : ¬ 1024 ≤ rT n x) (hu : rQ n x ≤ x) (hG : Globs glT w) : Calls Tryd.prog 6 #[.agg #[.bool true, .string (natS n), .int .i64 x]] w fun e w' => e = .returned (.tuple #[.float .f64 (rnd true n x (upNear n x)), .int .i64 0]) ∧ Below w.heap.size w w' := by
  obtain ⟨b1, i1⟩ := bex (rT n x > 1023)
  obtain ⟨b2, i2⟩ := bex (okP (rM n x) (rQ n x) = true)
  obtain ⟨b3, i3⟩ := bex (rQ n x - x ≤ 0)
  letI : Env := mkEnv glT [.string (natS n), .int .i64 x, .int .i64 (rT n x), .int .i64 (rQ n x), .int .i64 (rQ n x - x), .int .i64 (-(rQ n x - x)), .string (natS (rM n x)), .int .u64 (((rM n x : Nat) : Int)), .float .f64 (mkW true (rM n x) (rQ n x))] rfl
  have hops : OpsT Tryd.prog (@Know.ops (DNear_up_t_k b1 b2 b3)) := ⟨opt_gtr_i rfl rfl i1,
    opt_sub rfl rfl rfl rfl rfl (by have := (rQ_b n x); have := hn.2.2.1; have := hn.2.2.2; simp only at *; omega),
    opt_neg rfl rfl rfl rfl (by have := (rQ_b n x); have := hn.2.2.1; have := hn.2.2.2; simp only at *; omega),
    opt_leq_i rfl rfl i3,
    trivial⟩
  have hcalls : CallsT Tryd.prog (@Know.calls (DNear_up_t_k b1 b2 b3)) := ⟨callt rfl rfl fun w hG => DCheck_dyr (Dy.mk true n x) (Or.inr hn) w,
    callt rfl rfl fun w hG => DTop_r true n x w hn,
    callt rfl rfl fun w hG => Least_r true n x w hn h,
    callt rfl rfl fun w hG => NShift_r true n x w hn h,
    callt rfl rfl fun w hG => NSmall_r true n x w hn,
    callt rfl rfl fun w hG => bMake_i true (rM n x) (rQ n x) w (Nat.le_of_lt (rM_b (x := x) (odd_ne hn.2.1)).1) (rQ_b n x).1 (rQ_b n x).2 (rM_b (x := x) (odd_ne hn.2.1)).2 i2 hG,
    trivial⟩
  have fin : ∀ v, @comes (DNear_up_t_k b1 b2 b3) Tryd.prog glT 3000 DNear_up_t_f DNear_up_t_a = some v → ground v = true → Ending.returned (gval v) = .returned (.tuple #[.float .f64 (rnd true n x (upNear n x)), .int .i64 0]) → Calls Tryd.prog 6 #[.agg #[.bool true, .string (natS n), .int .i64 x]] w fun e w' => e = .returned (.tuple #[.float .f64 (rnd true n x (upNear n x)), .int .i64 0]) ∧ Below w.heap.size w w' := fun v h1 h2 h3 => (@sym_ok _ (DNear_up_t_k b1 b2 b3) _ (@KnowOk.of _ (DNear_up_t_k b1 b2 b3) _ hops hcalls) (by kernel_rfl) _ _ _ _ h1 rfl h2 _ hG).mono fun e w' h => ⟨h.1.trans h3, h.2⟩
  clear hops hcalls
  cases b2 with
  | true =>
    have h2 : okP (rM n x) (rQ n x) = true := i2.1 rfl
    cases b1 with
    | true =>
      exact absurd (i1.1 rfl) ((by omega))
    | false =>
      have h1 : ¬ (rT n x > 1023) := fun c => Bool.false_ne_true (i1.2 c)
      cases b3 with
      | true =>
        have h3 : rQ n x - x ≤ 0 := i3.1 rfl
        exact fin _ (DNear_up_t_r1) rfl (show Ending.returned (.tuple #[.float .f64 (mkW true (rM n x) (rQ n x)), .int .i64 0]) = .returned (.tuple #[.float .f64 (rnd true n x (upNear n x)), .int .i64 0]) from by rw [upNear_f (by rw [(rM_up h hu).2]; omega), rnd_f, mkW_ok h2])
      | false =>
        exact absurd (i3.2 ((by omega))) Bool.false_ne_true
  | false =>
    exact absurd (i2.2 (okP_lt (rM_b (x := x) (odd_ne hn.2.1)).1)) Bool.false_ne_true
@[reducible] def DNear_dn_t_f : FuncId := 6
@[reducible] def DNear_dn_t_a : List AV := [.agg [.lit (.bool true), .sym 0, .sym 1]]
@[reducible] noncomputable def DNear_dn_t_k (b1 b2 b3 b4 b5 b6 b7 : Bool) : Know := ⟨[([0, 15, 3], [.sym 2, .lit (.int .i64 1023)], .lit (.bool b1)),
  ([0, 1, 3], [.sym 3, .sym 1], .sym 4),
  ([1, 0, 3], [.sym 4], .sym 5),
  ([0, 14, 3], [.sym 4, .lit (.int .i64 0)], .lit (.bool b3)),
  ([0, 1, 3], [.sym 4, .lit (.int .i64 1)], .sym 9),
  ([0, 11, 5], [.sym 10, .lit (.int .u8 0)], .lit (.bool b4)),
  ([0, 5, 44], [.sym 7, .lit (.int .u64 1)], .sym 11),
  ([0, 11, 44], [.sym 11, .lit (.int .u64 1)], .lit (.bool b5)),
  ([0, 11, 3], [.sym 4, .lit (.int .i64 1)], .lit (.bool b6)),
  ([0, 0, 44], [.sym 7, .lit (.int .u64 1)], .sym 12)],
  [(12, [.agg [.lit (.bool true), .sym 0, .sym 1]], .lit (.int .i64 0)),
  (44, [.agg [.lit (.bool true), .sym 0, .sym 1]], .tup [.sym 2, .lit (.bool true)]),
  (46, [.sym 2], .sym 3),
  (47, [.sym 0, .sym 5], .tup [.sym 6, .lit (.int .i64 0)]),
  (48, [.sym 6], .tup [.sym 7, .lit (.bool true)]),
  (68, [.lit (.bool true), .sym 7, .sym 3], .tup [.sym 8, .lit (.bool b2)]),
  (70, [.sym 0, .sym 9], .tup [.sym 10, .lit (.int .i64 0)]),
  (68, [.lit (.bool true), .sym 12, .sym 3], .tup [.sym 13, .lit (.bool b7)])]⟩
theorem DNear_dn_t_r1 (b6 b7 : Bool) : @comes (DNear_dn_t_k false true false true true b6 b7) Tryd.prog glT 3000 DNear_dn_t_f DNear_dn_t_a = some (.tup [.sym 8, .lit (.int .i64 0)]) := by kernel_rfl
theorem DNear_dn_t_r2 (b6 b7 : Bool) : @comes (DNear_dn_t_k false true false true false b6 b7) Tryd.prog glT 3000 DNear_dn_t_f DNear_dn_t_a = some (.tup [.sym 8, .lit (.int .i64 0)]) := by kernel_rfl
theorem DNear_dn_t_r3 (b2 : Bool) : @comes (DNear_dn_t_k false b2 false false true true true) Tryd.prog glT 3000 DNear_dn_t_f DNear_dn_t_a = some (.tup [.sym 13, .lit (.int .i64 0)]) := by kernel_rfl
theorem DNear_dn_t_r4 (b2 : Bool) : @comes (DNear_dn_t_k false b2 false false true true false) Tryd.prog glT 3000 DNear_dn_t_f DNear_dn_t_a = some (.lit (.tuple #[.float .f64 18442240474082181120, .int .i64 0])) := by kernel_rfl
theorem DNear_dn_t_r5 (b7 : Bool) : @comes (DNear_dn_t_k false true false false false true b7) Tryd.prog glT 3000 DNear_dn_t_f DNear_dn_t_a = some (.tup [.sym 8, .lit (.int .i64 0)]) := by kernel_rfl
theorem DNear_dn_t_r6 (b2 : Bool) : @comes (DNear_dn_t_k false b2 false false true false true) Tryd.prog glT 3000 DNear_dn_t_f DNear_dn_t_a = some (.tup [.sym 13, .lit (.int .i64 0)]) := by kernel_rfl
theorem DNear_dn_t_r7 (b2 : Bool) : @comes (DNear_dn_t_k false b2 false false true false false) Tryd.prog glT 3000 DNear_dn_t_f DNear_dn_t_a = some (.lit (.tuple #[.float .f64 18442240474082181120, .int .i64 0])) := by kernel_rfl
theorem DNear_dn_t_r8 (b2 : Bool) : @comes (DNear_dn_t_k false b2 false false false false true) Tryd.prog glT 3000 DNear_dn_t_f DNear_dn_t_a = some (.tup [.sym 13, .lit (.int .i64 0)]) := by kernel_rfl
theorem DNear_dn_t_r9 (b2 : Bool) : @comes (DNear_dn_t_k false b2 false false false false false) Tryd.prog glT 3000 DNear_dn_t_f DNear_dn_t_a = some (.lit (.tuple #[.float .f64 18442240474082181120, .int .i64 0])) := by kernel_rfl
set_option maxRecDepth 100000 in
set_option maxHeartbeats 4000000 in
theorem DNear_dn_t (n : Nat) (x : Int) (w : World) (hn : (Dy.mk true n x).Num) (h : ¬ 1024 ≤ rT n x) (hu : ¬ rQ n x ≤ x) (hG : Globs glT w) : Calls Tryd.prog 6 #[.agg #[.bool true, .string (natS n), .int .i64 x]] w fun e w' => e = .returned (.tuple #[.float .f64 (rnd true n x (upNear n x)), .int .i64 0]) ∧ Below w.heap.size w w' := by
  obtain ⟨b1, i1⟩ := bex (rT n x > 1023)
  obtain ⟨b2, i2⟩ := bex (okP (rM n x) (rQ n x) = true)
  obtain ⟨b3, i3⟩ := bex (rQ n x - x ≤ 0)
  obtain ⟨b4, i4⟩ := bex (((rB n x : Nat) : Int) = 0)
  obtain ⟨b5, i5⟩ := bex (((rM n x % 2 : Nat) : Int) = 1)
  obtain ⟨b6, i6⟩ := bex (rQ n x - x = 1)
  obtain ⟨b7, i7⟩ := bex (okP (rM n x + 1) (rQ n x) = true)
  letI : Env := mkEnv glT [.string (natS n), .int .i64 x, .int .i64 (rT n x), .int .i64 (rQ n x), .int .i64 (rQ n x - x), .int .i64 (-(rQ n x - x)), .string (natS (rM n x)), .int .u64 (((rM n x : Nat) : Int)), .float .f64 (mkW true (rM n x) (rQ n x)), .int .i64 (rQ n x - x - 1), .int .u8 (((rB n x : Nat) : Int)), .int .u64 (((rM n x % 2 : Nat) : Int)), .int .u64 (((rM n x + 1 : Nat) : Int)), .float .f64 (mkW true (rM n x + 1) (rQ n x))] rfl
  have hops : OpsT Tryd.prog (@Know.ops (DNear_dn_t_k b1 b2 b3 b4 b5 b6 b7)) := ⟨opt_gtr_i rfl rfl i1,
    opt_sub rfl rfl rfl rfl rfl (by have := (rQ_b n x); have := hn.2.2.1; have := hn.2.2.2; simp only at *; omega),
    opt_neg rfl rfl rfl rfl (by have := (rQ_b n x); have := hn.2.2.1; have := hn.2.2.2; simp only at *; omega),
    opt_leq_i rfl rfl i3,
    opt_sub rfl rfl rfl rfl rfl (by have := (rQ_b n x); have := hn.2.2.1; have := hn.2.2.2; simp only at *; omega),
    opt_eql_i rfl rfl i4,
    opt_odd rfl rfl rfl rfl (by have : rM n x < 9007199254740992 := (rM_b (x := x) (odd_ne hn.2.1)).1; omega),
    opt_eql_i rfl rfl i5,
    opt_eql_i rfl rfl i6,
    opt_add64 (y := 1) rfl rfl rfl rfl rfl (by have : rM n x < 9007199254740992 := (rM_b (x := x) (odd_ne hn.2.1)).1; omega),
    trivial⟩
  have hcalls : CallsT Tryd.prog (@Know.calls (DNear_dn_t_k b1 b2 b3 b4 b5 b6 b7)) := ⟨callt rfl rfl fun w hG => DCheck_dyr (Dy.mk true n x) (Or.inr hn) w,
    callt rfl rfl fun w hG => DTop_r true n x w hn,
    callt rfl rfl fun w hG => Least_r true n x w hn h,
    callt rfl rfl fun w hG => NShift_r true n x w hn h,
    callt rfl rfl fun w hG => NSmall_r true n x w hn,
    callt rfl rfl fun w hG => bMake_i true (rM n x) (rQ n x) w (Nat.le_of_lt (rM_b (x := x) (odd_ne hn.2.1)).1) (rQ_b n x).1 (rQ_b n x).2 (rM_b (x := x) (odd_ne hn.2.1)).2 i2 hG,
    callt rfl rfl fun w hG => NBit_r true n x w hn hu,
    callt rfl rfl fun w hG => bMake_i true (rM n x + 1) (rQ n x) w (rM_b (x := x) (odd_ne hn.2.1)).1 (rQ_b n x).1 (rQ_b n x).2 ((rM_b (x := x) (odd_ne hn.2.1)).2.imp (fun h => Nat.le_succ_of_le h) id) i7 hG,
    trivial⟩
  have fin : ∀ v, @comes (DNear_dn_t_k b1 b2 b3 b4 b5 b6 b7) Tryd.prog glT 3000 DNear_dn_t_f DNear_dn_t_a = some v → ground v = true → Ending.returned (gval v) = .returned (.tuple #[.float .f64 (rnd true n x (upNear n x)), .int .i64 0]) → Calls Tryd.prog 6 #[.agg #[.bool true, .string (natS n), .int .i64 x]] w fun e w' => e = .returned (.tuple #[.float .f64 (rnd true n x (upNear n x)), .int .i64 0]) ∧ Below w.heap.size w w' := fun v h1 h2 h3 => (@sym_ok _ (DNear_dn_t_k b1 b2 b3 b4 b5 b6 b7) _ (@KnowOk.of _ (DNear_dn_t_k b1 b2 b3 b4 b5 b6 b7) _ hops hcalls) (by kernel_rfl) _ _ _ _ h1 rfl h2 _ hG).mono fun e w' h => ⟨h.1.trans h3, h.2⟩
  clear hops hcalls
  cases b4 with
  | true =>
    have h4 : ((rB n x : Nat) : Int) = 0 := i4.1 rfl
    cases b5 with
    | true =>
      have h5 : ((rM n x % 2 : Nat) : Int) = 1 := i5.1 rfl
      cases b2 with
      | true =>
        have h2 : okP (rM n x) (rQ n x) = true := i2.1 rfl
        cases b1 with
        | true =>
          exact absurd (i1.1 rfl) ((by omega))
        | false =>
          have h1 : ¬ (rT n x > 1023) := fun c => Bool.false_ne_true (i1.2 c)
          cases b3 with
          | true =>
            exact absurd (i3.1 rfl) ((by omega))
          | false =>
            have h3 : ¬ (rQ n x - x ≤ 0) := fun c => Bool.false_ne_true (i3.2 c)
            exact fin _ (DNear_dn_t_r1 b6 b7) rfl (show Ending.returned (.tuple #[.float .f64 (mkW true (rM n x) (rQ n x)), .int .i64 0]) = .returned (.tuple #[.float .f64 (rnd true n x (upNear n x)), .int .i64 0]) from by rw [upNear_f (by rw [(show rW n x = 1 from (by rw [rW_dn hn h hu, if_pos (by have := h4; omega)]))]; omega), rnd_f, mkW_ok h2])
      | false =>
        exact absurd (i2.2 (okP_lt (rM_b (x := x) (odd_ne hn.2.1)).1)) Bool.false_ne_true
    | false =>
      have h5 : ¬ (((rM n x % 2 : Nat) : Int) = 1) := fun c => Bool.false_ne_true (i5.2 c)
      cases b2 with
      | true =>
        have h2 : okP (rM n x) (rQ n x) = true := i2.1 rfl
        cases b1 with
        | true =>
          exact absurd (i1.1 rfl) ((by omega))
        | false =>
          have h1 : ¬ (rT n x > 1023) := fun c => Bool.false_ne_true (i1.2 c)
          cases b3 with
          | true =>
            exact absurd (i3.1 rfl) ((by omega))
          | false =>
            have h3 : ¬ (rQ n x - x ≤ 0) := fun c => Bool.false_ne_true (i3.2 c)
            exact fin _ (DNear_dn_t_r2 b6 b7) rfl (show Ending.returned (.tuple #[.float .f64 (mkW true (rM n x) (rQ n x)), .int .i64 0]) = .returned (.tuple #[.float .f64 (rnd true n x (upNear n x)), .int .i64 0]) from by rw [upNear_f (by rw [(show rW n x = 1 from (by rw [rW_dn hn h hu, if_pos (by have := h4; omega)]))]; omega), rnd_f, mkW_ok h2])
      | false =>
        exact absurd (i2.2 (okP_lt (rM_b (x := x) (odd_ne hn.2.1)).1)) Bool.false_ne_true
  | false =>
    have h4 : ¬ (((rB n x : Nat) : Int) = 0) := fun c => Bool.false_ne_true (i4.2 c)
    cases b6 with
    | true =>
      have h6 : rQ n x - x = 1 := i6.1 rfl
      cases b5 with
      | true =>
        have h5 : ((rM n x % 2 : Nat) : Int) = 1 := i5.1 rfl
        cases b7 with
        | true =>
          have h7 : okP (rM n x + 1) (rQ n x) = true := i7.1 rfl
          cases b1 with
          | true =>
            exact absurd (i1.1 rfl) ((by omega))
          | false =>
            have h1 : ¬ (rT n x > 1023) := fun c => Bool.false_ne_true (i1.2 c)
            cases b3 with
            | true =>
              exact absurd (i3.1 rfl) ((by omega))
            | false =>
              have h3 : ¬ (rQ n x - x ≤ 0) := fun c => Bool.false_ne_true (i3.2 c)
              exact fin _ (DNear_dn_t_r3 b2) rfl (show Ending.returned (.tuple #[.float .f64 (mkW true (rM n x + 1) (rQ n x)), .int .i64 0]) = .returned (.tuple #[.float .f64 (rnd true n x (upNear n x)), .int .i64 0]) from by rw [upNear_t (Or.inr ⟨(show rW n x = 2 from (by rw [rW_dn hn h hu, if_neg (fun c => h4 (by rw [c]; rfl)), if_pos h6])), by have := h5; omega⟩), rnd_t, mkW_ok h7])
        | false =>
          have h7 : ¬ (okP (rM n x + 1) (rQ n x) = true) := fun c => Bool.false_ne_true (i7.2 c)
          cases b1 with
          | true =>
            exact absurd (i1.1 rfl) ((by omega))
          | false =>
            have h1 : ¬ (rT n x > 1023) := fun c => Bool.false_ne_true (i1.2 c)
            cases b3 with
            | true =>
              exact absurd (i3.1 rfl) ((by omega))
            | false =>
              have h3 : ¬ (rQ n x - x ≤ 0) := fun c => Bool.false_ne_true (i3.2 c)
              exact fin _ (DNear_dn_t_r4 b2) rfl (show Ending.returned (.tuple #[.float .f64 18442240474082181120, .int .i64 0]) = .returned (.tuple #[.float .f64 (rnd true n x (upNear n x)), .int .i64 0]) from by rw [upNear_t (Or.inr ⟨(show rW n x = 2 from (by rw [rW_dn hn h hu, if_neg (fun c => h4 (by rw [c]; rfl)), if_pos h6])), by have := h5; omega⟩), rnd_t, inf_t h7])
      | false =>
        have h5 : ¬ (((rM n x % 2 : Nat) : Int) = 1) := fun c => Bool.false_ne_true (i5.2 c)
        cases b2 with
        | true =>
          have h2 : okP (rM n x) (rQ n x) = true := i2.1 rfl
          cases b1 with
          | true =>
            exact absurd (i1.1 rfl) ((by omega))
          | false =>
            have h1 : ¬ (rT n x > 1023) := fun c => Bool.false_ne_true (i1.2 c)
            cases b3 with
            | true =>
              exact absurd (i3.1 rfl) ((by omega))
            | false =>
              have h3 : ¬ (rQ n x - x ≤ 0) := fun c => Bool.false_ne_true (i3.2 c)
              exact fin _ (DNear_dn_t_r5 b7) rfl (show Ending.returned (.tuple #[.float .f64 (mkW true (rM n x) (rQ n x)), .int .i64 0]) = .returned (.tuple #[.float .f64 (rnd true n x (upNear n x)), .int .i64 0]) from by rw [upNear_f (fun c => by rcases c with c | ⟨_, c⟩; exact absurd ((show rW n x = 2 from (by rw [rW_dn hn h hu, if_neg (fun c => h4 (by rw [c]; rfl)), if_pos h6])).symm.trans c) (by decide); exact h5 (by rw [c]; rfl)), rnd_f, mkW_ok h2])
        | false =>
          exact absurd (i2.2 (okP_lt (rM_b (x := x) (odd_ne hn.2.1)).1)) Bool.false_ne_true
    | false =>
      have h6 : ¬ (rQ n x - x = 1) := fun c => Bool.false_ne_true (i6.2 c)
      cases b5 with
      | true =>
        have h5 : ((rM n x % 2 : Nat) : Int) = 1 := i5.1 rfl
        cases b7 with
        | true =>
          have h7 : okP (rM n x + 1) (rQ n x) = true := i7.1 rfl
          cases b1 with
          | true =>
            exact absurd (i1.1 rfl) ((by omega))
          | false =>
            have h1 : ¬ (rT n x > 1023) := fun c => Bool.false_ne_true (i1.2 c)
            cases b3 with
            | true =>
              exact absurd (i3.1 rfl) ((by omega))
            | false =>
              have h3 : ¬ (rQ n x - x ≤ 0) := fun c => Bool.false_ne_true (i3.2 c)
              exact fin _ (DNear_dn_t_r6 b2) rfl (show Ending.returned (.tuple #[.float .f64 (mkW true (rM n x + 1) (rQ n x)), .int .i64 0]) = .returned (.tuple #[.float .f64 (rnd true n x (upNear n x)), .int .i64 0]) from by rw [upNear_t (Or.inl (show rW n x = 3 from (by rw [rW_dn hn h hu, if_neg (fun c => h4 (by rw [c]; rfl)), if_neg h6]))), rnd_t, mkW_ok h7])
        | false =>
          have h7 : ¬ (okP (rM n x + 1) (rQ n x) = true) := fun c => Bool.false_ne_true (i7.2 c)
          cases b1 with
          | true =>
            exact absurd (i1.1 rfl) ((by omega))
          | false =>
            have h1 : ¬ (rT n x > 1023) := fun c => Bool.false_ne_true (i1.2 c)
            cases b3 with
            | true =>
              exact absurd (i3.1 rfl) ((by omega))
            | false =>
              have h3 : ¬ (rQ n x - x ≤ 0) := fun c => Bool.false_ne_true (i3.2 c)
              exact fin _ (DNear_dn_t_r7 b2) rfl (show Ending.returned (.tuple #[.float .f64 18442240474082181120, .int .i64 0]) = .returned (.tuple #[.float .f64 (rnd true n x (upNear n x)), .int .i64 0]) from by rw [upNear_t (Or.inl (show rW n x = 3 from (by rw [rW_dn hn h hu, if_neg (fun c => h4 (by rw [c]; rfl)), if_neg h6]))), rnd_t, inf_t h7])
      | false =>
        have h5 : ¬ (((rM n x % 2 : Nat) : Int) = 1) := fun c => Bool.false_ne_true (i5.2 c)
        cases b7 with
        | true =>
          have h7 : okP (rM n x + 1) (rQ n x) = true := i7.1 rfl
          cases b1 with
          | true =>
            exact absurd (i1.1 rfl) ((by omega))
          | false =>
            have h1 : ¬ (rT n x > 1023) := fun c => Bool.false_ne_true (i1.2 c)
            cases b3 with
            | true =>
              exact absurd (i3.1 rfl) ((by omega))
            | false =>
              have h3 : ¬ (rQ n x - x ≤ 0) := fun c => Bool.false_ne_true (i3.2 c)
              exact fin _ (DNear_dn_t_r8 b2) rfl (show Ending.returned (.tuple #[.float .f64 (mkW true (rM n x + 1) (rQ n x)), .int .i64 0]) = .returned (.tuple #[.float .f64 (rnd true n x (upNear n x)), .int .i64 0]) from by rw [upNear_t (Or.inl (show rW n x = 3 from (by rw [rW_dn hn h hu, if_neg (fun c => h4 (by rw [c]; rfl)), if_neg h6]))), rnd_t, mkW_ok h7])
        | false =>
          have h7 : ¬ (okP (rM n x + 1) (rQ n x) = true) := fun c => Bool.false_ne_true (i7.2 c)
          cases b1 with
          | true =>
            exact absurd (i1.1 rfl) ((by omega))
          | false =>
            have h1 : ¬ (rT n x > 1023) := fun c => Bool.false_ne_true (i1.2 c)
            cases b3 with
            | true =>
              exact absurd (i3.1 rfl) ((by omega))
            | false =>
              have h3 : ¬ (rQ n x - x ≤ 0) := fun c => Bool.false_ne_true (i3.2 c)
              exact fin _ (DNear_dn_t_r9 b2) rfl (show Ending.returned (.tuple #[.float .f64 18442240474082181120, .int .i64 0]) = .returned (.tuple #[.float .f64 (rnd true n x (upNear n x)), .int .i64 0]) from by rw [upNear_t (Or.inl (show rW n x = 3 from (by rw [rW_dn hn h hu, if_neg (fun c => h4 (by rw [c]; rfl)), if_neg h6]))), rnd_t, inf_t h7])
theorem DNear_t (n : Nat) (x : Int) (w : World) (hn : (Dy.mk true n x).Num) (hG : Globs glT w) : Calls Tryd.prog 6 #[.agg #[.bool true, .string (natS n), .int .i64 x]] w fun e w' => e = .returned (.tuple #[.float .f64 (rnd true n x (upNear n x)), .int .i64 0]) ∧ Below w.heap.size w w' := by
  by_cases h : 1024 ≤ rT n x
  · exact DNear_far_t n x w hn h hG
  · by_cases hu : rQ n x ≤ x
    · exact DNear_up_t n x w hn h hu hG
    · exact DNear_dn_t n x w hn h hu hG
@[reducible] def DAbove_far_f_f : FuncId := 8
@[reducible] def DAbove_far_f_a : List AV := [.agg [.lit (.bool false), .sym 0, .sym 1]]
@[reducible] noncomputable def DAbove_far_f_k (b1 b2 : Bool) : Know := ⟨[([0, 15, 3], [.sym 2, .lit (.int .i64 1023)], .lit (.bool b2))],
  [(12, [.agg [.lit (.bool false), .sym 0, .sym 1]], .lit (.int .i64 0)),
  (44, [.agg [.lit (.bool false), .sym 0, .sym 1]], .tup [.sym 2, .lit (.bool true)]),
  (68, [.lit (.bool false), .lit (.int .u64 9007199254740992), .lit (.int .i64 971)], .tup [.sym 3, .lit (.bool b1)])]⟩
theorem DAbove_far_f_r1 : @comes (DAbove_far_f_k false true) Tryd.prog glT 3000 DAbove_far_f_f DAbove_far_f_a = some (.lit (.tuple #[.float .f64 9218868437227405312, .int .i64 0])) := by kernel_rfl
set_option maxRecDepth 100000 in
set_option maxHeartbeats 4000000 in
theorem DAbove_far_f (n : Nat) (x : Int) (w : World) (hn : (Dy.mk false n x).Num) (h : 1024 ≤ rT n x) (hG : Globs glT w) : Calls Tryd.prog 8 #[.agg #[.bool false, .string (natS n), .int .i64 x]] w fun e w' => e = .returned (.tuple #[.float .f64 (rnd false n x (upAbove false n x)), .int .i64 0]) ∧ Below w.heap.size w w' := by
  obtain ⟨b1, i1⟩ := bex (okP 9007199254740992 971 = true)
  obtain ⟨b2, i2⟩ := bex (rT n x > 1023)
  letI : Env := mkEnv glT [.string (natS n), .int .i64 x, .int .i64 (rT n x), .float .f64 (mkW false 9007199254740992 971)] rfl
  have hops : OpsT Tryd.prog (@Know.ops (DAbove_far_f_k b1 b2)) := ⟨opt_gtr_i rfl rfl i2,
    trivial⟩
  have hcalls : CallsT Tryd.prog (@Know.calls (DAbove_far_f_k b1 b2)) := ⟨callt rfl rfl fun w hG => DCheck_dyr (Dy.mk false n x) (Or.inr hn) w,
    callt rfl rfl fun w hG => DTop_r false n x w hn,
    callt rfl rfl fun w hG => bMake_i false 9007199254740992 971 w (by omega) (by omega) (by omega) (Or.inl (by omega)) i1 hG,
    trivial⟩
  have fin : ∀ v, @comes (DAbove_far_f_k b1 b2) Tryd.prog glT 3000 DAbove_far_f_f DAbove_far_f_a = some v → ground v = true → Ending.returned (gval v) = .returned (.tuple #[.float .f64 (rnd false n x (upAbove false n x)), .int .i64 0]) → Calls Tryd.prog 8 #[.agg #[.bool false, .string (natS n), .int .i64 x]] w fun e w' => e = .returned (.tuple #[.float .f64 (rnd false n x (upAbove false n x)), .int .i64 0]) ∧ Below w.heap.size w w' := fun v h1 h2 h3 => (@sym_ok _ (DAbove_far_f_k b1 b2) _ (@KnowOk.of _ (DAbove_far_f_k b1 b2) _ hops hcalls) (by kernel_rfl) _ _ _ _ h1 rfl h2 _ hG).mono fun e w' h => ⟨h.1.trans h3, h.2⟩
  clear hops hcalls
  cases b1 with
  | true =>
    exact absurd (i1.1 rfl) (fun c => okP_iff.1 c ⟨rfl, rfl⟩)
  | false =>
    have h1 : ¬ (okP 9007199254740992 971 = true) := fun c => Bool.false_ne_true (i1.2 c)
    cases b2 with
    | true =>
      have h2 : rT n x > 1023 := i2.1 rfl
      exact fin _ (DAbove_far_f_r1) rfl (show Ending.returned (.tuple #[.float .f64 9218868437227405312, .int .i64 0]) = .returned (.tuple #[.float .f64 (rnd false n x (upAbove false n x)), .int .i64 0]) from by rw [upAbove_t (by rw [(rQ_far h).2.2]; decide), rnd_t, (rQ_far h).1, (rQ_far h).2.1, inf_f h1])
    | false =>
      exact absurd (i2.2 ((by omega))) Bool.false_ne_true
@[reducible] def DAbove_up_f_f : FuncId := 8
@[reducible] def DAbove_up_f_a : List AV := [.agg [.lit (.bool false), .sym 0, .sym 1]]
@[reducible] noncomputable def DAbove_up_f_k (b1 b2 b3 : Bool) : Know := ⟨[([0, 15, 3], [.sym 2, .lit (.int .i64 1023)], .lit (.bool b1)),
  ([0, 1, 3], [.sym 3, .sym 1], .sym 4),
  ([1, 0, 3], [.sym 4], .sym 5),
  ([0, 14, 3], [.sym 4, .lit (.int .i64 0)], .lit (.bool b3))],
  [(12, [.agg [.lit (.bool false), .sym 0, .sym 1]], .lit (.int .i64 0)),
  (44, [.agg [.lit (.bool false), .sym 0, .sym 1]], .tup [.sym 2, .lit (.bool true)]),
  (46, [.sym 2], .sym 3),
  (47, [.sym 0, .sym 5], .tup [.sym 6, .lit (.int .i64 0)]),
  (48, [.sym 6], .tup [.sym 7, .lit (.bool true)]),
  (68, [.lit (.bool false), .sym 7, .sym 3], .tup [.sym 8, .lit (.bool b2)])]⟩
theorem DAbove_up_f_r1 : @comes (DAbove_up_f_k false true true) Tryd.prog glT 3000 DAbove_up_f_f DAbove_up_f_a = some (.tup [.sym 8, .lit (.int .i64 0)]) := by kernel_rfl
set_option maxRecDepth 100000 in
set_option maxHeartbeats 4000000 in
theorem DAbove_up_f (n : Nat) (x : Int) (w : World) (hn : (Dy.mk false n x).Num) (h : ¬ 1024 ≤ rT n x) (hu : rQ n x ≤ x) (hG : Globs glT w) : Calls Tryd.prog 8 #[.agg #[.bool false, .string (natS n), .int .i64 x]] w fun e w' => e = .returned (.tuple #[.float .f64 (rnd false n x (upAbove false n x)), .int .i64 0]) ∧ Below w.heap.size w w' := by
  obtain ⟨b1, i1⟩ := bex (rT n x > 1023)
  obtain ⟨b2, i2⟩ := bex (okP (rM n x) (rQ n x) = true)
  obtain ⟨b3, i3⟩ := bex (rQ n x - x ≤ 0)
  letI : Env := mkEnv glT [.string (natS n), .int .i64 x, .int .i64 (rT n x), .int .i64 (rQ n x), .int .i64 (rQ n x - x), .int .i64 (-(rQ n x - x)), .string (natS (rM n x)), .int .u64 (((rM n x : Nat) : Int)), .float .f64 (mkW false (rM n x) (rQ n x))] rfl
  have hops : OpsT Tryd.prog (@Know.ops (DAbove_up_f_k b1 b2 b3)) := ⟨opt_gtr_i rfl rfl i1,
    opt_sub rfl rfl rfl rfl rfl (by have := (rQ_b n x); have := hn.2.2.1; have := hn.2.2.2; simp only at *; omega),
    opt_neg rfl rfl rfl rfl (by have := (rQ_b n x); have := hn.2.2.1; have := hn.2.2.2; simp only at *; omega),
    opt_leq_i rfl rfl i3,
    trivial⟩
  have hcalls : CallsT Tryd.prog (@Know.calls (DAbove_up_f_k b1 b2 b3)) := ⟨callt rfl rfl fun w hG => DCheck_dyr (Dy.mk false n x) (Or.inr hn) w,
    callt rfl rfl fun w hG => DTop_r false n x w hn,
    callt rfl rfl fun w hG => Least_r false n x w hn h,
    callt rfl rfl fun w hG => NShift_r false n x w hn h,
    callt rfl rfl fun w hG => NSmall_r false n x w hn,
    callt rfl rfl fun w hG => bMake_i false (rM n x) (rQ n x) w (Nat.le_of_lt (rM_b (x := x) (odd_ne hn.2.1)).1) (rQ_b n x).1 (rQ_b n x).2 (rM_b (x := x) (odd_ne hn.2.1)).2 i2 hG,
    trivial⟩
  have fin : ∀ v, @comes (DAbove_up_f_k b1 b2 b3) Tryd.prog glT 3000 DAbove_up_f_f DAbove_up_f_a = some v → ground v = true → Ending.returned (gval v) = .returned (.tuple #[.float .f64 (rnd false n x (upAbove false n x)), .int .i64 0]) → Calls Tryd.prog 8 #[.agg #[.bool false, .string (natS n), .int .i64 x]] w fun e w' => e = .returned (.tuple #[.float .f64 (rnd false n x (upAbove false n x)), .int .i64 0]) ∧ Below w.heap.size w w' := fun v h1 h2 h3 => (@sym_ok _ (DAbove_up_f_k b1 b2 b3) _ (@KnowOk.of _ (DAbove_up_f_k b1 b2 b3) _ hops hcalls) (by kernel_rfl) _ _ _ _ h1 rfl h2 _ hG).mono fun e w' h => ⟨h.1.trans h3, h.2⟩
  clear hops hcalls
  cases b2 with
  | true =>
    have h2 : okP (rM n x) (rQ n x) = true := i2.1 rfl
    cases b1 with
    | true =>
      exact absurd (i1.1 rfl) ((by omega))
    | false =>
      have h1 : ¬ (rT n x > 1023) := fun c => Bool.false_ne_true (i1.2 c)
      cases b3 with
      | true =>
        have h3 : rQ n x - x ≤ 0 := i3.1 rfl
        exact fin _ (DAbove_up_f_r1) rfl (show Ending.returned (.tuple #[.float .f64 (mkW false (rM n x) (rQ n x)), .int .i64 0]) = .returned (.tuple #[.float .f64 (rnd false n x (upAbove false n x)), .int .i64 0]) from by rw [upAbove_f (rM_up h hu).2, rnd_f, mkW_ok h2])
      | false =>
        exact absurd (i3.2 ((by omega))) Bool.false_ne_true
  | false =>
    exact absurd (i2.2 (okP_lt (rM_b (x := x) (odd_ne hn.2.1)).1)) Bool.false_ne_true
@[reducible] def DAbove_dn_f_f : FuncId := 8
@[reducible] def DAbove_dn_f_a : List AV := [.agg [.lit (.bool false), .sym 0, .sym 1]]
@[reducible] noncomputable def DAbove_dn_f_k (b1 b2 b3 b4 b5 b6 : Bool) : Know := ⟨[([0, 15, 3], [.sym 2, .lit (.int .i64 1023)], .lit (.bool b1)),
  ([0, 1, 3], [.sym 3, .sym 1], .sym 4),
  ([1, 0, 3], [.sym 4], .sym 5),
  ([0, 14, 3], [.sym 4, .lit (.int .i64 0)], .lit (.bool b2)),
  ([0, 1, 3], [.sym 4, .lit (.int .i64 1)], .sym 8),
  ([0, 11, 5], [.sym 9, .lit (.int .u8 0)], .lit (.bool b3)),
  ([0, 5, 44], [.sym 7, .lit (.int .u64 1)], .sym 10),
  ([0, 11, 44], [.sym 10, .lit (.int .u64 1)], .lit (.bool b4)),
  ([0, 0, 44], [.sym 7, .lit (.int .u64 1)], .sym 11),
  ([0, 11, 3], [.sym 4, .lit (.int .i64 1)], .lit (.bool b6))],
  [(12, [.agg [.lit (.bool false), .sym 0, .sym 1]], .lit (.int .i64 0)),
  (44, [.agg [.lit (.bool false), .sym 0, .sym 1]], .tup [.sym 2, .lit (.bool true)]),
  (46, [.sym 2], .sym 3),
  (47, [.sym 0, .sym 5], .tup [.sym 6, .lit (.int .i64 0)]),
  (48, [.sym 6], .tup [.sym 7, .lit (.bool true)]),
  (70, [.sym 0, .sym 8], .tup [.sym 9, .lit (.int .i64 0)]),
  (68, [.lit (.bool false), .sym 11, .sym 3], .tup [.sym 12, .lit (.bool b5)])]⟩
theorem DAbove_dn_f_r1 (b6 : Bool) : @comes (DAbove_dn_f_k false false true true true b6) Tryd.prog glT 3000 DAbove_dn_f_f DAbove_dn_f_a = some (.tup [.sym 12, .lit (.int .i64 0)]) := by kernel_rfl
theorem DAbove_dn_f_r2 (b6 : Bool) : @comes (DAbove_dn_f_k false false true true false b6) Tryd.prog glT 3000 DAbove_dn_f_f DAbove_dn_f_a = some (.lit (.tuple #[.float .f64 9218868437227405312, .int .i64 0])) := by kernel_rfl
theorem DAbove_dn_f_r3 (b6 : Bool) : @comes (DAbove_dn_f_k false false true false true b6) Tryd.prog glT 3000 DAbove_dn_f_f DAbove_dn_f_a = some (.tup [.sym 12, .lit (.int .i64 0)]) := by kernel_rfl
theorem DAbove_dn_f_r4 (b6 : Bool) : @comes (DAbove_dn_f_k false false true false false b6) Tryd.prog glT 3000 DAbove_dn_f_f DAbove_dn_f_a = some (.lit (.tuple #[.float .f64 9218868437227405312, .int .i64 0])) := by kernel_rfl
theorem DAbove_dn_f_r5 : @comes (DAbove_dn_f_k false false false true true true) Tryd.prog glT 3000 DAbove_dn_f_f DAbove_dn_f_a = some (.tup [.sym 12, .lit (.int .i64 0)]) := by kernel_rfl
theorem DAbove_dn_f_r6 : @comes (DAbove_dn_f_k false false false true false true) Tryd.prog glT 3000 DAbove_dn_f_f DAbove_dn_f_a = some (.lit (.tuple #[.float .f64 9218868437227405312, .int .i64 0])) := by kernel_rfl
theorem DAbove_dn_f_r7 : @comes (DAbove_dn_f_k false false false false true true) Tryd.prog glT 3000 DAbove_dn_f_f DAbove_dn_f_a = some (.tup [.sym 12, .lit (.int .i64 0)]) := by kernel_rfl
theorem DAbove_dn_f_r8 : @comes (DAbove_dn_f_k false false false false false true) Tryd.prog glT 3000 DAbove_dn_f_f DAbove_dn_f_a = some (.lit (.tuple #[.float .f64 9218868437227405312, .int .i64 0])) := by kernel_rfl
theorem DAbove_dn_f_r9 : @comes (DAbove_dn_f_k false false false true true false) Tryd.prog glT 3000 DAbove_dn_f_f DAbove_dn_f_a = some (.tup [.sym 12, .lit (.int .i64 0)]) := by kernel_rfl
theorem DAbove_dn_f_r10 : @comes (DAbove_dn_f_k false false false true false false) Tryd.prog glT 3000 DAbove_dn_f_f DAbove_dn_f_a = some (.lit (.tuple #[.float .f64 9218868437227405312, .int .i64 0])) := by kernel_rfl
theorem DAbove_dn_f_r11 : @comes (DAbove_dn_f_k false false false false true false) Tryd.prog glT 3000 DAbove_dn_f_f DAbove_dn_f_a = some (.tup [.sym 12, .lit (.int .i64 0)]) := by kernel_rfl
theorem DAbove_dn_f_r12 : @comes (DAbove_dn_f_k false false false false false false) Tryd.prog glT 3000 DAbove_dn_f_f DAbove_dn_f_a = some (.lit (.tuple #[.float .f64 9218868437227405312, .int .i64 0])) := by kernel_rfl
set_option maxRecDepth 100000 in
set_option maxHeartbeats 4000000 in
theorem DAbove_dn_f (n : Nat) (x : Int) (w : World) (hn : (Dy.mk false n x).Num) (h : ¬ 1024 ≤ rT n x) (hu : ¬ rQ n x ≤ x) (hG : Globs glT w) : Calls Tryd.prog 8 #[.agg #[.bool false, .string (natS n), .int .i64 x]] w fun e w' => e = .returned (.tuple #[.float .f64 (rnd false n x (upAbove false n x)), .int .i64 0]) ∧ Below w.heap.size w w' := by
  obtain ⟨b1, i1⟩ := bex (rT n x > 1023)
  obtain ⟨b2, i2⟩ := bex (rQ n x - x ≤ 0)
  obtain ⟨b3, i3⟩ := bex (((rB n x : Nat) : Int) = 0)
  obtain ⟨b4, i4⟩ := bex (((rM n x % 2 : Nat) : Int) = 1)
  obtain ⟨b5, i5⟩ := bex (okP (rM n x + 1) (rQ n x) = true)
  obtain ⟨b6, i6⟩ := bex (rQ n x - x = 1)
  letI : Env := mkEnv glT [.string (natS n), .int .i64 x, .int .i64 (rT n x), .int .i64 (rQ n x), .int .i64 (rQ n x - x), .int .i64 (-(rQ n x - x)), .string (natS (rM n x)), .int .u64 (((rM n x : Nat) : Int)), .int .i64 (rQ n x - x - 1), .int .u8 (((rB n x : Nat) : Int)), .int .u64 (((rM n x % 2 : Nat) : Int)), .int .u64 (((rM n x + 1 : Nat) : Int)), .float .f64 (mkW false (rM n x + 1) (rQ n x))] rfl
  have hops : OpsT Tryd.prog (@Know.ops (DAbove_dn_f_k b1 b2 b3 b4 b5 b6)) := ⟨opt_gtr_i rfl rfl i1,
    opt_sub rfl rfl rfl rfl rfl (by have := (rQ_b n x); have := hn.2.2.1; have := hn.2.2.2; simp only at *; omega),
    opt_neg rfl rfl rfl rfl (by have := (rQ_b n x); have := hn.2.2.1; have := hn.2.2.2; simp only at *; omega),
    opt_leq_i rfl rfl i2,
    opt_sub rfl rfl rfl rfl rfl (by have := (rQ_b n x); have := hn.2.2.1; have := hn.2.2.2; simp only at *; omega),
    opt_eql_i rfl rfl i3,
    opt_odd rfl rfl rfl rfl (by have : rM n x < 9007199254740992 := (rM_b (x := x) (odd_ne hn.2.1)).1; omega),
    opt_eql_i rfl rfl i4,
    opt_add64 (y := 1) rfl rfl rfl rfl rfl (by have : rM n x < 9007199254740992 := (rM_b (x := x) (odd_ne hn.2.1)).1; omega),
    opt_eql_i rfl rfl i6,
    trivial⟩
  have hcalls : CallsT Tryd.prog (@Know.calls (DAbove_dn_f_k b1 b2 b3 b4 b5 b6)) := ⟨callt rfl rfl fun w hG => DCheck_dyr (Dy.mk false n x) (Or.inr hn) w,
    callt rfl rfl fun w hG => DTop_r false n x w hn,
    callt rfl rfl fun w hG => Least_r false n x w hn h,
    callt rfl rfl fun w hG => NShift_r false n x w hn h,
    callt rfl rfl fun w hG => NSmall_r false n x w hn,
    callt rfl rfl fun w hG => NBit_r false n x w hn hu,
    callt rfl rfl fun w hG => bMake_i false (rM n x + 1) (rQ n x) w (rM_b (x := x) (odd_ne hn.2.1)).1 (rQ_b n x).1 (rQ_b n x).2 ((rM_b (x := x) (odd_ne hn.2.1)).2.imp (fun h => Nat.le_succ_of_le h) id) i5 hG,
    trivial⟩
  have fin : ∀ v, @comes (DAbove_dn_f_k b1 b2 b3 b4 b5 b6) Tryd.prog glT 3000 DAbove_dn_f_f DAbove_dn_f_a = some v → ground v = true → Ending.returned (gval v) = .returned (.tuple #[.float .f64 (rnd false n x (upAbove false n x)), .int .i64 0]) → Calls Tryd.prog 8 #[.agg #[.bool false, .string (natS n), .int .i64 x]] w fun e w' => e = .returned (.tuple #[.float .f64 (rnd false n x (upAbove false n x)), .int .i64 0]) ∧ Below w.heap.size w w' := fun v h1 h2 h3 => (@sym_ok _ (DAbove_dn_f_k b1 b2 b3 b4 b5 b6) _ (@KnowOk.of _ (DAbove_dn_f_k b1 b2 b3 b4 b5 b6) _ hops hcalls) (by kernel_rfl) _ _ _ _ h1 rfl h2 _ hG).mono fun e w' h => ⟨h.1.trans h3, h.2⟩
  clear hops hcalls
  cases b3 with
  | true =>
    have h3 : ((rB n x : Nat) : Int) = 0 := i3.1 rfl
    cases b4 with
    | true =>
      have h4 : ((rM n x % 2 : Nat) : Int) = 1 := i4.1 rfl
      cases b5 with
      | true =>
        have h5 : okP (rM n x + 1) (rQ n x) = true := i5.1 rfl
        cases b1 with
        | true =>
          exact absurd (i1.1 rfl) ((by omega))
        | false =>
          have h1 : ¬ (rT n x > 1023) := fun c => Bool.false_ne_true (i1.2 c)
          cases b2 with
          | true =>
            exact absurd (i2.1 rfl) ((by omega))
          | false =>
            have h2 : ¬ (rQ n x - x ≤ 0) := fun c => Bool.false_ne_true (i2.2 c)
            exact fin _ (DAbove_dn_f_r1 b6) rfl (show Ending.returned (.tuple #[.float .f64 (mkW false (rM n x + 1) (rQ n x)), .int .i64 0]) = .returned (.tuple #[.float .f64 (rnd false n x (upAbove false n x)), .int .i64 0]) from by rw [upAbove_t (by rw [(show rW n x = 1 from (by rw [rW_dn hn h hu, if_pos (by have := h3; omega)]))]; decide), rnd_t, mkW_ok h5])
      | false =>
        have h5 : ¬ (okP (rM n x + 1) (rQ n x) = true) := fun c => Bool.false_ne_true (i5.2 c)
        cases b1 with
        | true =>
          exact absurd (i1.1 rfl) ((by omega))
        | false =>
          have h1 : ¬ (rT n x > 1023) := fun c => Bool.false_ne_true (i1.2 c)
          cases b2 with
          | true =>
            exact absurd (i2.1 rfl) ((by omega))
          | false =>
            have h2 : ¬ (rQ n x - x ≤ 0) := fun c => Bool.false_ne_true (i2.2 c)
            exact fin _ (DAbove_dn_f_r2 b6) rfl (show Ending.returned (.tuple #[.float .f64 9218868437227405312, .int .i64 0]) = .returned (.tuple #[.float .f64 (rnd false n x (upAbove false n x)), .int .i64 0]) from by rw [upAbove_t (by rw [(show rW n x = 1 from (by rw [rW_dn hn h hu, if_pos (by have := h3; omega)]))]; decide), rnd_t, inf_f h5])
    | false =>
      have h4 : ¬ (((rM n x % 2 : Nat) : Int) = 1) := fun c => Bool.false_ne_true (i4.2 c)
      cases b5 with
      | true =>
        have h5 : okP (rM n x + 1) (rQ n x) = true := i5.1 rfl
        cases b1 with
        | true =>
          exact absurd (i1.1 rfl) ((by omega))
        | false =>
          have h1 : ¬ (rT n x > 1023) := fun c => Bool.false_ne_true (i1.2 c)
          cases b2 with
          | true =>
            exact absurd (i2.1 rfl) ((by omega))
          | false =>
            have h2 : ¬ (rQ n x - x ≤ 0) := fun c => Bool.false_ne_true (i2.2 c)
            exact fin _ (DAbove_dn_f_r3 b6) rfl (show Ending.returned (.tuple #[.float .f64 (mkW false (rM n x + 1) (rQ n x)), .int .i64 0]) = .returned (.tuple #[.float .f64 (rnd false n x (upAbove false n x)), .int .i64 0]) from by rw [upAbove_t (by rw [(show rW n x = 1 from (by rw [rW_dn hn h hu, if_pos (by have := h3; omega)]))]; decide), rnd_t, mkW_ok h5])
      | false =>
        have h5 : ¬ (okP (rM n x + 1) (rQ n x) = true) := fun c => Bool.false_ne_true (i5.2 c)
        cases b1 with
        | true =>
          exact absurd (i1.1 rfl) ((by omega))
        | false =>
          have h1 : ¬ (rT n x > 1023) := fun c => Bool.false_ne_true (i1.2 c)
          cases b2 with
          | true =>
            exact absurd (i2.1 rfl) ((by omega))
          | false =>
            have h2 : ¬ (rQ n x - x ≤ 0) := fun c => Bool.false_ne_true (i2.2 c)
            exact fin _ (DAbove_dn_f_r4 b6) rfl (show Ending.returned (.tuple #[.float .f64 9218868437227405312, .int .i64 0]) = .returned (.tuple #[.float .f64 (rnd false n x (upAbove false n x)), .int .i64 0]) from by rw [upAbove_t (by rw [(show rW n x = 1 from (by rw [rW_dn hn h hu, if_pos (by have := h3; omega)]))]; decide), rnd_t, inf_f h5])
  | false =>
    have h3 : ¬ (((rB n x : Nat) : Int) = 0) := fun c => Bool.false_ne_true (i3.2 c)
    cases b6 with
    | true =>
      have h6 : rQ n x - x = 1 := i6.1 rfl
      cases b4 with
      | true =>
        have h4 : ((rM n x % 2 : Nat) : Int) = 1 := i4.1 rfl
        cases b5 with
        | true =>
          have h5 : okP (rM n x + 1) (rQ n x) = true := i5.1 rfl
          cases b1 with
          | true =>
            exact absurd (i1.1 rfl) ((by omega))
          | false =>
            have h1 : ¬ (rT n x > 1023) := fun c => Bool.false_ne_true (i1.2 c)
            cases b2 with
            | true =>
              exact absurd (i2.1 rfl) ((by omega))
            | false =>
              have h2 : ¬ (rQ n x - x ≤ 0) := fun c => Bool.false_ne_true (i2.2 c)
              exact fin _ (DAbove_dn_f_r5) rfl (show Ending.returned (.tuple #[.float .f64 (mkW false (rM n x + 1) (rQ n x)), .int .i64 0]) = .returned (.tuple #[.float .f64 (rnd false n x (upAbove false n x)), .int .i64 0]) from by rw [upAbove_t (by rw [(show rW n x = 2 from (by rw [rW_dn hn h hu, if_neg (fun c => h3 (by rw [c]; rfl)), if_pos h6]))]; decide), rnd_t, mkW_ok h5])
        | false =>
          have h5 : ¬ (okP (rM n x + 1) (rQ n x) = true) := fun c => Bool.false_ne_true (i5.2 c)
          cases b1 with
          | true =>
            exact absurd (i1.1 rfl) ((by omega))
          | false =>
            have h1 : ¬ (rT n x > 1023) := fun c => Bool.false_ne_true (i1.2 c)
            cases b2 with
            | true =>
              exact absurd (i2.1 rfl) ((by omega))
            | false =>
              have h2 : ¬ (rQ n x - x ≤ 0) := fun c => Bool.false_ne_true (i2.2 c)
              exact fin _ (DAbove_dn_f_r6) rfl (show Ending.returned (.tuple #[.float .f64 9218868437227405312, .int .i64 0]) = .returned (.tuple #[.float .f64 (rnd false n x (upAbove false n x)), .int .i64 0]) from by rw [upAbove_t (by rw [(show rW n x = 2 from (by rw [rW_dn hn h hu, if_neg (fun c => h3 (by rw [c]; rfl)), if_pos h6]))]; decide), rnd_t, inf_f h5])
      | false =>
        have h4 : ¬ (((rM n x % 2 : Nat) : Int) = 1) := fun c => Bool.false_ne_true (i4.2 c)
        cases b5 with
        | true =>
          have h5 : okP (rM n x + 1) (rQ n x) = true := i5.1 rfl
          cases b1 with
          | true =>
            exact absurd (i1.1 rfl) ((by omega))
          | false =>
            have h1 : ¬ (rT n x > 1023) := fun c => Bool.false_ne_true (i1.2 c)
            cases b2 with
            | true =>
              exact absurd (i2.1 rfl) ((by omega))
            | false =>
              have h2 : ¬ (rQ n x - x ≤ 0) := fun c => Bool.false_ne_true (i2.2 c)
              exact fin _ (DAbove_dn_f_r7) rfl (show Ending.returned (.tuple #[.float .f64 (mkW false (rM n x + 1) (rQ n x)), .int .i64 0]) = .returned (.tuple #[.float .f64 (rnd false n x (upAbove false n x)), .int .i64 0]) from by rw [upAbove_t (by rw [(show rW n x = 2 from (by rw [rW_dn hn h hu, if_neg (fun c => h3 (by rw [c]; rfl)), if_pos h6]))]; decide), rnd_t, mkW_ok h5])
        | false =>
          have h5 : ¬ (okP (rM n x + 1) (rQ n x) = true) := fun c => Bool.false_ne_true (i5.2 c)
          cases b1 with
          | true =>
            exact absurd (i1.1 rfl) ((by omega))
          | false =>
            have h1 : ¬ (rT n x > 1023) := fun c => Bool.false_ne_true (i1.2 c)
            cases b2 with
            | true =>
              exact absurd (i2.1 rfl) ((by omega))
            | false =>
              have h2 : ¬ (rQ n x - x ≤ 0) := fun c => Bool.false_ne_true (i2.2 c)
              exact fin _ (DAbove_dn_f_r8) rfl (show Ending.returned (.tuple #[.float .f64 9218868437227405312, .int .i64 0]) = .returned (.tuple #[.float .f64 (rnd false n x (upAbove false n x)), .int .i64 0]) from by rw [upAbove_t (by rw [(show rW n x = 2 from (by rw [rW_dn hn h hu, if_neg (fun c => h3 (by rw [c]; rfl)), if_pos h6]))]; decide), rnd_t, inf_f h5])
    | false =>
      have h6 : ¬ (rQ n x - x = 1) := fun c => Bool.false_ne_true (i6.2 c)
      cases b4 with
      | true =>
        have h4 : ((rM n x % 2 : Nat) : Int) = 1 := i4.1 rfl
        cases b5 with
        | true =>
          have h5 : okP (rM n x + 1) (rQ n x) = true := i5.1 rfl
          cases b1 with
          | true =>
            exact absurd (i1.1 rfl) ((by omega))
          | false =>
            have h1 : ¬ (rT n x > 1023) := fun c => Bool.false_ne_true (i1.2 c)
            cases b2 with
            | true =>
              exact absurd (i2.1 rfl) ((by omega))
            | false =>
              have h2 : ¬ (rQ n x - x ≤ 0) := fun c => Bool.false_ne_true (i2.2 c)
              exact fin _ (DAbove_dn_f_r9) rfl (show Ending.returned (.tuple #[.float .f64 (mkW false (rM n x + 1) (rQ n x)), .int .i64 0]) = .returned (.tuple #[.float .f64 (rnd false n x (upAbove false n x)), .int .i64 0]) from by rw [upAbove_t (by rw [(show rW n x = 3 from (by rw [rW_dn hn h hu, if_neg (fun c => h3 (by rw [c]; rfl)), if_neg h6]))]; decide), rnd_t, mkW_ok h5])
        | false =>
          have h5 : ¬ (okP (rM n x + 1) (rQ n x) = true) := fun c => Bool.false_ne_true (i5.2 c)
          cases b1 with
          | true =>
            exact absurd (i1.1 rfl) ((by omega))
          | false =>
            have h1 : ¬ (rT n x > 1023) := fun c => Bool.false_ne_true (i1.2 c)
            cases b2 with
            | true =>
              exact absurd (i2.1 rfl) ((by omega))
            | false =>
              have h2 : ¬ (rQ n x - x ≤ 0) := fun c => Bool.false_ne_true (i2.2 c)
              exact fin _ (DAbove_dn_f_r10) rfl (show Ending.returned (.tuple #[.float .f64 9218868437227405312, .int .i64 0]) = .returned (.tuple #[.float .f64 (rnd false n x (upAbove false n x)), .int .i64 0]) from by rw [upAbove_t (by rw [(show rW n x = 3 from (by rw [rW_dn hn h hu, if_neg (fun c => h3 (by rw [c]; rfl)), if_neg h6]))]; decide), rnd_t, inf_f h5])
      | false =>
        have h4 : ¬ (((rM n x % 2 : Nat) : Int) = 1) := fun c => Bool.false_ne_true (i4.2 c)
        cases b5 with
        | true =>
          have h5 : okP (rM n x + 1) (rQ n x) = true := i5.1 rfl
          cases b1 with
          | true =>
            exact absurd (i1.1 rfl) ((by omega))
          | false =>
            have h1 : ¬ (rT n x > 1023) := fun c => Bool.false_ne_true (i1.2 c)
            cases b2 with
            | true =>
              exact absurd (i2.1 rfl) ((by omega))
            | false =>
              have h2 : ¬ (rQ n x - x ≤ 0) := fun c => Bool.false_ne_true (i2.2 c)
              exact fin _ (DAbove_dn_f_r11) rfl (show Ending.returned (.tuple #[.float .f64 (mkW false (rM n x + 1) (rQ n x)), .int .i64 0]) = .returned (.tuple #[.float .f64 (rnd false n x (upAbove false n x)), .int .i64 0]) from by rw [upAbove_t (by rw [(show rW n x = 3 from (by rw [rW_dn hn h hu, if_neg (fun c => h3 (by rw [c]; rfl)), if_neg h6]))]; decide), rnd_t, mkW_ok h5])
        | false =>
          have h5 : ¬ (okP (rM n x + 1) (rQ n x) = true) := fun c => Bool.false_ne_true (i5.2 c)
          cases b1 with
          | true =>
            exact absurd (i1.1 rfl) ((by omega))
          | false =>
            have h1 : ¬ (rT n x > 1023) := fun c => Bool.false_ne_true (i1.2 c)
            cases b2 with
            | true =>
              exact absurd (i2.1 rfl) ((by omega))
            | false =>
              have h2 : ¬ (rQ n x - x ≤ 0) := fun c => Bool.false_ne_true (i2.2 c)
              exact fin _ (DAbove_dn_f_r12) rfl (show Ending.returned (.tuple #[.float .f64 9218868437227405312, .int .i64 0]) = .returned (.tuple #[.float .f64 (rnd false n x (upAbove false n x)), .int .i64 0]) from by rw [upAbove_t (by rw [(show rW n x = 3 from (by rw [rW_dn hn h hu, if_neg (fun c => h3 (by rw [c]; rfl)), if_neg h6]))]; decide), rnd_t, inf_f h5])
theorem DAbove_f (n : Nat) (x : Int) (w : World) (hn : (Dy.mk false n x).Num) (hG : Globs glT w) : Calls Tryd.prog 8 #[.agg #[.bool false, .string (natS n), .int .i64 x]] w fun e w' => e = .returned (.tuple #[.float .f64 (rnd false n x (upAbove false n x)), .int .i64 0]) ∧ Below w.heap.size w w' := by
  by_cases h : 1024 ≤ rT n x
  · exact DAbove_far_f n x w hn h hG
  · by_cases hu : rQ n x ≤ x
    · exact DAbove_up_f n x w hn h hu hG
    · exact DAbove_dn_f n x w hn h hu hG
@[reducible] def DAbove_far_t_f : FuncId := 8
@[reducible] def DAbove_far_t_a : List AV := [.agg [.lit (.bool true), .sym 0, .sym 1]]
@[reducible] noncomputable def DAbove_far_t_k (b1 b2 : Bool) : Know := ⟨[([0, 15, 3], [.sym 2, .lit (.int .i64 1023)], .lit (.bool b2))],
  [(12, [.agg [.lit (.bool true), .sym 0, .sym 1]], .lit (.int .i64 0)),
  (44, [.agg [.lit (.bool true), .sym 0, .sym 1]], .tup [.sym 2, .lit (.bool true)]),
  (68, [.lit (.bool true), .lit (.int .u64 9007199254740991), .lit (.int .i64 971)], .tup [.sym 3, .lit (.bool b1)])]⟩
theorem DAbove_far_t_r1 : @comes (DAbove_far_t_k true true) Tryd.prog glT 3000 DAbove_far_t_f DAbove_far_t_a = some (.tup [.sym 3, .lit (.int .i64 0)]) := by kernel_rfl
set_option maxRecDepth 100000 in
set_option maxHeartbeats 4000000 in
theorem DAbove_far_t (n : Nat) (x : Int) (w : World) (hn : (Dy.mk true n x).Num) (h : 1024 ≤ rT n x) (hG : Globs glT w) : Calls Tryd.prog 8 #[.agg #[.bool true, .string (natS n), .int .i64 x]] w fun e w' => e = .returned (.tuple #[.float .f64 (rnd true n x (upAbove true n x)), .int .i64 0]) ∧ Below w.heap.size w w' := by
  obtain ⟨b1, i1⟩ := bex (okP 9007199254740991 971 = true)
  obtain ⟨b2, i2⟩ := bex (rT n x > 1023)
  letI : Env := mkEnv glT [.string (natS n), .int .i64 x, .int .i64 (rT n x), .float .f64 (mkW true 9007199254740991 971)] rfl
  have hops : OpsT Tryd.prog (@Know.ops (DAbove_far_t_k b1 b2)) := ⟨opt_gtr_i rfl rfl i2,
    trivial⟩
  have hcalls : CallsT Tryd.prog (@Know.calls (DAbove_far_t_k b1 b2)) := ⟨callt rfl rfl fun w hG => DCheck_dyr (Dy.mk true n x) (Or.inr hn) w,
    callt rfl rfl fun w hG => DTop_r true n x w hn,
    callt rfl rfl fun w hG => bMake_i true 9007199254740991 971 w (by omega) (by omega) (by omega) (Or.inl (by omega)) i1 hG,
    trivial⟩
  have fin : ∀ v, @comes (DAbove_far_t_k b1 b2) Tryd.prog glT 3000 DAbove_far_t_f DAbove_far_t_a = some v → ground v = true → Ending.returned (gval v) = .returned (.tuple #[.float .f64 (rnd true n x (upAbove true n x)), .int .i64 0]) → Calls Tryd.prog 8 #[.agg #[.bool true, .string (natS n), .int .i64 x]] w fun e w' => e = .returned (.tuple #[.float .f64 (rnd true n x (upAbove true n x)), .int .i64 0]) ∧ Below w.heap.size w w' := fun v h1 h2 h3 => (@sym_ok _ (DAbove_far_t_k b1 b2) _ (@KnowOk.of _ (DAbove_far_t_k b1 b2) _ hops hcalls) (by kernel_rfl) _ _ _ _ h1 rfl h2 _ hG).mono fun e w' h => ⟨h.1.trans h3, h.2⟩
  clear hops hcalls
  cases b1 with
  | true =>
    have h1 : okP 9007199254740991 971 = true := i1.1 rfl
    cases b2 with
    | true =>
      have h2 : rT n x > 1023 := i2.1 rfl
      exact fin _ (DAbove_far_t_r1) rfl (show Ending.returned (.tuple #[.float .f64 (mkW true 9007199254740991 971), .int .i64 0]) = .returned (.tuple #[.float .f64 (rnd true n x (upAbove true n x)), .int .i64 0]) from by rw [upAbove_n n x, rnd_f, (rQ_far h).1, (rQ_far h).2.1, mkW_ok h1])
    | false =>
      exact absurd (i2.2 ((by omega))) Bool.false_ne_true
  | false =>
    exact absurd (i1.2 (okP_lt (by omega))) Bool.false_ne_true
@[reducible] def DAbove_up_t_f : FuncId := 8
@[reducible] def DAbove_up_t_a : List AV := [.agg [.lit (.bool true), .sym 0, .sym 1]]
@[reducible] noncomputable def DAbove_up_t_k (b1 b2 b3 : Bool) : Know := ⟨[([0, 15, 3], [.sym 2, .lit (.int .i64 1023)], .lit (.bool b1)),
  ([0, 1, 3], [.sym 3, .sym 1], .sym 4),
  ([1, 0, 3], [.sym 4], .sym 5),
  ([0, 14, 3], [.sym 4, .lit (.int .i64 0)], .lit (.bool b3))],
  [(12, [.agg [.lit (.bool true), .sym 0, .sym 1]], .lit (.int .i64 0)),
  (44, [.agg [.lit (.bool true), .sym 0, .sym 1]], .tup [.sym 2, .lit (.bool true)]),
  (46, [.sym 2], .sym 3),
  (47, [.sym 0, .sym 5], .tup [.sym 6, .lit (.int .i64 0)]),
  (48, [.sym 6], .tup [.sym 7, .lit (.bool true)]),
  (68, [.lit (.bool true), .sym 7, .sym 3], .tup [.sym 8, .lit (.bool b2)])]⟩
theorem DAbove_up_t_r1 : @comes (DAbove_up_t_k false true true) Tryd.prog glT 3000 DAbove_up_t_f DAbove_up_t_a = some (.tup [.sym 8, .lit (.int .i64 0)]) := by kernel_rfl
set_option maxRecDepth 100000 in
set_option maxHeartbeats 4000000 in
theorem DAbove_up_t (n : Nat) (x : Int) (w : World) (hn : (Dy.mk true n x).Num) (h : ¬ 1024 ≤ rT n x) (hu : rQ n x ≤ x) (hG : Globs glT w) : Calls Tryd.prog 8 #[.agg #[.bool true, .string (natS n), .int .i64 x]] w fun e w' => e = .returned (.tuple #[.float .f64 (rnd true n x (upAbove true n x)), .int .i64 0]) ∧ Below w.heap.size w w' := by
  obtain ⟨b1, i1⟩ := bex (rT n x > 1023)
  obtain ⟨b2, i2⟩ := bex (okP (rM n x) (rQ n x) = true)
  obtain ⟨b3, i3⟩ := bex (rQ n x - x ≤ 0)
  letI : Env := mkEnv glT [.string (natS n), .int .i64 x, .int .i64 (rT n x), .int .i64 (rQ n x), .int .i64 (rQ n x - x), .int .i64 (-(rQ n x - x)), .string (natS (rM n x)), .int .u64 (((rM n x : Nat) : Int)), .float .f64 (mkW true (rM n x) (rQ n x))] rfl
  have hops : OpsT Tryd.prog (@Know.ops (DAbove_up_t_k b1 b2 b3)) := ⟨opt_gtr_i rfl rfl i1,
    opt_sub rfl rfl rfl rfl rfl (by have := (rQ_b n x); have := hn.2.2.1; have := hn.2.2.2; simp only at *; omega),
    opt_neg rfl rfl rfl rfl (by have := (rQ_b n x); have := hn.2.2.1; have := hn.2.2.2; simp only at *; omega),
    opt_leq_i rfl rfl i3,
    trivial⟩
  have hcalls : CallsT Tryd.prog (@Know.calls (DAbove_up_t_k b1 b2 b3)) := ⟨callt rfl rfl fun w hG => DCheck_dyr (Dy.mk true n x) (Or.inr hn) w,
    callt rfl rfl fun w hG => DTop_r true n x w hn,
    callt rfl rfl fun w hG => Least_r true n x w hn h,
    callt rfl rfl fun w hG => NShift_r true n x w hn h,
    callt rfl rfl fun w hG => NSmall_r true n x w hn,
    callt rfl rfl fun w hG => bMake_i true (rM n x) (rQ n x) w (Nat.le_of_lt (rM_b (x := x) (odd_ne hn.2.1)).1) (rQ_b n x).1 (rQ_b n x).2 (rM_b (x := x) (odd_ne hn.2.1)).2 i2 hG,
    trivial⟩
  have fin : ∀ v, @comes (DAbove_up_t_k b1 b2 b3) Tryd.prog glT 3000 DAbove_up_t_f DAbove_up_t_a = some v → ground v = true → Ending.returned (gval v) = .returned (.tuple #[.float .f64 (rnd true n x (upAbove true n x)), .int .i64 0]) → Calls Tryd.prog 8 #[.agg #[.bool true, .string (natS n), .int .i64 x]] w fun e w' => e = .returned (.tuple #[.float .f64 (rnd true n x (upAbove true n x)), .int .i64 0]) ∧ Below w.heap.size w w' := fun v h1 h2 h3 => (@sym_ok _ (DAbove_up_t_k b1 b2 b3) _ (@KnowOk.of _ (DAbove_up_t_k b1 b2 b3) _ hops hcalls) (by kernel_rfl) _ _ _ _ h1 rfl h2 _ hG).mono fun e w' h => ⟨h.1.trans h3, h.2⟩
  clear hops hcalls
  cases b2 with
  | true =>
    have h2 : okP (rM n x) (rQ n x) = true := i2.1 rfl
    cases b1 with
    | true =>
      exact absurd (i1.1 rfl) ((by omega))
    | false =>
      have h1 : ¬ (rT n x > 1023) := fun c => Bool.false_ne_true (i1.2 c)
      cases b3 with
      | true =>
        have h3 : rQ n x - x ≤ 0 := i3.1 rfl
        exact fin _ (DAbove_up_t_r1) rfl (show Ending.returned (.tuple #[.float .f64 (mkW true (rM n x) (rQ n x)), .int .i64 0]) = .returned (.tuple #[.float .f64 (rnd true n x (upAbove true n x)), .int .i64 0]) from by rw [upAbove_n n x, rnd_f, mkW_ok h2])
      | false =>
        exact absurd (i3.2 ((by omega))) Bool.false_ne_true
  | false =>
    exact absurd (i2.2 (okP_lt (rM_b (x := x) (odd_ne hn.2.1)).1)) Bool.false_ne_true
@[reducible] def DAbove_dn_t_f : FuncId := 8
@[reducible] def DAbove_dn_t_a : List AV := [.agg [.lit (.bool true), .sym 0, .sym 1]]
@[reducible] noncomputable def DAbove_dn_t_k (b1 b2 b3 b4 b5 b6 : Bool) : Know := ⟨[([0, 15, 3], [.sym 2, .lit (.int .i64 1023)], .lit (.bool b1)),
  ([0, 1, 3], [.sym 3, .sym 1], .sym 4),
  ([1, 0, 3], [.sym 4], .sym 5),
  ([0, 14, 3], [.sym 4, .lit (.int .i64 0)], .lit (.bool b3)),
  ([0, 1, 3], [.sym 4, .lit (.int .i64 1)], .sym 9),
  ([0, 11, 5], [.sym 10, .lit (.int .u8 0)], .lit (.bool b4)),
  ([0, 5, 44], [.sym 7, .lit (.int .u64 1)], .sym 11),
  ([0, 11, 44], [.sym 11, .lit (.int .u64 1)], .lit (.bool b5)),
  ([0, 11, 3], [.sym 4, .lit (.int .i64 1)], .lit (.bool b6))],
  [(12, [.agg [.lit (.bool true), .sym 0, .sym 1]], .lit (.int .i64 0)),
  (44, [.agg [.lit (.bool true), .sym 0, .sym 1]], .tup [.sym 2, .lit (.bool true)]),
  (46, [.sym 2], .sym 3),
  (47, [.sym 0, .sym 5], .tup [.sym 6, .lit (.int .i64 0)]),
  (48, [.sym 6], .tup [.sym 7, .lit (.bool true)]),
  (68, [.lit (.bool true), .sym 7, .sym 3], .tup [.sym 8, .lit (.bool b2)]),
  (70, [.sym 0, .sym 9], .tup [.sym 10, .lit (.int .i64 0)])]⟩
theorem DAbove_dn_t_r1 (b6 : Bool) : @comes (DAbove_dn_t_k false true false true true b6) Tryd.prog glT 3000 DAbove_dn_t_f DAbove_dn_t_a = some (.tup [.sym 8, .lit (.int .i64 0)]) := by kernel_rfl
theorem DAbove_dn_t_r2 (b6 : Bool) : @comes (DAbove_dn_t_k false true false true false b6) Tryd.prog glT 3000 DAbove_dn_t_f DAbove_dn_t_a = some (.tup [.sym 8, .lit (.int .i64 0)]) := by kernel_rfl
theorem DAbove_dn_t_r3 : @comes (DAbove_dn_t_k false true false false true true) Tryd.prog glT 3000 DAbove_dn_t_f DAbove_dn_t_a = some (.tup [.sym 8, .lit (.int .i64 0)]) := by kernel_rfl
theorem DAbove_dn_t_r4 : @comes (DAbove_dn_t_k false true false false false true) Tryd.prog glT 3000 DAbove_dn_t_f DAbove_dn_t_a = some (.tup [.sym 8, .lit (.int .i64 0)]) := by kernel_rfl
theorem DAbove_dn_t_r5 : @comes (DAbove_dn_t_k false true false false true false) Tryd.prog glT 3000 DAbove_dn_t_f DAbove_dn_t_a = some (.tup [.sym 8, .lit (.int .i64 0)]) := by kernel_rfl
theorem DAbove_dn_t_r6 : @comes (DAbove_dn_t_k false true false false false false) Tryd.prog glT 3000 DAbove_dn_t_f DAbove_dn_t_a = some (.tup [.sym 8, .lit (.int .i64 0)]) := by kernel_rfl
set_option maxRecDepth 100000 in
set_option maxHeartbeats 4000000 in
theorem DAbove_dn_t (n : Nat) (x : Int) (w : World) (hn : (Dy.mk true n x).Num) (h : ¬ 1024 ≤ rT n x) (hu : ¬ rQ n x ≤ x) (hG : Globs glT w) : Calls Tryd.prog 8 #[.agg #[.bool true, .string (natS n), .int .i64 x]] w fun e w' => e = .returned (.tuple #[.float .f64 (rnd true n x (upAbove true n x)), .int .i64 0]) ∧ Below w.heap.size w w' := by
  obtain ⟨b1, i1⟩ := bex (rT n x > 1023)
  obtain ⟨b2, i2⟩ := bex (okP (rM n x) (rQ n x) = true)
  obtain ⟨b3, i3⟩ := bex (rQ n x - x ≤ 0)
  obtain ⟨b4, i4⟩ := bex (((rB n x : Nat) : Int) = 0)
  obtain ⟨b5, i5⟩ := bex (((rM n x % 2 : Nat) : Int) = 1)
  obtain ⟨b6, i6⟩ := bex (rQ n x - x = 1)
  letI : Env := mkEnv glT [.string (natS n), .int .i64 x, .int .i64 (rT n x), .int .i64 (rQ n x), .int .i64 (rQ n x - x), .int .i64 (-(rQ n x - x)), .string (natS (rM n x)), .int .u64 (((rM n x : Nat) : Int)), .float .f64 (mkW true (rM n x) (rQ n x)), .int .i64 (rQ n x - x - 1), .int .u8 (((rB n x : Nat) : Int)), .int .u64 (((rM n x % 2 : Nat) : Int))] rfl
  have hops : OpsT Tryd.prog (@Know.ops (DAbove_dn_t_k b1 b2 b3 b4 b5 b6)) := ⟨opt_gtr_i rfl rfl i1,
    opt_sub rfl rfl rfl rfl rfl (by have := (rQ_b n x); have := hn.2.2.1; have := hn.2.2.2; simp only at *; omega),
    opt_neg rfl rfl rfl rfl (by have := (rQ_b n x); have := hn.2.2.1; have := hn.2.2.2; simp only at *; omega),
    opt_leq_i rfl rfl i3,
    opt_sub rfl rfl rfl rfl rfl (by have := (rQ_b n x); have := hn.2.2.1; have := hn.2.2.2; simp only at *; omega),
    opt_eql_i rfl rfl i4,
    opt_odd rfl rfl rfl rfl (by have : rM n x < 9007199254740992 := (rM_b (x := x) (odd_ne hn.2.1)).1; omega),
    opt_eql_i rfl rfl i5,
    opt_eql_i rfl rfl i6,
    trivial⟩
  have hcalls : CallsT Tryd.prog (@Know.calls (DAbove_dn_t_k b1 b2 b3 b4 b5 b6)) := ⟨callt rfl rfl fun w hG => DCheck_dyr (Dy.mk true n x) (Or.inr hn) w,
    callt rfl rfl fun w hG => DTop_r true n x w hn,
    callt rfl rfl fun w hG => Least_r true n x w hn h,
    callt rfl rfl fun w hG => NShift_r true n x w hn h,
    callt rfl rfl fun w hG => NSmall_r true n x w hn,
    callt rfl rfl fun w hG => bMake_i true (rM n x) (rQ n x) w (Nat.le_of_lt (rM_b (x := x) (odd_ne hn.2.1)).1) (rQ_b n x).1 (rQ_b n x).2 (rM_b (x := x) (odd_ne hn.2.1)).2 i2 hG,
    callt rfl rfl fun w hG => NBit_r true n x w hn hu,
    trivial⟩
  have fin : ∀ v, @comes (DAbove_dn_t_k b1 b2 b3 b4 b5 b6) Tryd.prog glT 3000 DAbove_dn_t_f DAbove_dn_t_a = some v → ground v = true → Ending.returned (gval v) = .returned (.tuple #[.float .f64 (rnd true n x (upAbove true n x)), .int .i64 0]) → Calls Tryd.prog 8 #[.agg #[.bool true, .string (natS n), .int .i64 x]] w fun e w' => e = .returned (.tuple #[.float .f64 (rnd true n x (upAbove true n x)), .int .i64 0]) ∧ Below w.heap.size w w' := fun v h1 h2 h3 => (@sym_ok _ (DAbove_dn_t_k b1 b2 b3 b4 b5 b6) _ (@KnowOk.of _ (DAbove_dn_t_k b1 b2 b3 b4 b5 b6) _ hops hcalls) (by kernel_rfl) _ _ _ _ h1 rfl h2 _ hG).mono fun e w' h => ⟨h.1.trans h3, h.2⟩
  clear hops hcalls
  cases b4 with
  | true =>
    have h4 : ((rB n x : Nat) : Int) = 0 := i4.1 rfl
    cases b5 with
    | true =>
      have h5 : ((rM n x % 2 : Nat) : Int) = 1 := i5.1 rfl
      cases b2 with
      | true =>
        have h2 : okP (rM n x) (rQ n x) = true := i2.1 rfl
        cases b1 with
        | true =>
          exact absurd (i1.1 rfl) ((by omega))
        | false =>
          have h1 : ¬ (rT n x > 1023) := fun c => Bool.false_ne_true (i1.2 c)
          cases b3 with
          | true =>
            exact absurd (i3.1 rfl) ((by omega))
          | false =>
            have h3 : ¬ (rQ n x - x ≤ 0) := fun c => Bool.false_ne_true (i3.2 c)
            exact fin _ (DAbove_dn_t_r1 b6) rfl (show Ending.returned (.tuple #[.float .f64 (mkW true (rM n x) (rQ n x)), .int .i64 0]) = .returned (.tuple #[.float .f64 (rnd true n x (upAbove true n x)), .int .i64 0]) from by rw [upAbove_n n x, rnd_f, mkW_ok h2])
      | false =>
        exact absurd (i2.2 (okP_lt (rM_b (x := x) (odd_ne hn.2.1)).1)) Bool.false_ne_true
    | false =>
      have h5 : ¬ (((rM n x % 2 : Nat) : Int) = 1) := fun c => Bool.false_ne_true (i5.2 c)
      cases b2 with
      | true =>
        have h2 : okP (rM n x) (rQ n x) = true := i2.1 rfl
        cases b1 with
        | true =>
          exact absurd (i1.1 rfl) ((by omega))
        | false =>
          have h1 : ¬ (rT n x > 1023) := fun c => Bool.false_ne_true (i1.2 c)
          cases b3 with
          | true =>
            exact absurd (i3.1 rfl) ((by omega))
          | false =>
            have h3 : ¬ (rQ n x - x ≤ 0) := fun c => Bool.false_ne_true (i3.2 c)
            exact fin _ (DAbove_dn_t_r2 b6) rfl (show Ending.returned (.tuple #[.float .f64 (mkW true (rM n x) (rQ n x)), .int .i64 0]) = .returned (.tuple #[.float .f64 (rnd true n x (upAbove true n x)), .int .i64 0]) from by rw [upAbove_n n x, rnd_f, mkW_ok h2])
      | false =>
        exact absurd (i2.2 (okP_lt (rM_b (x := x) (odd_ne hn.2.1)).1)) Bool.false_ne_true
  | false =>
    have h4 : ¬ (((rB n x : Nat) : Int) = 0) := fun c => Bool.false_ne_true (i4.2 c)
    cases b6 with
    | true =>
      have h6 : rQ n x - x = 1 := i6.1 rfl
      cases b5 with
      | true =>
        have h5 : ((rM n x % 2 : Nat) : Int) = 1 := i5.1 rfl
        cases b2 with
        | true =>
          have h2 : okP (rM n x) (rQ n x) = true := i2.1 rfl
          cases b1 with
          | true =>
            exact absurd (i1.1 rfl) ((by omega))
          | false =>
            have h1 : ¬ (rT n x > 1023) := fun c => Bool.false_ne_true (i1.2 c)
            cases b3 with
            | true =>
              exact absurd (i3.1 rfl) ((by omega))
            | false =>
              have h3 : ¬ (rQ n x - x ≤ 0) := fun c => Bool.false_ne_true (i3.2 c)
              exact fin _ (DAbove_dn_t_r3) rfl (show Ending.returned (.tuple #[.float .f64 (mkW true (rM n x) (rQ n x)), .int .i64 0]) = .returned (.tuple #[.float .f64 (rnd true n x (upAbove true n x)), .int .i64 0]) from by rw [upAbove_n n x, rnd_f, mkW_ok h2])
        | false =>
          exact absurd (i2.2 (okP_lt (rM_b (x := x) (odd_ne hn.2.1)).1)) Bool.false_ne_true
      | false =>
        have h5 : ¬ (((rM n x % 2 : Nat) : Int) = 1) := fun c => Bool.false_ne_true (i5.2 c)
        cases b2 with
        | true =>
          have h2 : okP (rM n x) (rQ n x) = true := i2.1 rfl
          cases b1 with
          | true =>
            exact absurd (i1.1 rfl) ((by omega))
          | false =>
            have h1 : ¬ (rT n x > 1023) := fun c => Bool.false_ne_true (i1.2 c)
            cases b3 with
            | true =>
              exact absurd (i3.1 rfl) ((by omega))
            | false =>
              have h3 : ¬ (rQ n x - x ≤ 0) := fun c => Bool.false_ne_true (i3.2 c)
              exact fin _ (DAbove_dn_t_r4) rfl (show Ending.returned (.tuple #[.float .f64 (mkW true (rM n x) (rQ n x)), .int .i64 0]) = .returned (.tuple #[.float .f64 (rnd true n x (upAbove true n x)), .int .i64 0]) from by rw [upAbove_n n x, rnd_f, mkW_ok h2])
        | false =>
          exact absurd (i2.2 (okP_lt (rM_b (x := x) (odd_ne hn.2.1)).1)) Bool.false_ne_true
    | false =>
      have h6 : ¬ (rQ n x - x = 1) := fun c => Bool.false_ne_true (i6.2 c)
      cases b5 with
      | true =>
        have h5 : ((rM n x % 2 : Nat) : Int) = 1 := i5.1 rfl
        cases b2 with
        | true =>
          have h2 : okP (rM n x) (rQ n x) = true := i2.1 rfl
          cases b1 with
          | true =>
            exact absurd (i1.1 rfl) ((by omega))
          | false =>
            have h1 : ¬ (rT n x > 1023) := fun c => Bool.false_ne_true (i1.2 c)
            cases b3 with
            | true =>
              exact absurd (i3.1 rfl) ((by omega))
            | false =>
              have h3 : ¬ (rQ n x - x ≤ 0) := fun c => Bool.false_ne_true (i3.2 c)
              exact fin _ (DAbove_dn_t_r5) rfl (show Ending.returned (.tuple #[.float .f64 (mkW true (rM n x) (rQ n x)), .int .i64 0]) = .returned (.tuple #[.float .f64 (rnd true n x (upAbove true n x)), .int .i64 0]) from by rw [upAbove_n n x, rnd_f, mkW_ok h2])
        | false =>
          exact absurd (i2.2 (okP_lt (rM_b (x := x) (odd_ne hn.2.1)).1)) Bool.false_ne_true
      | false =>
        have h5 : ¬ (((rM n x % 2 : Nat) : Int) = 1) := fun c => Bool.false_ne_true (i5.2 c)
        cases b2 with
        | true =>
          have h2 : okP (rM n x) (rQ n x) = true := i2.1 rfl
          cases b1 with
          | true =>
            exact absurd (i1.1 rfl) ((by omega))
          | false =>
            have h1 : ¬ (rT n x > 1023) := fun c => Bool.false_ne_true (i1.2 c)
            cases b3 with
            | true =>
              exact absurd (i3.1 rfl) ((by omega))
            | false =>
              have h3 : ¬ (rQ n x - x ≤ 0) := fun c => Bool.false_ne_true (i3.2 c)
              exact fin _ (DAbove_dn_t_r6) rfl (show Ending.returned (.tuple #[.float .f64 (mkW true (rM n x) (rQ n x)), .int .i64 0]) = .returned (.tuple #[.float .f64 (rnd true n x (upAbove true n x)), .int .i64 0]) from by rw [upAbove_n n x, rnd_f, mkW_ok h2])
        | false =>
          exact absurd (i2.2 (okP_lt (rM_b (x := x) (odd_ne hn.2.1)).1)) Bool.false_ne_true
theorem DAbove_t (n : Nat) (x : Int) (w : World) (hn : (Dy.mk true n x).Num) (hG : Globs glT w) : Calls Tryd.prog 8 #[.agg #[.bool true, .string (natS n), .int .i64 x]] w fun e w' => e = .returned (.tuple #[.float .f64 (rnd true n x (upAbove true n x)), .int .i64 0]) ∧ Below w.heap.size w w' := by
  by_cases h : 1024 ≤ rT n x
  · exact DAbove_far_t n x w hn h hG
  · by_cases hu : rQ n x ≤ x
    · exact DAbove_up_t n x w hn h hu hG
    · exact DAbove_dn_t n x w hn h hu hG
@[reducible] def DBelow_far_f_f : FuncId := 7
@[reducible] def DBelow_far_f_a : List AV := [.agg [.lit (.bool false), .sym 0, .sym 1]]
@[reducible] noncomputable def DBelow_far_f_k (b1 b2 : Bool) : Know := ⟨[([0, 15, 3], [.sym 2, .lit (.int .i64 1023)], .lit (.bool b2))],
  [(12, [.agg [.lit (.bool false), .sym 0, .sym 1]], .lit (.int .i64 0)),
  (44, [.agg [.lit (.bool false), .sym 0, .sym 1]], .tup [.sym 2, .lit (.bool true)]),
  (68, [.lit (.bool false), .lit (.int .u64 9007199254740991), .lit (.int .i64 971)], .tup [.sym 3, .lit (.bool b1)])]⟩
theorem DBelow_far_f_r1 : @comes (DBelow_far_f_k true true) Tryd.prog glT 3000 DBelow_far_f_f DBelow_far_f_a = some (.tup [.sym 3, .lit (.int .i64 0)]) := by kernel_rfl
set_option maxRecDepth 100000 in
set_option maxHeartbeats 4000000 in
theorem DBelow_far_f (n : Nat) (x : Int) (w : World) (hn : (Dy.mk false n x).Num) (h : 1024 ≤ rT n x) (hG : Globs glT w) : Calls Tryd.prog 7 #[.agg #[.bool false, .string (natS n), .int .i64 x]] w fun e w' => e = .returned (.tuple #[.float .f64 (rnd false n x (upBelow false n x)), .int .i64 0]) ∧ Below w.heap.size w w' := by
  obtain ⟨b1, i1⟩ := bex (okP 9007199254740991 971 = true)
  obtain ⟨b2, i2⟩ := bex (rT n x > 1023)
  letI : Env := mkEnv glT [.string (natS n), .int .i64 x, .int .i64 (rT n x), .float .f64 (mkW false 9007199254740991 971)] rfl
  have hops : OpsT Tryd.prog (@Know.ops (DBelow_far_f_k b1 b2)) := ⟨opt_gtr_i rfl rfl i2,
    trivial⟩
  have hcalls : CallsT Tryd.prog (@Know.calls (DBelow_far_f_k b1 b2)) := ⟨callt rfl rfl fun w hG => DCheck_dyr (Dy.mk false n x) (Or.inr hn) w,
    callt rfl rfl fun w hG => DTop_r false n x w hn,
    callt rfl rfl fun w hG => bMake_i false 9007199254740991 971 w (by omega) (by omega) (by omega) (Or.inl (by omega)) i1 hG,
    trivial⟩
  have fin : ∀ v, @comes (DBelow_far_f_k b1 b2) Tryd.prog glT 3000 DBelow_far_f_f DBelow_far_f_a = some v → ground v = true → Ending.returned (gval v) = .returned (.tuple #[.float .f64 (rnd false n x (upBelow false n x)), .int .i64 0]) → Calls Tryd.prog 7 #[.agg #[.bool false, .string (natS n), .int .i64 x]] w fun e w' => e = .returned (.tuple #[.float .f64 (rnd false n x (upBelow false n x)), .int .i64 0]) ∧ Below w.heap.size w w' := fun v h1 h2 h3 => (@sym_ok _ (DBelow_far_f_k b1 b2) _ (@KnowOk.of _ (DBelow_far_f_k b1 b2) _ hops hcalls) (by kernel_rfl) _ _ _ _ h1 rfl h2 _ hG).mono fun e w' h => ⟨h.1.trans h3, h.2⟩
  clear hops hcalls
  cases b1 with
  | true =>
    have h1 : okP 9007199254740991 971 = true := i1.1 rfl
    cases b2 with
    | true =>
      have h2 : rT n x > 1023 := i2.1 rfl
      exact fin _ (DBelow_far_f_r1) rfl (show Ending.returned (.tuple #[.float .f64 (mkW false 9007199254740991 971), .int .i64 0]) = .returned (.tuple #[.float .f64 (rnd false n x (upBelow false n x)), .int .i64 0]) from by rw [upBelow_n n x, rnd_f, (rQ_far h).1, (rQ_far h).2.1, mkW_ok h1])
    | false =>
      exact absurd (i2.2 ((by omega))) Bool.false_ne_true
  | false =>
    exact absurd (i1.2 (okP_lt (by omega))) Bool.false_ne_true
@[reducible] def DBelow_up_f_f : FuncId := 7
@[reducible] def DBelow_up_f_a : List AV := [.agg [.lit (.bool false), .sym 0, .sym 1]]
@[reducible] noncomputable def DBelow_up_f_k (b1 b2 b3 : Bool) : Know := ⟨[([0, 15, 3], [.sym 2, .lit (.int .i64 1023)], .lit (.bool b1)),
  ([0, 1, 3], [.sym 3, .sym 1], .sym 4),
  ([1, 0, 3], [.sym 4], .sym 5),
  ([0, 14, 3], [.sym 4, .lit (.int .i64 0)], .lit (.bool b3))],
  [(12, [.agg [.lit (.bool false), .sym 0, .sym 1]], .lit (.int .i64 0)),
  (44, [.agg [.lit (.bool false), .sym 0, .sym 1]], .tup [.sym 2, .lit (.bool true)]),
  (46, [.sym 2], .sym 3),
  (47, [.sym 0, .sym 5], .tup [.sym 6, .lit (.int .i64 0)]),
  (48, [.sym 6], .tup [.sym 7, .lit (.bool true)]),
  (68, [.lit (.bool false), .sym 7, .sym 3], .tup [.sym 8, .lit (.bool b2)])]⟩
theorem DBelow_up_f_r1 : @comes (DBelow_up_f_k false true true) Tryd.prog glT 3000 DBelow_up_f_f DBelow_up_f_a = some (.tup [.sym 8, .lit (.int .i64 0)]) := by kernel_rfl
set_option maxRecDepth 100000 in
set_option maxHeartbeats 4000000 in
theorem DBelow_up_f (n : Nat) (x : Int) (w : World) (hn : (Dy.mk false n x).Num) (h : ¬ 1024 ≤ rT n x) (hu : rQ n x ≤ x) (hG : Globs glT w) : Calls Tryd.prog 7 #[.agg #[.bool false, .string (natS n), .int .i64 x]] w fun e w' => e = .returned (.tuple #[.float .f64 (rnd false n x (upBelow false n x)), .int .i64 0]) ∧ Below w.heap.size w w' := by
  obtain ⟨b1, i1⟩ := bex (rT n x > 1023)
  obtain ⟨b2, i2⟩ := bex (okP (rM n x) (rQ n x) = true)
  obtain ⟨b3, i3⟩ := bex (rQ n x - x ≤ 0)
  letI : Env := mkEnv glT [.string (natS n), .int .i64 x, .int .i64 (rT n x), .int .i64 (rQ n x), .int .i64 (rQ n x - x), .int .i64 (-(rQ n x - x)), .string (natS (rM n x)), .int .u64 (((rM n x : Nat) : Int)), .float .f64 (mkW false (rM n x) (rQ n x))] rfl
  have hops : OpsT Tryd.prog (@Know.ops (DBelow_up_f_k b1 b2 b3)) := ⟨opt_gtr_i rfl rfl i1,
    opt_sub rfl rfl rfl rfl rfl (by have := (rQ_b n x); have := hn.2.2.1; have := hn.2.2.2; simp only at *; omega),
    opt_neg rfl rfl rfl rfl (by have := (rQ_b n x); have := hn.2.2.1; have := hn.2.2.2; simp only at *; omega),
    opt_leq_i rfl rfl i3,
    trivial⟩
  have hcalls : CallsT Tryd.prog (@Know.calls (DBelow_up_f_k b1 b2 b3)) := ⟨callt rfl rfl fun w hG => DCheck_dyr (Dy.mk false n x) (Or.inr hn) w,
    callt rfl rfl fun w hG => DTop_r false n x w hn,
    callt rfl rfl fun w hG => Least_r false n x w hn h,
    callt rfl rfl fun w hG => NShift_r false n x w hn h,
    callt rfl rfl fun w hG => NSmall_r false n x w hn,
    callt rfl rfl fun w hG => bMake_i false (rM n x) (rQ n x) w (Nat.le_of_lt (rM_b (x := x) (odd_ne hn.2.1)).1) (rQ_b n x).1 (rQ_b n x).2 (rM_b (x := x) (odd_ne hn.2.1)).2 i2 hG,
    trivial⟩
  have fin : ∀ v, @comes (DBelow_up_f_k b1 b2 b3) Tryd.prog glT 3000 DBelow_up_f_f DBelow_up_f_a = some v → ground v = true → Ending.returned (gval v) = .returned (.tuple #[.float .f64 (rnd false n x (upBelow false n x)), .int .i64 0]) → Calls Tryd.prog 7 #[.agg #[.bool false, .string (natS n), .int .i64 x]] w fun e w' => e = .returned (.tuple #[.float .f64 (rnd false n x (upBelow false n x)), .int .i64 0]) ∧ Below w.heap.size w w' := fun v h1 h2 h3 => (@sym_ok _ (DBelow_up_f_k b1 b2 b3) _ (@KnowOk.of _ (DBelow_up_f_k b1 b2 b3) _ hops hcalls) (by kernel_rfl) _ _ _ _ h1 rfl h2 _ hG).mono fun e w' h => ⟨h.1.trans h3, h.2⟩
  clear hops hcalls
  cases b2 with
  | true =>
    have h2 : okP (rM n x) (rQ n x) = true := i2.1 rfl
    cases b1 with
    | true =>
      exact absurd (i1.1 rfl) ((by omega))
    | false =>
      have h1 : ¬ (rT n x > 1023) := fun c => Bool.false_ne_true (i1.2 c)
      cases b3 with
      | true =>
        have h3 : rQ n x - x ≤ 0 := i3.1 rfl
        exact fin _ (DBelow_up_f_r1) rfl (show Ending.returned (.tuple #[.float .f64 (mkW false (rM n x) (rQ n x)), .int .i64 0]) = .returned (.tuple #[.float .f64 (rnd false n x (upBelow false n x)), .int .i64 0]) from by rw [upBelow_n n x, rnd_f, mkW_ok h2])
      | false =>
        exact absurd (i3.2 ((by omega))) Bool.false_ne_true
  | false =>
    exact absurd (i2.2 (okP_lt (rM_b (x := x) (odd_ne hn.2.1)).1)) Bool.false_ne_true
@[reducible] def DBelow_dn_f_f : FuncId := 7
@[reducible] def DBelow_dn_f_a : List AV := [.agg [.lit (.bool false), .sym 0, .sym 1]]
@[reducible] noncomputable def DBelow_dn_f_k (b1 b2 b3 b4 b5 b6 : Bool) : Know := ⟨[([0, 15, 3], [.sym 2, .lit (.int .i64 1023)], .lit (.bool b1)),
  ([0, 1, 3], [.sym 3, .sym 1], .sym 4),
  ([1, 0, 3], [.sym 4], .sym 5),
  ([0, 14, 3], [.sym 4, .lit (.int .i64 0)], .lit (.bool b3)),
  ([0, 1, 3], [.sym 4, .lit (.int .i64 1)], .sym 9),
  ([0, 11, 5], [.sym 10, .lit (.int .u8 0)], .lit (.bool b4)),
  ([0, 5, 44], [.sym 7, .lit (.int .u64 1)], .sym 11),
  ([0, 11, 44], [.sym 11, .lit (.int .u64 1)], .lit (.bool b5)),
  ([0, 11, 3], [.sym 4, .lit (.int .i64 1)], .lit (.bool b6))],
  [(12, [.agg [.lit (.bool false), .sym 0, .sym 1]], .lit (.int .i64 0)),
  (44, [.agg [.lit (.bool false), .sym 0, .sym 1]], .tup [.sym 2, .lit (.bool true)]),
  (46, [.sym 2], .sym 3),
  (47, [.sym 0, .sym 5], .tup [.sym 6, .lit (.int .i64 0)]),
  (48, [.sym 6], .tup [.sym 7, .lit (.bool true)]),
  (68, [.lit (.bool false), .sym 7, .sym 3], .tup [.sym 8, .lit (.bool b2)]),
  (70, [.sym 0, .sym 9], .tup [.sym 10, .lit (.int .i64 0)])]⟩
theorem DBelow_dn_f_r1 (b6 : Bool) : @comes (DBelow_dn_f_k false true false true true b6) Tryd.prog glT 3000 DBelow_dn_f_f DBelow_dn_f_a = some (.tup [.sym 8, .lit (.int .i64 0)]) := by kernel_rfl
theorem DBelow_dn_f_r2 (b6 : Bool) : @comes (DBelow_dn_f_k false true false true false b6) Tryd.prog glT 3000 DBelow_dn_f_f DBelow_dn_f_a = some (.tup [.sym 8, .lit (.int .i64 0)]) := by kernel_rfl
theorem DBelow_dn_f_r3 : @comes (DBelow_dn_f_k false true false false true true) Tryd.prog glT 3000 DBelow_dn_f_f DBelow_dn_f_a = some (.tup [.sym 8, .lit (.int .i64 0)]) := by kernel_rfl
theorem DBelow_dn_f_r4 : @comes (DBelow_dn_f_k false true false false false true) Tryd.prog glT 3000 DBelow_dn_f_f DBelow_dn_f_a = some (.tup [.sym 8, .lit (.int .i64 0)]) := by kernel_rfl
theorem DBelow_dn_f_r5 : @comes (DBelow_dn_f_k false true false false true false) Tryd.prog glT 3000 DBelow_dn_f_f DBelow_dn_f_a = some (.tup [.sym 8, .lit (.int .i64 0)]) := by kernel_rfl
theorem DBelow_dn_f_r6 : @comes (DBelow_dn_f_k false true false false false false) Tryd.prog glT 3000 DBelow_dn_f_f DBelow_dn_f_a = some (.tup [.sym 8, .lit (.int .i64 0)]) := by kernel_rfl
set_option maxRecDepth 100000 in
set_option maxHeartbeats 4000000 in
theorem DBelow_dn_f (n : Nat) (x : Int) (w : World) (hn : (Dy.mk false n x).Num) (h : ¬ 1024 ≤ rT n x) (hu : ¬ rQ n x ≤ x) (hG : Globs glT w) : Calls Tryd.prog 7 #[.agg #[.bool false, .string (natS n), .int .i64 x]] w fun e w' => e = .returned (.tuple #[.float .f64 (rnd false n x (upBelow false n x)), .int .i64 0]) ∧ Below w.heap.size w w' := by
  obtain ⟨b1, i1⟩ := bex (rT n x > 1023)
  obtain ⟨b2, i2⟩ := bex (okP (rM n x) (rQ n x) = true)
  obtain ⟨b3, i3⟩ := bex (rQ n x - x ≤ 0)
  obtain ⟨b4, i4⟩ := bex (((rB n x : Nat) : Int) = 0)
  obtain ⟨b5, i5⟩ := bex (((rM n x % 2 : Nat) : Int) = 1)
  obtain ⟨b6, i6⟩ := bex (rQ n x - x = 1)
  letI : Env := mkEnv glT [.string (natS n), .int .i64 x, .int .i64 (rT n x), .int .i64 (rQ n x), .int .i64 (rQ n x - x), .int .i64 (-(rQ n x - x)), .string (natS (rM n x)), .int .u64 (((rM n x : Nat) : Int)), .float .f64 (mkW false (rM n x) (rQ n x)), .int .i64 (rQ n x - x - 1), .int .u8 (((rB n x : Nat) : Int)), .int .u64 (((rM n x % 2 : Nat) : Int))] rfl
  have hops : OpsT Tryd.prog (@Know.ops (DBelow_dn_f_k b1 b2 b3 b4 b5 b6)) := ⟨opt_gtr_i rfl rfl i1,
    opt_sub rfl rfl rfl rfl rfl (by have := (rQ_b n x); have := hn.2.2.1; have := hn.2.2.2; simp only at *; omega),
    opt_neg rfl rfl rfl rfl (by have := (rQ_b n x); have := hn.2.2.1; have := hn.2.2.2; simp only at *; omega),
    opt_leq_i rfl rfl i3,
    opt_sub rfl rfl rfl rfl rfl (by have := (rQ_b n x); have := hn.2.2.1; have := hn.2.2.2; simp only at *; omega),
    opt_eql_i rfl rfl i4,
    opt_odd rfl rfl rfl rfl (by have : rM n x < 9007199254740992 := (rM_b (x := x) (odd_ne hn.2.1)).1; omega),
    opt_eql_i rfl rfl i5,
    opt_eql_i rfl rfl i6,
    trivial⟩
  have hcalls : CallsT Tryd.prog (@Know.calls (DBelow_dn_f_k b1 b2 b3 b4 b5 b6)) := ⟨callt rfl rfl fun w hG => DCheck_dyr (Dy.mk false n x) (Or.inr hn) w,
    callt rfl rfl fun w hG => DTop_r false n x w hn,
    callt rfl rfl fun w hG => Least_r false n x w hn h,
    callt rfl rfl fun w hG => NShift_r false n x w hn h,
    callt rfl rfl fun w hG => NSmall_r false n x w hn,
    callt rfl rfl fun w hG => bMake_i false (rM n x) (rQ n x) w (Nat.le_of_lt (rM_b (x := x) (odd_ne hn.2.1)).1) (rQ_b n x).1 (rQ_b n x).2 (rM_b (x := x) (odd_ne hn.2.1)).2 i2 hG,
    callt rfl rfl fun w hG => NBit_r false n x w hn hu,
    trivial⟩
  have fin : ∀ v, @comes (DBelow_dn_f_k b1 b2 b3 b4 b5 b6) Tryd.prog glT 3000 DBelow_dn_f_f DBelow_dn_f_a = some v → ground v = true → Ending.returned (gval v) = .returned (.tuple #[.float .f64 (rnd false n x (upBelow false n x)), .int .i64 0]) → Calls Tryd.prog 7 #[.agg #[.bool false, .string (natS n), .int .i64 x]] w fun e w' => e = .returned (.tuple #[.float .f64 (rnd false n x (upBelow false n x)), .int .i64 0]) ∧ Below w.heap.size w w' := fun v h1 h2 h3 => (@sym_ok _ (DBelow_dn_f_k b1 b2 b3 b4 b5 b6) _ (@KnowOk.of _ (DBelow_dn_f_k b1 b2 b3 b4 b5 b6) _ hops hcalls) (by kernel_rfl) _ _ _ _ h1 rfl h2 _ hG).mono fun e w' h => ⟨h.1.trans h3, h.2⟩
  clear hops hcalls
  cases b4 with
  | true =>
    have h4 : ((rB n x : Nat) : Int) = 0 := i4.1 rfl
    cases b5 with
    | true =>
      have h5 : ((rM n x % 2 : Nat) : Int) = 1 := i5.1 rfl
      cases b2 with
      | true =>
        have h2 : okP (rM n x) (rQ n x) = true := i2.1 rfl
        cases b1 with
        | true =>
          exact absurd (i1.1 rfl) ((by omega))
        | false =>
          have h1 : ¬ (rT n x > 1023) := fun c => Bool.false_ne_true (i1.2 c)
          cases b3 with
          | true =>
            exact absurd (i3.1 rfl) ((by omega))
          | false =>
            have h3 : ¬ (rQ n x - x ≤ 0) := fun c => Bool.false_ne_true (i3.2 c)
            exact fin _ (DBelow_dn_f_r1 b6) rfl (show Ending.returned (.tuple #[.float .f64 (mkW false (rM n x) (rQ n x)), .int .i64 0]) = .returned (.tuple #[.float .f64 (rnd false n x (upBelow false n x)), .int .i64 0]) from by rw [upBelow_n n x, rnd_f, mkW_ok h2])
      | false =>
        exact absurd (i2.2 (okP_lt (rM_b (x := x) (odd_ne hn.2.1)).1)) Bool.false_ne_true
    | false =>
      have h5 : ¬ (((rM n x % 2 : Nat) : Int) = 1) := fun c => Bool.false_ne_true (i5.2 c)
      cases b2 with
      | true =>
        have h2 : okP (rM n x) (rQ n x) = true := i2.1 rfl
        cases b1 with
        | true =>
          exact absurd (i1.1 rfl) ((by omega))
        | false =>
          have h1 : ¬ (rT n x > 1023) := fun c => Bool.false_ne_true (i1.2 c)
          cases b3 with
          | true =>
            exact absurd (i3.1 rfl) ((by omega))
          | false =>
            have h3 : ¬ (rQ n x - x ≤ 0) := fun c => Bool.false_ne_true (i3.2 c)
            exact fin _ (DBelow_dn_f_r2 b6) rfl (show Ending.returned (.tuple #[.float .f64 (mkW false (rM n x) (rQ n x)), .int .i64 0]) = .returned (.tuple #[.float .f64 (rnd false n x (upBelow false n x)), .int .i64 0]) from by rw [upBelow_n n x, rnd_f, mkW_ok h2])
      | false =>
        exact absurd (i2.2 (okP_lt (rM_b (x := x) (odd_ne hn.2.1)).1)) Bool.false_ne_true
  | false =>
    have h4 : ¬ (((rB n x : Nat) : Int) = 0) := fun c => Bool.false_ne_true (i4.2 c)
    cases b6 with
    | true =>
      have h6 : rQ n x - x = 1 := i6.1 rfl
      cases b5 with
      | true =>
        have h5 : ((rM n x % 2 : Nat) : Int) = 1 := i5.1 rfl
        cases b2 with
        | true =>
          have h2 : okP (rM n x) (rQ n x) = true := i2.1 rfl
          cases b1 with
          | true =>
            exact absurd (i1.1 rfl) ((by omega))
          | false =>
            have h1 : ¬ (rT n x > 1023) := fun c => Bool.false_ne_true (i1.2 c)
            cases b3 with
            | true =>
              exact absurd (i3.1 rfl) ((by omega))
            | false =>
              have h3 : ¬ (rQ n x - x ≤ 0) := fun c => Bool.false_ne_true (i3.2 c)
              exact fin _ (DBelow_dn_f_r3) rfl (show Ending.returned (.tuple #[.float .f64 (mkW false (rM n x) (rQ n x)), .int .i64 0]) = .returned (.tuple #[.float .f64 (rnd false n x (upBelow false n x)), .int .i64 0]) from by rw [upBelow_n n x, rnd_f, mkW_ok h2])
        | false =>
          exact absurd (i2.2 (okP_lt (rM_b (x := x) (odd_ne hn.2.1)).1)) Bool.false_ne_true
      | false =>
        have h5 : ¬ (((rM n x % 2 : Nat) : Int) = 1) := fun c => Bool.false_ne_true (i5.2 c)
        cases b2 with
        | true =>
          have h2 : okP (rM n x) (rQ n x) = true := i2.1 rfl
          cases b1 with
          | true =>
            exact absurd (i1.1 rfl) ((by omega))
          | false =>
            have h1 : ¬ (rT n x > 1023) := fun c => Bool.false_ne_true (i1.2 c)
            cases b3 with
            | true =>
              exact absurd (i3.1 rfl) ((by omega))
            | false =>
              have h3 : ¬ (rQ n x - x ≤ 0) := fun c => Bool.false_ne_true (i3.2 c)
              exact fin _ (DBelow_dn_f_r4) rfl (show Ending.returned (.tuple #[.float .f64 (mkW false (rM n x) (rQ n x)), .int .i64 0]) = .returned (.tuple #[.float .f64 (rnd false n x (upBelow false n x)), .int .i64 0]) from by rw [upBelow_n n x, rnd_f, mkW_ok h2])
        | false =>
          exact absurd (i2.2 (okP_lt (rM_b (x := x) (odd_ne hn.2.1)).1)) Bool.false_ne_true
    | false =>
      have h6 : ¬ (rQ n x - x = 1) := fun c => Bool.false_ne_true (i6.2 c)
      cases b5 with
      | true =>
        have h5 : ((rM n x % 2 : Nat) : Int) = 1 := i5.1 rfl
        cases b2 with
        | true =>
          have h2 : okP (rM n x) (rQ n x) = true := i2.1 rfl
          cases b1 with
          | true =>
            exact absurd (i1.1 rfl) ((by omega))
          | false =>
            have h1 : ¬ (rT n x > 1023) := fun c => Bool.false_ne_true (i1.2 c)
            cases b3 with
            | true =>
              exact absurd (i3.1 rfl) ((by omega))
            | false =>
              have h3 : ¬ (rQ n x - x ≤ 0) := fun c => Bool.false_ne_true (i3.2 c)
              exact fin _ (DBelow_dn_f_r5) rfl (show Ending.returned (.tuple #[.float .f64 (mkW false (rM n x) (rQ n x)), .int .i64 0]) = .returned (.tuple #[.float .f64 (rnd false n x (upBelow false n x)), .int .i64 0]) from by rw [upBelow_n n x, rnd_f, mkW_ok h2])
        | false =>
          exact absurd (i2.2 (okP_lt (rM_b (x := x) (odd_ne hn.2.1)).1)) Bool.false_ne_true
      | false =>
        have h5 : ¬ (((rM n x % 2 : Nat) : Int) = 1) := fun c => Bool.false_ne_true (i5.2 c)
        cases b2 with
        | true =>
          have h2 : okP (rM n x) (rQ n x) = true := i2.1 rfl
          cases b1 with
          | true =>
            exact absurd (i1.1 rfl) ((by omega))
          | false =>
            have h1 : ¬ (rT n x > 1023) := fun c => Bool.false_ne_true (i1.2 c)
            cases b3 with
            | true =>
              exact absurd (i3.1 rfl) ((by omega))
            | false =>
              have h3 : ¬ (rQ n x - x ≤ 0) := fun c => Bool.false_ne_true (i3.2 c)
              exact fin _ (DBelow_dn_f_r6) rfl (show Ending.returned (.tuple #[.float .f64 (mkW false (rM n x) (rQ n x)), .int .i64 0]) = .returned (.tuple #[.float .f64 (rnd false n x (upBelow false n x)), .int .i64 0]) from by rw [upBelow_n n x, rnd_f, mkW_ok h2])
        | false =>
          exact absurd (i2.2 (okP_lt (rM_b (x := x) (odd_ne hn.2.1)).1)) Bool.false_ne_true
theorem DBelow_f (n : Nat) (x : Int) (w : World) (hn : (Dy.mk false n x).Num) (hG : Globs glT w) : Calls Tryd.prog 7 #[.agg #[.bool false, .string (natS n), .int .i64 x]] w fun e w' => e = .returned (.tuple #[.float .f64 (rnd false n x (upBelow false n x)), .int .i64 0]) ∧ Below w.heap.size w w' := by
  by_cases h : 1024 ≤ rT n x
  · exact DBelow_far_f n x w hn h hG
  · by_cases hu : rQ n x ≤ x
    · exact DBelow_up_f n x w hn h hu hG
    · exact DBelow_dn_f n x w hn h hu hG
@[reducible] def DBelow_far_t_f : FuncId := 7
@[reducible] def DBelow_far_t_a : List AV := [.agg [.lit (.bool true), .sym 0, .sym 1]]
@[reducible] noncomputable def DBelow_far_t_k (b1 b2 : Bool) : Know := ⟨[([0, 15, 3], [.sym 2, .lit (.int .i64 1023)], .lit (.bool b2))],
  [(12, [.agg [.lit (.bool true), .sym 0, .sym 1]], .lit (.int .i64 0)),
  (44, [.agg [.lit (.bool true), .sym 0, .sym 1]], .tup [.sym 2, .lit (.bool true)]),
  (68, [.lit (.bool true), .lit (.int .u64 9007199254740992), .lit (.int .i64 971)], .tup [.sym 3, .lit (.bool b1)])]⟩
theorem DBelow_far_t_r1 : @comes (DBelow_far_t_k false true) Tryd.prog glT 3000 DBelow_far_t_f DBelow_far_t_a = some (.lit (.tuple #[.float .f64 18442240474082181120, .int .i64 0])) := by kernel_rfl
set_option maxRecDepth 100000 in
set_option maxHeartbeats 4000000 in
theorem DBelow_far_t (n : Nat) (x : Int) (w : World) (hn : (Dy.mk true n x).Num) (h : 1024 ≤ rT n x) (hG : Globs glT w) : Calls Tryd.prog 7 #[.agg #[.bool true, .string (natS n), .int .i64 x]] w fun e w' => e = .returned (.tuple #[.float .f64 (rnd true n x (upBelow true n x)), .int .i64 0]) ∧ Below w.heap.size w w' := by
  obtain ⟨b1, i1⟩ := bex (okP 9007199254740992 971 = true)
  obtain ⟨b2, i2⟩ := bex (rT n x > 1023)
  letI : Env := mkEnv glT [.string (natS n), .int .i64 x, .int .i64 (rT n x), .float .f64 (mkW true 9007199254740992 971)] rfl
  have hops : OpsT Tryd.prog (@Know.ops (DBelow_far_t_k b1 b2)) := ⟨opt_gtr_i rfl rfl i2,
    trivial⟩
  have hcalls : CallsT Tryd.prog (@Know.calls (DBelow_far_t_k b1 b2)) := ⟨callt rfl rfl fun w hG => DCheck_dyr (Dy.mk true n x) (Or.inr hn) w,
    callt rfl rfl fun w hG => DTop_r true n x w hn,
    callt rfl rfl fun w hG => bMake_i true 9007199254740992 971 w (by omega) (by omega) (by omega) (Or.inl (by omega)) i1 hG,
    trivial⟩
  have fin : ∀ v, @comes (DBelow_far_t_k b1 b2) Tryd.prog glT 3000 DBelow_far_t_f DBelow_far_t_a = some v → ground v = true → Ending.returned (gval v) = .returned (.tuple #[.float .f64 (rnd true n x (upBelow true n x)), .int .i64 0]) → Calls Tryd.prog 7 #[.agg #[.bool true, .string (natS n), .int .i64 x]] w fun e w' => e = .returned (.tuple #[.float .f64 (rnd true n x (upBelow true n x)), .int .i64 0]) ∧ Below w.heap.size w w' := fun v h1 h2 h3 => (@sym_ok _ (DBelow_far_t_k b1 b2) _ (@KnowOk.of _ (DBelow_far_t_k b1 b2) _ hops hcalls) (by kernel_rfl) _ _ _ _ h1 rfl h2 _ hG).mono fun e w' h => ⟨h.1.trans h3, h.2⟩
  clear hops hcalls
  cases b1 with
  | true =>
    exact absurd (i1.1 rfl) (fun c => okP_iff.1 c ⟨rfl, rfl⟩)
  | false =>
    have h1 : ¬ (okP 9007199254740992 971 = true) := fun c => Bool.false_ne_true (i1.2 c)
    cases b2 with
    | true =>
      have h2 : rT n x > 1023 := i2.1 rfl
      exact fin _ (DBelow_far_t_r1) rfl (show Ending.returned (.tuple #[.float .f64 18442240474082181120, .int .i64 0]) = .returned (.tuple #[.float .f64 (rnd true n x (upBelow true n x)), .int .i64 0]) from by rw [upBelow_t (by rw [(rQ_far h).2.2]; decide), rnd_t, (rQ_far h).1, (rQ_far h).2.1, inf_t h1])
    | false =>
      exact absurd (i2.2 ((by omega))) Bool.false_ne_true
@[reducible] def DBelow_up_t_f : FuncId := 7
@[reducible] def DBelow_up_t_a : List AV := [.agg [.lit (.bool true), .sym 0, .sym 1]]
@[reducible] noncomputable def DBelow_up_t_k (b1 b2 b3 : Bool) : Know := ⟨[([0, 15, 3], [.sym 2, .lit (.int .i64 1023)], .lit (.bool b1)),
  ([0, 1, 3], [.sym 3, .sym 1], .sym 4),
  ([1, 0, 3], [.sym 4], .sym 5),
  ([0, 14, 3], [.sym 4, .lit (.int .i64 0)], .lit (.bool b3))],
  [(12, [.agg [.lit (.bool true), .sym 0, .sym 1]], .lit (.int .i64 0)),
  (44, [.agg [.lit (.bool true), .sym 0, .sym 1]], .tup [.sym 2, .lit (.bool true)]),
  (46, [.sym 2], .sym 3),
  (47, [.sym 0, .sym 5], .tup [.sym 6, .lit (.int .i64 0)]),
  (48, [.sym 6], .tup [.sym 7, .lit (.bool true)]),
  (68, [.lit (.bool true), .sym 7, .sym 3], .tup [.sym 8, .lit (.bool b2)])]⟩
theorem DBelow_up_t_r1 : @comes (DBelow_up_t_k false true true) Tryd.prog glT 3000 DBelow_up_t_f DBelow_up_t_a = some (.tup [.sym 8, .lit (.int .i64 0)]) := by kernel_rfl
set_option maxRecDepth 100000 in
set_option maxHeartbeats 4000000 in
theorem DBelow_up_t (n : Nat) (x : Int) (w : World) (hn : (Dy.mk true n x).Num) (h : ¬ 1024 ≤ rT n x) (hu : rQ n x ≤ x) (hG : Globs glT w) : Calls Tryd.prog 7 #[.agg #[.bool true, .string (natS n), .int .i64 x]] w fun e w' => e = .returned (.tuple #[.float .f64 (rnd true n x (upBelow true n x)), .int .i64 0]) ∧ Below w.heap.size w w' := by
  obtain ⟨b1, i1⟩ := bex (rT n x > 1023)
  obtain ⟨b2, i2⟩ := bex (okP (rM n x) (rQ n x) = true)
  obtain ⟨b3, i3⟩ := bex (rQ n x - x ≤ 0)
  letI : Env := mkEnv glT [.string (natS n), .int .i64 x, .int .i64 (rT n x), .int .i64 (rQ n x), .int .i64 (rQ n x - x), .int .i64 (-(rQ n x - x)), .string (natS (rM n x)), .int .u64 (((rM n x : Nat) : Int)), .float .f64 (mkW true (rM n x) (rQ n x))] rfl
  have hops : OpsT Tryd.prog (@Know.ops (DBelow_up_t_k b1 b2 b3)) := ⟨opt_gtr_i rfl rfl i1,
    opt_sub rfl rfl rfl rfl rfl (by have := (rQ_b n x); have := hn.2.2.1; have := hn.2.2.2; simp only at *; omega),
    opt_neg rfl rfl rfl rfl (by have := (rQ_b n x); have := hn.2.2.1; have := hn.2.2.2; simp only at *; omega),
    opt_leq_i rfl rfl i3,
    trivial⟩
  have hcalls : CallsT Tryd.prog (@Know.calls (DBelow_up_t_k b1 b2 b3)) := ⟨callt rfl rfl fun w hG => DCheck_dyr (Dy.mk true n x) (Or.inr hn) w,
    callt rfl rfl fun w hG => DTop_r true n x w hn,
    callt rfl rfl fun w hG => Least_r true n x w hn h,
    callt rfl rfl fun w hG => NShift_r true n x w hn h,
    callt rfl rfl fun w hG => NSmall_r true n x w hn,
    callt rfl rfl fun w hG => bMake_i true (rM n x) (rQ n x) w (Nat.le_of_lt (rM_b (x := x) (odd_ne hn.2.1)).1) (rQ_b n x).1 (rQ_b n x).2 (rM_b (x := x) (odd_ne hn.2.1)).2 i2 hG,
    trivial⟩
  have fin : ∀ v, @comes (DBelow_up_t_k b1 b2 b3) Tryd.prog glT 3000 DBelow_up_t_f DBelow_up_t_a = some v → ground v = true → Ending.returned (gval v) = .returned (.tuple #[.float .f64 (rnd true n x (upBelow true n x)), .int .i64 0]) → Calls Tryd.prog 7 #[.agg #[.bool true, .string (natS n), .int .i64 x]] w fun e w' => e = .returned (.tuple #[.float .f64 (rnd true n x (upBelow true n x)), .int .i64 0]) ∧ Below w.heap.size w w' := fun v h1 h2 h3 => (@sym_ok _ (DBelow_up_t_k b1 b2 b3) _ (@KnowOk.of _ (DBelow_up_t_k b1 b2 b3) _ hops hcalls) (by kernel_rfl) _ _ _ _ h1 rfl h2 _ hG).mono fun e w' h => ⟨h.1.trans h3, h.2⟩
  clear hops hcalls
  cases b2 with
  | true =>
    have h2 : okP (rM n x) (rQ n x) = true := i2.1 rfl
    cases b1 with
    | true =>
      exact absurd (i1.1 rfl) ((by omega))
    | false =>
      have h1 : ¬ (rT n x > 1023) := fun c => Bool.false_ne_true (i1.2 c)
      cases b3 with
      | true =>
        have h3 : rQ n x - x ≤ 0 := i3.1 rfl
        exact fin _ (DBelow_up_t_r1) rfl (show Ending.returned (.tuple #[.float .f64 (mkW true (rM n x) (rQ n x)), .int .i64 0]) = .returned (.tuple #[.float .f64 (rnd true n x (upBelow true n x)), .int .i64 0]) from by rw [upBelow_f (rM_up h hu).2, rnd_f, mkW_ok h2])
      | false =>
        exact absurd (i3.2 ((by omega))) Bool.false_ne_true
  | false =>
    exact absurd (i2.2 (okP_lt (rM_b (x := x) (odd_ne hn.2.1)).1)) Bool.false_ne_true
@[reducible] def DBelow_dn_t_f : FuncId := 7
@[reducible] def DBelow_dn_t_a : List AV := [.agg [.lit (.bool true), .sym 0, .sym 1]]
@[reducible] noncomputable def DBelow_dn_t_k (b1 b2 b3 b4 b5 b6 : Bool) : Know := ⟨[([0, 15, 3], [.sym 2, .lit (.int .i64 1023)], .lit (.bool b1)),
  ([0, 1, 3], [.sym 3, .sym 1], .sym 4),
  ([1, 0, 3], [.sym 4], .sym 5),
  ([0, 14, 3], [.sym 4, .lit (.int .i64 0)], .lit (.bool b2)),
  ([0, 1, 3], [.sym 4, .lit (.int .i64 1)], .sym 8),
  ([0, 11, 5], [.sym 9, .lit (.int .u8 0)], .lit (.bool b3)),
  ([0, 5, 44], [.sym 7, .lit (.int .u64 1)], .sym 10),
  ([0, 11, 44], [.sym 10, .lit (.int .u64 1)], .lit (.bool b4)),
  ([0, 0, 44], [.sym 7, .lit (.int .u64 1)], .sym 11),
  ([0, 11, 3], [.sym 4, .lit (.int .i64 1)], .lit (.bool b6))],
  [(12, [.agg [.lit (.bool true), .sym 0, .sym 1]], .lit (.int .i64 0)),
  (44, [.agg [.lit (.bool true), .sym 0, .sym 1]], .tup [.sym 2, .lit (.bool true)]),
  (46, [.sym 2], .sym 3),
  (47, [.sym 0, .sym 5], .tup [.sym 6, .lit (.int .i64 0)]),
  (48, [.sym 6], .tup [.sym 7, .lit (.bool true)]),
  (70, [.sym 0, .sym 8], .tup [.sym 9, .lit (.int .i64 0)]),
  (68, [.lit (.bool true), .sym 11, .sym 3], .tup [.sym 12, .lit (.bool b5)])]⟩
theorem DBelow_dn_t_r1 (b6 : Bool) : @comes (DBelow_dn_t_k false false true true true b6) Tryd.prog glT 3000 DBelow_dn_t_f DBelow_dn_t_a = some (.tup [.sym 12, .lit (.int .i64 0)]) := by kernel_rfl
theorem DBelow_dn_t_r2 (b6 : Bool) : @comes (DBelow_dn_t_k false false true true false b6) Tryd.prog glT 3000 DBelow_dn_t_f DBelow_dn_t_a = some (.lit (.tuple #[.float .f64 18442240474082181120, .int .i64 0])) := by kernel_rfl
theorem DBelow_dn_t_r3 (b6 : Bool) : @comes (DBelow_dn_t_k false false true false true b6) Tryd.prog glT 3000 DBelow_dn_t_f DBelow_dn_t_a = some (.tup [.sym 12, .lit (.int .i64 0)]) := by kernel_rfl
theorem DBelow_dn_t_r4 (b6 : Bool) : @comes (DBelow_dn_t_k false false true false false b6) Tryd.prog glT 3000 DBelow_dn_t_f DBelow_dn_t_a = some (.lit (.tuple #[.float .f64 18442240474082181120, .int .i64 0])) := by kernel_rfl
theorem DBelow_dn_t_r5 : @comes (DBelow_dn_t_k false false false true true true) Tryd.prog glT 3000 DBelow_dn_t_f DBelow_dn_t_a = some (.tup [.sym 12, .lit (.int .i64 0)]) := by kernel_rfl
theorem DBelow_dn_t_r6 : @comes (DBelow_dn_t_k false false false true false true) Tryd.prog glT 3000 DBelow_dn_t_f DBelow_dn_t_a = some (.lit (.tuple #[.float .f64 18442240474082181120, .int .i64 0])) := by kernel_rfl
theorem DBelow_dn_t_r7 : @comes (DBelow_dn_t_k false false false false true true) Tryd.prog glT 3000 DBelow_dn_t_f DBelow_dn_t_a = some (.tup [.sym 12, .lit (.int .i64 0)]) := by kernel_rfl
theorem DBelow_dn_t_r8 : @comes (DBelow_dn_t_k false false false false false true) Tryd.prog glT 3000 DBelow_dn_t_f DBelow_dn_t_a = some (.lit (.tuple #[.float .f64 18442240474082181120, .int .i64 0])) := by kernel_rfl
theorem DBelow_dn_t_r9 : @comes (DBelow_dn_t_k false false false true true false) Tryd.prog glT 3000 DBelow_dn_t_f DBelow_dn_t_a = some (.tup [.sym 12, .lit (.int .i64 0)]) := by kernel_rfl
theorem DBelow_dn_t_r10 : @comes (DBelow_dn_t_k false false false true false false) Tryd.prog glT 3000 DBelow_dn_t_f DBelow_dn_t_a = some (.lit (.tuple #[.float .f64 18442240474082181120, .int .i64 0])) := by kernel_rfl
theorem DBelow_dn_t_r11 : @comes (DBelow_dn_t_k false false false false true false) Tryd.prog glT 3000 DBelow_dn_t_f DBelow_dn_t_a = some (.tup [.sym 12, .lit (.int .i64 0)]) := by kernel_rfl
theorem DBelow_dn_t_r12 : @comes (DBelow_dn_t_k false false false false false false) Tryd.prog glT 3000 DBelow_dn_t_f DBelow_dn_t_a = some (.lit (.tuple #[.float .f64 18442240474082181120, .int .i64 0])) := by kernel_rfl
set_option maxRecDepth 100000 in
set_option maxHeartbeats 4000000 in
theorem DBelow_dn_t (n : Nat) (x : Int) (w : World) (hn : (Dy.mk true n x).Num) (h : ¬ 1024 ≤ rT n x) (hu : ¬ rQ n x ≤ x) (hG : Globs glT w) : Calls Tryd.prog 7 #[.agg #[.bool true, .string (natS n), .int .i64 x]] w fun e w' => e = .returned (.tuple #[.float .f64 (rnd true n x (upBelow true n x)), .int .i64 0]) ∧ Below w.heap.size w w' := by
  obtain ⟨b1, i1⟩ := bex (rT n x > 1023)
  obtain ⟨b2, i2⟩ := bex (rQ n x - x ≤ 0)
  obtain ⟨b3, i3⟩ := bex (((rB n x : Nat) : Int) = 0)
  obtain ⟨b4, i4⟩ := bex (((rM n x % 2 : Nat) : Int) = 1)
  obtain ⟨b5, i5⟩ := bex (okP (rM n x + 1) (rQ n x) = true)
  obtain ⟨b6, i6⟩ := bex (rQ n x - x = 1)
  letI : Env := mkEnv glT [.string (natS n), .int .i64 x, .int .i64 (rT n x), .int .i64 (rQ n x), .int .i64 (rQ n x - x), .int .i64 (-(rQ n x - x)), .string (natS (rM n x)), .int .u64 (((rM n x : Nat) : Int)), .int .i64 (rQ n x - x - 1), .int .u8 (((rB n x : Nat) : Int)), .int .u64 (((rM n x % 2 : Nat) : Int)), .int .u64 (((rM n x + 1 : Nat) : Int)), .float .f64 (mkW true (rM n x + 1) (rQ n x))] rfl
  have hops : OpsT Tryd.prog (@Know.ops (DBelow_dn_t_k b1 b2 b3 b4 b5 b6)) := ⟨opt_gtr_i rfl rfl i1,
    opt_sub rfl rfl rfl rfl rfl (by have := (rQ_b n x); have := hn.2.2.1; have := hn.2.2.2; simp only at *; omega),
    opt_neg rfl rfl rfl rfl (by have := (rQ_b n x); have := hn.2.2.1; have := hn.2.2.2; simp only at *; omega),
    opt_leq_i rfl rfl i2,
    opt_sub rfl rfl rfl rfl rfl (by have := (rQ_b n x); have := hn.2.2.1; have := hn.2.2.2; simp only at *; omega),
    opt_eql_i rfl rfl i3,
    opt_odd rfl rfl rfl rfl (by have : rM n x < 9007199254740992 := (rM_b (x := x) (odd_ne hn.2.1)).1; omega),
    opt_eql_i rfl rfl i4,
    opt_add64 (y := 1) rfl rfl rfl rfl rfl (by have : rM n x < 9007199254740992 := (rM_b (x := x) (odd_ne hn.2.1)).1; omega),
    opt_eql_i rfl rfl i6,
    trivial⟩
  have hcalls : CallsT Tryd.prog (@Know.calls (DBelow_dn_t_k b1 b2 b3 b4 b5 b6)) := ⟨callt rfl rfl fun w hG => DCheck_dyr (Dy.mk true n x) (Or.inr hn) w,
    callt rfl rfl fun w hG => DTop_r true n x w hn,
    callt rfl rfl fun w hG => Least_r true n x w hn h,
    callt rfl rfl fun w hG => NShift_r true n x w hn h,
    callt rfl rfl fun w hG => NSmall_r true n x w hn,
    callt rfl rfl fun w hG => NBit_r true n x w hn hu,
    callt rfl rfl fun w hG => bMake_i true (rM n x + 1) (rQ n x) w (rM_b (x := x) (odd_ne hn.2.1)).1 (rQ_b n x).1 (rQ_b n x).2 ((rM_b (x := x) (odd_ne hn.2.1)).2.imp (fun h => Nat.le_succ_of_le h) id) i5 hG,
    trivial⟩
  have fin : ∀ v, @comes (DBelow_dn_t_k b1 b2 b3 b4 b5 b6) Tryd.prog glT 3000 DBelow_dn_t_f DBelow_dn_t_a = some v → ground v = true → Ending.returned (gval v) = .returned (.tuple #[.float .f64 (rnd true n x (upBelow true n x)), .int .i64 0]) → Calls Tryd.prog 7 #[.agg #[.bool true, .string (natS n), .int .i64 x]] w fun e w' => e = .returned (.tuple #[.float .f64 (rnd true n x (upBelow true n x)), .int .i64 0]) ∧ Below w.heap.size w w' := fun v h1 h2 h3 => (@sym_ok _ (DBelow_dn_t_k b1 b2 b3 b4 b5 b6) _ (@KnowOk.of _ (DBelow_dn_t_k b1 b2 b3 b4 b5 b6) _ hops hcalls) (by kernel_rfl) _ _ _ _ h1 rfl h2 _ hG).mono fun e w' h => ⟨h.1.trans h3, h.2⟩
  clear hops hcalls
  cases b3 with
  | true =>
    have h3 : ((rB n x : Nat) : Int) = 0 := i3.1 rfl
    cases b4 with
    | true =>
      have h4 : ((rM n x % 2 : Nat) : Int) = 1 := i4.1 rfl
      cases b5 with
      | true =>
        have h5 : okP (rM n x + 1) (rQ n x) = true := i5.1 rfl
        cases b1 with
        | true =>
          exact absurd (i1.1 rfl) ((by omega))
        | false =>
          have h1 : ¬ (rT n x > 1023) := fun c => Bool.false_ne_true (i1.2 c)
          cases b2 with
          | true =>
            exact absurd (i2.1 rfl) ((by omega))
          | false =>
            have h2 : ¬ (rQ n x - x ≤ 0) := fun c => Bool.false_ne_true (i2.2 c)
            exact fin _ (DBelow_dn_t_r1 b6) rfl (show Ending.returned (.tuple #[.float .f64 (mkW true (rM n x + 1) (rQ n x)), .int .i64 0]) = .returned (.tuple #[.float .f64 (rnd true n x (upBelow true n x)), .int .i64 0]) from by rw [upBelow_t (by rw [(show rW n x = 1 from (by rw [rW_dn hn h hu, if_pos (by have := h3; omega)]))]; decide), rnd_t, mkW_ok h5])
      | false =>
        have h5 : ¬ (okP (rM n x + 1) (rQ n x) = true) := fun c => Bool.false_ne_true (i5.2 c)
        cases b1 with
        | true =>
          exact absurd (i1.1 rfl) ((by omega))
        | false =>
          have h1 : ¬ (rT n x > 1023) := fun c => Bool.false_ne_true (i1.2 c)
          cases b2 with
          | true =>
            exact absurd (i2.1 rfl) ((by omega))
          | false =>
            have h2 : ¬ (rQ n x - x ≤ 0) := fun c => Bool.false_ne_true (i2.2 c)
            exact fin _ (DBelow_dn_t_r2 b6) rfl (show Ending.returned (.tuple #[.float .f64 18442240474082181120, .int .i64 0]) = .returned (.tuple #[.float .f64 (rnd true n x (upBelow true n x)), .int .i64 0]) from by rw [upBelow_t (by rw [(show rW n x = 1 from (by rw [rW_dn hn h hu, if_pos (by have := h3; omega)]))]; decide), rnd_t, inf_t h5])
    | false =>
      have h4 : ¬ (((rM n x % 2 : Nat) : Int) = 1) := fun c => Bool.false_ne_true (i4.2 c)
      cases b5 with
      | true =>
        have h5 : okP (rM n x + 1) (rQ n x) = true := i5.1 rfl
        cases b1 with
        | true =>
          exact absurd (i1.1 rfl) ((by omega))
        | false =>
          have h1 : ¬ (rT n x > 1023) := fun c => Bool.false_ne_true (i1.2 c)
          cases b2 with
          | true =>
            exact absurd (i2.1 rfl) ((by omega))
          | false =>
            have h2 : ¬ (rQ n x - x ≤ 0) := fun c => Bool.false_ne_true (i2.2 c)
            exact fin _ (DBelow_dn_t_r3 b6) rfl (show Ending.returned (.tuple #[.float .f64 (mkW true (rM n x + 1) (rQ n x)), .int .i64 0]) = .returned (.tuple #[.float .f64 (rnd true n x (upBelow true n x)), .int .i64 0]) from by rw [upBelow_t (by rw [(show rW n x = 1 from (by rw [rW_dn hn h hu, if_pos (by have := h3; omega)]))]; decide), rnd_t, mkW_ok h5])
      | false =>
        have h5 : ¬ (okP (rM n x + 1) (rQ n x) = true) := fun c => Bool.false_ne_true (i5.2 c)
        cases b1 with
        | true =>
          exact absurd (i1.1 rfl) ((by omega))
        | false =>
          have h1 : ¬ (rT n x > 1023) := fun c => Bool.false_ne_true (i1.2 c)
          cases b2 with
          | true =>
            exact absurd (i2.1 rfl) ((by omega))
          | false =>
            have h2 : ¬ (rQ n x - x ≤ 0) := fun c => Bool.false_ne_true (i2.2 c)
            exact fin _ (DBelow_dn_t_r4 b6) rfl (show Ending.returned (.tuple #[.float .f64 18442240474082181120, .int .i64 0]) = .returned (.tuple #[.float .f64 (rnd true n x (upBelow true n x)), .int .i64 0]) from by rw [upBelow_t (by rw [(show rW n x = 1 from (by rw [rW_dn hn h hu, if_pos (by have := h3; omega)]))]; decide), rnd_t, inf_t h5])
  | false =>
    have h3 : ¬ (((rB n x : Nat) : Int) = 0) := fun c => Bool.false_ne_true (i3.2 c)
    cases b6 with
    | true =>
      have h6 : rQ n x - x = 1 := i6.1 rfl
      cases b4 with
      | true =>
        have h4 : ((rM n x % 2 : Nat) : Int) = 1 := i4.1 rfl
        cases b5 with
        | true =>
          have h5 : okP (rM n x + 1) (rQ n x) = true := i5.1 rfl
          cases b1 with
          | true =>
            exact absurd (i1.1 rfl) ((by omega))
          | false =>
            have h1 : ¬ (rT n x > 1023) := fun c => Bool.false_ne_true (i1.2 c)
            cases b2 with
            | true =>
              exact absurd (i2.1 rfl) ((by omega))
            | false =>
              have h2 : ¬ (rQ n x - x ≤ 0) := fun c => Bool.false_ne_true (i2.2 c)
              exact fin _ (DBelow_dn_t_r5) rfl (show Ending.returned (.tuple #[.float .f64 (mkW true (rM n x + 1) (rQ n x)), .int .i64 0]) = .returned (.tuple #[.float .f64 (rnd true n x (upBelow true n x)), .int .i64 0]) from by rw [upBelow_t (by rw [(show rW n x = 2 from (by rw [rW_dn hn h hu, if_neg (fun c => h3 (by rw [c]; rfl)), if_pos h6]))]; decide), rnd_t, mkW_ok h5])
        | false =>
          have h5 : ¬ (okP (rM n x + 1) (rQ n x) = true) := fun c => Bool.false_ne_true (i5.2 c)
          cases b1 with
          | true =>
            exact absurd (i1.1 rfl) ((by omega))
          | false =>
            have h1 : ¬ (rT n x > 1023) := fun c => Bool.false_ne_true (i1.2 c)
            cases b2 with
            | true =>
              exact absurd (i2.1 rfl) ((by omega))
            | false =>
              have h2 : ¬ (rQ n x - x ≤ 0) := fun c => Bool.false_ne_true (i2.2 c)
              exact fin _ (DBelow_dn_t_r6) rfl (show Ending.returned (.tuple #[.float .f64 18442240474082181120, .int .i64 0]) = .returned (.tuple #[.float .f64 (rnd true n x (upBelow true n x)), .int .i64 0]) from by rw [upBelow_t (by rw [(show rW n x = 2 from (by rw [rW_dn hn h hu, if_neg (fun c => h3 (by rw [c]; rfl)), if_pos h6]))]; decide), rnd_t, inf_t h5])
      | false =>
        have h4 : ¬ (((rM n x % 2 : Nat) : Int) = 1) := fun c => Bool.false_ne_true (i4.2 c)
        cases b5 with
        | true =>
          have h5 : okP (rM n x + 1) (rQ n x) = true := i5.1 rfl
          cases b1 with
          | true =>
            exact absurd (i1.1 rfl) ((by omega))
          | false =>
            have h1 : ¬ (rT n x > 1023) := fun c => Bool.false_ne_true (i1.2 c)
            cases b2 with
            | true =>
              exact absurd (i2.1 rfl) ((by omega))
            | false =>
              have h2 : ¬ (rQ n x - x ≤ 0) := fun c => Bool.false_ne_true (i2.2 c)
              exact fin _ (DBelow_dn_t_r7) rfl (show Ending.returned (.tuple #[.float .f64 (mkW true (rM n x + 1) (rQ n x)), .int .i64 0]) = .returned (.tuple #[.float .f64 (rnd true n x (upBelow true n x)), .int .i64 0]) from by rw [upBelow_t (by rw [(show rW n x = 2 from (by rw [rW_dn hn h hu, if_neg (fun c => h3 (by rw [c]; rfl)), if_pos h6]))]; decide), rnd_t, mkW_ok h5])
        | false =>
          have h5 : ¬ (okP (rM n x + 1) (rQ n x) = true) := fun c => Bool.false_ne_true (i5.2 c)
          cases b1 with
          | true =>
            exact absurd (i1.1 rfl) ((by omega))
          | false =>
            have h1 : ¬ (rT n x > 1023) := fun c => Bool.false_ne_true (i1.2 c)
            cases b2 with
            | true =>
              exact absurd (i2.1 rfl) ((by omega))
            | false =>
              have h2 : ¬ (rQ n x - x ≤ 0) := fun c => Bool.false_ne_true (i2.2 c)
              exact fin _ (DBelow_dn_t_r8) rfl (show Ending.returned (.tuple #[.float .f64 18442240474082181120, .int .i64 0]) = .returned (.tuple #[.float .f64 (rnd true n x (upBelow true n x)), .int .i64 0]) from by rw [upBelow_t (by rw [(show rW n x = 2 from (by rw [rW_dn hn h hu, if_neg (fun c => h3 (by rw [c]; rfl)), if_pos h6]))]; decide), rnd_t, inf_t h5])
    | false =>
      have h6 : ¬ (rQ n x - x = 1) := fun c => Bool.false_ne_true (i6.2 c)
      cases b4 with
      | true =>
        have h4 : ((rM n x % 2 : Nat) : Int) = 1 := i4.1 rfl
        cases b5 with
        | true =>
          have h5 : okP (rM n x + 1) (rQ n x) = true := i5.1 rfl
          cases b1 with
          | true =>
            exact absurd (i1.1 rfl) ((by omega))
          | false =>
            have h1 : ¬ (rT n x > 1023) := fun c => Bool.false_ne_true (i1.2 c)
            cases b2 with
            | true =>
              exact absurd (i2.1 rfl) ((by omega))
            | false =>
              have h2 : ¬ (rQ n x - x ≤ 0) := fun c => Bool.false_ne_true (i2.2 c)
              exact fin _ (DBelow_dn_t_r9) rfl (show Ending.returned (.tuple #[.float .f64 (mkW true (rM n x + 1) (rQ n x)), .int .i64 0]) = .returned (.tuple #[.float .f64 (rnd true n x (upBelow true n x)), .int .i64 0]) from by rw [upBelow_t (by rw [(show rW n x = 3 from (by rw [rW_dn hn h hu, if_neg (fun c => h3 (by rw [c]; rfl)), if_neg h6]))]; decide), rnd_t, mkW_ok h5])
        | false =>
          have h5 : ¬ (okP (rM n x + 1) (rQ n x) = true) := fun c => Bool.false_ne_true (i5.2 c)
          cases b1 with
          | true =>
            exact absurd (i1.1 rfl) ((by omega))
          | false =>
            have h1 : ¬ (rT n x > 1023) := fun c => Bool.false_ne_true (i1.2 c)
            cases b2 with
            | true =>
              exact absurd (i2.1 rfl) ((by omega))
            | false =>
              have h2 : ¬ (rQ n x - x ≤ 0) := fun c => Bool.false_ne_true (i2.2 c)
              exact fin _ (DBelow_dn_t_r10) rfl (show Ending.returned (.tuple #[.float .f64 18442240474082181120, .int .i64 0]) = .returned (.tuple #[.float .f64 (rnd true n x (upBelow true n x)), .int .i64 0]) from by rw [upBelow_t (by rw [(show rW n x = 3 from (by rw [rW_dn hn h hu, if_neg (fun c => h3 (by rw [c]; rfl)), if_neg h6]))]; decide), rnd_t, inf_t h5])
      | false =>
        have h4 : ¬ (((rM n x % 2 : Nat) : Int) = 1) := fun c => Bool.false_ne_true (i4.2 c)
        cases b5 with
        | true =>
          have h5 : okP (rM n x + 1) (rQ n x) = true := i5.1 rfl
          cases b1 with
          | true =>
            exact absurd (i1.1 rfl) ((by omega))
          | false =>
            have h1 : ¬ (rT n x > 1023) := fun c => Bool.false_ne_true (i1.2 c)
            cases b2 with
            | true =>
              exact absurd (i2.1 rfl) ((by omega))
            | false =>
              have h2 : ¬ (rQ n x - x ≤ 0) := fun c => Bool.false_ne_true (i2.2 c)
              exact fin _ (DBelow_dn_t_r11) rfl (show Ending.returned (.tuple #[.float .f64 (mkW true (rM n x + 1) (rQ n x)), .int .i64 0]) = .returned (.tuple #[.float .f64 (rnd true n x (upBelow true n x)), .int .i64 0]) from by rw [upBelow_t (by rw [(show rW n x = 3 from (by rw [rW_dn hn h hu, if_neg (fun c => h3 (by rw [c]; rfl)), if_neg h6]))]; decide), rnd_t, mkW_ok h5])
        | false =>
          have h5 : ¬ (okP (rM n x + 1) (rQ n x) = true) := fun c => Bool.false_ne_true (i5.2 c)
          cases b1 with
          | true =>
            exact absurd (i1.1 rfl) ((by omega))
          | false =>
            have h1 : ¬ (rT n x > 1023) := fun c => Bool.false_ne_true (i1.2 c)
            cases b2 with
            | true =>
              exact absurd (i2.1 rfl) ((by omega))
            | false =>
              have h2 : ¬ (rQ n x - x ≤ 0) := fun c => Bool.false_ne_true (i2.2 c)
              exact fin _ (DBelow_dn_t_r12) rfl (show Ending.returned (.tuple #[.float .f64 18442240474082181120, .int .i64 0]) = .returned (.tuple #[.float .f64 (rnd true n x (upBelow true n x)), .int .i64 0]) from by rw [upBelow_t (by rw [(show rW n x = 3 from (by rw [rW_dn hn h hu, if_neg (fun c => h3 (by rw [c]; rfl)), if_neg h6]))]; decide), rnd_t, inf_t h5])
theorem DBelow_t (n : Nat) (x : Int) (w : World) (hn : (Dy.mk true n x).Num) (hG : Globs glT w) : Calls Tryd.prog 7 #[.agg #[.bool true, .string (natS n), .int .i64 x]] w fun e w' => e = .returned (.tuple #[.float .f64 (rnd true n x (upBelow true n x)), .int .i64 0]) ∧ Below w.heap.size w w' := by
  by_cases h : 1024 ≤ rT n x
  · exact DBelow_far_t n x w hn h hG
  · by_cases hu : rQ n x ≤ x
    · exact DBelow_up_t n x w hn h hu hG
    · exact DBelow_dn_t n x w hn h hu hG
end Go.Proofs.YtcljdjocknfaiaaDoor
set_option linter.unusedSimpArgs false
set_option linter.unusedVariables false
namespace Go.Proofs.YtcljdjocknfaiaaDoor
open Go Go.RowKit Nt
end Go.Proofs.YtcljdjocknfaiaaDoor
set_option linter.unusedSimpArgs false
set_option linter.unusedVariables false
namespace Go.Proofs.YtcljdjocknfaiaaDoor
open Go Go.RowKit Nt
@[irreducible] def EE : Nat := 4194304
theorem EE_eq : EE = 4194304 := by unfold EE; rfl
/-- The value times 2 to the power EE. -/
def iv (d : Dy) : Int := sgnd d.g (d.n * 2 ^ (d.x + EE).toNat)
theorem iv_zero : iv Dy.zero = 0 := by
  unfold iv Dy.zero sgnd
  simp
theorem sgnd_abs (g : Bool) (m : Nat) : (sgnd g m).natAbs = m := by unfold sgnd; cases g <;> simp
theorem sgnd_neg {g : Bool} {m : Nat} (h : m ≠ 0) : decide (sgnd g m < 0) = g := by unfold sgnd; cases g <;> simp <;> omega
/-- What is made of a whole number over 2 to the power k. -/
def mkZ (z : Int) (k : Nat) : Dy := mkD (decide (z < 0)) z.natAbs (-(k : Int))
def mkZE (z : Int) (k : Nat) : Int := mkE z.natAbs (-(k : Int))
theorem mk_toZ (g : Bool) (n : Nat) (x : Int) (k : Nat) (h : -(k : Int) ≤ x) : mkD g n x = mkZ (sgnd g (n * 2 ^ (x + k).toNat)) k ∧ mkE n x = mkZE (sgnd g (n * 2 ^ (x + k).toNat)) k := by
  obtain ⟨j, hj⟩ : ∃ j, j = (x + k).toNat := ⟨_, rfl⟩
  rw [← hj]
  have e : -(k : Int) = x - (j : Int) := by omega
  have hs := mkD_shift g n j x
  unfold mkZ mkZE
  rw [sgnd_abs, e, hs.2]
  by_cases h0 : n = 0
  · subst h0; rw [Nat.zero_mul, mkD_zero, mkD_zero]; exact ⟨rfl, rfl⟩
  · have h1 : n * 2 ^ j ≠ 0 := Nat.mul_ne_zero h0 (Nat.pos_iff_ne_zero.1 (Nat.two_pow_pos j))
    rw [sgnd_neg h1, hs.1]; exact ⟨rfl, rfl⟩
/-- What is made where that may be has just that value. -/
theorem mk_iv {z : Int} (h : mkZE z EE = 0) : iv (mkZ z EE) = z := by
  have hk : mkOk3 z.natAbs (-(EE : Int)) := by
    by_cases c : mkOk3 z.natAbs (-(EE : Int))
    · exact c
    · unfold mkZE at h; rw [mkE_no c] at h; exact absurd h (by decide)
  unfold mkZ
  by_cases h0 : z.natAbs = 0
  · have : z = 0 := by omega
    subst this
    rw [show (0 : Int).natAbs = 0 from rfl, mkD_zero, iv_zero]
  · rw [mkD_ok h0 hk]
    unfold iv
    show sgnd (decide (z < 0)) (odN z.natAbs * 2 ^ (-(EE : Int) + (lowN z.natAbs : Int) + (EE : Int)).toNat) = z
    rw [show (-(EE : Int) + (lowN z.natAbs : Int) + (EE : Int)).toNat = lowN z.natAbs by omega, ← (odN_spec h0).2]
    unfold sgnd
    by_cases hz : z < 0
    · rw [decide_eq_true hz, if_pos rfl]; omega
    · rw [decide_eq_false hz, if_neg (by decide)]; omega
theorem sgnd_f (m : Nat) : sgnd false m = (m : Int) := rfl
theorem sgnd_t (m : Nat) : sgnd true m = -(m : Int) := rfl
def sgI (z : Int) : Int := if z < 0 then -1 else if 0 < z then 1 else 0
theorem iv_pos {d : Dy} (h : d.Num) : 0 < d.n * 2 ^ (d.x + (EE : Int)).toNat := Nat.mul_pos (Nat.pos_of_ne_zero (odd_ne h.2.1)) (Nat.two_pow_pos _)
theorem sgD_iv {d : Dy} (h : d.Ok) : sgD d = sgI (iv d) := by
  rcases h with rfl | h
  · rw [sgD_zero, iv_zero]; rfl
  · have hp := iv_pos h
    rw [sgD_num (odd_ne h.2.1)]
    unfold iv
    generalize d.n * 2 ^ (d.x + (EE : Int)).toNat = m at *
    unfold sgI
    cases d.g
    · rw [sgn_f, sgnd_f, if_neg (by omega), if_pos (by omega)]
    · rw [sgn_t, sgnd_t, if_pos (by omega)]
theorem cmp_mul (a b c : Nat) (hc : 0 < c) : cmpN (a * c) (b * c) = cmpN a b := by
  rcases Nat.lt_trichotomy a b with h | h | h
  · rw [cmpN_lt h, cmpN_lt (Nat.mul_lt_mul_of_pos_right h hc)]
  · rw [h, cmpN_eq, cmpN_eq]
  · rw [cmpN_gt h, cmpN_gt (Nat.mul_lt_mul_of_pos_right h hc)]
/-- The magnitudes' order is that of the values. -/
theorem mag_iv {a b : Dy} (ha : a.Num) (hb : b.Num) : magC a b = cmpN (a.n * 2 ^ (a.x + (EE : Int)).toNat) (b.n * 2 ^ (b.x + (EE : Int)).toNat) := by
  have hax := ha.2.2
  have hbx := hb.2.2
  obtain ⟨i, hi⟩ : ∃ i, i = (a.x + (EE : Int)).toNat := ⟨_, rfl⟩
  obtain ⟨j, hj⟩ : ∃ j, j = (b.x + (EE : Int)).toNat := ⟨_, rfl⟩
  have hie : a.x = (i : Int) - (EE : Int) := by rw [EE_eq] at *; omega
  have hje : b.x = (j : Int) - (EE : Int) := by rw [EE_eq] at *; omega
  have na := nd_mul_pow (j := i) (odd_ne ha.2.1)
  have nb := nd_mul_pow (j := j) (odd_ne hb.2.1)
  rw [← hi, ← hj]
  rcases Int.lt_trichotomy (topD a) (topD b) with h | h | h
  · rw [magC_lt h]
    rw [topD_eq, topD_eq] at h
    exact (cmpN_lt (lt_of_nd (b := 2) (by omega) (by omega))).symm
  · rw [magC_eq h, upN_eq, upN_eq]
    by_cases hx : j ≤ i
    · rw [show (a.x - b.x).toNat = i - j by omega, show (b.x - a.x).toNat = 0 by omega, Nat.pow_zero, Nat.mul_one, ← cmp_mul _ _ (2 ^ j) (Nat.two_pow_pos j), Nat.mul_assoc, ← Nat.pow_add, show i - j + j = i by omega]
    · rw [show (a.x - b.x).toNat = 0 by omega, show (b.x - a.x).toNat = j - i by omega, Nat.pow_zero, Nat.mul_one, ← cmp_mul _ _ (2 ^ i) (Nat.two_pow_pos i), Nat.mul_assoc, ← Nat.pow_add, show j - i + i = j by omega]
  · rw [magC_gt h]
    rw [topD_eq, topD_eq] at h
    exact (cmpN_gt (lt_of_nd (b := 2) (by omega) (by omega))).symm
/-- The order is that of the values. -/
theorem cmp_iv {a b : Dy} (ha : a.Ok) (hb : b.Ok) : cmpD a b = sgI (iv a - iv b) := by
  have sa := sgD_iv ha
  have sb := sgD_iv hb
  rcases Int.lt_trichotomy (sgD a) (sgD b) with h | h | h
  · rw [cmpD_lt h]
    rw [sa, sb] at h
    unfold sgI at h ⊢
    rw [if_pos (by split at h <;> split at h <;> (try split at h) <;> (try split at h) <;> omega)]
  · by_cases h0 : sgD a = 0
    · rw [cmpD_zero h h0, Dy.zero_of ha h0, Dy.zero_of hb (h ▸ h0), iv_zero]; rfl
    · rw [cmpD_eq h h0]
      have na := Dy.num_of ha h0
      have nb := Dy.num_of hb (h ▸ h0)
      rw [mag_iv na nb, sgD_num (odd_ne na.2.1)]
      have hg : sgnI a.g = sgnI b.g := by rw [← sgD_num (odd_ne na.2.1), ← sgD_num (odd_ne nb.2.1)]; exact h
      have hg2 : a.g = b.g := by
        revert hg
        cases a.g <;> cases b.g <;> simp [sgn_t, sgn_f]
      unfold iv
      rw [← hg2]
      generalize a.n * 2 ^ (a.x + (EE : Int)).toNat = m
      generalize b.n * 2 ^ (b.x + (EE : Int)).toNat = n
      unfold sgI
      rcases Nat.lt_trichotomy m n with c | c | c
      · rw [cmpN_lt c]
        cases a.g
        · rw [sgn_f, sgnd_f, sgnd_f, if_pos (by omega)]; rfl
        · rw [sgn_t, sgnd_t, sgnd_t, if_neg (by omega), if_pos (by omega)]; rfl
      · rw [c, cmpN_eq, Int.mul_zero, if_neg (by omega), if_neg (by omega)]
      · rw [cmpN_gt c]
        cases a.g
        · rw [sgn_f, sgnd_f, sgnd_f, if_neg (by omega), if_pos (by omega)]; rfl
        · rw [sgn_t, sgnd_t, sgnd_t, if_pos (by omega)]; rfl
  · rw [cmpD_gt h]
    rw [sa, sb] at h
    unfold sgI at h ⊢
    rw [if_neg (by split at h <;> split at h <;> (try split at h) <;> (try split at h) <;> omega), if_pos (by split at h <;> split at h <;> (try split at h) <;> (try split at h) <;> omega)]
end Go.Proofs.YtcljdjocknfaiaaDoor
/-! What DyadRing says, of numbers alone. -/
set_option autoImplicit false
namespace Go.Proofs.YtcljdjocknfaiaaDoor
open Go
theorem cmp_gt {a b : Dy} (ha : a.Ok) (hb : b.Ok) (h : iv b < iv a) : 0 < cmpD a b := by
  rw [cmp_iv ha hb]; unfold sgI
  rw [if_neg (by omega), if_pos (by omega)]; decide
end Go.Proofs.YtcljdjocknfaiaaDoor
namespace Go.Proofs.YtcljdjocknfaiaaDoor.Bt.Ff
open Ieee
theorem word_rs (s : Bool) {r : Nat} (h : r < 9223372036854775808) : rung (double.word s r) = r ∧ sgn (double.word s r) = s := by
  unfold Format.word rung sgn; rw [sw]
  cases s
  · rw [if_neg (by decide)]; exact ⟨by omega, by rw [beq_eq_false_iff_ne]; omega⟩
  · rw [if_pos rfl]; exact ⟨by omega, by rw [beq_iff_eq]; omega⟩
end Go.Proofs.YtcljdjocknfaiaaDoor.Bt.Ff
set_option linter.unusedSimpArgs false
set_option linter.unusedVariables false
namespace Go.Proofs.YtcljdjocknfaiaaDoor
open Go Go.RowKit Nt
open Ieee in
theorem dbl : double.signWeight = 9223372036854775808 ∧ double.infRung = 9218868437227405312 ∧ double.binade = 4503599627370496 ∧ double.leastPlace = -1074 ∧ double.fractionBits = 52 := by decide
open Ieee in
theorem word_wf (g : Bool) (r : Nat) : double.word g r = Bt.wf g r := by
  rw [Bt.wf_eq, Bt.topped_eq]; unfold Format.word; rw [dbl.1]
end Go.Proofs.YtcljdjocknfaiaaDoor
set_option linter.unusedSimpArgs false
set_option linter.unusedVariables false
namespace Go.Proofs.YtcljdjocknfaiaaDoor
open Go Go.RowKit Nt
theorem wf_rung (g : Bool) {r : Nat} (h : r ≤ 9218868437227405312) : Bt.Ff.rung (Bt.wf g r) = r ∧ Bt.Ff.sgn (Bt.wf g r) = g := by
  rw [← word_wf]; exact Bt.Ff.word_rs g (by omega)
theorem wf_isn (g : Bool) {r : Nat} (h : r ≤ 9218868437227405312) : ¬ Bt.Ff.isn (Bt.wf g r) := by unfold Bt.Ff.isn; rw [(wf_rung g h).1]; omega
/-! Of floats. -/
def flt (x : Nat) : Dy := mkD (Bt.Ff.sgn x) (Bt.pm x) (Bt.pex x)
theorem flt_Ok (x : Nat) : (flt x).Ok := mkD_Ok _ _ _
section
variable {x y z : Nat} (hx : x < 18446744073709551616) (hy : y < 18446744073709551616) (hz : z < 18446744073709551616) (fx : Bt.finB x = true) (fy : Bt.finB y = true) (fz : Bt.finB z = true)
include hx hy fx fy
include hz fz
end
end Go.Proofs.YtcljdjocknfaiaaDoor
set_option linter.unusedVariables false
set_option linter.unusedSimpArgs false
namespace Go.Proofs.YtcljdjocknfaiaaDoor
open Go Go.RowKit Nt
set_option maxRecDepth 100000 in
theorem lBits_c (x : Nat) (w : World) : Calls Tryd.prog 9 #[.float .f64 x, .float .f64 x] w fun e w' => e = .returned (.bool true) ∧ Below w.heap.size w w' := by
  have hx := Bt.ext_bits
  have hy : ((x : Int) == (x : Int)) = true := beq_iff_eq.2 rfl
  go_enter Tryd.func9, Tryd.ntmps9
  go_wp2
  go_ret
  exact ⟨rfl, Below.refl _ _⟩
theorem DCheck_bd (t : Dt) (w : World) (zt : t.s.size ≤ 9223372036854775807) (nt : ¬ t.Ok) : Calls Tryd.prog 12 #[.agg #[.bool t.g, .string t.s, .int .i64 t.x]] w fun e w' => e = .returned (.int .i64 2) ∧ Below w.heap.size w w' := by
  have h := DCheck_c t w zt
  rwa [dE_no (List.mem_singleton.2 rfl) nt] at h
@[reducible] def DNear_z_f : FuncId := 6
@[reducible] def DNear_z_a : List AV := [.lit (.agg #[.bool false, .string ⟨#[]⟩, .int .i64 0])]
@[reducible] noncomputable def DNear_z_k : Know := ⟨[],
  []⟩
theorem DNear_z_r1 : @comes DNear_z_k Tryd.prog glT 3000 DNear_z_f DNear_z_a = some (.lit (.tuple #[.float .f64 0, .int .i64 0])) := by kernel_rfl
set_option maxRecDepth 100000 in
set_option maxHeartbeats 4000000 in
theorem DNear_z  (w : World)  (hG : Globs glT w) : Calls Tryd.prog 6 #[.agg #[.bool false, .string ⟨#[]⟩, .int .i64 0]] w fun e w' => e = .returned (.tuple #[.float .f64 0, .int .i64 0]) ∧ Below w.heap.size w w' := by
  letI : Env := mkEnv glT [] rfl
  have hops : OpsT Tryd.prog (@Know.ops DNear_z_k) := trivial
  have hcalls : CallsT Tryd.prog (@Know.calls DNear_z_k) := trivial
  have fin : ∀ v, @comes DNear_z_k Tryd.prog glT 3000 DNear_z_f DNear_z_a = some v → ground v = true → Ending.returned (gval v) = .returned (.tuple #[.float .f64 0, .int .i64 0]) → Calls Tryd.prog 6 #[.agg #[.bool false, .string ⟨#[]⟩, .int .i64 0]] w fun e w' => e = .returned (.tuple #[.float .f64 0, .int .i64 0]) ∧ Below w.heap.size w w' := fun v h1 h2 h3 => (@sym_ok _ DNear_z_k _ (@KnowOk.of _ DNear_z_k _ hops hcalls) (by kernel_rfl) _ _ _ _ h1 rfl h2 _ hG).mono fun e w' h => ⟨h.1.trans h3, h.2⟩
  clear hops hcalls
  exact fin _ (DNear_z_r1) rfl rfl
end Go.Proofs.YtcljdjocknfaiaaDoor
