/- Texts put together: D64 D46 D47 D48 Frt D67 D68 D63b D65 D66 D69 B7t B8t B10t D80 D81 SyE G1 G2 G8 G3. -/
import Derived.Test.YtmjjodficjjehaaGreatDoorU6
import Derived.Test.YtmjjodficjjehaaGreatDoorU2
import Derived.Test.YtmjjodficjjehaaGreatDoorU5
import Derived.Test.YtmjjodficjjehaaGreatDoorU1
set_option linter.unusedVariables false
set_option linter.unusedSimpArgs false
namespace Go.Proofs.YtmjjodficjjehaaGreatDoor
open Go Go.RowKit Nt
@[reducible] def DNear_far_f_f : FuncId := 39
@[reducible] def DNear_far_f_a : List AV := [.agg [.lit (.bool false), .sym 0, .sym 1]]
@[reducible] noncomputable def DNear_far_f_k (b1 b2 : Bool) : Know := ⟨[([0, 15, 3], [.sym 2, .lit (.int .i64 1023)], .lit (.bool b2))],
  [(72, [.agg [.lit (.bool false), .sym 0, .sym 1]], .lit (.int .i64 0)),
  (112, [.agg [.lit (.bool false), .sym 0, .sym 1]], .tup [.sym 2, .lit (.bool true)]),
  (142, [.lit (.bool false), .lit (.int .u64 9007199254740992), .lit (.int .i64 971)], .tup [.sym 3, .lit (.bool b1)])]⟩
theorem DNear_far_f_r1 : @comes (DNear_far_f_k false true) Tryz.prog glT 3000 DNear_far_f_f DNear_far_f_a = some (.lit (.tuple #[.float .f64 9218868437227405312, .int .i64 0])) := by kernel_rfl
set_option maxRecDepth 100000 in
set_option maxHeartbeats 4000000 in
theorem DNear_far_f (n : Nat) (x : Int) (w : World) (hn : (Dy.mk false n x).Num) (h : 1024 ≤ rT n x) (hG : Globs glT w) : Calls Tryz.prog 39 #[.agg #[.bool false, .string (natS n), .int .i64 x]] w fun e w' => e = .returned (.tuple #[.float .f64 (rnd false n x (upNear n x)), .int .i64 0]) ∧ Below w.heap.size w w' := by
  obtain ⟨b1, i1⟩ := bex (okP 9007199254740992 971 = true)
  obtain ⟨b2, i2⟩ := bex (rT n x > 1023)
  letI : Env := mkEnv glT [.string (natS n), .int .i64 x, .int .i64 (rT n x), .float .f64 (mkW false 9007199254740992 971)] rfl
  have hops : OpsT Tryz.prog (@Know.ops (DNear_far_f_k b1 b2)) := ⟨opt_gtr_i rfl rfl i2,
    trivial⟩
  have hcalls : CallsT Tryz.prog (@Know.calls (DNear_far_f_k b1 b2)) := ⟨callt rfl rfl fun w hG => DCheck_dyr (Dy.mk false n x) (Or.inr hn) w,
    callt rfl rfl fun w hG => DTop_r false n x w hn,
    callt rfl rfl fun w hG => bMake_i false 9007199254740992 971 w (by omega) (by omega) (by omega) (Or.inl (by omega)) i1 hG,
    trivial⟩
  have fin : ∀ v, @comes (DNear_far_f_k b1 b2) Tryz.prog glT 3000 DNear_far_f_f DNear_far_f_a = some v → ground v = true → Ending.returned (gval v) = .returned (.tuple #[.float .f64 (rnd false n x (upNear n x)), .int .i64 0]) → Calls Tryz.prog 39 #[.agg #[.bool false, .string (natS n), .int .i64 x]] w fun e w' => e = .returned (.tuple #[.float .f64 (rnd false n x (upNear n x)), .int .i64 0]) ∧ Below w.heap.size w w' := fun v h1 h2 h3 => (@sym_ok _ (DNear_far_f_k b1 b2) _ (@KnowOk.of _ (DNear_far_f_k b1 b2) _ hops hcalls) (by kernel_rfl) _ _ _ _ h1 rfl h2 _ hG).mono fun e w' h => ⟨h.1.trans h3, h.2⟩
  clear hops hcalls
  cases b1 with
  | true =>
    exact absurd (i1.1 rfl) (fun c => okP_iff.1 c ⟨rfl, rfl⟩)
  | false =>
    have h1 : ¬ (okP 9007199254740992 971 = true) := fun c => Bool.false_ne_true (i1.2 c)
    cases b2 with
    | true =>
      have h2 : rT n x > 1023 := i2.1 rfl
      exact fin _ (DNear_far_f_r1) rfl (show Ending.returned (.tuple #[.float .f64 9218868437227405312, .int .i64 0]) = .returned (.tuple #[.float .f64 (rnd false n x (upNear n x)), .int .i64 0]) from by rw [upNear_t (Or.inl (rQ_far h).2.2), rnd_t, (rQ_far h).1, (rQ_far h).2.1, inf_f h1])
    | false =>
      exact absurd (i2.2 ((by omega))) Bool.false_ne_true
@[reducible] def DNear_up_f_f : FuncId := 39
@[reducible] def DNear_up_f_a : List AV := [.agg [.lit (.bool false), .sym 0, .sym 1]]
@[reducible] noncomputable def DNear_up_f_k (b1 b2 b3 : Bool) : Know := ⟨[([0, 15, 3], [.sym 2, .lit (.int .i64 1023)], .lit (.bool b1)),
  ([0, 1, 3], [.sym 3, .sym 1], .sym 4),
  ([1, 0, 3], [.sym 4], .sym 5),
  ([0, 14, 3], [.sym 4, .lit (.int .i64 0)], .lit (.bool b3))],
  [(72, [.agg [.lit (.bool false), .sym 0, .sym 1]], .lit (.int .i64 0)),
  (112, [.agg [.lit (.bool false), .sym 0, .sym 1]], .tup [.sym 2, .lit (.bool true)]),
  (114, [.sym 2], .sym 3),
  (115, [.sym 0, .sym 5], .tup [.sym 6, .lit (.int .i64 0)]),
  (116, [.sym 6], .tup [.sym 7, .lit (.bool true)]),
  (142, [.lit (.bool false), .sym 7, .sym 3], .tup [.sym 8, .lit (.bool b2)])]⟩
theorem DNear_up_f_r1 : @comes (DNear_up_f_k false true true) Tryz.prog glT 3000 DNear_up_f_f DNear_up_f_a = some (.tup [.sym 8, .lit (.int .i64 0)]) := by kernel_rfl
set_option maxRecDepth 100000 in
set_option maxHeartbeats 4000000 in
theorem DNear_up_f (n : Nat) (x : Int) (w : World) (hn : (Dy.mk false n x).Num) (h : ¬ 1024 ≤ rT n x) (hu : rQ n x ≤ x) (hG : Globs glT w) : Calls Tryz.prog 39 #[.agg #[.bool false, .string (natS n), .int .i64 x]] w fun e w' => e = .returned (.tuple #[.float .f64 (rnd false n x (upNear n x)), .int .i64 0]) ∧ Below w.heap.size w w' := by
  obtain ⟨b1, i1⟩ := bex (rT n x > 1023)
  obtain ⟨b2, i2⟩ := bex (okP (rM n x) (rQ n x) = true)
  obtain ⟨b3, i3⟩ := bex (rQ n x - x ≤ 0)
  letI : Env := mkEnv glT [.string (natS n), .int .i64 x, .int .i64 (rT n x), .int .i64 (rQ n x), .int .i64 (rQ n x - x), .int .i64 (-(rQ n x - x)), .string (natS (rM n x)), .int .u64 (((rM n x : Nat) : Int)), .float .f64 (mkW false (rM n x) (rQ n x))] rfl
  have hops : OpsT Tryz.prog (@Know.ops (DNear_up_f_k b1 b2 b3)) := ⟨opt_gtr_i rfl rfl i1,
    opt_sub rfl rfl rfl rfl rfl (by have := (rQ_b n x); have := hn.2.2.1; have := hn.2.2.2; simp only at *; omega),
    opt_neg rfl rfl rfl rfl (by have := (rQ_b n x); have := hn.2.2.1; have := hn.2.2.2; simp only at *; omega),
    opt_leq_i rfl rfl i3,
    trivial⟩
  have hcalls : CallsT Tryz.prog (@Know.calls (DNear_up_f_k b1 b2 b3)) := ⟨callt rfl rfl fun w hG => DCheck_dyr (Dy.mk false n x) (Or.inr hn) w,
    callt rfl rfl fun w hG => DTop_r false n x w hn,
    callt rfl rfl fun w hG => Least_r false n x w hn h,
    callt rfl rfl fun w hG => NShift_r false n x w hn h,
    callt rfl rfl fun w hG => NSmall_r false n x w hn,
    callt rfl rfl fun w hG => bMake_i false (rM n x) (rQ n x) w (Nat.le_of_lt (rM_b (x := x) (odd_ne hn.2.1)).1) (rQ_b n x).1 (rQ_b n x).2 (rM_b (x := x) (odd_ne hn.2.1)).2 i2 hG,
    trivial⟩
  have fin : ∀ v, @comes (DNear_up_f_k b1 b2 b3) Tryz.prog glT 3000 DNear_up_f_f DNear_up_f_a = some v → ground v = true → Ending.returned (gval v) = .returned (.tuple #[.float .f64 (rnd false n x (upNear n x)), .int .i64 0]) → Calls Tryz.prog 39 #[.agg #[.bool false, .string (natS n), .int .i64 x]] w fun e w' => e = .returned (.tuple #[.float .f64 (rnd false n x (upNear n x)), .int .i64 0]) ∧ Below w.heap.size w w' := fun v h1 h2 h3 => (@sym_ok _ (DNear_up_f_k b1 b2 b3) _ (@KnowOk.of _ (DNear_up_f_k b1 b2 b3) _ hops hcalls) (by kernel_rfl) _ _ _ _ h1 rfl h2 _ hG).mono fun e w' h => ⟨h.1.trans h3, h.2⟩
  clear hops hcalls
  cases b2 with
  | true =>
    have h2 : okP (rM n x) (rQ n x) = true := i2.1 rfl
    cases b1 with
    | true =>
      exact absurd (i1.1 rfl) ((by omega))
    | false =>
      have h1 : ¬ (rT n x > 1023) := fun c => Bool.false_ne_true (i1.2 c)
      cases b3 with
      | true =>
        have h3 : rQ n x - x ≤ 0 := i3.1 rfl
        exact fin _ (DNear_up_f_r1) rfl (show Ending.returned (.tuple #[.float .f64 (mkW false (rM n x) (rQ n x)), .int .i64 0]) = .returned (.tuple #[.float .f64 (rnd false n x (upNear n x)), .int .i64 0]) from by rw [upNear_f (by rw [(rM_up h hu).2]; omega), rnd_f, mkW_ok h2])
      | false =>
        exact absurd (i3.2 ((by omega))) Bool.false_ne_true
  | false =>
    exact absurd (i2.2 (okP_lt (rM_b (x := x) (odd_ne hn.2.1)).1)) Bool.false_ne_true
@[reducible] def DNear_dn_f_f : FuncId := 39
@[reducible] def DNear_dn_f_a : List AV := [.agg [.lit (.bool false), .sym 0, .sym 1]]
@[reducible] noncomputable def DNear_dn_f_k (b1 b2 b3 b4 b5 b6 b7 : Bool) : Know := ⟨[([0, 15, 3], [.sym 2, .lit (.int .i64 1023)], .lit (.bool b1)),
  ([0, 1, 3], [.sym 3, .sym 1], .sym 4),
  ([1, 0, 3], [.sym 4], .sym 5),
  ([0, 14, 3], [.sym 4, .lit (.int .i64 0)], .lit (.bool b3)),
  ([0, 1, 3], [.sym 4, .lit (.int .i64 1)], .sym 9),
  ([0, 11, 5], [.sym 10, .lit (.int .u8 0)], .lit (.bool b4)),
  ([0, 5, 76], [.sym 7, .lit (.int .u64 1)], .sym 11),
  ([0, 11, 76], [.sym 11, .lit (.int .u64 1)], .lit (.bool b5)),
  ([0, 11, 3], [.sym 4, .lit (.int .i64 1)], .lit (.bool b6)),
  ([0, 0, 76], [.sym 7, .lit (.int .u64 1)], .sym 12)],
  [(72, [.agg [.lit (.bool false), .sym 0, .sym 1]], .lit (.int .i64 0)),
  (112, [.agg [.lit (.bool false), .sym 0, .sym 1]], .tup [.sym 2, .lit (.bool true)]),
  (114, [.sym 2], .sym 3),
  (115, [.sym 0, .sym 5], .tup [.sym 6, .lit (.int .i64 0)]),
  (116, [.sym 6], .tup [.sym 7, .lit (.bool true)]),
  (142, [.lit (.bool false), .sym 7, .sym 3], .tup [.sym 8, .lit (.bool b2)]),
  (145, [.sym 0, .sym 9], .tup [.sym 10, .lit (.int .i64 0)]),
  (142, [.lit (.bool false), .sym 12, .sym 3], .tup [.sym 13, .lit (.bool b7)])]⟩
theorem DNear_dn_f_r1 (b6 b7 : Bool) : @comes (DNear_dn_f_k false true false true true b6 b7) Tryz.prog glT 3000 DNear_dn_f_f DNear_dn_f_a = some (.tup [.sym 8, .lit (.int .i64 0)]) := by kernel_rfl
theorem DNear_dn_f_r2 (b6 b7 : Bool) : @comes (DNear_dn_f_k false true false true false b6 b7) Tryz.prog glT 3000 DNear_dn_f_f DNear_dn_f_a = some (.tup [.sym 8, .lit (.int .i64 0)]) := by kernel_rfl
theorem DNear_dn_f_r3 (b2 : Bool) : @comes (DNear_dn_f_k false b2 false false true true true) Tryz.prog glT 3000 DNear_dn_f_f DNear_dn_f_a = some (.tup [.sym 13, .lit (.int .i64 0)]) := by kernel_rfl
theorem DNear_dn_f_r4 (b2 : Bool) : @comes (DNear_dn_f_k false b2 false false true true false) Tryz.prog glT 3000 DNear_dn_f_f DNear_dn_f_a = some (.lit (.tuple #[.float .f64 9218868437227405312, .int .i64 0])) := by kernel_rfl
theorem DNear_dn_f_r5 (b7 : Bool) : @comes (DNear_dn_f_k false true false false false true b7) Tryz.prog glT 3000 DNear_dn_f_f DNear_dn_f_a = some (.tup [.sym 8, .lit (.int .i64 0)]) := by kernel_rfl
theorem DNear_dn_f_r6 (b2 : Bool) : @comes (DNear_dn_f_k false b2 false false true false true) Tryz.prog glT 3000 DNear_dn_f_f DNear_dn_f_a = some (.tup [.sym 13, .lit (.int .i64 0)]) := by kernel_rfl
theorem DNear_dn_f_r7 (b2 : Bool) : @comes (DNear_dn_f_k false b2 false false true false false) Tryz.prog glT 3000 DNear_dn_f_f DNear_dn_f_a = some (.lit (.tuple #[.float .f64 9218868437227405312, .int .i64 0])) := by kernel_rfl
theorem DNear_dn_f_r8 (b2 : Bool) : @comes (DNear_dn_f_k false b2 false false false false true) Tryz.prog glT 3000 DNear_dn_f_f DNear_dn_f_a = some (.tup [.sym 13, .lit (.int .i64 0)]) := by kernel_rfl
theorem DNear_dn_f_r9 (b2 : Bool) : @comes (DNear_dn_f_k false b2 false false false false false) Tryz.prog glT 3000 DNear_dn_f_f DNear_dn_f_a = some (.lit (.tuple #[.float .f64 9218868437227405312, .int .i64 0])) := by kernel_rfl
set_option maxRecDepth 100000 in
set_option maxHeartbeats 4000000 in
theorem DNear_dn_f (n : Nat) (x : Int) (w : World) (hn : (Dy.mk false n x).Num) (h : ¬ 1024 ≤ rT n x) (hu : ¬ rQ n x ≤ x) (hG : Globs glT w) : Calls Tryz.prog 39 #[.agg #[.bool false, .string (natS n), .int .i64 x]] w fun e w' => e = .returned (.tuple #[.float .f64 (rnd false n x (upNear n x)), .int .i64 0]) ∧ Below w.heap.size w w' := by
  obtain ⟨b1, i1⟩ := bex (rT n x > 1023)
  obtain ⟨b2, i2⟩ := bex (okP (rM n x) (rQ n x) = true)
  obtain ⟨b3, i3⟩ := bex (rQ n x - x ≤ 0)
  obtain ⟨b4, i4⟩ := bex (((rB n x : Nat) : Int) = 0)
  obtain ⟨b5, i5⟩ := bex (((rM n x % 2 : Nat) : Int) = 1)
  obtain ⟨b6, i6⟩ := bex (rQ n x - x = 1)
  obtain ⟨b7, i7⟩ := bex (okP (rM n x + 1) (rQ n x) = true)
  letI : Env := mkEnv glT [.string (natS n), .int .i64 x, .int .i64 (rT n x), .int .i64 (rQ n x), .int .i64 (rQ n x - x), .int .i64 (-(rQ n x - x)), .string (natS (rM n x)), .int .u64 (((rM n x : Nat) : Int)), .float .f64 (mkW false (rM n x) (rQ n x)), .int .i64 (rQ n x - x - 1), .int .u8 (((rB n x : Nat) : Int)), .int .u64 (((rM n x % 2 : Nat) : Int)), .int .u64 (((rM n x + 1 : Nat) : Int)), .float .f64 (mkW false (rM n x + 1) (rQ n x))] rfl
  have hops : OpsT Tryz.prog (@Know.ops (DNear_dn_f_k b1 b2 b3 b4 b5 b6 b7)) := ⟨opt_gtr_i rfl rfl i1,
    opt_sub rfl rfl rfl rfl rfl (by have := (rQ_b n x); have := hn.2.2.1; have := hn.2.2.2; simp only at *; omega),
    opt_neg rfl rfl rfl rfl (by have := (rQ_b n x); have := hn.2.2.1; have := hn.2.2.2; simp only at *; omega),
    opt_leq_i rfl rfl i3,
    opt_sub rfl rfl rfl rfl rfl (by have := (rQ_b n x); have := hn.2.2.1; have := hn.2.2.2; simp only at *; omega),
    opt_eql_i rfl rfl i4,
    opt_odd rfl rfl rfl rfl (by have : rM n x < 9007199254740992 := (rM_b (x := x) (odd_ne hn.2.1)).1; omega),
    opt_eql_i rfl rfl i5,
    opt_eql_i rfl rfl i6,
    opt_add64 (y := 1) rfl rfl rfl rfl rfl (by have : rM n x < 9007199254740992 := (rM_b (x := x) (odd_ne hn.2.1)).1; omega),
    trivial⟩
  have hcalls : CallsT Tryz.prog (@Know.calls (DNear_dn_f_k b1 b2 b3 b4 b5 b6 b7)) := ⟨callt rfl rfl fun w hG => DCheck_dyr (Dy.mk false n x) (Or.inr hn) w,
    callt rfl rfl fun w hG => DTop_r false n x w hn,
    callt rfl rfl fun w hG => Least_r false n x w hn h,
    callt rfl rfl fun w hG => NShift_r false n x w hn h,
    callt rfl rfl fun w hG => NSmall_r false n x w hn,
    callt rfl rfl fun w hG => bMake_i false (rM n x) (rQ n x) w (Nat.le_of_lt (rM_b (x := x) (odd_ne hn.2.1)).1) (rQ_b n x).1 (rQ_b n x).2 (rM_b (x := x) (odd_ne hn.2.1)).2 i2 hG,
    callt rfl rfl fun w hG => NBit_r false n x w hn hu,
    callt rfl rfl fun w hG => bMake_i false (rM n x + 1) (rQ n x) w (rM_b (x := x) (odd_ne hn.2.1)).1 (rQ_b n x).1 (rQ_b n x).2 ((rM_b (x := x) (odd_ne hn.2.1)).2.imp (fun h => Nat.le_succ_of_le h) id) i7 hG,
    trivial⟩
  have fin : ∀ v, @comes (DNear_dn_f_k b1 b2 b3 b4 b5 b6 b7) Tryz.prog glT 3000 DNear_dn_f_f DNear_dn_f_a = some v → ground v = true → Ending.returned (gval v) = .returned (.tuple #[.float .f64 (rnd false n x (upNear n x)), .int .i64 0]) → Calls Tryz.prog 39 #[.agg #[.bool false, .string (natS n), .int .i64 x]] w fun e w' => e = .returned (.tuple #[.float .f64 (rnd false n x (upNear n x)), .int .i64 0]) ∧ Below w.heap.size w w' := fun v h1 h2 h3 => (@sym_ok _ (DNear_dn_f_k b1 b2 b3 b4 b5 b6 b7) _ (@KnowOk.of _ (DNear_dn_f_k b1 b2 b3 b4 b5 b6 b7) _ hops hcalls) (by kernel_rfl) _ _ _ _ h1 rfl h2 _ hG).mono fun e w' h => ⟨h.1.trans h3, h.2⟩
  clear hops hcalls
  cases b4 with
  | true =>
    have h4 : ((rB n x : Nat) : Int) = 0 := i4.1 rfl
    cases b5 with
    | true =>
      have h5 : ((rM n x % 2 : Nat) : Int) = 1 := i5.1 rfl
      cases b2 with
      | true =>
        have h2 : okP (rM n x) (rQ n x) = true := i2.1 rfl
        cases b1 with
        | true =>
          exact absurd (i1.1 rfl) ((by omega))
        | false =>
          have h1 : ¬ (rT n x > 1023) := fun c => Bool.false_ne_true (i1.2 c)
          cases b3 with
          | true =>
            exact absurd (i3.1 rfl) ((by omega))
          | false =>
            have h3 : ¬ (rQ n x - x ≤ 0) := fun c => Bool.false_ne_true (i3.2 c)
            exact fin _ (DNear_dn_f_r1 b6 b7) rfl (show Ending.returned (.tuple #[.float .f64 (mkW false (rM n x) (rQ n x)), .int .i64 0]) = .returned (.tuple #[.float .f64 (rnd false n x (upNear n x)), .int .i64 0]) from by rw [upNear_f (by rw [(show rW n x = 1 from (by rw [rW_dn hn h hu, if_pos (by have := h4; omega)]))]; omega), rnd_f, mkW_ok h2])
      | false =>
        exact absurd (i2.2 (okP_lt (rM_b (x := x) (odd_ne hn.2.1)).1)) Bool.false_ne_true
    | false =>
      have h5 : ¬ (((rM n x % 2 : Nat) : Int) = 1) := fun c => Bool.false_ne_true (i5.2 c)
      cases b2 with
      | true =>
        have h2 : okP (rM n x) (rQ n x) = true := i2.1 rfl
        cases b1 with
        | true =>
          exact absurd (i1.1 rfl) ((by omega))
        | false =>
          have h1 : ¬ (rT n x > 1023) := fun c => Bool.false_ne_true (i1.2 c)
          cases b3 with
          | true =>
            exact absurd (i3.1 rfl) ((by omega))
          | false =>
            have h3 : ¬ (rQ n x - x ≤ 0) := fun c => Bool.false_ne_true (i3.2 c)
            exact fin _ (DNear_dn_f_r2 b6 b7) rfl (show Ending.returned (.tuple #[.float .f64 (mkW false (rM n x) (rQ n x)), .int .i64 0]) = .returned (.tuple #[.float .f64 (rnd false n x (upNear n x)), .int .i64 0]) from by rw [upNear_f (by rw [(show rW n x = 1 from (by rw [rW_dn hn h hu, if_pos (by have := h4; omega)]))]; omega), rnd_f, mkW_ok h2])
      | false =>
        exact absurd (i2.2 (okP_lt (rM_b (x := x) (odd_ne hn.2.1)).1)) Bool.false_ne_true
  | false =>
    have h4 : ¬ (((rB n x : Nat) : Int) = 0) := fun c => Bool.false_ne_true (i4.2 c)
    cases b6 with
    | true =>
      have h6 : rQ n x - x = 1 := i6.1 rfl
      cases b5 with
      | true =>
        have h5 : ((rM n x % 2 : Nat) : Int) = 1 := i5.1 rfl
        cases b7 with
        | true =>
          have h7 : okP (rM n x + 1) (rQ n x) = true := i7.1 rfl
          cases b1 with
          | true =>
            exact absurd (i1.1 rfl) ((by omega))
          | false =>
            have h1 : ¬ (rT n x > 1023) := fun c => Bool.false_ne_true (i1.2 c)
            cases b3 with
            | true =>
              exact absurd (i3.1 rfl) ((by omega))
            | false =>
              have h3 : ¬ (rQ n x - x ≤ 0) := fun c => Bool.false_ne_true (i3.2 c)
              exact fin _ (DNear_dn_f_r3 b2) rfl (show Ending.returned (.tuple #[.float .f64 (mkW false (rM n x + 1) (rQ n x)), .int .i64 0]) = .returned (.tuple #[.float .f64 (rnd false n x (upNear n x)), .int .i64 0]) from by rw [upNear_t (Or.inr ⟨(show rW n x = 2 from (by rw [rW_dn hn h hu, if_neg (fun c => h4 (by rw [c]; rfl)), if_pos h6])), by have := h5; omega⟩), rnd_t, mkW_ok h7])
        | false =>
          have h7 : ¬ (okP (rM n x + 1) (rQ n x) = true) := fun c => Bool.false_ne_true (i7.2 c)
          cases b1 with
          | true =>
            exact absurd (i1.1 rfl) ((by omega))
          | false =>
            have h1 : ¬ (rT n x > 1023) := fun c => Bool.false_ne_true (i1.2 c)
            cases b3 with
            | true =>
              exact absurd (i3.1 rfl) ((by omega))
            | false =>
              have h3 : ¬ (rQ n x - x ≤ 0) := fun c => Bool.false_ne_true (i3.2 c)
              exact fin _ (DNear_dn_f_r4 b2) rfl (show Ending.returned (.tuple #[.float .f64 9218868437227405312, .int .i64 0]) = .returned (.tuple #[.float .f64 (rnd false n x (upNear n x)), .int .i64 0]) from by rw [upNear_t (Or.inr ⟨(show rW n x = 2 from (by rw [rW_dn hn h hu, if_neg (fun c => h4 (by rw [c]; rfl)), if_pos h6])), by have := h5; omega⟩), rnd_t, inf_f h7])
      | false =>
        have h5 : ¬ (((rM n x % 2 : Nat) : Int) = 1) := fun c => Bool.false_ne_true (i5.2 c)
        cases b2 with
        | true =>
          have h2 : okP (rM n x) (rQ n x) = true := i2.1 rfl
          cases b1 with
          | true =>
            exact absurd (i1.1 rfl) ((by omega))
          | false =>
            have h1 : ¬ (rT n x > 1023) := fun c => Bool.false_ne_true (i1.2 c)
            cases b3 with
            | true =>
              exact absurd (i3.1 rfl) ((by omega))
            | false =>
              have h3 : ¬ (rQ n x - x ≤ 0) := fun c => Bool.false_ne_true (i3.2 c)
              exact fin _ (DNear_dn_f_r5 b7) rfl (show Ending.returned (.tuple #[.float .f64 (mkW false (rM n x) (rQ n x)), .int .i64 0]) = .returned (.tuple #[.float .f64 (rnd false n x (upNear n x)), .int .i64 0]) from by rw [upNear_f (fun c => by rcases c with c | ⟨_, c⟩; exact absurd ((show rW n x = 2 from (by rw [rW_dn hn h hu, if_neg (fun c => h4 (by rw [c]; rfl)), if_pos h6])).symm.trans c) (by decide); exact h5 (by rw [c]; rfl)), rnd_f, mkW_ok h2])
        | false =>
          exact absurd (i2.2 (okP_lt (rM_b (x := x) (odd_ne hn.2.1)).1)) Bool.false_ne_true
    | false =>
      have h6 : ¬ (rQ n x - x = 1) := fun c => Bool.false_ne_true (i6.2 c)
      cases b5 with
      | true =>
        have h5 : ((rM n x % 2 : Nat) : Int) = 1 := i5.1 rfl
        cases b7 with
        | true =>
          have h7 : okP (rM n x + 1) (rQ n x) = true := i7.1 rfl
          cases b1 with
          | true =>
            exact absurd (i1.1 rfl) ((by omega))
          | false =>
            have h1 : ¬ (rT n x > 1023) := fun c => Bool.false_ne_true (i1.2 c)
            cases b3 with
            | true =>
              exact absurd (i3.1 rfl) ((by omega))
            | false =>
              have h3 : ¬ (rQ n x - x ≤ 0) := fun c => Bool.false_ne_true (i3.2 c)
              exact fin _ (DNear_dn_f_r6 b2) rfl (show Ending.returned (.tuple #[.float .f64 (mkW false (rM n x + 1) (rQ n x)), .int .i64 0]) = .returned (.tuple #[.float .f64 (rnd false n x (upNear n x)), .int .i64 0]) from by rw [upNear_t (Or.inl (show rW n x = 3 from (by rw [rW_dn hn h hu, if_neg (fun c => h4 (by rw [c]; rfl)), if_neg h6]))), rnd_t, mkW_ok h7])
        | false =>
          have h7 : ¬ (okP (rM n x + 1) (rQ n x) = true) := fun c => Bool.false_ne_true (i7.2 c)
          cases b1 with
          | true =>
            exact absurd (i1.1 rfl) ((by omega))
          | false =>
            have h1 : ¬ (rT n x > 1023) := fun c => Bool.false_ne_true (i1.2 c)
            cases b3 with
            | true =>
              exact absurd (i3.1 rfl) ((by omega))
            | false =>
              have h3 : ¬ (rQ n x - x ≤ 0) := fun c => Bool.false_ne_true (i3.2 c)
              exact fin _ (DNear_dn_f_r7 b2) rfl (show Ending.returned (.tuple #[.float .f64 9218868437227405312, .int .i64 0]) = .returned (.tuple #[.float .f64 (rnd false n x (upNear n x)), .int .i64 0]) from by rw [upNear_t (Or.inl (show rW n x = 3 from (by rw [rW_dn hn h hu, if_neg (fun c => h4 (by rw [c]; rfl)), if_neg h6]))), rnd_t, inf_f h7])
      | false =>
        have h5 : ¬ (((rM n x % 2 : Nat) : Int) = 1) := fun c => Bool.false_ne_true (i5.2 c)
        cases b7 with
        | true =>
          have h7 : okP (rM n x + 1) (rQ n x) = true := i7.1 rfl
          cases b1 with
          | true =>
            exact absurd (i1.1 rfl) ((by omega))
          | false =>
            have h1 : ¬ (rT n x > 1023) := fun c => Bool.false_ne_true (i1.2 c)
            cases b3 with
            | true =>
              exact absurd (i3.1 rfl) ((by omega))
            | false =>
              have h3 : ¬ (rQ n x - x ≤ 0) := fun c => Bool.false_ne_true (i3.2 c)
              exact fin _ (DNear_dn_f_r8 b2) rfl (show Ending.returned (.tuple #[.float .f64 (mkW false (rM n x + 1) (rQ n x)), .int .i64 0]) = .returned (.tuple #[.float .f64 (rnd false n x (upNear n x)), .int .i64 0]) from by rw [upNear_t (Or.inl (show rW n x = 3 from (by rw [rW_dn hn h hu, if_neg (fun c => h4 (by rw [c]; rfl)), if_neg h6]))), rnd_t, mkW_ok h7])
        | false =>
          have h7 : ¬ (okP (rM n x + 1) (rQ n x) = true) := fun c => Bool.false_ne_true (i7.2 c)
          cases b1 with
          | true =>
            exact absurd (i1.1 rfl) ((by omega))
          | false =>
            have h1 : ¬ (rT n x > 1023) := fun c => Bool.false_ne_true (i1.2 c)
            cases b3 with
            | true =>
              exact absurd (i3.1 rfl) ((by omega))
            | false =>
              have h3 : ¬ (rQ n x - x ≤ 0) := fun c => Bool.false_ne_true (i3.2 c)
              exact fin _ (DNear_dn_f_r9 b2) rfl (show Ending.returned (.tuple #[.float .f64 9218868437227405312, .int .i64 0]) = .returned (.tuple #[.float .f64 (rnd false n x (upNear n x)), .int .i64 0]) from by rw [upNear_t (Or.inl (show rW n x = 3 from (by rw [rW_dn hn h hu, if_neg (fun c => h4 (by rw [c]; rfl)), if_neg h6]))), rnd_t, inf_f h7])
theorem DNear_f (n : Nat) (x : Int) (w : World) (hn : (Dy.mk false n x).Num) (hG : Globs glT w) : Calls Tryz.prog 39 #[.agg #[.bool false, .string (natS n), .int .i64 x]] w fun e w' => e = .returned (.tuple #[.float .f64 (rnd false n x (upNear n x)), .int .i64 0]) ∧ Below w.heap.size w w' := by
  by_cases h : 1024 ≤ rT n x
  · exact DNear_far_f n x w hn h hG
  · by_cases hu : rQ n x ≤ x
    · exact DNear_up_f n x w hn h hu hG
    · exact DNear_dn_f n x w hn h hu hG
@[reducible] def DNear_far_t_f : FuncId := 39
@[reducible] def DNear_far_t_a : List AV := [.agg [.lit (.bool true), .sym 0, .sym 1]]
@[reducible] noncomputable def DNear_far_t_k (b1 b2 : Bool) : Know := ⟨[([0, 15, 3], [.sym 2, .lit (.int .i64 1023)], .lit (.bool b2))],
  [(72, [.agg [.lit (.bool true), .sym 0, .sym 1]], .lit (.int .i64 0)),
  (112, [.agg [.lit (.bool true), .sym 0, .sym 1]], .tup [.sym 2, .lit (.bool true)]),
  (142, [.lit (.bool true), .lit (.int .u64 9007199254740992), .lit (.int .i64 971)], .tup [.sym 3, .lit (.bool b1)])]⟩
theorem DNear_far_t_r1 : @comes (DNear_far_t_k false true) Tryz.prog glT 3000 DNear_far_t_f DNear_far_t_a = some (.lit (.tuple #[.float .f64 18442240474082181120, .int .i64 0])) := by kernel_rfl
set_option maxRecDepth 100000 in
set_option maxHeartbeats 4000000 in
theorem DNear_far_t (n : Nat) (x : Int) (w : World) (hn : (Dy.mk true n x).Num) (h : 1024 ≤ rT n x) (hG : Globs glT w) : Calls Tryz.prog 39 #[.agg #[.bool true, .string (natS n), .int .i64 x]] w fun e w' => e = .returned (.tuple #[.float .f64 (rnd true n x (upNear n x)), .int .i64 0]) ∧ Below w.heap.size w w' := by
  obtain ⟨b1, i1⟩ := bex (okP 9007199254740992 971 = true)
  obtain ⟨b2, i2⟩ := bex (rT n x > 1023)
  letI : Env := mkEnv glT [.string (natS n), .int .i64 x, .int .i64 (rT n x), .float .f64 (mkW true 9007199254740992 971)] rfl
  have hops : OpsT Tryz.prog (@Know.ops (DNear_far_t_k b1 b2)) := ⟨opt_gtr_i rfl rfl i2,
    trivial⟩
  have hcalls : CallsT Tryz.prog (@Know.calls (DNear_far_t_k b1 b2)) := ⟨callt rfl rfl fun w hG => DCheck_dyr (Dy.mk true n x) (Or.inr hn) w,
    callt rfl rfl fun w hG => DTop_r true n x w hn,
    callt rfl rfl fun w hG => bMake_i true 9007199254740992 971 w (by omega) (by omega) (by omega) (Or.inl (by omega)) i1 hG,
    trivial⟩
  have fin : ∀ v, @comes (DNear_far_t_k b1 b2) Tryz.prog glT 3000 DNear_far_t_f DNear_far_t_a = some v → ground v = true → Ending.returned (gval v) = .returned (.tuple #[.float .f64 (rnd true n x (upNear n x)), .int .i64 0]) → Calls Tryz.prog 39 #[.agg #[.bool true, .string (natS n), .int .i64 x]] w fun e w' => e = .returned (.tuple #[.float .f64 (rnd true n x (upNear n x)), .int .i64 0]) ∧ Below w.heap.size w w' := fun v h1 h2 h3 => (@sym_ok _ (DNear_far_t_k b1 b2) _ (@KnowOk.of _ (DNear_far_t_k b1 b2) _ hops hcalls) (by kernel_rfl) _ _ _ _ h1 rfl h2 _ hG).mono fun e w' h => ⟨h.1.trans h3, h.2⟩
  clear hops hcalls
  cases b1 with
  | true =>
    exact absurd (i1.1 rfl) (fun c => okP_iff.1 c ⟨rfl, rfl⟩)
  | false =>
    have h1 : ¬ (okP 9007199254740992 971 = true) := fun c => Bool.false_ne_true (i1.2 c)
    cases b2 with
    | true =>
      have h2 : rT n x > 1023 := i2.1 rfl
      exact fin _ (DNear_far_t_r1) rfl (show Ending.returned (.tuple #[.float .f64 18442240474082181120, .int .i64 0]) = .returned (.tuple #[.float .f64 (rnd true n x (upNear n x)), .int .i64 0]) from by rw [upNear_t (Or.inl (rQ_far h).2.2), rnd_t, (rQ_far h).1, (rQ_far h).2.1, inf_t h1])
    | false =>
      exact absurd (i2.2 ((by omega))) Bool.false_ne_true
@[reducible] def DNear_up_t_f : FuncId := 39
@[reducible] def DNear_up_t_a : List AV := [.agg [.lit (.bool true), .sym 0, .sym 1]]
@[reducible] noncomputable def DNear_up_t_k (b1 b2 b3 : Bool) : Know := ⟨[([0, 15, 3], [.sym 2, .lit (.int .i64 1023)], .lit (.bool b1)),
  ([0, 1, 3], [.sym 3, .sym 1], .sym 4),
  ([1, 0, 3], [.sym 4], .sym 5),
  ([0, 14, 3], [.sym 4, .lit (.int .i64 0)], .lit (.bool b3))],
  [(72, [.agg [.lit (.bool true), .sym 0, .sym 1]], .lit (.int .i64 0)),
  (112, [.agg [.lit (.bool true), .sym 0, .sym 1]], .tup [.sym 2, .lit (.bool true)]),
  (114, [.sym 2], .sym 3),
  (115, [.sym 0, .sym 5], .tup [.sym 6, .lit (.int .i64 0)]),
  (116, [.sym 6], .tup [.sym 7, .lit (.bool true)]),
  (142, [.lit (.bool true), .sym 7, .sym 3], .tup [.sym 8, .lit (.bool b2)])]⟩
theorem DNear_up_t_r1 : @comes (DNear_up_t_k false true true) Tryz.prog glT 3000 DNear_up_t_f DNear_up_t_a = some (.tup [.sym 8, .lit (.int .i64 0)]) := by kernel_rfl
set_option maxRecDepth 100000 in
set_option maxHeartbeats 4000000 in
theorem DNear_up_t (n : Nat) (x : Int) (w : World) (hn : (Dy.mk true n x).Num) (h : ¬ 1024 ≤ rT n x) (hu : rQ n x ≤ x) (hG : Globs glT w) : Calls Tryz.prog 39 #[.agg #[.bool true, .string (natS n), .int .i64 x]] w fun e w' => e = .returned (.tuple #[.float .f64 (rnd true n x (upNear n x)), .int .i64 0]) ∧ Below w.heap.size w w' := by
  obtain ⟨b1, i1⟩ := bex (rT n x > 1023)
  obtain ⟨b2, i2⟩ := bex (okP (rM n x) (rQ n x) = true)
  obtain ⟨b3, i3⟩ := bex (rQ n x - x ≤ 0)
  letI : Env := mkEnv glT [.string (natS n), .int .i64 x, .int .i64 (rT n x), .int .i64 (rQ n x), .int .i64 (rQ n x - x), .int .i64 (-(rQ n x - x)), .string (natS (rM n x)), .int .u64 (((rM n x : Nat) : Int)), .float .f64 (mkW true (rM n x) (rQ n x))] rfl
  have hops : OpsT Tryz.prog (@Know.ops (DNear_up_t_k b1 b2 b3)) := ⟨opt_gtr_i rfl rfl i1,
    opt_sub rfl rfl rfl rfl rfl (by have := (rQ_b n x); have := hn.2.2.1; have := hn.2.2.2; simp only at *; omega),
    opt_neg rfl rfl rfl rfl (by have := (rQ_b n x); have := hn.2.2.1; have := hn.2.2.2; simp only at *; omega),
    opt_leq_i rfl rfl i3,
    trivial⟩
  have hcalls : CallsT Tryz.prog (@Know.calls (DNear_up_t_k b1 b2 b3)) := ⟨callt rfl rfl fun w hG => DCheck_dyr (Dy.mk true n x) (Or.inr hn) w,
    callt rfl rfl fun w hG => DTop_r true n x w hn,
    callt rfl rfl fun w hG => Least_r true n x w hn h,
    callt rfl rfl fun w hG => NShift_r true n x w hn h,
    callt rfl rfl fun w hG => NSmall_r true n x w hn,
    callt rfl rfl fun w hG => bMake_i true (rM n x) (rQ n x) w (Nat.le_of_lt (rM_b (x := x) (odd_ne hn.2.1)).1) (rQ_b n x).1 (rQ_b n x).2 (rM_b (x := x) (odd_ne hn.2.1)).2 i2 hG,
    trivial⟩
  have fin : ∀ v, @comes (DNear_up_t_k b1 b2 b3) Tryz.prog glT 3000 DNear_up_t_f DNear_up_t_a = some v → ground v = true → Ending.returned (gval v) = .returned (.tuple #[.float .f64 (rnd true n x (upNear n x)), .int .i64 0]) → Calls Tryz.prog 39 #[.agg #[.bool true, .string (natS n), .int .i64 x]] w fun e w' => e = .returned (.tuple #[.float .f64 (rnd true n x (upNear n x)), .int .i64 0]) ∧ Below w.heap.size w w' := fun v h1 h2 h3 => (@sym_ok _ (DNear_up_t_k b1 b2 b3) _ (@KnowOk.of _ (DNear_up_t_k b1 b2 b3) _ hops hcalls) (by kernel_rfl) _ _ _ _ h1 rfl h2 _ hG).mono fun e w' h => ⟨h.1.trans h3, h.2⟩
  clear hops hcalls
  cases b2 with
  | true =>
    have h2 : okP (rM n x) (rQ n x) = true := i2.1 rfl
    cases b1 with
    | true =>
      exact absurd (i1.1 rfl) ((by omega))
    | false =>
      have h1 : ¬ (rT n x > 1023) := fun c => Bool.false_ne_true (i1.2 c)
      cases b3 with
      | true =>
        have h3 : rQ n x - x ≤ 0 := i3.1 rfl
        exact fin _ (DNear_up_t_r1) rfl (show Ending.returned (.tuple #[.float .f64 (mkW true (rM n x) (rQ n x)), .int .i64 0]) = .returned (.tuple #[.float .f64 (rnd true n x (upNear n x)), .int .i64 0]) from by rw [upNear_f (by rw [(rM_up h hu).2]; omega), rnd_f, mkW_ok h2])
      | false =>
        exact absurd (i3.2 ((by omega))) Bool.false_ne_true
  | false =>
    exact absurd (i2.2 (okP_lt (rM_b (x := x) (odd_ne hn.2.1)).1)) Bool.false_ne_true
@[reducible] def DNear_dn_t_f : FuncId := 39
@[reducible] def DNear_dn_t_a : List AV := [.agg [.lit (.bool true), .sym 0, .sym 1]]
@[reducible] noncomputable def DNear_dn_t_k (b1 b2 b3 b4 b5 b6 b7 : Bool) : Know := ⟨[([0, 15, 3], [.sym 2, .lit (.int .i64 1023)], .lit (.bool b1)),
  ([0, 1, 3], [.sym 3, .sym 1], .sym 4),
  ([1, 0, 3], [.sym 4], .sym 5),
  ([0, 14, 3], [.sym 4, .lit (.int .i64 0)], .lit (.bool b3)),
  ([0, 1, 3], [.sym 4, .lit (.int .i64 1)], .sym 9),
  ([0, 11, 5], [.sym 10, .lit (.int .u8 0)], .lit (.bool b4)),
  ([0, 5, 76], [.sym 7, .lit (.int .u64 1)], .sym 11),
  ([0, 11, 76], [.sym 11, .lit (.int .u64 1)], .lit (.bool b5)),
  ([0, 11, 3], [.sym 4, .lit (.int .i64 1)], .lit (.bool b6)),
  ([0, 0, 76], [.sym 7, .lit (.int .u64 1)], .sym 12)],
  [(72, [.agg [.lit (.bool true), .sym 0, .sym 1]], .lit (.int .i64 0)),
  (112, [.agg [.lit (.bool true), .sym 0, .sym 1]], .tup [.sym 2, .lit (.bool true)]),
  (114, [.sym 2], .sym 3),
  (115, [.sym 0, .sym 5], .tup [.sym 6, .lit (.int .i64 0)]),
  (116, [.sym 6], .tup [.sym 7, .lit (.bool true)]),
  (142, [.lit (.bool true), .sym 7, .sym 3], .tup [.sym 8, .lit (.bool b2)]),
  (145, [.sym 0, .sym 9], .tup [.sym 10, .lit (.int .i64 0)]),
  (142, [.lit (.bool true), .sym 12, .sym 3], .tup [.sym 13, .lit (.bool b7)])]⟩
theorem DNear_dn_t_r1 (b6 b7 : Bool) : @comes (DNear_dn_t_k false true false true true b6 b7) Tryz.prog glT 3000 DNear_dn_t_f DNear_dn_t_a = some (.tup [.sym 8, .lit (.int .i64 0)]) := by kernel_rfl
theorem DNear_dn_t_r2 (b6 b7 : Bool) : @comes (DNear_dn_t_k false true false true false b6 b7) Tryz.prog glT 3000 DNear_dn_t_f DNear_dn_t_a = some (.tup [.sym 8, .lit (.int .i64 0)]) := by kernel_rfl
theorem DNear_dn_t_r3 (b2 : Bool) : @comes (DNear_dn_t_k false b2 false false true true true) Tryz.prog glT 3000 DNear_dn_t_f DNear_dn_t_a = some (.tup [.sym 13, .lit (.int .i64 0)]) := by kernel_rfl
theorem DNear_dn_t_r4 (b2 : Bool) : @comes (DNear_dn_t_k false b2 false false true true false) Tryz.prog glT 3000 DNear_dn_t_f DNear_dn_t_a = some (.lit (.tuple #[.float .f64 18442240474082181120, .int .i64 0])) := by kernel_rfl
theorem DNear_dn_t_r5 (b7 : Bool) : @comes (DNear_dn_t_k false true false false false true b7) Tryz.prog glT 3000 DNear_dn_t_f DNear_dn_t_a = some (.tup [.sym 8, .lit (.int .i64 0)]) := by kernel_rfl
theorem DNear_dn_t_r6 (b2 : Bool) : @comes (DNear_dn_t_k false b2 false false true false true) Tryz.prog glT 3000 DNear_dn_t_f DNear_dn_t_a = some (.tup [.sym 13, .lit (.int .i64 0)]) := by kernel_rfl
theorem DNear_dn_t_r7 (b2 : Bool) : @comes (DNear_dn_t_k false b2 false false true false false) Tryz.prog glT 3000 DNear_dn_t_f DNear_dn_t_a = some (.lit (.tuple #[.float .f64 18442240474082181120, .int .i64 0])) := by kernel_rfl
theorem DNear_dn_t_r8 (b2 : Bool) : @comes (DNear_dn_t_k false b2 false false false false true) Tryz.prog glT 3000 DNear_dn_t_f DNear_dn_t_a = some (.tup [.sym 13, .lit (.int .i64 0)]) := by kernel_rfl
theorem DNear_dn_t_r9 (b2 : Bool) : @comes (DNear_dn_t_k false b2 false false false false false) Tryz.prog glT 3000 DNear_dn_t_f DNear_dn_t_a = some (.lit (.tuple #[.float .f64 18442240474082181120, .int .i64 0])) := by kernel_rfl
set_option maxRecDepth 100000 in
set_option maxHeartbeats 4000000 in
theorem DNear_dn_t (n : Nat) (x : Int) (w : World) (hn : (Dy.mk true n x).Num) (h : ¬ 1024 ≤ rT n x) (hu : ¬ rQ n x ≤ x) (hG : Globs glT w) : Calls Tryz.prog 39 #[.agg #[.bool true, .string (natS n), .int .i64 x]] w fun e w' => e = .returned (.tuple #[.float .f64 (rnd true n x (upNear n x)), .int .i64 0]) ∧ Below w.heap.size w w' := by
  obtain ⟨b1, i1⟩ := bex (rT n x > 1023)
  obtain ⟨b2, i2⟩ := bex (okP (rM n x) (rQ n x) = true)
  obtain ⟨b3, i3⟩ := bex (rQ n x - x ≤ 0)
  obtain ⟨b4, i4⟩ := bex (((rB n x : Nat) : Int) = 0)
  obtain ⟨b5, i5⟩ := bex (((rM n x % 2 : Nat) : Int) = 1)
  obtain ⟨b6, i6⟩ := bex (rQ n x - x = 1)
  obtain ⟨b7, i7⟩ := bex (okP (rM n x + 1) (rQ n x) = true)
  letI : Env := mkEnv glT [.string (natS n), .int .i64 x, .int .i64 (rT n x), .int .i64 (rQ n x), .int .i64 (rQ n x - x), .int .i64 (-(rQ n x - x)), .string (natS (rM n x)), .int .u64 (((rM n x : Nat) : Int)), .float .f64 (mkW true (rM n x) (rQ n x)), .int .i64 (rQ n x - x - 1), .int .u8 (((rB n x : Nat) : Int)), .int .u64 (((rM n x % 2 : Nat) : Int)), .int .u64 (((rM n x + 1 : Nat) : Int)), .float .f64 (mkW true (rM n x + 1) (rQ n x))] rfl
  have hops : OpsT Tryz.prog (@Know.ops (DNear_dn_t_k b1 b2 b3 b4 b5 b6 b7)) := ⟨opt_gtr_i rfl rfl i1,
    opt_sub rfl rfl rfl rfl rfl (by have := (rQ_b n x); have := hn.2.2.1; have := hn.2.2.2; simp only at *; omega),
    opt_neg rfl rfl rfl rfl (by have := (rQ_b n x); have := hn.2.2.1; have := hn.2.2.2; simp only at *; omega),
    opt_leq_i rfl rfl i3,
    opt_sub rfl rfl rfl rfl rfl (by have := (rQ_b n x); have := hn.2.2.1; have := hn.2.2.2; simp only at *; omega),
    opt_eql_i rfl rfl i4,
    opt_odd rfl rfl rfl rfl (by have : rM n x < 9007199254740992 := (rM_b (x := x) (odd_ne hn.2.1)).1; omega),
    opt_eql_i rfl rfl i5,
    opt_eql_i rfl rfl i6,
    opt_add64 (y := 1) rfl rfl rfl rfl rfl (by have : rM n x < 9007199254740992 := (rM_b (x := x) (odd_ne hn.2.1)).1; omega),
    trivial⟩
  have hcalls : CallsT Tryz.prog (@Know.calls (DNear_dn_t_k b1 b2 b3 b4 b5 b6 b7)) := ⟨callt rfl rfl fun w hG => DCheck_dyr (Dy.mk true n x) (Or.inr hn) w,
    callt rfl rfl fun w hG => DTop_r true n x w hn,
    callt rfl rfl fun w hG => Least_r true n x w hn h,
    callt rfl rfl fun w hG => NShift_r true n x w hn h,
    callt rfl rfl fun w hG => NSmall_r true n x w hn,
    callt rfl rfl fun w hG => bMake_i true (rM n x) (rQ n x) w (Nat.le_of_lt (rM_b (x := x) (odd_ne hn.2.1)).1) (rQ_b n x).1 (rQ_b n x).2 (rM_b (x := x) (odd_ne hn.2.1)).2 i2 hG,
    callt rfl rfl fun w hG => NBit_r true n x w hn hu,
    callt rfl rfl fun w hG => bMake_i true (rM n x + 1) (rQ n x) w (rM_b (x := x) (odd_ne hn.2.1)).1 (rQ_b n x).1 (rQ_b n x).2 ((rM_b (x := x) (odd_ne hn.2.1)).2.imp (fun h => Nat.le_succ_of_le h) id) i7 hG,
    trivial⟩
  have fin : ∀ v, @comes (DNear_dn_t_k b1 b2 b3 b4 b5 b6 b7) Tryz.prog glT 3000 DNear_dn_t_f DNear_dn_t_a = some v → ground v = true → Ending.returned (gval v) = .returned (.tuple #[.float .f64 (rnd true n x (upNear n x)), .int .i64 0]) → Calls Tryz.prog 39 #[.agg #[.bool true, .string (natS n), .int .i64 x]] w fun e w' => e = .returned (.tuple #[.float .f64 (rnd true n x (upNear n x)), .int .i64 0]) ∧ Below w.heap.size w w' := fun v h1 h2 h3 => (@sym_ok _ (DNear_dn_t_k b1 b2 b3 b4 b5 b6 b7) _ (@KnowOk.of _ (DNear_dn_t_k b1 b2 b3 b4 b5 b6 b7) _ hops hcalls) (by kernel_rfl) _ _ _ _ h1 rfl h2 _ hG).mono fun e w' h => ⟨h.1.trans h3, h.2⟩
  clear hops hcalls
  cases b4 with
  | true =>
    have h4 : ((rB n x : Nat) : Int) = 0 := i4.1 rfl
    cases b5 with
    | true =>
      have h5 : ((rM n x % 2 : Nat) : Int) = 1 := i5.1 rfl
      cases b2 with
      | true =>
        have h2 : okP (rM n x) (rQ n x) = true := i2.1 rfl
        cases b1 with
        | true =>
          exact absurd (i1.1 rfl) ((by omega))
        | false =>
          have h1 : ¬ (rT n x > 1023) := fun c => Bool.false_ne_true (i1.2 c)
          cases b3 with
          | true =>
            exact absurd (i3.1 rfl) ((by omega))
          | false =>
            have h3 : ¬ (rQ n x - x ≤ 0) := fun c => Bool.false_ne_true (i3.2 c)
            exact fin _ (DNear_dn_t_r1 b6 b7) rfl (show Ending.returned (.tuple #[.float .f64 (mkW true (rM n x) (rQ n x)), .int .i64 0]) = .returned (.tuple #[.float .f64 (rnd true n x (upNear n x)), .int .i64 0]) from by rw [upNear_f (by rw [(show rW n x = 1 from (by rw [rW_dn hn h hu, if_pos (by have := h4; omega)]))]; omega), rnd_f, mkW_ok h2])
      | false =>
        exact absurd (i2.2 (okP_lt (rM_b (x := x) (odd_ne hn.2.1)).1)) Bool.false_ne_true
    | false =>
      have h5 : ¬ (((rM n x % 2 : Nat) : Int) = 1) := fun c => Bool.false_ne_true (i5.2 c)
      cases b2 with
      | true =>
        have h2 : okP (rM n x) (rQ n x) = true := i2.1 rfl
        cases b1 with
        | true =>
          exact absurd (i1.1 rfl) ((by omega))
        | false =>
          have h1 : ¬ (rT n x > 1023) := fun c => Bool.false_ne_true (i1.2 c)
          cases b3 with
          | true =>
            exact absurd (i3.1 rfl) ((by omega))
          | false =>
            have h3 : ¬ (rQ n x - x ≤ 0) := fun c => Bool.false_ne_true (i3.2 c)
            exact fin _ (DNear_dn_t_r2 b6 b7) rfl (show Ending.returned (.tuple #[.float .f64 (mkW true (rM n x) (rQ n x)), .int .i64 0]) = .returned (.tuple #[.float .f64 (rnd true n x (upNear n x)), .int .i64 0]) from by rw [upNear_f (by rw [(show rW n x = 1 from (by rw [rW_dn hn h hu, if_pos (by have := h4; omega)]))]; omega), rnd_f, mkW_ok h2])
      | false =>
        exact absurd (i2.2 (okP_lt (rM_b (x := x) (odd_ne hn.2.1)).1)) Bool.false_ne_true
  | false =>
    have h4 : ¬ (((rB n x : Nat) : Int) = 0) := fun c => Bool.false_ne_true (i4.2 c)
    cases b6 with
    | true =>
      have h6 : rQ n x - x = 1 := i6.1 rfl
      cases b5 with
      | true =>
        have h5 : ((rM n x % 2 : Nat) : Int) = 1 := i5.1 rfl
        cases b7 with
        | true =>
          have h7 : okP (rM n x + 1) (rQ n x) = true := i7.1 rfl
          cases b1 with
          | true =>
            exact absurd (i1.1 rfl) ((by omega))
          | false =>
            have h1 : ¬ (rT n x > 1023) := fun c => Bool.false_ne_true (i1.2 c)
            cases b3 with
            | true =>
              exact absurd (i3.1 rfl) ((by omega))
            | false =>
              have h3 : ¬ (rQ n x - x ≤ 0) := fun c => Bool.false_ne_true (i3.2 c)
              exact fin _ (DNear_dn_t_r3 b2) rfl (show Ending.returned (.tuple #[.float .f64 (mkW true (rM n x + 1) (rQ n x)), .int .i64 0]) = .returned (.tuple #[.float .f64 (rnd true n x (upNear n x)), .int .i64 0]) from by rw [upNear_t (Or.inr ⟨(show rW n x = 2 from (by rw [rW_dn hn h hu, if_neg (fun c => h4 (by rw [c]; rfl)), if_pos h6])), by have := h5; omega⟩), rnd_t, mkW_ok h7])
        | false =>
          have h7 : ¬ (okP (rM n x + 1) (rQ n x) = true) := fun c => Bool.false_ne_true (i7.2 c)
          cases b1 with
          | true =>
            exact absurd (i1.1 rfl) ((by omega))
          | false =>
            have h1 : ¬ (rT n x > 1023) := fun c => Bool.false_ne_true (i1.2 c)
            cases b3 with
            | true =>
              exact absurd (i3.1 rfl) ((by omega))
            | false =>
              have h3 : ¬ (rQ n x - x ≤ 0) := fun c => Bool.false_ne_true (i3.2 c)
              exact fin _ (DNear_dn_t_r4 b2) rfl (show Ending.returned (.tuple #[.float .f64 18442240474082181120, .int .i64 0]) = .returned (.tuple #[.float .f64 (rnd true n x (upNear n x)), .int .i64 0]) from by rw [upNear_t (Or.inr ⟨(show rW n x = 2 from (by rw [rW_dn hn h hu, if_neg (fun c => h4 (by rw [c]; rfl)), if_pos h6])), by have := h5; omega⟩), rnd_t, inf_t h7])
      | false =>
        have h5 : ¬ (((rM n x % 2 : Nat) : Int) = 1) := fun c => Bool.false_ne_true (i5.2 c)
        cases b2 with
        | true =>
          have h2 : okP (rM n x) (rQ n x) = true := i2.1 rfl
          cases b1 with
          | true =>
            exact absurd (i1.1 rfl) ((by omega))
          | false =>
            have h1 : ¬ (rT n x > 1023) := fun c => Bool.false_ne_true (i1.2 c)
            cases b3 with
            | true =>
              exact absurd (i3.1 rfl) ((by omega))
            | false =>
              have h3 : ¬ (rQ n x - x ≤ 0) := fun c => Bool.false_ne_true (i3.2 c)
              exact fin _ (DNear_dn_t_r5 b7) rfl (show Ending.returned (.tuple #[.float .f64 (mkW true (rM n x) (rQ n x)), .int .i64 0]) = .returned (.tuple #[.float .f64 (rnd true n x (upNear n x)), .int .i64 0]) from by rw [upNear_f (fun c => by rcases c with c | ⟨_, c⟩; exact absurd ((show rW n x = 2 from (by rw [rW_dn hn h hu, if_neg (fun c => h4 (by rw [c]; rfl)), if_pos h6])).symm.trans c) (by decide); exact h5 (by rw [c]; rfl)), rnd_f, mkW_ok h2])
        | false =>
          exact absurd (i2.2 (okP_lt (rM_b (x := x) (odd_ne hn.2.1)).1)) Bool.false_ne_true
    | false =>
      have h6 : ¬ (rQ n x - x = 1) := fun c => Bool.false_ne_true (i6.2 c)
      cases b5 with
      | true =>
        have h5 : ((rM n x % 2 : Nat) : Int) = 1 := i5.1 rfl
        cases b7 with
        | true =>
          have h7 : okP (rM n x + 1) (rQ n x) = true := i7.1 rfl
          cases b1 with
          | true =>
            exact absurd (i1.1 rfl) ((by omega))
          | false =>
            have h1 : ¬ (rT n x > 1023) := fun c => Bool.false_ne_true (i1.2 c)
            cases b3 with
            | true =>
              exact absurd (i3.1 rfl) ((by omega))
            | false =>
              have h3 : ¬ (rQ n x - x ≤ 0) := fun c => Bool.false_ne_true (i3.2 c)
              exact fin _ (DNear_dn_t_r6 b2) rfl (show Ending.returned (.tuple #[.float .f64 (mkW true (rM n x + 1) (rQ n x)), .int .i64 0]) = .returned (.tuple #[.float .f64 (rnd true n x (upNear n x)), .int .i64 0]) from by rw [upNear_t (Or.inl (show rW n x = 3 from (by rw [rW_dn hn h hu, if_neg (fun c => h4 (by rw [c]; rfl)), if_neg h6]))), rnd_t, mkW_ok h7])
        | false =>
          have h7 : ¬ (okP (rM n x + 1) (rQ n x) = true) := fun c => Bool.false_ne_true (i7.2 c)
          cases b1 with
          | true =>
            exact absurd (i1.1 rfl) ((by omega))
          | false =>
            have h1 : ¬ (rT n x > 1023) := fun c => Bool.false_ne_true (i1.2 c)
            cases b3 with
            | true =>
              exact absurd (i3.1 rfl) ((by omega))
            | false =>
              have h3 : ¬ (rQ n x - x ≤ 0) := fun c => Bool.false_ne_true (i3.2 c)
              exact fin _ (DNear_dn_t_r7 b2) rfl (show Ending.returned (.tuple #[.float .f64 18442240474082181120, .int .i64 0]) = .returned (.tuple #[.float .f64 (rnd true n x (upNear n x)), .int .i64 0]) from by rw [upNear_t (Or.inl (show rW n x = 3 from (by rw [rW_dn hn h hu, if_neg (fun c => h4 (by rw [c]; rfl)), if_neg h6]))), rnd_t, inf_t h7])
      | false =>
        have h5 : ¬ (((rM n x % 2 : Nat) : Int) = 1) := fun c => Bool.false_ne_true (i5.2 c)
        cases b7 with
        | true =>
          have h7 : okP (rM n x + 1) (rQ n x) = true := i7.1 rfl
          cases b1 with
          | true =>
            exact absurd (i1.1 rfl) ((by omega))
          | false =>
            have h1 : ¬ (rT n x > 1023) := fun c => Bool.false_ne_true (i1.2 c)
            cases b3 with
            | true =>
              exact absurd (i3.1 rfl) ((by omega))
            | false =>
              have h3 : ¬ (rQ n x - x ≤ 0) := fun c => Bool.false_ne_true (i3.2 c)
              exact fin _ (DNear_dn_t_r8 b2) rfl (show Ending.returned (.tuple #[.float .f64 (mkW true (rM n x + 1) (rQ n x)), .int .i64 0]) = .returned (.tuple #[.float .f64 (rnd true n x (upNear n x)), .int .i64 0]) from by rw [upNear_t (Or.inl (show rW n x = 3 from (by rw [rW_dn hn h hu, if_neg (fun c => h4 (by rw [c]; rfl)), if_neg h6]))), rnd_t, mkW_ok h7])
        | false =>
          have h7 : ¬ (okP (rM n x + 1) (rQ n x) = true) := fun c => Bool.false_ne_true (i7.2 c)
          cases b1 with
          | true =>
            exact absurd (i1.1 rfl) ((by omega))
          | false =>
            have h1 : ¬ (rT n x > 1023) := fun c => Bool.false_ne_true (i1.2 c)
            cases b3 with
            | true =>
              exact absurd (i3.1 rfl) ((by omega))
            | false =>
              have h3 : ¬ (rQ n x - x ≤ 0) := fun c => Bool.false_ne_true (i3.2 c)
              exact fin _ (DNear_dn_t_r9 b2) rfl (show Ending.returned (.tuple #[.float .f64 18442240474082181120, .int .i64 0]) = .returned (.tuple #[.float .f64 (rnd true n x (upNear n x)), .int .i64 0]) from by rw [upNear_t (Or.inl (show rW n x = 3 from (by rw [rW_dn hn h hu, if_neg (fun c => h4 (by rw [c]; rfl)), if_neg h6]))), rnd_t, inf_t h7])
theorem DNear_t (n : Nat) (x : Int) (w : World) (hn : (Dy.mk true n x).Num) (hG : Globs glT w) : Calls Tryz.prog 39 #[.agg #[.bool true, .string (natS n), .int .i64 x]] w fun e w' => e = .returned (.tuple #[.float .f64 (rnd true n x (upNear n x)), .int .i64 0]) ∧ Below w.heap.size w w' := by
  by_cases h : 1024 ≤ rT n x
  · exact DNear_far_t n x w hn h hG
  · by_cases hu : rQ n x ≤ x
    · exact DNear_up_t n x w hn h hu hG
    · exact DNear_dn_t n x w hn h hu hG
@[reducible] def DAbove_far_f_f : FuncId := 48
@[reducible] def DAbove_far_f_a : List AV := [.agg [.lit (.bool false), .sym 0, .sym 1]]
@[reducible] noncomputable def DAbove_far_f_k (b1 b2 : Bool) : Know := ⟨[([0, 15, 3], [.sym 2, .lit (.int .i64 1023)], .lit (.bool b2))],
  [(72, [.agg [.lit (.bool false), .sym 0, .sym 1]], .lit (.int .i64 0)),
  (112, [.agg [.lit (.bool false), .sym 0, .sym 1]], .tup [.sym 2, .lit (.bool true)]),
  (142, [.lit (.bool false), .lit (.int .u64 9007199254740992), .lit (.int .i64 971)], .tup [.sym 3, .lit (.bool b1)])]⟩
theorem DAbove_far_f_r1 : @comes (DAbove_far_f_k false true) Tryz.prog glT 3000 DAbove_far_f_f DAbove_far_f_a = some (.lit (.tuple #[.float .f64 9218868437227405312, .int .i64 0])) := by kernel_rfl
set_option maxRecDepth 100000 in
set_option maxHeartbeats 4000000 in
theorem DAbove_far_f (n : Nat) (x : Int) (w : World) (hn : (Dy.mk false n x).Num) (h : 1024 ≤ rT n x) (hG : Globs glT w) : Calls Tryz.prog 48 #[.agg #[.bool false, .string (natS n), .int .i64 x]] w fun e w' => e = .returned (.tuple #[.float .f64 (rnd false n x (upAbove false n x)), .int .i64 0]) ∧ Below w.heap.size w w' := by
  obtain ⟨b1, i1⟩ := bex (okP 9007199254740992 971 = true)
  obtain ⟨b2, i2⟩ := bex (rT n x > 1023)
  letI : Env := mkEnv glT [.string (natS n), .int .i64 x, .int .i64 (rT n x), .float .f64 (mkW false 9007199254740992 971)] rfl
  have hops : OpsT Tryz.prog (@Know.ops (DAbove_far_f_k b1 b2)) := ⟨opt_gtr_i rfl rfl i2,
    trivial⟩
  have hcalls : CallsT Tryz.prog (@Know.calls (DAbove_far_f_k b1 b2)) := ⟨callt rfl rfl fun w hG => DCheck_dyr (Dy.mk false n x) (Or.inr hn) w,
    callt rfl rfl fun w hG => DTop_r false n x w hn,
    callt rfl rfl fun w hG => bMake_i false 9007199254740992 971 w (by omega) (by omega) (by omega) (Or.inl (by omega)) i1 hG,
    trivial⟩
  have fin : ∀ v, @comes (DAbove_far_f_k b1 b2) Tryz.prog glT 3000 DAbove_far_f_f DAbove_far_f_a = some v → ground v = true → Ending.returned (gval v) = .returned (.tuple #[.float .f64 (rnd false n x (upAbove false n x)), .int .i64 0]) → Calls Tryz.prog 48 #[.agg #[.bool false, .string (natS n), .int .i64 x]] w fun e w' => e = .returned (.tuple #[.float .f64 (rnd false n x (upAbove false n x)), .int .i64 0]) ∧ Below w.heap.size w w' := fun v h1 h2 h3 => (@sym_ok _ (DAbove_far_f_k b1 b2) _ (@KnowOk.of _ (DAbove_far_f_k b1 b2) _ hops hcalls) (by kernel_rfl) _ _ _ _ h1 rfl h2 _ hG).mono fun e w' h => ⟨h.1.trans h3, h.2⟩
  clear hops hcalls
  cases b1 with
  | true =>
    exact absurd (i1.1 rfl) (fun c => okP_iff.1 c ⟨rfl, rfl⟩)
  | false =>
    have h1 : ¬ (okP 9007199254740992 971 = true) := fun c => Bool.false_ne_true (i1.2 c)
    cases b2 with
    | true =>
      have h2 : rT n x > 1023 := i2.1 rfl
      exact fin _ (DAbove_far_f_r1) rfl (show Ending.returned (.tuple #[.float .f64 9218868437227405312, .int .i64 0]) = .returned (.tuple #[.float .f64 (rnd false n x (upAbove false n x)), .int .i64 0]) from by rw [upAbove_t (by rw [(rQ_far h).2.2]; decide), rnd_t, (rQ_far h).1, (rQ_far h).2.1, inf_f h1])
    | false =>
      exact absurd (i2.2 ((by omega))) Bool.false_ne_true
@[reducible] def DAbove_up_f_f : FuncId := 48
@[reducible] def DAbove_up_f_a : List AV := [.agg [.lit (.bool false), .sym 0, .sym 1]]
@[reducible] noncomputable def DAbove_up_f_k (b1 b2 b3 : Bool) : Know := ⟨[([0, 15, 3], [.sym 2, .lit (.int .i64 1023)], .lit (.bool b1)),
  ([0, 1, 3], [.sym 3, .sym 1], .sym 4),
  ([1, 0, 3], [.sym 4], .sym 5),
  ([0, 14, 3], [.sym 4, .lit (.int .i64 0)], .lit (.bool b3))],
  [(72, [.agg [.lit (.bool false), .sym 0, .sym 1]], .lit (.int .i64 0)),
  (112, [.agg [.lit (.bool false), .sym 0, .sym 1]], .tup [.sym 2, .lit (.bool true)]),
  (114, [.sym 2], .sym 3),
  (115, [.sym 0, .sym 5], .tup [.sym 6, .lit (.int .i64 0)]),
  (116, [.sym 6], .tup [.sym 7, .lit (.bool true)]),
  (142, [.lit (.bool false), .sym 7, .sym 3], .tup [.sym 8, .lit (.bool b2)])]⟩
theorem DAbove_up_f_r1 : @comes (DAbove_up_f_k false true true) Tryz.prog glT 3000 DAbove_up_f_f DAbove_up_f_a = some (.tup [.sym 8, .lit (.int .i64 0)]) := by kernel_rfl
set_option maxRecDepth 100000 in
set_option maxHeartbeats 4000000 in
theorem DAbove_up_f (n : Nat) (x : Int) (w : World) (hn : (Dy.mk false n x).Num) (h : ¬ 1024 ≤ rT n x) (hu : rQ n x ≤ x) (hG : Globs glT w) : Calls Tryz.prog 48 #[.agg #[.bool false, .string (natS n), .int .i64 x]] w fun e w' => e = .returned (.tuple #[.float .f64 (rnd false n x (upAbove false n x)), .int .i64 0]) ∧ Below w.heap.size w w' := by
  obtain ⟨b1, i1⟩ := bex (rT n x > 1023)
  obtain ⟨b2, i2⟩ := bex (okP (rM n x) (rQ n x) = true)
  obtain ⟨b3, i3⟩ := bex (rQ n x - x ≤ 0)
  letI : Env := mkEnv glT [.string (natS n), .int .i64 x, .int .i64 (rT n x), .int .i64 (rQ n x), .int .i64 (rQ n x - x), .int .i64 (-(rQ n x - x)), .string (natS (rM n x)), .int .u64 (((rM n x : Nat) : Int)), .float .f64 (mkW false (rM n x) (rQ n x))] rfl
  have hops : OpsT Tryz.prog (@Know.ops (DAbove_up_f_k b1 b2 b3)) := ⟨opt_gtr_i rfl rfl i1,
    opt_sub rfl rfl rfl rfl rfl (by have := (rQ_b n x); have := hn.2.2.1; have := hn.2.2.2; simp only at *; omega),
    opt_neg rfl rfl rfl rfl (by have := (rQ_b n x); have := hn.2.2.1; have := hn.2.2.2; simp only at *; omega),
    opt_leq_i rfl rfl i3,
    trivial⟩
  have hcalls : CallsT Tryz.prog (@Know.calls (DAbove_up_f_k b1 b2 b3)) := ⟨callt rfl rfl fun w hG => DCheck_dyr (Dy.mk false n x) (Or.inr hn) w,
    callt rfl rfl fun w hG => DTop_r false n x w hn,
    callt rfl rfl fun w hG => Least_r false n x w hn h,
    callt rfl rfl fun w hG => NShift_r false n x w hn h,
    callt rfl rfl fun w hG => NSmall_r false n x w hn,
    callt rfl rfl fun w hG => bMake_i false (rM n x) (rQ n x) w (Nat.le_of_lt (rM_b (x := x) (odd_ne hn.2.1)).1) (rQ_b n x).1 (rQ_b n x).2 (rM_b (x := x) (odd_ne hn.2.1)).2 i2 hG,
    trivial⟩
  have fin : ∀ v, @comes (DAbove_up_f_k b1 b2 b3) Tryz.prog glT 3000 DAbove_up_f_f DAbove_up_f_a = some v → ground v = true → Ending.returned (gval v) = .returned (.tuple #[.float .f64 (rnd false n x (upAbove false n x)), .int .i64 0]) → Calls Tryz.prog 48 #[.agg #[.bool false, .string (natS n), .int .i64 x]] w fun e w' => e = .returned (.tuple #[.float .f64 (rnd false n x (upAbove false n x)), .int .i64 0]) ∧ Below w.heap.size w w' := fun v h1 h2 h3 => (@sym_ok _ (DAbove_up_f_k b1 b2 b3) _ (@KnowOk.of _ (DAbove_up_f_k b1 b2 b3) _ hops hcalls) (by kernel_rfl) _ _ _ _ h1 rfl h2 _ hG).mono fun e w' h => ⟨h.1.trans h3, h.2⟩
  clear hops hcalls
  cases b2 with
  | true =>
    have h2 : okP (rM n x) (rQ n x) = true := i2.1 rfl
    cases b1 with
    | true =>
      exact absurd (i1.1 rfl) ((by omega))
    | false =>
      have h1 : ¬ (rT n x > 1023) := fun c => Bool.false_ne_true (i1.2 c)
      cases b3 with
      | true =>
        have h3 : rQ n x - x ≤ 0 := i3.1 rfl
        exact fin _ (DAbove_up_f_r1) rfl (show Ending.returned (.tuple #[.float .f64 (mkW false (rM n x) (rQ n x)), .int .i64 0]) = .returned (.tuple #[.float .f64 (rnd false n x (upAbove false n x)), .int .i64 0]) from by rw [upAbove_f (rM_up h hu).2, rnd_f, mkW_ok h2])
      | false =>
        exact absurd (i3.2 ((by omega))) Bool.false_ne_true
  | false =>
    exact absurd (i2.2 (okP_lt (rM_b (x := x) (odd_ne hn.2.1)).1)) Bool.false_ne_true
@[reducible] def DAbove_dn_f_f : FuncId := 48
@[reducible] def DAbove_dn_f_a : List AV := [.agg [.lit (.bool false), .sym 0, .sym 1]]
@[reducible] noncomputable def DAbove_dn_f_k (b1 b2 b3 b4 b5 b6 : Bool) : Know := ⟨[([0, 15, 3], [.sym 2, .lit (.int .i64 1023)], .lit (.bool b1)),
  ([0, 1, 3], [.sym 3, .sym 1], .sym 4),
  ([1, 0, 3], [.sym 4], .sym 5),
  ([0, 14, 3], [.sym 4, .lit (.int .i64 0)], .lit (.bool b2)),
  ([0, 1, 3], [.sym 4, .lit (.int .i64 1)], .sym 8),
  ([0, 11, 5], [.sym 9, .lit (.int .u8 0)], .lit (.bool b3)),
  ([0, 5, 76], [.sym 7, .lit (.int .u64 1)], .sym 10),
  ([0, 11, 76], [.sym 10, .lit (.int .u64 1)], .lit (.bool b4)),
  ([0, 0, 76], [.sym 7, .lit (.int .u64 1)], .sym 11),
  ([0, 11, 3], [.sym 4, .lit (.int .i64 1)], .lit (.bool b6))],
  [(72, [.agg [.lit (.bool false), .sym 0, .sym 1]], .lit (.int .i64 0)),
  (112, [.agg [.lit (.bool false), .sym 0, .sym 1]], .tup [.sym 2, .lit (.bool true)]),
  (114, [.sym 2], .sym 3),
  (115, [.sym 0, .sym 5], .tup [.sym 6, .lit (.int .i64 0)]),
  (116, [.sym 6], .tup [.sym 7, .lit (.bool true)]),
  (145, [.sym 0, .sym 8], .tup [.sym 9, .lit (.int .i64 0)]),
  (142, [.lit (.bool false), .sym 11, .sym 3], .tup [.sym 12, .lit (.bool b5)])]⟩
theorem DAbove_dn_f_r1 (b6 : Bool) : @comes (DAbove_dn_f_k false false true true true b6) Tryz.prog glT 3000 DAbove_dn_f_f DAbove_dn_f_a = some (.tup [.sym 12, .lit (.int .i64 0)]) := by kernel_rfl
theorem DAbove_dn_f_r2 (b6 : Bool) : @comes (DAbove_dn_f_k false false true true false b6) Tryz.prog glT 3000 DAbove_dn_f_f DAbove_dn_f_a = some (.lit (.tuple #[.float .f64 9218868437227405312, .int .i64 0])) := by kernel_rfl
theorem DAbove_dn_f_r3 (b6 : Bool) : @comes (DAbove_dn_f_k false false true false true b6) Tryz.prog glT 3000 DAbove_dn_f_f DAbove_dn_f_a = some (.tup [.sym 12, .lit (.int .i64 0)]) := by kernel_rfl
theorem DAbove_dn_f_r4 (b6 : Bool) : @comes (DAbove_dn_f_k false false true false false b6) Tryz.prog glT 3000 DAbove_dn_f_f DAbove_dn_f_a = some (.lit (.tuple #[.float .f64 9218868437227405312, .int .i64 0])) := by kernel_rfl
theorem DAbove_dn_f_r5 : @comes (DAbove_dn_f_k false false false true true true) Tryz.prog glT 3000 DAbove_dn_f_f DAbove_dn_f_a = some (.tup [.sym 12, .lit (.int .i64 0)]) := by kernel_rfl
theorem DAbove_dn_f_r6 : @comes (DAbove_dn_f_k false false false true false true) Tryz.prog glT 3000 DAbove_dn_f_f DAbove_dn_f_a = some (.lit (.tuple #[.float .f64 9218868437227405312, .int .i64 0])) := by kernel_rfl
theorem DAbove_dn_f_r7 : @comes (DAbove_dn_f_k false false false false true true) Tryz.prog glT 3000 DAbove_dn_f_f DAbove_dn_f_a = some (.tup [.sym 12, .lit (.int .i64 0)]) := by kernel_rfl
theorem DAbove_dn_f_r8 : @comes (DAbove_dn_f_k false false false false false true) Tryz.prog glT 3000 DAbove_dn_f_f DAbove_dn_f_a = some (.lit (.tuple #[.float .f64 9218868437227405312, .int .i64 0])) := by kernel_rfl
theorem DAbove_dn_f_r9 : @comes (DAbove_dn_f_k false false false true true false) Tryz.prog glT 3000 DAbove_dn_f_f DAbove_dn_f_a = some (.tup [.sym 12, .lit (.int .i64 0)]) := by kernel_rfl
theorem DAbove_dn_f_r10 : @comes (DAbove_dn_f_k false false false true false false) Tryz.prog glT 3000 DAbove_dn_f_f DAbove_dn_f_a = some (.lit (.tuple #[.float .f64 9218868437227405312, .int .i64 0])) := by kernel_rfl
theorem DAbove_dn_f_r11 : @comes (DAbove_dn_f_k false false false false true false) Tryz.prog glT 3000 DAbove_dn_f_f DAbove_dn_f_a = some (.tup [.sym 12, .lit (.int .i64 0)]) := by kernel_rfl
theorem DAbove_dn_f_r12 : @comes (DAbove_dn_f_k false false false false false false) Tryz.prog glT 3000 DAbove_dn_f_f DAbove_dn_f_a = some (.lit (.tuple #[.float .f64 9218868437227405312, .int .i64 0])) := by kernel_rfl
set_option maxRecDepth 100000 in
set_option maxHeartbeats 4000000 in
theorem DAbove_dn_f (n : Nat) (x : Int) (w : World) (hn : (Dy.mk false n x).Num) (h : ¬ 1024 ≤ rT n x) (hu : ¬ rQ n x ≤ x) (hG : Globs glT w) : Calls Tryz.prog 48 #[.agg #[.bool false, .string (natS n), .int .i64 x]] w fun e w' => e = .returned (.tuple #[.float .f64 (rnd false n x (upAbove false n x)), .int .i64 0]) ∧ Below w.heap.size w w' := by
  obtain ⟨b1, i1⟩ := bex (rT n x > 1023)
  obtain ⟨b2, i2⟩ := bex (rQ n x - x ≤ 0)
  obtain ⟨b3, i3⟩ := bex (((rB n x : Nat) : Int) = 0)
  obtain ⟨b4, i4⟩ := bex (((rM n x % 2 : Nat) : Int) = 1)
  obtain ⟨b5, i5⟩ := bex (okP (rM n x + 1) (rQ n x) = true)
  obtain ⟨b6, i6⟩ := bex (rQ n x - x = 1)
  letI : Env := mkEnv glT [.string (natS n), .int .i64 x, .int .i64 (rT n x), .int .i64 (rQ n x), .int .i64 (rQ n x - x), .int .i64 (-(rQ n x - x)), .string (natS (rM n x)), .int .u64 (((rM n x : Nat) : Int)), .int .i64 (rQ n x - x - 1), .int .u8 (((rB n x : Nat) : Int)), .int .u64 (((rM n x % 2 : Nat) : Int)), .int .u64 (((rM n x + 1 : Nat) : Int)), .float .f64 (mkW false (rM n x + 1) (rQ n x))] rfl
  have hops : OpsT Tryz.prog (@Know.ops (DAbove_dn_f_k b1 b2 b3 b4 b5 b6)) := ⟨opt_gtr_i rfl rfl i1,
    opt_sub rfl rfl rfl rfl rfl (by have := (rQ_b n x); have := hn.2.2.1; have := hn.2.2.2; simp only at *; omega),
    opt_neg rfl rfl rfl rfl (by have := (rQ_b n x); have := hn.2.2.1; have := hn.2.2.2; simp only at *; omega),
    opt_leq_i rfl rfl i2,
    opt_sub rfl rfl rfl rfl rfl (by have := (rQ_b n x); have := hn.2.2.1; have := hn.2.2.2; simp only at *; omega),
    opt_eql_i rfl rfl i3,
    opt_odd rfl rfl rfl rfl (by have : rM n x < 9007199254740992 := (rM_b (x := x) (odd_ne hn.2.1)).1; omega),
    opt_eql_i rfl rfl i4,
    opt_add64 (y := 1) rfl rfl rfl rfl rfl (by have : rM n x < 9007199254740992 := (rM_b (x := x) (odd_ne hn.2.1)).1; omega),
    opt_eql_i rfl rfl i6,
    trivial⟩
  have hcalls : CallsT Tryz.prog (@Know.calls (DAbove_dn_f_k b1 b2 b3 b4 b5 b6)) := ⟨callt rfl rfl fun w hG => DCheck_dyr (Dy.mk false n x) (Or.inr hn) w,
    callt rfl rfl fun w hG => DTop_r false n x w hn,
    callt rfl rfl fun w hG => Least_r false n x w hn h,
    callt rfl rfl fun w hG => NShift_r false n x w hn h,
    callt rfl rfl fun w hG => NSmall_r false n x w hn,
    callt rfl rfl fun w hG => NBit_r false n x w hn hu,
    callt rfl rfl fun w hG => bMake_i false (rM n x + 1) (rQ n x) w (rM_b (x := x) (odd_ne hn.2.1)).1 (rQ_b n x).1 (rQ_b n x).2 ((rM_b (x := x) (odd_ne hn.2.1)).2.imp (fun h => Nat.le_succ_of_le h) id) i5 hG,
    trivial⟩
  have fin : ∀ v, @comes (DAbove_dn_f_k b1 b2 b3 b4 b5 b6) Tryz.prog glT 3000 DAbove_dn_f_f DAbove_dn_f_a = some v → ground v = true → Ending.returned (gval v) = .returned (.tuple #[.float .f64 (rnd false n x (upAbove false n x)), .int .i64 0]) → Calls Tryz.prog 48 #[.agg #[.bool false, .string (natS n), .int .i64 x]] w fun e w' => e = .returned (.tuple #[.float .f64 (rnd false n x (upAbove false n x)), .int .i64 0]) ∧ Below w.heap.size w w' := fun v h1 h2 h3 => (@sym_ok _ (DAbove_dn_f_k b1 b2 b3 b4 b5 b6) _ (@KnowOk.of _ (DAbove_dn_f_k b1 b2 b3 b4 b5 b6) _ hops hcalls) (by kernel_rfl) _ _ _ _ h1 rfl h2 _ hG).mono fun e w' h => ⟨h.1.trans h3, h.2⟩
  clear hops hcalls
  cases b3 with
  | true =>
    have h3 : ((rB n x : Nat) : Int) = 0 := i3.1 rfl
    cases b4 with
    | true =>
      have h4 : ((rM n x % 2 : Nat) : Int) = 1 := i4.1 rfl
      cases b5 with
      | true =>
        have h5 : okP (rM n x + 1) (rQ n x) = true := i5.1 rfl
        cases b1 with
        | true =>
          exact absurd (i1.1 rfl) ((by omega))
        | false =>
          have h1 : ¬ (rT n x > 1023) := fun c => Bool.false_ne_true (i1.2 c)
          cases b2 with
          | true =>
            exact absurd (i2.1 rfl) ((by omega))
          | false =>
            have h2 : ¬ (rQ n x - x ≤ 0) := fun c => Bool.false_ne_true (i2.2 c)
            exact fin _ (DAbove_dn_f_r1 b6) rfl (show Ending.returned (.tuple #[.float .f64 (mkW false (rM n x + 1) (rQ n x)), .int .i64 0]) = .returned (.tuple #[.float .f64 (rnd false n x (upAbove false n x)), .int .i64 0]) from by rw [upAbove_t (by rw [(show rW n x = 1 from (by rw [rW_dn hn h hu, if_pos (by have := h3; omega)]))]; decide), rnd_t, mkW_ok h5])
      | false =>
        have h5 : ¬ (okP (rM n x + 1) (rQ n x) = true) := fun c => Bool.false_ne_true (i5.2 c)
        cases b1 with
        | true =>
          exact absurd (i1.1 rfl) ((by omega))
        | false =>
          have h1 : ¬ (rT n x > 1023) := fun c => Bool.false_ne_true (i1.2 c)
          cases b2 with
          | true =>
            exact absurd (i2.1 rfl) ((by omega))
          | false =>
            have h2 : ¬ (rQ n x - x ≤ 0) := fun c => Bool.false_ne_true (i2.2 c)
            exact fin _ (DAbove_dn_f_r2 b6) rfl (show Ending.returned (.tuple #[.float .f64 9218868437227405312, .int .i64 0]) = .returned (.tuple #[.float .f64 (rnd false n x (upAbove false n x)), .int .i64 0]) from by rw [upAbove_t (by rw [(show rW n x = 1 from (by rw [rW_dn hn h hu, if_pos (by have := h3; omega)]))]; decide), rnd_t, inf_f h5])
    | false =>
      have h4 : ¬ (((rM n x % 2 : Nat) : Int) = 1) := fun c => Bool.false_ne_true (i4.2 c)
      cases b5 with
      | true =>
        have h5 : okP (rM n x + 1) (rQ n x) = true := i5.1 rfl
        cases b1 with
        | true =>
          exact absurd (i1.1 rfl) ((by omega))
        | false =>
          have h1 : ¬ (rT n x > 1023) := fun c => Bool.false_ne_true (i1.2 c)
          cases b2 with
          | true =>
            exact absurd (i2.1 rfl) ((by omega))
          | false =>
            have h2 : ¬ (rQ n x - x ≤ 0) := fun c => Bool.false_ne_true (i2.2 c)
            exact fin _ (DAbove_dn_f_r3 b6) rfl (show Ending.returned (.tuple #[.float .f64 (mkW false (rM n x + 1) (rQ n x)), .int .i64 0]) = .returned (.tuple #[.float .f64 (rnd false n x (upAbove false n x)), .int .i64 0]) from by rw [upAbove_t (by rw [(show rW n x = 1 from (by rw [rW_dn hn h hu, if_pos (by have := h3; omega)]))]; decide), rnd_t, mkW_ok h5])
      | false =>
        have h5 : ¬ (okP (rM n x + 1) (rQ n x) = true) := fun c => Bool.false_ne_true (i5.2 c)
        cases b1 with
        | true =>
          exact absurd (i1.1 rfl) ((by omega))
        | false =>
          have h1 : ¬ (rT n x > 1023) := fun c => Bool.false_ne_true (i1.2 c)
          cases b2 with
          | true =>
            exact absurd (i2.1 rfl) ((by omega))
          | false =>
            have h2 : ¬ (rQ n x - x ≤ 0) := fun c => Bool.false_ne_true (i2.2 c)
            exact fin _ (DAbove_dn_f_r4 b6) rfl (show Ending.returned (.tuple #[.float .f64 9218868437227405312, .int .i64 0]) = .returned (.tuple #[.float .f64 (rnd false n x (upAbove false n x)), .int .i64 0]) from by rw [upAbove_t (by rw [(show rW n x = 1 from (by rw [rW_dn hn h hu, if_pos (by have := h3; omega)]))]; decide), rnd_t, inf_f h5])
  | false =>
    have h3 : ¬ (((rB n x : Nat) : Int) = 0) := fun c => Bool.false_ne_true (i3.2 c)
    cases b6 with
    | true =>
      have h6 : rQ n x - x = 1 := i6.1 rfl
      cases b4 with
      | true =>
        have h4 : ((rM n x % 2 : Nat) : Int) = 1 := i4.1 rfl
        cases b5 with
        | true =>
          have h5 : okP (rM n x + 1) (rQ n x) = true := i5.1 rfl
          cases b1 with
          | true =>
            exact absurd (i1.1 rfl) ((by omega))
          | false =>
            have h1 : ¬ (rT n x > 1023) := fun c => Bool.false_ne_true (i1.2 c)
            cases b2 with
            | true =>
              exact absurd (i2.1 rfl) ((by omega))
            | false =>
              have h2 : ¬ (rQ n x - x ≤ 0) := fun c => Bool.false_ne_true (i2.2 c)
              exact fin _ (DAbove_dn_f_r5) rfl (show Ending.returned (.tuple #[.float .f64 (mkW false (rM n x + 1) (rQ n x)), .int .i64 0]) = .returned (.tuple #[.float .f64 (rnd false n x (upAbove false n x)), .int .i64 0]) from by rw [upAbove_t (by rw [(show rW n x = 2 from (by rw [rW_dn hn h hu, if_neg (fun c => h3 (by rw [c]; rfl)), if_pos h6]))]; decide), rnd_t, mkW_ok h5])
        | false =>
          have h5 : ¬ (okP (rM n x + 1) (rQ n x) = true) := fun c => Bool.false_ne_true (i5.2 c)
          cases b1 with
          | true =>
            exact absurd (i1.1 rfl) ((by omega))
          | false =>
            have h1 : ¬ (rT n x > 1023) := fun c => Bool.false_ne_true (i1.2 c)
            cases b2 with
            | true =>
              exact absurd (i2.1 rfl) ((by omega))
            | false =>
              have h2 : ¬ (rQ n x - x ≤ 0) := fun c => Bool.false_ne_true (i2.2 c)
              exact fin _ (DAbove_dn_f_r6) rfl (show Ending.returned (.tuple #[.float .f64 9218868437227405312, .int .i64 0]) = .returned (.tuple #[.float .f64 (rnd false n x (upAbove false n x)), .int .i64 0]) from by rw [upAbove_t (by rw [(show rW n x = 2 from (by rw [rW_dn hn h hu, if_neg (fun c => h3 (by rw [c]; rfl)), if_pos h6]))]; decide), rnd_t, inf_f h5])
      | false =>
        have h4 : ¬ (((rM n x % 2 : Nat) : Int) = 1) := fun c => Bool.false_ne_true (i4.2 c)
        cases b5 with
        | true =>
          have h5 : okP (rM n x + 1) (rQ n x) = true := i5.1 rfl
          cases b1 with
          | true =>
            exact absurd (i1.1 rfl) ((by omega))
          | false =>
            have h1 : ¬ (rT n x > 1023) := fun c => Bool.false_ne_true (i1.2 c)
            cases b2 with
            | true =>
              exact absurd (i2.1 rfl) ((by omega))
            | false =>
              have h2 : ¬ (rQ n x - x ≤ 0) := fun c => Bool.false_ne_true (i2.2 c)
              exact fin _ (DAbove_dn_f_r7) rfl (show Ending.returned (.tuple #[.float .f64 (mkW false (rM n x + 1) (rQ n x)), .int .i64 0]) = .returned (.tuple #[.float .f64 (rnd false n x (upAbove false n x)), .int .i64 0]) from by rw [upAbove_t (by rw [(show rW n x = 2 from (by rw [rW_dn hn h hu, if_neg (fun c => h3 (by rw [c]; rfl)), if_pos h6]))]; decide), rnd_t, mkW_ok h5])
        | false =>
          have h5 : ¬ (okP (rM n x + 1) (rQ n x) = true) := fun c => Bool.false_ne_true (i5.2 c)
          cases b1 with
          | true =>
            exact absurd (i1.1 rfl) ((by omega))
          | false =>
            have h1 : ¬ (rT n x > 1023) := fun c => Bool.false_ne_true (i1.2 c)
            cases b2 with
            | true =>
              exact absurd (i2.1 rfl) ((by omega))
            | false =>
              have h2 : ¬ (rQ n x - x ≤ 0) := fun c => Bool.false_ne_true (i2.2 c)
              exact fin _ (DAbove_dn_f_r8) rfl (show Ending.returned (.tuple #[.float .f64 9218868437227405312, .int .i64 0]) = .returned (.tuple #[.float .f64 (rnd false n x (upAbove false n x)), .int .i64 0]) from by rw [upAbove_t (by rw [(show rW n x = 2 from (by rw [rW_dn hn h hu, if_neg (fun c => h3 (by rw [c]; rfl)), if_pos h6]))]; decide), rnd_t, inf_f h5])
    | false =>
      have h6 : ¬ (rQ n x - x = 1) := fun c => Bool.false_ne_true (i6.2 c)
      cases b4 with
      | true =>
        have h4 : ((rM n x % 2 : Nat) : Int) = 1 := i4.1 rfl
        cases b5 with
        | true =>
          have h5 : okP (rM n x + 1) (rQ n x) = true := i5.1 rfl
          cases b1 with
          | true =>
            exact absurd (i1.1 rfl) ((by omega))
          | false =>
            have h1 : ¬ (rT n x > 1023) := fun c => Bool.false_ne_true (i1.2 c)
            cases b2 with
            | true =>
              exact absurd (i2.1 rfl) ((by omega))
            | false =>
              have h2 : ¬ (rQ n x - x ≤ 0) := fun c => Bool.false_ne_true (i2.2 c)
              exact fin _ (DAbove_dn_f_r9) rfl (show Ending.returned (.tuple #[.float .f64 (mkW false (rM n x + 1) (rQ n x)), .int .i64 0]) = .returned (.tuple #[.float .f64 (rnd false n x (upAbove false n x)), .int .i64 0]) from by rw [upAbove_t (by rw [(show rW n x = 3 from (by rw [rW_dn hn h hu, if_neg (fun c => h3 (by rw [c]; rfl)), if_neg h6]))]; decide), rnd_t, mkW_ok h5])
        | false =>
          have h5 : ¬ (okP (rM n x + 1) (rQ n x) = true) := fun c => Bool.false_ne_true (i5.2 c)
          cases b1 with
          | true =>
            exact absurd (i1.1 rfl) ((by omega))
          | false =>
            have h1 : ¬ (rT n x > 1023) := fun c => Bool.false_ne_true (i1.2 c)
            cases b2 with
            | true =>
              exact absurd (i2.1 rfl) ((by omega))
            | false =>
              have h2 : ¬ (rQ n x - x ≤ 0) := fun c => Bool.false_ne_true (i2.2 c)
              exact fin _ (DAbove_dn_f_r10) rfl (show Ending.returned (.tuple #[.float .f64 9218868437227405312, .int .i64 0]) = .returned (.tuple #[.float .f64 (rnd false n x (upAbove false n x)), .int .i64 0]) from by rw [upAbove_t (by rw [(show rW n x = 3 from (by rw [rW_dn hn h hu, if_neg (fun c => h3 (by rw [c]; rfl)), if_neg h6]))]; decide), rnd_t, inf_f h5])
      | false =>
        have h4 : ¬ (((rM n x % 2 : Nat) : Int) = 1) := fun c => Bool.false_ne_true (i4.2 c)
        cases b5 with
        | true =>
          have h5 : okP (rM n x + 1) (rQ n x) = true := i5.1 rfl
          cases b1 with
          | true =>
            exact absurd (i1.1 rfl) ((by omega))
          | false =>
            have h1 : ¬ (rT n x > 1023) := fun c => Bool.false_ne_true (i1.2 c)
            cases b2 with
            | true =>
              exact absurd (i2.1 rfl) ((by omega))
            | false =>
              have h2 : ¬ (rQ n x - x ≤ 0) := fun c => Bool.false_ne_true (i2.2 c)
              exact fin _ (DAbove_dn_f_r11) rfl (show Ending.returned (.tuple #[.float .f64 (mkW false (rM n x + 1) (rQ n x)), .int .i64 0]) = .returned (.tuple #[.float .f64 (rnd false n x (upAbove false n x)), .int .i64 0]) from by rw [upAbove_t (by rw [(show rW n x = 3 from (by rw [rW_dn hn h hu, if_neg (fun c => h3 (by rw [c]; rfl)), if_neg h6]))]; decide), rnd_t, mkW_ok h5])
        | false =>
          have h5 : ¬ (okP (rM n x + 1) (rQ n x) = true) := fun c => Bool.false_ne_true (i5.2 c)
          cases b1 with
          | true =>
            exact absurd (i1.1 rfl) ((by omega))
          | false =>
            have h1 : ¬ (rT n x > 1023) := fun c => Bool.false_ne_true (i1.2 c)
            cases b2 with
            | true =>
              exact absurd (i2.1 rfl) ((by omega))
            | false =>
              have h2 : ¬ (rQ n x - x ≤ 0) := fun c => Bool.false_ne_true (i2.2 c)
              exact fin _ (DAbove_dn_f_r12) rfl (show Ending.returned (.tuple #[.float .f64 9218868437227405312, .int .i64 0]) = .returned (.tuple #[.float .f64 (rnd false n x (upAbove false n x)), .int .i64 0]) from by rw [upAbove_t (by rw [(show rW n x = 3 from (by rw [rW_dn hn h hu, if_neg (fun c => h3 (by rw [c]; rfl)), if_neg h6]))]; decide), rnd_t, inf_f h5])
theorem DAbove_f (n : Nat) (x : Int) (w : World) (hn : (Dy.mk false n x).Num) (hG : Globs glT w) : Calls Tryz.prog 48 #[.agg #[.bool false, .string (natS n), .int .i64 x]] w fun e w' => e = .returned (.tuple #[.float .f64 (rnd false n x (upAbove false n x)), .int .i64 0]) ∧ Below w.heap.size w w' := by
  by_cases h : 1024 ≤ rT n x
  · exact DAbove_far_f n x w hn h hG
  · by_cases hu : rQ n x ≤ x
    · exact DAbove_up_f n x w hn h hu hG
    · exact DAbove_dn_f n x w hn h hu hG
@[reducible] def DAbove_far_t_f : FuncId := 48
@[reducible] def DAbove_far_t_a : List AV := [.agg [.lit (.bool true), .sym 0, .sym 1]]
@[reducible] noncomputable def DAbove_far_t_k (b1 b2 : Bool) : Know := ⟨[([0, 15, 3], [.sym 2, .lit (.int .i64 1023)], .lit (.bool b2))],
  [(72, [.agg [.lit (.bool true), .sym 0, .sym 1]], .lit (.int .i64 0)),
  (112, [.agg [.lit (.bool true), .sym 0, .sym 1]], .tup [.sym 2, .lit (.bool true)]),
  (142, [.lit (.bool true), .lit (.int .u64 9007199254740991), .lit (.int .i64 971)], .tup [.sym 3, .lit (.bool b1)])]⟩
theorem DAbove_far_t_r1 : @comes (DAbove_far_t_k true true) Tryz.prog glT 3000 DAbove_far_t_f DAbove_far_t_a = some (.tup [.sym 3, .lit (.int .i64 0)]) := by kernel_rfl
set_option maxRecDepth 100000 in
set_option maxHeartbeats 4000000 in
theorem DAbove_far_t (n : Nat) (x : Int) (w : World) (hn : (Dy.mk true n x).Num) (h : 1024 ≤ rT n x) (hG : Globs glT w) : Calls Tryz.prog 48 #[.agg #[.bool true, .string (natS n), .int .i64 x]] w fun e w' => e = .returned (.tuple #[.float .f64 (rnd true n x (upAbove true n x)), .int .i64 0]) ∧ Below w.heap.size w w' := by
  obtain ⟨b1, i1⟩ := bex (okP 9007199254740991 971 = true)
  obtain ⟨b2, i2⟩ := bex (rT n x > 1023)
  letI : Env := mkEnv glT [.string (natS n), .int .i64 x, .int .i64 (rT n x), .float .f64 (mkW true 9007199254740991 971)] rfl
  have hops : OpsT Tryz.prog (@Know.ops (DAbove_far_t_k b1 b2)) := ⟨opt_gtr_i rfl rfl i2,
    trivial⟩
  have hcalls : CallsT Tryz.prog (@Know.calls (DAbove_far_t_k b1 b2)) := ⟨callt rfl rfl fun w hG => DCheck_dyr (Dy.mk true n x) (Or.inr hn) w,
    callt rfl rfl fun w hG => DTop_r true n x w hn,
    callt rfl rfl fun w hG => bMake_i true 9007199254740991 971 w (by omega) (by omega) (by omega) (Or.inl (by omega)) i1 hG,
    trivial⟩
  have fin : ∀ v, @comes (DAbove_far_t_k b1 b2) Tryz.prog glT 3000 DAbove_far_t_f DAbove_far_t_a = some v → ground v = true → Ending.returned (gval v) = .returned (.tuple #[.float .f64 (rnd true n x (upAbove true n x)), .int .i64 0]) → Calls Tryz.prog 48 #[.agg #[.bool true, .string (natS n), .int .i64 x]] w fun e w' => e = .returned (.tuple #[.float .f64 (rnd true n x (upAbove true n x)), .int .i64 0]) ∧ Below w.heap.size w w' := fun v h1 h2 h3 => (@sym_ok _ (DAbove_far_t_k b1 b2) _ (@KnowOk.of _ (DAbove_far_t_k b1 b2) _ hops hcalls) (by kernel_rfl) _ _ _ _ h1 rfl h2 _ hG).mono fun e w' h => ⟨h.1.trans h3, h.2⟩
  clear hops hcalls
  cases b1 with
  | true =>
    have h1 : okP 9007199254740991 971 = true := i1.1 rfl
    cases b2 with
    | true =>
      have h2 : rT n x > 1023 := i2.1 rfl
      exact fin _ (DAbove_far_t_r1) rfl (show Ending.returned (.tuple #[.float .f64 (mkW true 9007199254740991 971), .int .i64 0]) = .returned (.tuple #[.float .f64 (rnd true n x (upAbove true n x)), .int .i64 0]) from by rw [upAbove_n n x, rnd_f, (rQ_far h).1, (rQ_far h).2.1, mkW_ok h1])
    | false =>
      exact absurd (i2.2 ((by omega))) Bool.false_ne_true
  | false =>
    exact absurd (i1.2 (okP_lt (by omega))) Bool.false_ne_true
@[reducible] def DAbove_up_t_f : FuncId := 48
@[reducible] def DAbove_up_t_a : List AV := [.agg [.lit (.bool true), .sym 0, .sym 1]]
@[reducible] noncomputable def DAbove_up_t_k (b1 b2 b3 : Bool) : Know := ⟨[([0, 15, 3], [.sym 2, .lit (.int .i64 1023)], .lit (.bool b1)),
  ([0, 1, 3], [.sym 3, .sym 1], .sym 4),
  ([1, 0, 3], [.sym 4], .sym 5),
  ([0, 14, 3], [.sym 4, .lit (.int .i64 0)], .lit (.bool b3))],
  [(72, [.agg [.lit (.bool true), .sym 0, .sym 1]], .lit (.int .i64 0)),
  (112, [.agg [.lit (.bool true), .sym 0, .sym 1]], .tup [.sym 2, .lit (.bool true)]),
  (114, [.sym 2], .sym 3),
  (115, [.sym 0, .sym 5], .tup [.sym 6, .lit (.int .i64 0)]),
  (116, [.sym 6], .tup [.sym 7, .lit (.bool true)]),
  (142, [.lit (.bool true), .sym 7, .sym 3], .tup [.sym 8, .lit (.bool b2)])]⟩
theorem DAbove_up_t_r1 : @comes (DAbove_up_t_k false true true) Tryz.prog glT 3000 DAbove_up_t_f DAbove_up_t_a = some (.tup [.sym 8, .lit (.int .i64 0)]) := by kernel_rfl
set_option maxRecDepth 100000 in
set_option maxHeartbeats 4000000 in
theorem DAbove_up_t (n : Nat) (x : Int) (w : World) (hn : (Dy.mk true n x).Num) (h : ¬ 1024 ≤ rT n x) (hu : rQ n x ≤ x) (hG : Globs glT w) : Calls Tryz.prog 48 #[.agg #[.bool true, .string (natS n), .int .i64 x]] w fun e w' => e = .returned (.tuple #[.float .f64 (rnd true n x (upAbove true n x)), .int .i64 0]) ∧ Below w.heap.size w w' := by
  obtain ⟨b1, i1⟩ := bex (rT n x > 1023)
  obtain ⟨b2, i2⟩ := bex (okP (rM n x) (rQ n x) = true)
  obtain ⟨b3, i3⟩ := bex (rQ n x - x ≤ 0)
  letI : Env := mkEnv glT [.string (natS n), .int .i64 x, .int .i64 (rT n x), .int .i64 (rQ n x), .int .i64 (rQ n x - x), .int .i64 (-(rQ n x - x)), .string (natS (rM n x)), .int .u64 (((rM n x : Nat) : Int)), .float .f64 (mkW true (rM n x) (rQ n x))] rfl
  have hops : OpsT Tryz.prog (@Know.ops (DAbove_up_t_k b1 b2 b3)) := ⟨opt_gtr_i rfl rfl i1,
    opt_sub rfl rfl rfl rfl rfl (by have := (rQ_b n x); have := hn.2.2.1; have := hn.2.2.2; simp only at *; omega),
    opt_neg rfl rfl rfl rfl (by have := (rQ_b n x); have := hn.2.2.1; have := hn.2.2.2; simp only at *; omega),
    opt_leq_i rfl rfl i3,
    trivial⟩
  have hcalls : CallsT Tryz.prog (@Know.calls (DAbove_up_t_k b1 b2 b3)) := ⟨callt rfl rfl fun w hG => DCheck_dyr (Dy.mk true n x) (Or.inr hn) w,
    callt rfl rfl fun w hG => DTop_r true n x w hn,
    callt rfl rfl fun w hG => Least_r true n x w hn h,
    callt rfl rfl fun w hG => NShift_r true n x w hn h,
    callt rfl rfl fun w hG => NSmall_r true n x w hn,
    callt rfl rfl fun w hG => bMake_i true (rM n x) (rQ n x) w (Nat.le_of_lt (rM_b (x := x) (odd_ne hn.2.1)).1) (rQ_b n x).1 (rQ_b n x).2 (rM_b (x := x) (odd_ne hn.2.1)).2 i2 hG,
    trivial⟩
  have fin : ∀ v, @comes (DAbove_up_t_k b1 b2 b3) Tryz.prog glT 3000 DAbove_up_t_f DAbove_up_t_a = some v → ground v = true → Ending.returned (gval v) = .returned (.tuple #[.float .f64 (rnd true n x (upAbove true n x)), .int .i64 0]) → Calls Tryz.prog 48 #[.agg #[.bool true, .string (natS n), .int .i64 x]] w fun e w' => e = .returned (.tuple #[.float .f64 (rnd true n x (upAbove true n x)), .int .i64 0]) ∧ Below w.heap.size w w' := fun v h1 h2 h3 => (@sym_ok _ (DAbove_up_t_k b1 b2 b3) _ (@KnowOk.of _ (DAbove_up_t_k b1 b2 b3) _ hops hcalls) (by kernel_rfl) _ _ _ _ h1 rfl h2 _ hG).mono fun e w' h => ⟨h.1.trans h3, h.2⟩
  clear hops hcalls
  cases b2 with
  | true =>
    have h2 : okP (rM n x) (rQ n x) = true := i2.1 rfl
    cases b1 with
    | true =>
      exact absurd (i1.1 rfl) ((by omega))
    | false =>
      have h1 : ¬ (rT n x > 1023) := fun c => Bool.false_ne_true (i1.2 c)
      cases b3 with
      | true =>
        have h3 : rQ n x - x ≤ 0 := i3.1 rfl
        exact fin _ (DAbove_up_t_r1) rfl (show Ending.returned (.tuple #[.float .f64 (mkW true (rM n x) (rQ n x)), .int .i64 0]) = .returned (.tuple #[.float .f64 (rnd true n x (upAbove true n x)), .int .i64 0]) from by rw [upAbove_n n x, rnd_f, mkW_ok h2])
      | false =>
        exact absurd (i3.2 ((by omega))) Bool.false_ne_true
  | false =>
    exact absurd (i2.2 (okP_lt (rM_b (x := x) (odd_ne hn.2.1)).1)) Bool.false_ne_true
@[reducible] def DAbove_dn_t_f : FuncId := 48
@[reducible] def DAbove_dn_t_a : List AV := [.agg [.lit (.bool true), .sym 0, .sym 1]]
@[reducible] noncomputable def DAbove_dn_t_k (b1 b2 b3 b4 b5 b6 : Bool) : Know := ⟨[([0, 15, 3], [.sym 2, .lit (.int .i64 1023)], .lit (.bool b1)),
  ([0, 1, 3], [.sym 3, .sym 1], .sym 4),
  ([1, 0, 3], [.sym 4], .sym 5),
  ([0, 14, 3], [.sym 4, .lit (.int .i64 0)], .lit (.bool b3)),
  ([0, 1, 3], [.sym 4, .lit (.int .i64 1)], .sym 9),
  ([0, 11, 5], [.sym 10, .lit (.int .u8 0)], .lit (.bool b4)),
  ([0, 5, 76], [.sym 7, .lit (.int .u64 1)], .sym 11),
  ([0, 11, 76], [.sym 11, .lit (.int .u64 1)], .lit (.bool b5)),
  ([0, 11, 3], [.sym 4, .lit (.int .i64 1)], .lit (.bool b6))],
  [(72, [.agg [.lit (.bool true), .sym 0, .sym 1]], .lit (.int .i64 0)),
  (112, [.agg [.lit (.bool true), .sym 0, .sym 1]], .tup [.sym 2, .lit (.bool true)]),
  (114, [.sym 2], .sym 3),
  (115, [.sym 0, .sym 5], .tup [.sym 6, .lit (.int .i64 0)]),
  (116, [.sym 6], .tup [.sym 7, .lit (.bool true)]),
  (142, [.lit (.bool true), .sym 7, .sym 3], .tup [.sym 8, .lit (.bool b2)]),
  (145, [.sym 0, .sym 9], .tup [.sym 10, .lit (.int .i64 0)])]⟩
theorem DAbove_dn_t_r1 (b6 : Bool) : @comes (DAbove_dn_t_k false true false true true b6) Tryz.prog glT 3000 DAbove_dn_t_f DAbove_dn_t_a = some (.tup [.sym 8, .lit (.int .i64 0)]) := by kernel_rfl
theorem DAbove_dn_t_r2 (b6 : Bool) : @comes (DAbove_dn_t_k false true false true false b6) Tryz.prog glT 3000 DAbove_dn_t_f DAbove_dn_t_a = some (.tup [.sym 8, .lit (.int .i64 0)]) := by kernel_rfl
theorem DAbove_dn_t_r3 : @comes (DAbove_dn_t_k false true false false true true) Tryz.prog glT 3000 DAbove_dn_t_f DAbove_dn_t_a = some (.tup [.sym 8, .lit (.int .i64 0)]) := by kernel_rfl
theorem DAbove_dn_t_r4 : @comes (DAbove_dn_t_k false true false false false true) Tryz.prog glT 3000 DAbove_dn_t_f DAbove_dn_t_a = some (.tup [.sym 8, .lit (.int .i64 0)]) := by kernel_rfl
theorem DAbove_dn_t_r5 : @comes (DAbove_dn_t_k false true false false true false) Tryz.prog glT 3000 DAbove_dn_t_f DAbove_dn_t_a = some (.tup [.sym 8, .lit (.int .i64 0)]) := by kernel_rfl
theorem DAbove_dn_t_r6 : @comes (DAbove_dn_t_k false true false false false false) Tryz.prog glT 3000 DAbove_dn_t_f DAbove_dn_t_a = some (.tup [.sym 8, .lit (.int .i64 0)]) := by kernel_rfl
set_option maxRecDepth 100000 in
set_option maxHeartbeats 4000000 in
theorem DAbove_dn_t (n : Nat) (x : Int) (w : World) (hn : (Dy.mk true n x).Num) (h : ¬ 1024 ≤ rT n x) (hu : ¬ rQ n x ≤ x) (hG : Globs glT w) : Calls Tryz.prog 48 #[.agg #[.bool true, .string (natS n), .int .i64 x]] w fun e w' => e = .returned (.tuple #[.float .f64 (rnd true n x (upAbove true n x)), .int .i64 0]) ∧ Below w.heap.size w w' := by
  obtain ⟨b1, i1⟩ := bex (rT n x > 1023)
  obtain ⟨b2, i2⟩ := bex (okP (rM n x) (rQ n x) = true)
  obtain ⟨b3, i3⟩ := bex (rQ n x - x ≤ 0)
  obtain ⟨b4, i4⟩ := bex (((rB n x : Nat) : Int) = 0)
  obtain ⟨b5, i5⟩ := bex (((rM n x % 2 : Nat) : Int) = 1)
  obtain ⟨b6, i6⟩ := bex (rQ n x - x = 1)
  letI : Env := mkEnv glT [.string (natS n), .int .i64 x, .int .i64 (rT n x), .int .i64 (rQ n x), .int .i64 (rQ n x - x), .int .i64 (-(rQ n x - x)), .string (natS (rM n x)), .int .u64 (((rM n x : Nat) : Int)), .float .f64 (mkW true (rM n x) (rQ n x)), .int .i64 (rQ n x - x - 1), .int .u8 (((rB n x : Nat) : Int)), .int .u64 (((rM n x % 2 : Nat) : Int))] rfl
  have hops : OpsT Tryz.prog (@Know.ops (DAbove_dn_t_k b1 b2 b3 b4 b5 b6)) := ⟨opt_gtr_i rfl rfl i1,
    opt_sub rfl rfl rfl rfl rfl (by have := (rQ_b n x); have := hn.2.2.1; have := hn.2.2.2; simp only at *; omega),
    opt_neg rfl rfl rfl rfl (by have := (rQ_b n x); have := hn.2.2.1; have := hn.2.2.2; simp only at *; omega),
    opt_leq_i rfl rfl i3,
    opt_sub rfl rfl rfl rfl rfl (by have := (rQ_b n x); have := hn.2.2.1; have := hn.2.2.2; simp only at *; omega),
    opt_eql_i rfl rfl i4,
    opt_odd rfl rfl rfl rfl (by have : rM n x < 9007199254740992 := (rM_b (x := x) (odd_ne hn.2.1)).1; omega),
    opt_eql_i rfl rfl i5,
    opt_eql_i rfl rfl i6,
    trivial⟩
  have hcalls : CallsT Tryz.prog (@Know.calls (DAbove_dn_t_k b1 b2 b3 b4 b5 b6)) := ⟨callt rfl rfl fun w hG => DCheck_dyr (Dy.mk true n x) (Or.inr hn) w,
    callt rfl rfl fun w hG => DTop_r true n x w hn,
    callt rfl rfl fun w hG => Least_r true n x w hn h,
    callt rfl rfl fun w hG => NShift_r true n x w hn h,
    callt rfl rfl fun w hG => NSmall_r true n x w hn,
    callt rfl rfl fun w hG => bMake_i true (rM n x) (rQ n x) w (Nat.le_of_lt (rM_b (x := x) (odd_ne hn.2.1)).1) (rQ_b n x).1 (rQ_b n x).2 (rM_b (x := x) (odd_ne hn.2.1)).2 i2 hG,
    callt rfl rfl fun w hG => NBit_r true n x w hn hu,
    trivial⟩
  have fin : ∀ v, @comes (DAbove_dn_t_k b1 b2 b3 b4 b5 b6) Tryz.prog glT 3000 DAbove_dn_t_f DAbove_dn_t_a = some v → ground v = true → Ending.returned (gval v) = .returned (.tuple #[.float .f64 (rnd true n x (upAbove true n x)), .int .i64 0]) → Calls Tryz.prog 48 #[.agg #[.bool true, .string (natS n), .int .i64 x]] w fun e w' => e = .returned (.tuple #[.float .f64 (rnd true n x (upAbove true n x)), .int .i64 0]) ∧ Below w.heap.size w w' := fun v h1 h2 h3 => (@sym_ok _ (DAbove_dn_t_k b1 b2 b3 b4 b5 b6) _ (@KnowOk.of _ (DAbove_dn_t_k b1 b2 b3 b4 b5 b6) _ hops hcalls) (by kernel_rfl) _ _ _ _ h1 rfl h2 _ hG).mono fun e w' h => ⟨h.1.trans h3, h.2⟩
  clear hops hcalls
  cases b4 with
  | true =>
    have h4 : ((rB n x : Nat) : Int) = 0 := i4.1 rfl
    cases b5 with
    | true =>
      have h5 : ((rM n x % 2 : Nat) : Int) = 1 := i5.1 rfl
      cases b2 with
      | true =>
        have h2 : okP (rM n x) (rQ n x) = true := i2.1 rfl
        cases b1 with
        | true =>
          exact absurd (i1.1 rfl) ((by omega))
        | false =>
          have h1 : ¬ (rT n x > 1023) := fun c => Bool.false_ne_true (i1.2 c)
          cases b3 with
          | true =>
            exact absurd (i3.1 rfl) ((by omega))
          | false =>
            have h3 : ¬ (rQ n x - x ≤ 0) := fun c => Bool.false_ne_true (i3.2 c)
            exact fin _ (DAbove_dn_t_r1 b6) rfl (show Ending.returned (.tuple #[.float .f64 (mkW true (rM n x) (rQ n x)), .int .i64 0]) = .returned (.tuple #[.float .f64 (rnd true n x (upAbove true n x)), .int .i64 0]) from by rw [upAbove_n n x, rnd_f, mkW_ok h2])
      | false =>
        exact absurd (i2.2 (okP_lt (rM_b (x := x) (odd_ne hn.2.1)).1)) Bool.false_ne_true
    | false =>
      have h5 : ¬ (((rM n x % 2 : Nat) : Int) = 1) := fun c => Bool.false_ne_true (i5.2 c)
      cases b2 with
      | true =>
        have h2 : okP (rM n x) (rQ n x) = true := i2.1 rfl
        cases b1 with
        | true =>
          exact absurd (i1.1 rfl) ((by omega))
        | false =>
          have h1 : ¬ (rT n x > 1023) := fun c => Bool.false_ne_true (i1.2 c)
          cases b3 with
          | true =>
            exact absurd (i3.1 rfl) ((by omega))
          | false =>
            have h3 : ¬ (rQ n x - x ≤ 0) := fun c => Bool.false_ne_true (i3.2 c)
            exact fin _ (DAbove_dn_t_r2 b6) rfl (show Ending.returned (.tuple #[.float .f64 (mkW true (rM n x) (rQ n x)), .int .i64 0]) = .returned (.tuple #[.float .f64 (rnd true n x (upAbove true n x)), .int .i64 0]) from by rw [upAbove_n n x, rnd_f, mkW_ok h2])
      | false =>
        exact absurd (i2.2 (okP_lt (rM_b (x := x) (odd_ne hn.2.1)).1)) Bool.false_ne_true
  | false =>
    have h4 : ¬ (((rB n x : Nat) : Int) = 0) := fun c => Bool.false_ne_true (i4.2 c)
    cases b6 with
    | true =>
      have h6 : rQ n x - x = 1 := i6.1 rfl
      cases b5 with
      | true =>
        have h5 : ((rM n x % 2 : Nat) : Int) = 1 := i5.1 rfl
        cases b2 with
        | true =>
          have h2 : okP (rM n x) (rQ n x) = true := i2.1 rfl
          cases b1 with
          | true =>
            exact absurd (i1.1 rfl) ((by omega))
          | false =>
            have h1 : ¬ (rT n x > 1023) := fun c => Bool.false_ne_true (i1.2 c)
            cases b3 with
            | true =>
              exact absurd (i3.1 rfl) ((by omega))
            | false =>
              have h3 : ¬ (rQ n x - x ≤ 0) := fun c => Bool.false_ne_true (i3.2 c)
              exact fin _ (DAbove_dn_t_r3) rfl (show Ending.returned (.tuple #[.float .f64 (mkW true (rM n x) (rQ n x)), .int .i64 0]) = .returned (.tuple #[.float .f64 (rnd true n x (upAbove true n x)), .int .i64 0]) from by rw [upAbove_n n x, rnd_f, mkW_ok h2])
        | false =>
          exact absurd (i2.2 (okP_lt (rM_b (x := x) (odd_ne hn.2.1)).1)) Bool.false_ne_true
      | false =>
        have h5 : ¬ (((rM n x % 2 : Nat) : Int) = 1) := fun c => Bool.false_ne_true (i5.2 c)
        cases b2 with
        | true =>
          have h2 : okP (rM n x) (rQ n x) = true := i2.1 rfl
          cases b1 with
          | true =>
            exact absurd (i1.1 rfl) ((by omega))
          | false =>
            have h1 : ¬ (rT n x > 1023) := fun c => Bool.false_ne_true (i1.2 c)
            cases b3 with
            | true =>
              exact absurd (i3.1 rfl) ((by omega))
            | false =>
              have h3 : ¬ (rQ n x - x ≤ 0) := fun c => Bool.false_ne_true (i3.2 c)
              exact fin _ (DAbove_dn_t_r4) rfl (show Ending.returned (.tuple #[.float .f64 (mkW true (rM n x) (rQ n x)), .int .i64 0]) = .returned (.tuple #[.float .f64 (rnd true n x (upAbove true n x)), .int .i64 0]) from by rw [upAbove_n n x, rnd_f, mkW_ok h2])
        | false =>
          exact absurd (i2.2 (okP_lt (rM_b (x := x) (odd_ne hn.2.1)).1)) Bool.false_ne_true
    | false =>
      have h6 : ¬ (rQ n x - x = 1) := fun c => Bool.false_ne_true (i6.2 c)
      cases b5 with
      | true =>
        have h5 : ((rM n x % 2 : Nat) : Int) = 1 := i5.1 rfl
        cases b2 with
        | true =>
          have h2 : okP (rM n x) (rQ n x) = true := i2.1 rfl
          cases b1 with
          | true =>
            exact absurd (i1.1 rfl) ((by omega))
          | false =>
            have h1 : ¬ (rT n x > 1023) := fun c => Bool.false_ne_true (i1.2 c)
            cases b3 with
            | true =>
              exact absurd (i3.1 rfl) ((by omega))
            | false =>
              have h3 : ¬ (rQ n x - x ≤ 0) := fun c => Bool.false_ne_true (i3.2 c)
              exact fin _ (DAbove_dn_t_r5) rfl (show Ending.returned (.tuple #[.float .f64 (mkW true (rM n x) (rQ n x)), .int .i64 0]) = .returned (.tuple #[.float .f64 (rnd true n x (upAbove true n x)), .int .i64 0]) from by rw [upAbove_n n x, rnd_f, mkW_ok h2])
        | false =>
          exact absurd (i2.2 (okP_lt (rM_b (x := x) (odd_ne hn.2.1)).1)) Bool.false_ne_true
      | false =>
        have h5 : ¬ (((rM n x % 2 : Nat) : Int) = 1) := fun c => Bool.false_ne_true (i5.2 c)
        cases b2 with
        | true =>
          have h2 : okP (rM n x) (rQ n x) = true := i2.1 rfl
          cases b1 with
          | true =>
            exact absurd (i1.1 rfl) ((by omega))
          | false =>
            have h1 : ¬ (rT n x > 1023) := fun c => Bool.false_ne_true (i1.2 c)
            cases b3 with
            | true =>
              exact absurd (i3.1 rfl) ((by omega))
            | false =>
              have h3 : ¬ (rQ n x - x ≤ 0) := fun c => Bool.false_ne_true (i3.2 c)
              exact fin _ (DAbove_dn_t_r6) rfl (show Ending.returned (.tuple #[.float .f64 (mkW true (rM n x) (rQ n x)), .int .i64 0]) = .returned (.tuple #[.float .f64 (rnd true n x (upAbove true n x)), .int .i64 0]) from by rw [upAbove_n n x, rnd_f, mkW_ok h2])
        | false =>
          exact absurd (i2.2 (okP_lt (rM_b (x := x) (odd_ne hn.2.1)).1)) Bool.false_ne_true
theorem DAbove_t (n : Nat) (x : Int) (w : World) (hn : (Dy.mk true n x).Num) (hG : Globs glT w) : Calls Tryz.prog 48 #[.agg #[.bool true, .string (natS n), .int .i64 x]] w fun e w' => e = .returned (.tuple #[.float .f64 (rnd true n x (upAbove true n x)), .int .i64 0]) ∧ Below w.heap.size w w' := by
  by_cases h : 1024 ≤ rT n x
  · exact DAbove_far_t n x w hn h hG
  · by_cases hu : rQ n x ≤ x
    · exact DAbove_up_t n x w hn h hu hG
    · exact DAbove_dn_t n x w hn h hu hG
end Go.Proofs.YtmjjodficjjehaaGreatDoor
namespace Go.Proofs.YtmjjodficjjehaaGreatDoor
open Go Go.RowKit Nt
end Go.Proofs.YtmjjodficjjehaaGreatDoor
namespace Go.Proofs.YtmjjodficjjehaaGreatDoor
open Go Go.RowKit Nt
@[irreducible] def EE : Nat := 4194304
theorem EE_eq : EE = 4194304 := by unfold EE; rfl
def iv (d : Dy) : Int := sgnd d.g (d.n * 2 ^ (d.x + EE).toNat)
theorem iv_zero : iv Dy.zero = 0 := by
  unfold iv Dy.zero sgnd
  simp
theorem sgnd_abs (g : Bool) (m : Nat) : (sgnd g m).natAbs = m := by unfold sgnd; cases g <;> simp
theorem sgnd_neg {g : Bool} {m : Nat} (h : m ≠ 0) : decide (sgnd g m < 0) = g := by unfold sgnd; cases g <;> simp <;> omega
def mkZ (z : Int) (k : Nat) : Dy := mkD (decide (z < 0)) z.natAbs (-(k : Int))
def mkZE (z : Int) (k : Nat) : Int := mkE z.natAbs (-(k : Int))
theorem mk_toZ (g : Bool) (n : Nat) (x : Int) (k : Nat) (h : -(k : Int) ≤ x) : mkD g n x = mkZ (sgnd g (n * 2 ^ (x + k).toNat)) k ∧ mkE n x = mkZE (sgnd g (n * 2 ^ (x + k).toNat)) k := by
  obtain ⟨j, hj⟩ : ∃ j, j = (x + k).toNat := ⟨_, rfl⟩
  rw [← hj]
  have e : -(k : Int) = x - (j : Int) := by omega
  have hs := mkD_shift g n j x
  unfold mkZ mkZE
  rw [sgnd_abs, e, hs.2]
  by_cases h0 : n = 0
  · subst h0; rw [Nat.zero_mul, mkD_zero, mkD_zero]; exact ⟨rfl, rfl⟩
  · have h1 : n * 2 ^ j ≠ 0 := Nat.mul_ne_zero h0 (Nat.pos_iff_ne_zero.1 (Nat.two_pow_pos j))
    rw [sgnd_neg h1, hs.1]; exact ⟨rfl, rfl⟩
theorem iv_mk {d : Dy} (h : d.Ok) : mkZ (iv d) EE = d ∧ mkZE (iv d) EE = 0 := by
  rcases h with rfl | h
  · rw [iv_zero]; unfold mkZ mkZE; exact ⟨mkD_zero _ _, mkE_zero _⟩
  · have h1 := mkD_self h
    have h2 := mk_toZ d.g d.n d.x EE (by rw [EE_eq]; have := h.2.2; omega)
    unfold iv
    rw [← h2.1, ← h2.2]; exact h1
theorem iv_inj {a b : Dy} (ha : a.Ok) (hb : b.Ok) (h : iv a = iv b) : a = b := by
  rw [← (iv_mk ha).1, h, (iv_mk hb).1]
theorem mk_iv {z : Int} (h : mkZE z EE = 0) : iv (mkZ z EE) = z := by
  have hk : mkOk3 z.natAbs (-(EE : Int)) := by
    by_cases c : mkOk3 z.natAbs (-(EE : Int))
    · exact c
    · unfold mkZE at h; rw [mkE_no c] at h; exact absurd h (by decide)
  unfold mkZ
  by_cases h0 : z.natAbs = 0
  · have : z = 0 := by omega
    subst this
    rw [show (0 : Int).natAbs = 0 from rfl, mkD_zero, iv_zero]
  · rw [mkD_ok h0 hk]
    unfold iv
    show sgnd (decide (z < 0)) (odN z.natAbs * 2 ^ (-(EE : Int) + (lowN z.natAbs : Int) + (EE : Int)).toNat) = z
    rw [show (-(EE : Int) + (lowN z.natAbs : Int) + (EE : Int)).toNat = lowN z.natAbs by omega, ← (odN_spec h0).2]
    unfold sgnd
    by_cases hz : z < 0
    · rw [decide_eq_true hz, if_pos rfl]; omega
    · rw [decide_eq_false hz, if_neg (by decide)]; omega
theorem mk_iv2 {z : Int} {m : Nat} (h : mkZE z (EE + m) = 0) : iv (mkZ z (EE + m)) * 2 ^ m = z := by
  have hk : mkOk3 z.natAbs (-((EE + m : Nat) : Int)) := by
    by_cases c : mkOk3 z.natAbs (-((EE + m : Nat) : Int))
    · exact c
    · unfold mkZE at h; rw [mkE_no c] at h; exact absurd h (by decide)
  unfold mkZ
  by_cases h0 : z.natAbs = 0
  · have : z = 0 := by omega
    subst this
    rw [show (0 : Int).natAbs = 0 from rfl, mkD_zero, iv_zero, Int.zero_mul]
  · rw [mkD_ok h0 hk]
    have hx : -1048576 ≤ -((EE + m : Nat) : Int) + (lowN z.natAbs : Int) := by
      rcases hk with c | ⟨_, c, _⟩
      · exact absurd c h0
      · exact c
    obtain ⟨q, hq⟩ : ∃ q, lowN z.natAbs = q + m := ⟨lowN z.natAbs - m, by rw [EE_eq] at hx; omega⟩
    unfold iv
    show sgnd (decide (z < 0)) (odN z.natAbs * 2 ^ (-((EE + m : Nat) : Int) + (lowN z.natAbs : Int) + (EE : Int)).toNat) * 2 ^ m = z
    rw [show (-((EE + m : Nat) : Int) + (lowN z.natAbs : Int) + (EE : Int)).toNat = q by omega]
    have e : odN z.natAbs * 2 ^ q * 2 ^ m = z.natAbs := by rw [Nat.mul_assoc, ← Nat.pow_add, ← hq]; exact (odN_spec h0).2.symm
    have e2 : ((odN z.natAbs * 2 ^ q : Nat) : Int) * 2 ^ m = (z.natAbs : Int) := by
      have := congrArg (fun (x : Nat) => (x : Int)) e
      rw [Int.natCast_mul, Int.natCast_pow] at this
      exact this
    unfold sgnd
    by_cases hz : z < 0
    · rw [decide_eq_true hz, if_pos rfl, Int.neg_mul, e2]; omega
    · rw [decide_eq_false hz, if_neg (by decide), e2]; omega
theorem iv_neg (d : Dy) : iv (negD d) = - iv d := by
  unfold negD
  by_cases h : d.n = 0
  · rw [if_pos h]; unfold iv sgnd; rw [h, Nat.zero_mul]; cases d.g <;> rfl
  · rw [if_neg h]; unfold iv sgnd; cases d.g <;> simp
theorem hi_iv {p q : Dy} (hp : p.Num) (hq : q.Num) (hle : q.x ≤ p.x) : hiD p q = mkZ (iv p + iv q) EE ∧ hiE p q = mkZE (iv p + iv q) EE := by
  obtain ⟨j, hj⟩ : ∃ j, j = (q.x + EE).toNat := ⟨_, rfl⟩
  have hqx := hq.2.2
  have hpx := hp.2.2
  have hjq : q.x = (j : Int) - (EE : Int) := by rw [EE_eq] at *; omega
  obtain ⟨i, hi⟩ : ∃ i, i = (p.x - q.x).toNat := ⟨_, rfl⟩
  have hpe : (p.x + EE).toNat = i + j := by omega
  have hup : upN p q = p.n * 2 ^ i := by rw [upN_eq, ← hi]
  have e1 := sum_mk p.g q.g (upN p q) q.n q.x
  have e2 := sum_abs p.g q.g (upN p q) q.n
  have h := mk_toZ (decide (sgnd p.g (upN p q) + sgnd q.g q.n < 0)) (sgnd p.g (upN p q) + sgnd q.g q.n).natAbs q.x EE (by rw [EE_eq]; omega)
  rw [← hj] at h
  rw [hiD_eq, hiE_eq, ← e1, ← e2, h.1, h.2]
  have hmain : sgnd (decide (sgnd p.g (upN p q) + sgnd q.g q.n < 0)) ((sgnd p.g (upN p q) + sgnd q.g q.n).natAbs * 2 ^ j) = iv p + iv q := by
    have hs : ∀ z : Int, sgnd (decide (z < 0)) (z.natAbs * 2 ^ j) = z * 2 ^ j := fun z => by
      unfold sgnd
      rw [Int.natCast_mul, Int.natCast_pow]
      by_cases hz : z < 0
      · rw [decide_eq_true hz, if_pos rfl, ← Int.neg_mul, show -((z.natAbs : Nat) : Int) = z by omega]; rfl
      · rw [decide_eq_false hz, if_neg (by decide), show ((z.natAbs : Nat) : Int) = z by omega]; rfl
    rw [hs, Int.add_mul]
    unfold iv
    rw [hpe, ← hj, hup]
    have hg : ∀ (g : Bool) (m : Nat), sgnd g m * 2 ^ j = sgnd g (m * 2 ^ j) := fun g m => by
      unfold sgnd
      rw [Int.natCast_mul, Int.natCast_pow]
      cases g
      · rfl
      · rw [if_pos rfl, if_pos rfl, Int.neg_mul]; rfl
    rw [hg, hg, Nat.mul_assoc, ← Nat.pow_add]
  rw [hmain]; exact ⟨rfl, rfl⟩
theorem add_iv {a b : Dy} (ha : a.Ok) (hb : b.Ok) : addD a b = mkZ (iv a + iv b) EE ∧ addE a b = mkZE (iv a + iv b) EE := by
  rcases ha with rfl | ha
  · have h := iv_mk hb
    rw [(add_zl (a := Dy.zero) (b := b) rfl).1, (add_zl (a := Dy.zero) (b := b) rfl).2, iv_zero, Int.zero_add]
    exact ⟨h.1.symm, h.2.symm⟩
  · rcases hb with rfl | hb
    · have h := iv_mk (Or.inr ha)
      rw [(add_zr (a := a) (b := Dy.zero) (odd_ne ha.2.1) rfl).1, (add_zr (a := a) (b := Dy.zero) (odd_ne ha.2.1) rfl).2, iv_zero, Int.add_zero]
      exact ⟨h.1.symm, h.2.symm⟩
    · by_cases h : a.x < b.x
      · rw [(add_lt (odd_ne ha.2.1) (odd_ne hb.2.1) h).1, (add_lt (odd_ne ha.2.1) (odd_ne hb.2.1) h).2, Int.add_comm]
        exact hi_iv hb ha (by omega)
      · rw [(add_ge (odd_ne ha.2.1) (odd_ne hb.2.1) h).1, (add_ge (odd_ne ha.2.1) (odd_ne hb.2.1) h).2]
        exact hi_iv ha hb (by omega)
theorem sgnd_mul (g h : Bool) (m n : Nat) : sgnd g m * sgnd h n = sgnd (g != h) (m * n) := by
  unfold sgnd; cases g <;> cases h <;> simp [Int.mul_neg, Int.neg_mul]
theorem mul_iv {a b : Dy} (ha : a.Ok) (hb : b.Ok) : mulD a b = mkZ (iv a * iv b) (EE + EE) ∧ mulE a b = mkZE (iv a * iv b) (EE + EE) := by
  have hax : -1048576 ≤ a.x := by
    rcases ha with rfl | h
    · show (-1048576 : Int) ≤ 0; decide
    · exact h.2.2.1
  have hbx : -1048576 ≤ b.x := by
    rcases hb with rfl | h
    · show (-1048576 : Int) ≤ 0; decide
    · exact h.2.2.1
  have h := mk_toZ (a.g != b.g) (a.n * b.n) (a.x + b.x) (EE + EE) (by rw [EE_eq]; omega)
  rw [mulD_eq, mulE_eq, h.1, h.2]
  unfold iv
  rw [sgnd_mul, show (a.x + b.x + ((EE + EE : Nat) : Int)).toNat = (a.x + (EE : Int)).toNat + (b.x + (EE : Int)).toNat by rw [EE_eq]; omega, Nat.pow_add]
  have e : a.n * b.n * (2 ^ (a.x + (EE : Int)).toNat * 2 ^ (b.x + (EE : Int)).toNat) = a.n * 2 ^ (a.x + (EE : Int)).toNat * (b.n * 2 ^ (b.x + (EE : Int)).toNat) := by
    simp only [Nat.mul_assoc, Nat.mul_left_comm]
  rw [e]; exact ⟨rfl, rfl⟩
theorem sgnd_f (m : Nat) : sgnd false m = (m : Int) := rfl
theorem sgnd_t (m : Nat) : sgnd true m = -(m : Int) := rfl
def sgI (z : Int) : Int := if z < 0 then -1 else if 0 < z then 1 else 0
theorem iv_pos {d : Dy} (h : d.Num) : 0 < d.n * 2 ^ (d.x + (EE : Int)).toNat := Nat.mul_pos (Nat.pos_of_ne_zero (odd_ne h.2.1)) (Nat.two_pow_pos _)
theorem sgD_iv {d : Dy} (h : d.Ok) : sgD d = sgI (iv d) := by
  rcases h with rfl | h
  · rw [sgD_zero, iv_zero]; rfl
  · have hp := iv_pos h
    rw [sgD_num (odd_ne h.2.1)]
    unfold iv
    generalize d.n * 2 ^ (d.x + (EE : Int)).toNat = m at *
    unfold sgI
    cases d.g
    · rw [sgn_f, sgnd_f, if_neg (by omega), if_pos (by omega)]
    · rw [sgn_t, sgnd_t, if_pos (by omega)]
theorem cmp_mul (a b c : Nat) (hc : 0 < c) : cmpN (a * c) (b * c) = cmpN a b := by
  rcases Nat.lt_trichotomy a b with h | h | h
  · rw [cmpN_lt h, cmpN_lt (Nat.mul_lt_mul_of_pos_right h hc)]
  · rw [h, cmpN_eq, cmpN_eq]
  · rw [cmpN_gt h, cmpN_gt (Nat.mul_lt_mul_of_pos_right h hc)]
theorem mag_iv {a b : Dy} (ha : a.Num) (hb : b.Num) : magC a b = cmpN (a.n * 2 ^ (a.x + (EE : Int)).toNat) (b.n * 2 ^ (b.x + (EE : Int)).toNat) := by
  have hax := ha.2.2
  have hbx := hb.2.2
  obtain ⟨i, hi⟩ : ∃ i, i = (a.x + (EE : Int)).toNat := ⟨_, rfl⟩
  obtain ⟨j, hj⟩ : ∃ j, j = (b.x + (EE : Int)).toNat := ⟨_, rfl⟩
  have hie : a.x = (i : Int) - (EE : Int) := by rw [EE_eq] at *; omega
  have hje : b.x = (j : Int) - (EE : Int) := by rw [EE_eq] at *; omega
  have na := nd_mul_pow (j := i) (odd_ne ha.2.1)
  have nb := nd_mul_pow (j := j) (odd_ne hb.2.1)
  rw [← hi, ← hj]
  rcases Int.lt_trichotomy (topD a) (topD b) with h | h | h
  · rw [magC_lt h]
    rw [topD_eq, topD_eq] at h
    exact (cmpN_lt (lt_of_nd (b := 2) (by omega) (by omega))).symm
  · rw [magC_eq h, upN_eq, upN_eq]
    by_cases hx : j ≤ i
    · rw [show (a.x - b.x).toNat = i - j by omega, show (b.x - a.x).toNat = 0 by omega, Nat.pow_zero, Nat.mul_one, ← cmp_mul _ _ (2 ^ j) (Nat.two_pow_pos j), Nat.mul_assoc, ← Nat.pow_add, show i - j + j = i by omega]
    · rw [show (a.x - b.x).toNat = 0 by omega, show (b.x - a.x).toNat = j - i by omega, Nat.pow_zero, Nat.mul_one, ← cmp_mul _ _ (2 ^ i) (Nat.two_pow_pos i), Nat.mul_assoc, ← Nat.pow_add, show j - i + i = j by omega]
  · rw [magC_gt h]
    rw [topD_eq, topD_eq] at h
    exact (cmpN_gt (lt_of_nd (b := 2) (by omega) (by omega))).symm
theorem cmp_iv {a b : Dy} (ha : a.Ok) (hb : b.Ok) : cmpD a b = sgI (iv a - iv b) := by
  have sa := sgD_iv ha
  have sb := sgD_iv hb
  rcases Int.lt_trichotomy (sgD a) (sgD b) with h | h | h
  · rw [cmpD_lt h]
    rw [sa, sb] at h
    unfold sgI at h ⊢
    rw [if_pos (by split at h <;> split at h <;> (try split at h) <;> (try split at h) <;> omega)]
  · by_cases h0 : sgD a = 0
    · rw [cmpD_zero h h0, Dy.zero_of ha h0, Dy.zero_of hb (h ▸ h0), iv_zero]; rfl
    · rw [cmpD_eq h h0]
      have na := Dy.num_of ha h0
      have nb := Dy.num_of hb (h ▸ h0)
      rw [mag_iv na nb, sgD_num (odd_ne na.2.1)]
      have hg : sgnI a.g = sgnI b.g := by rw [← sgD_num (odd_ne na.2.1), ← sgD_num (odd_ne nb.2.1)]; exact h
      have hg2 : a.g = b.g := by
        revert hg
        cases a.g <;> cases b.g <;> simp [sgn_t, sgn_f]
      unfold iv
      rw [← hg2]
      generalize a.n * 2 ^ (a.x + (EE : Int)).toNat = m
      generalize b.n * 2 ^ (b.x + (EE : Int)).toNat = n
      unfold sgI
      rcases Nat.lt_trichotomy m n with c | c | c
      · rw [cmpN_lt c]
        cases a.g
        · rw [sgn_f, sgnd_f, sgnd_f, if_pos (by omega)]; rfl
        · rw [sgn_t, sgnd_t, sgnd_t, if_neg (by omega), if_pos (by omega)]; rfl
      · rw [c, cmpN_eq, Int.mul_zero, if_neg (by omega), if_neg (by omega)]
      · rw [cmpN_gt c]
        cases a.g
        · rw [sgn_f, sgnd_f, sgnd_f, if_neg (by omega), if_pos (by omega)]; rfl
        · rw [sgn_t, sgnd_t, sgnd_t, if_pos (by omega)]; rfl
  · rw [cmpD_gt h]
    rw [sa, sb] at h
    unfold sgI at h ⊢
    rw [if_neg (by split at h <;> split at h <;> (try split at h) <;> (try split at h) <;> omega), if_pos (by split at h <;> split at h <;> (try split at h) <;> (try split at h) <;> omega)]
end Go.Proofs.YtmjjodficjjehaaGreatDoor
/-! What DyadRing says, of numbers alone. -/
set_option autoImplicit false
namespace Go.Proofs.YtmjjodficjjehaaGreatDoor
open Go
theorem iv_add {a b : Dy} (ha : a.Ok) (hb : b.Ok) (h : addE a b = 0) : iv (addD a b) = iv a + iv b := by
  have e := add_iv ha hb
  rw [e.1]; rw [e.2] at h; exact mk_iv h
theorem iv_mul {a b : Dy} (ha : a.Ok) (hb : b.Ok) (h : mulE a b = 0) : iv (mulD a b) * 2 ^ EE = iv a * iv b := by
  have e := mul_iv ha hb
  rw [e.1]; rw [e.2] at h; exact mk_iv2 h
theorem cmp_gt {a b : Dy} (ha : a.Ok) (hb : b.Ok) (h : iv b < iv a) : 0 < cmpD a b := by
  rw [cmp_iv ha hb]; unfold sgI
  rw [if_neg (by omega), if_pos (by omega)]; decide
end Go.Proofs.YtmjjodficjjehaaGreatDoor
namespace Go.Proofs.YtmjjodficjjehaaGreatDoor.Bt.Ff
open Ieee
theorem cut_exact (s : Bool) (n : Nat) : Toward.even.cut s n 0 = n := by
  unfold Toward.cut
  simp [Nat.mod_one]
theorem word_rs (s : Bool) {r : Nat} (h : r < 9223372036854775808) : rung (double.word s r) = r ∧ sgn (double.word s r) = s := by
  unfold Format.word rung sgn; rw [sw]
  cases s
  · rw [if_neg (by decide)]; exact ⟨by omega, by rw [beq_eq_false_iff_ne]; omega⟩
  · rw [if_pos rfl]; exact ⟨by omega, by rw [beq_iff_eq]; omega⟩
end Go.Proofs.YtmjjodficjjehaaGreatDoor.Bt.Ff
namespace Go.Proofs.YtmjjodficjjehaaGreatDoor
open Go Go.RowKit Nt
open Ieee in
theorem dbl : double.signWeight = 9223372036854775808 ∧ double.infRung = 9218868437227405312 ∧ double.binade = 4503599627370496 ∧ double.leastPlace = -1074 ∧ double.fractionBits = 52 := by decide
open Ieee in
theorem word_wf (g : Bool) (r : Nat) : double.word g r = Bt.wf g r := by
  rw [Bt.wf_eq, Bt.topped_eq]; unfold Format.word; rw [dbl.1]
theorem log2_nd {n : Nat} (h : n ≠ 0) : nd 2 n = n.log2 + 1 := by
  have h1 : 2 ^ n.log2 ≤ n := Nat.log2_self_le h
  have h2 : n < 2 ^ (n.log2 + 1) := Nat.lt_log2_self
  exact nd_unique (b := 2) (by omega) h1 h2
open Ieee in
theorem cut_near (g : Bool) {n k : Nat} (h0 : n ≠ 0) (hk : 0 < k) : Toward.even.cut g n k = n / 2 ^ k + (if (2 + cmpN (n % 2 ^ k * 2) (2 ^ k) = 3 ∨ (2 + cmpN (n % 2 ^ k * 2) (2 ^ k) = 2 ∧ n / 2 ^ k % 2 = 1)) then 1 else 0) := by
  have hl : n < 2 ^ (n.log2 + 1) := Nat.lt_log2_self
  unfold Toward.cut
  simp only [Nat.one_shiftLeft]
  by_cases hb : k ≤ n.log2 + 2
  · rw [Nat.min_eq_left hb]
    generalize n % 2 ^ k = R
    generalize n / 2 ^ k = M
    generalize 2 ^ k = K
    rcases Nat.lt_trichotomy (R * 2) K with c | c | c
    · rw [cmpN_lt c, if_neg (by omega)]
      rw [show (decide (K < 2 * R) || K == 2 * R && M % 2 == 1) = false from by
        rw [decide_eq_false (by omega), show (K == 2 * R) = false from beq_eq_false_iff_ne.2 (by omega)]; rfl]
      rfl
    · rw [← c, cmpN_eq]
      by_cases ho : M % 2 = 1
      · rw [if_pos (by omega)]
        rw [show (decide (R * 2 < 2 * R) || R * 2 == 2 * R && M % 2 == 1) = true from by
          rw [ho, Nat.mul_comm]; simp]
        rfl
      · rw [if_neg (by omega)]
        rw [show (decide (R * 2 < 2 * R) || R * 2 == 2 * R && M % 2 == 1) = false from by
          rw [decide_eq_false (by omega), show (M % 2 == 1) = false from beq_eq_false_iff_ne.2 ho]; simp]
        rfl
    · rw [cmpN_gt c, if_pos (by omega)]
      rw [show (decide (K < 2 * R) || K == 2 * R && M % 2 == 1) = true from by
        rw [decide_eq_true (by omega)]; rfl]
      rfl
  · rw [Nat.min_eq_right (by omega)]
    have h1 : 2 ^ (n.log2 + 2) = 2 * 2 ^ (n.log2 + 1) := by rw [Nat.pow_succ 2 (n.log2 + 1)]; omega
    have h2 : 2 ^ (n.log2 + 2) ≤ 2 ^ k := Nat.pow_le_pow_right (by omega) (by omega)
    rw [Nat.mod_eq_of_lt (show n < 2 ^ (n.log2 + 2) by omega), Nat.div_eq_of_lt (show n < 2 ^ (n.log2 + 2) by omega), Nat.mod_eq_of_lt (show n < 2 ^ k by omega), Nat.div_eq_of_lt (show n < 2 ^ k by omega), cmpN_lt (by omega), if_neg (by omega)]
    generalize 2 ^ (n.log2 + 2) = K at *
    rw [show (decide (K < 2 * n) || K == 2 * n && 0 % 2 == 1) = false from by
      rw [decide_eq_false (by omega), show (0 % 2 == 1) = false from rfl]; simp]
    rfl
open Ieee in
theorem near_rnd (g : Bool) {n : Nat} {x : Int} (h0 : n ≠ 0) : double.nearest g n x = rnd g n x (upNear n x) := by
  have hl := log2_nd h0
  have ht : rT n x = x + n.log2 := by unfold rT; rw [hl]; omega
  unfold Format.nearest
  rw [if_neg h0, dbl.2.2.2.2, dbl.2.2.2.1, dbl.2.2.1, dbl.2.1]
  simp only []
  rw [show x + (n.log2 : Int) - (52 : Nat) = rT n x - 52 by rw [ht]; rfl, word_wf]
  by_cases hf : 1024 ≤ rT n x
  · obtain ⟨e1, e2, e3⟩ := rQ_far hf
    rw [upNear_t (Or.inl e3), rnd_t, e1, e2, pk_eq]
    congr 1
    rw [show max (rT n x - 52) (-1074) = rT n x - 52 by omega]
    have hk : 4503599627370496 ≤ Toward.even.cut g (n <<< (x - (rT n x - 52)).toNat) (rT n x - 52 - x).toNat := by
      have l1 : 2 ^ n.log2 ≤ n := Nat.log2_self_le h0
      have p52 : (2 : Nat) ^ 52 = 4503599627370496 := by decide
      by_cases hs : n.log2 ≤ 52
      · rw [show (rT n x - 52 - x).toNat = 0 by omega, Bt.Ff.cut_exact, Nat.shiftLeft_eq, show (x - (rT n x - 52)).toNat = 52 - n.log2 by omega]
        have : 2 ^ n.log2 * 2 ^ (52 - n.log2) = 2 ^ 52 := by rw [← Nat.pow_add]; congr 1; omega
        have := Nat.mul_le_mul_right (2 ^ (52 - n.log2)) l1
        omega
      · rw [show (x - (rT n x - 52)).toNat = 0 by omega, Nat.shiftLeft_zero, cut_near g h0 (by omega), show (rT n x - 52 - x).toNat = n.log2 - 52 by omega]
        have h3 : 4503599627370496 ≤ n / 2 ^ (n.log2 - 52) := by
          rw [Nat.le_div_iff_mul_le (Nat.two_pow_pos _), ← p52, ← Nat.pow_add, show 52 + (n.log2 - 52) = n.log2 by omega]
          exact l1
        omega
    generalize Toward.even.cut g (n <<< (x - (rT n x - 52)).toNat) (rT n x - 52 - x).toNat = C at *
    omega
  · have hq := rQ_near hf
    have hqb := rQ_b n x
    have hmb := (rM_b (x := x) h0).1
    rw [← hq]
    have key : ∀ (A M : Nat), A ≤ 2045 → M ≤ 9007199254740992 → min (A * 4503599627370496 + M) 9218868437227405312 = A * 4503599627370496 + M := fun A M h1 h2 => Nat.min_eq_left (by omega)
    have hA : (rQ n x + 1074).toNat ≤ 2045 := by omega
    by_cases hu : rQ n x ≤ x
    · obtain ⟨e1, e2⟩ := rM_up hf hu
      rw [upNear_f (by rw [e2]; omega), rnd_f, pk_eq, show (rQ n x - x).toNat = 0 by omega, Bt.Ff.cut_exact, Nat.shiftLeft_eq, ← e1, show rQ n x - (-1074) = rQ n x + 1074 by omega, key _ _ hA (by omega)]
    · obtain ⟨e1, e2⟩ := rM_dn hf hu
      rw [show (x - rQ n x).toNat = 0 by omega, Nat.shiftLeft_zero, cut_near g h0 (by omega), ← e1, ← e2, show rQ n x - (-1074) = rQ n x + 1074 by omega]
      by_cases hup : rW n x = 3 ∨ (rW n x = 2 ∧ rM n x % 2 = 1)
      · rw [upNear_t hup, rnd_t, pk_eq, if_pos hup, key _ _ hA (by omega)]
      · rw [upNear_f hup, rnd_f, pk_eq, if_neg hup, Nat.add_zero, key _ _ hA (by omega)]
@[irreducible] def rdN (d : Dy) : Nat := if d.n = 0 then 0 else rnd d.g d.n d.x (upNear d.n d.x)
theorem rdN_zero : rdN Dy.zero = 0 := by unfold rdN; rfl
theorem rdN_num {d : Dy} (h : d.n ≠ 0) : rdN d = rnd d.g d.n d.x (upNear d.n d.x) := by unfold rdN; rw [if_neg h]
end Go.Proofs.YtmjjodficjjehaaGreatDoor
namespace Go.Proofs.YtmjjodficjjehaaGreatDoor
open Go Go.RowKit Nt
theorem wf_rung (g : Bool) {r : Nat} (h : r ≤ 9218868437227405312) : Bt.Ff.rung (Bt.wf g r) = r ∧ Bt.Ff.sgn (Bt.wf g r) = g := by
  rw [← word_wf]; exact Bt.Ff.word_rs g (by omega)
theorem wf_isn (g : Bool) {r : Nat} (h : r ≤ 9218868437227405312) : ¬ Bt.Ff.isn (Bt.wf g r) := by unfold Bt.Ff.isn; rw [(wf_rung g h).1]; omega
open Ieee in
theorem nearest_wf (g : Bool) (n : Nat) (x : Int) : ∃ r, r ≤ 9218868437227405312 ∧ double.nearest g n x = Bt.wf g r := by
  by_cases h0 : n = 0
  · subst h0; exact ⟨0, by omega, by unfold Format.nearest; rw [if_pos rfl, word_wf]⟩
  · rw [near_rnd g h0]
    have hb := (rM_b (x := x) h0).1
    cases upNear n x with
    | true => exact ⟨_, pk_lt (by omega) (rQ_b n x).2, rnd_t g n x⟩
    | false => exact ⟨_, pk_lt (by omega) (rQ_b n x).2, rnd_f g n x⟩
theorem mkOk3_of {n : Nat} {x : Int} (hn : nd 2 n ≤ 100000) (h1 : -1048576 ≤ x) (h2 : x ≤ 900000) : mkOk3 n x := by
  by_cases h0 : n = 0
  · exact Or.inl h0
  · have h3 := nd_odN h0
    have h4 : nd 256 (odN n) ≤ 16384 := (bits_le _ _).1 (by omega)
    exact Or.inr ⟨h4, by omega, by omega⟩
/-! Of floats. -/
def flt (x : Nat) : Dy := mkD (Bt.Ff.sgn x) (Bt.pm x) (Bt.pex x)
theorem flt_Ok (x : Nat) : (flt x).Ok := mkD_Ok _ _ _
section
variable {x y z : Nat} (hx : x < 18446744073709551616) (hy : y < 18446744073709551616) (hz : z < 18446744073709551616) (fx : Bt.finB x = true) (fy : Bt.finB y = true) (fz : Bt.finB z = true)
include hx hy fx fy
include hz fz
end
end Go.Proofs.YtmjjodficjjehaaGreatDoor
namespace Go.Proofs.YtmjjodficjjehaaGreatDoor
open Go Go.RowKit Nt
section
variable [Env]
theorem optS_eql_i {t : TypeId} {A B : AV} {s s' : ByteArray} {c : Bool} (ha : gval A = .string s) (hb : gval B = .string s') (h : c = true ↔ s = s') : OpT Tryz.prog [0, 11, t] [A, B] (.lit (.bool c)) :=
  opt_bin (op := .eql) rfl fun p q w => by rw [ha, hb]; exact eqS_run h p q w
end
end Go.Proofs.YtmjjodficjjehaaGreatDoor
namespace Go.Proofs.YtmjjodficjjehaaGreatDoor
open Go Go.RowKit Nt
theorem natS_not {n : Nat} (h : n ≠ 0) : ¬ natS n = ⟨#[]⟩ := fun c => by
  have := congrArg ByteArray.size c
  rw [natS_size] at this
  exact h ((nd_eq_zero (by omega)).1 this)
theorem pk_small (m : Nat) (n : Nat) (x : Int) (h : m ≤ 9007199254740992) : pk m (rQ n x) < 9223372036854775808 := by
  have := pk_lt h (rQ_b n x).2; omega
theorem rAround_i (g : Bool) (n : Nat) (x : Int) (w : World) (hn : (Dy.mk g n x).Num) {b : Bool} (hb : b = true ↔ (rM n x % 2 == 0) = true) :
    Calls Tryz.prog 70 #[.agg #[.bool g, .string (natS n), .int .i64 x]] w fun e w' => e = .returned (.tuple #[.float .f64 (pk (rM n x) (rQ n x)), .float .f64 (pk (rM n x + 1) (rQ n x)), .int .i64 (rW n x), .bool b]) ∧ Below w.heap.size w w' := by
  have := rAround_c g n x w hn
  unfold ArPost at this
  rw [Bool.eq_iff_iff.2 hb]; exact this
theorem rSigned_r (g : Bool) (x : Nat) (w : World) (h : x < 9223372036854775808) :
    Calls Tryz.prog 71 #[.bool g, .float .f64 x] w fun e w' => e = .returned (.float .f64 (Bt.wf g x)) ∧ Below w.heap.size w w' := by
  refine (rSigned3_c g x w h).mono ?_
  rintro e w' ⟨h1, rfl⟩
  exact ⟨h1, Below.refl _ _⟩
@[reducible] def rNear_f_f : FuncId := 34
@[reducible] def rNear_f_a : List AV := [.agg [.lit (.bool false), .sym 0, .sym 1]]
@[reducible] noncomputable def rNear_f_k (b1 b2 b3 b4 b5 : Bool) : Know := ⟨[([0, 11, 22], [.sym 0, .lit (.string ⟨#[]⟩)], .lit (.bool b1)),
  ([0, 16, 3], [.sym 5, .lit (.int .i64 1024)], .lit (.bool b3)),
  ([0, 13, 3], [.sym 4, .lit (.int .i64 2)], .lit (.bool b4)),
  ([0, 11, 3], [.sym 4, .lit (.int .i64 2)], .lit (.bool b5))],
  [(70, [.agg [.lit (.bool false), .sym 0, .sym 1]], .tup [.sym 2, .sym 3, .sym 4, .lit (.bool b2)]),
  (64, [.agg [.lit (.bool false), .sym 0, .sym 1]], .tup [.sym 5, .lit (.bool true)]),
  (71, [.lit (.bool false), .sym 3], .sym 6),
  (71, [.lit (.bool false), .sym 2], .sym 7)]⟩
theorem rNear_f_r1 (b2 b4 b5 : Bool) : @comes (rNear_f_k false b2 true b4 b5) Tryz.prog glT 3000 rNear_f_f rNear_f_a = some (.sym 6) := by kernel_rfl
theorem rNear_f_r2 (b2 b5 : Bool) : @comes (rNear_f_k false b2 false true b5) Tryz.prog glT 3000 rNear_f_f rNear_f_a = some (.sym 7) := by kernel_rfl
theorem rNear_f_r3 : @comes (rNear_f_k false true false false true) Tryz.prog glT 3000 rNear_f_f rNear_f_a = some (.sym 7) := by kernel_rfl
theorem rNear_f_r4 : @comes (rNear_f_k false false false false true) Tryz.prog glT 3000 rNear_f_f rNear_f_a = some (.sym 6) := by kernel_rfl
theorem rNear_f_r5 (b2 : Bool) : @comes (rNear_f_k false b2 false false false) Tryz.prog glT 3000 rNear_f_f rNear_f_a = some (.sym 6) := by kernel_rfl
set_option maxRecDepth 100000 in
set_option maxHeartbeats 4000000 in
theorem rNear_f (n : Nat) (x : Int) (w : World) (hn : (Dy.mk false n x).Num) (hG : Globs glT w) : Calls Tryz.prog 34 #[.agg #[.bool false, .string (natS n), .int .i64 x]] w fun e w' => e = .returned (.float .f64 (rnd false n x (upNear n x))) ∧ Below w.heap.size w w' := by
  obtain ⟨b1, i1⟩ := bex (natS n = ⟨#[]⟩)
  obtain ⟨b2, i2⟩ := bex ((rM n x % 2 == 0) = true)
  obtain ⟨b3, i3⟩ := bex (rT n x ≥ 1024)
  obtain ⟨b4, i4⟩ := bex (rW n x < 2)
  obtain ⟨b5, i5⟩ := bex (rW n x = 2)
  letI : Env := mkEnv glT [.string (natS n), .int .i64 x, .float .f64 (pk (rM n x) (rQ n x)), .float .f64 (pk (rM n x + 1) (rQ n x)), .int .i64 (rW n x), .int .i64 (rT n x), .float .f64 (Bt.wf false (pk (rM n x + 1) (rQ n x))), .float .f64 (Bt.wf false (pk (rM n x) (rQ n x)))] rfl
  have hops : OpsT Tryz.prog (@Know.ops (rNear_f_k b1 b2 b3 b4 b5)) := ⟨optS_eql_i rfl rfl i1,
    opt_geq_i rfl rfl i3,
    opt_lss_i rfl rfl i4,
    opt_eql_i rfl rfl i5,
    trivial⟩
  have hcalls : CallsT Tryz.prog (@Know.calls (rNear_f_k b1 b2 b3 b4 b5)) := ⟨callt rfl rfl fun w hG => rAround_i false n x w hn i2,
    callt rfl rfl fun w hG => rTop_r false n x w hn,
    callt rfl rfl fun w hG => rSigned_r false (pk (rM n x + 1) (rQ n x)) w (pk_small _ n x (by have : rM n x < 9007199254740992 := (rM_b (x := x) (odd_ne hn.2.1)).1; omega)),
    callt rfl rfl fun w hG => rSigned_r false (pk (rM n x) (rQ n x)) w (pk_small _ n x (by have : rM n x < 9007199254740992 := (rM_b (x := x) (odd_ne hn.2.1)).1; omega)),
    trivial⟩
  have fin : ∀ v, @comes (rNear_f_k b1 b2 b3 b4 b5) Tryz.prog glT 3000 rNear_f_f rNear_f_a = some v → ground v = true → Ending.returned (gval v) = .returned (.float .f64 (rnd false n x (upNear n x))) → Calls Tryz.prog 34 #[.agg #[.bool false, .string (natS n), .int .i64 x]] w fun e w' => e = .returned (.float .f64 (rnd false n x (upNear n x))) ∧ Below w.heap.size w w' := fun v h1 h2 h3 => (@sym_ok _ (rNear_f_k b1 b2 b3 b4 b5) _ (@KnowOk.of _ (rNear_f_k b1 b2 b3 b4 b5) _ hops hcalls) (by kernel_rfl) _ _ _ _ h1 rfl h2 _ hG).mono fun e w' h => ⟨h.1.trans h3, h.2⟩
  clear hops hcalls
  cases b1 with
  | true =>
    exact absurd (i1.1 rfl) (natS_not (odd_ne hn.2.1))
  | false =>
    have h1 : ¬ (natS n = ⟨#[]⟩) := fun c => Bool.false_ne_true (i1.2 c)
    cases b3 with
    | true =>
      have h3 : rT n x ≥ 1024 := i3.1 rfl
      exact fin _ (rNear_f_r1 b2 b4 b5) rfl (show Ending.returned (.float .f64 (Bt.wf false (pk (rM n x + 1) (rQ n x)))) = .returned (.float .f64 (rnd false n x (upNear n x))) from by rw [upNear_t (Or.inl (rQ_far (show 1024 ≤ rT n x from h3)).2.2), rnd_t])
    | false =>
      have h3 : ¬ (rT n x ≥ 1024) := fun c => Bool.false_ne_true (i3.2 c)
      cases b4 with
      | true =>
        have h4 : rW n x < 2 := i4.1 rfl
        exact fin _ (rNear_f_r2 b2 b5) rfl (show Ending.returned (.float .f64 (Bt.wf false (pk (rM n x) (rQ n x)))) = .returned (.float .f64 (rnd false n x (upNear n x))) from by rw [upNear_f (by have := h4; omega), rnd_f])
      | false =>
        have h4 : ¬ (rW n x < 2) := fun c => Bool.false_ne_true (i4.2 c)
        cases b5 with
        | true =>
          have h5 : rW n x = 2 := i5.1 rfl
          cases b2 with
          | true =>
            have h2 : (rM n x % 2 == 0) = true := i2.1 rfl
            exact fin _ (rNear_f_r3) rfl (show Ending.returned (.float .f64 (Bt.wf false (pk (rM n x) (rQ n x)))) = .returned (.float .f64 (rnd false n x (upNear n x))) from by rw [upNear_f (by have := h5; have := beq_iff_eq.1 h2; omega), rnd_f])
          | false =>
            have h2 : ¬ ((rM n x % 2 == 0) = true) := fun c => Bool.false_ne_true (i2.2 c)
            exact fin _ (rNear_f_r4) rfl (show Ending.returned (.float .f64 (Bt.wf false (pk (rM n x + 1) (rQ n x)))) = .returned (.float .f64 (rnd false n x (upNear n x))) from by rw [upNear_t (by have := h5; have := mt beq_iff_eq.2 h2; omega), rnd_t])
        | false =>
          have h5 : ¬ (rW n x = 2) := fun c => Bool.false_ne_true (i5.2 c)
          exact fin _ (rNear_f_r5 b2) rfl (show Ending.returned (.float .f64 (Bt.wf false (pk (rM n x + 1) (rQ n x)))) = .returned (.float .f64 (rnd false n x (upNear n x))) from by rw [upNear_t (by have := rW_b (n := n) (x := x); have := h4; have := h5; omega), rnd_t])
@[reducible] def rNear_t_f : FuncId := 34
@[reducible] def rNear_t_a : List AV := [.agg [.lit (.bool true), .sym 0, .sym 1]]
@[reducible] noncomputable def rNear_t_k (b1 b2 b3 b4 b5 : Bool) : Know := ⟨[([0, 11, 22], [.sym 0, .lit (.string ⟨#[]⟩)], .lit (.bool b1)),
  ([0, 16, 3], [.sym 5, .lit (.int .i64 1024)], .lit (.bool b3)),
  ([0, 13, 3], [.sym 4, .lit (.int .i64 2)], .lit (.bool b4)),
  ([0, 11, 3], [.sym 4, .lit (.int .i64 2)], .lit (.bool b5))],
  [(70, [.agg [.lit (.bool true), .sym 0, .sym 1]], .tup [.sym 2, .sym 3, .sym 4, .lit (.bool b2)]),
  (64, [.agg [.lit (.bool true), .sym 0, .sym 1]], .tup [.sym 5, .lit (.bool true)]),
  (71, [.lit (.bool true), .sym 3], .sym 6),
  (71, [.lit (.bool true), .sym 2], .sym 7)]⟩
theorem rNear_t_r1 (b2 b4 b5 : Bool) : @comes (rNear_t_k false b2 true b4 b5) Tryz.prog glT 3000 rNear_t_f rNear_t_a = some (.sym 6) := by kernel_rfl
theorem rNear_t_r2 (b2 b5 : Bool) : @comes (rNear_t_k false b2 false true b5) Tryz.prog glT 3000 rNear_t_f rNear_t_a = some (.sym 7) := by kernel_rfl
theorem rNear_t_r3 : @comes (rNear_t_k false true false false true) Tryz.prog glT 3000 rNear_t_f rNear_t_a = some (.sym 7) := by kernel_rfl
theorem rNear_t_r4 : @comes (rNear_t_k false false false false true) Tryz.prog glT 3000 rNear_t_f rNear_t_a = some (.sym 6) := by kernel_rfl
theorem rNear_t_r5 (b2 : Bool) : @comes (rNear_t_k false b2 false false false) Tryz.prog glT 3000 rNear_t_f rNear_t_a = some (.sym 6) := by kernel_rfl
set_option maxRecDepth 100000 in
set_option maxHeartbeats 4000000 in
theorem rNear_t (n : Nat) (x : Int) (w : World) (hn : (Dy.mk true n x).Num) (hG : Globs glT w) : Calls Tryz.prog 34 #[.agg #[.bool true, .string (natS n), .int .i64 x]] w fun e w' => e = .returned (.float .f64 (rnd true n x (upNear n x))) ∧ Below w.heap.size w w' := by
  obtain ⟨b1, i1⟩ := bex (natS n = ⟨#[]⟩)
  obtain ⟨b2, i2⟩ := bex ((rM n x % 2 == 0) = true)
  obtain ⟨b3, i3⟩ := bex (rT n x ≥ 1024)
  obtain ⟨b4, i4⟩ := bex (rW n x < 2)
  obtain ⟨b5, i5⟩ := bex (rW n x = 2)
  letI : Env := mkEnv glT [.string (natS n), .int .i64 x, .float .f64 (pk (rM n x) (rQ n x)), .float .f64 (pk (rM n x + 1) (rQ n x)), .int .i64 (rW n x), .int .i64 (rT n x), .float .f64 (Bt.wf true (pk (rM n x + 1) (rQ n x))), .float .f64 (Bt.wf true (pk (rM n x) (rQ n x)))] rfl
  have hops : OpsT Tryz.prog (@Know.ops (rNear_t_k b1 b2 b3 b4 b5)) := ⟨optS_eql_i rfl rfl i1,
    opt_geq_i rfl rfl i3,
    opt_lss_i rfl rfl i4,
    opt_eql_i rfl rfl i5,
    trivial⟩
  have hcalls : CallsT Tryz.prog (@Know.calls (rNear_t_k b1 b2 b3 b4 b5)) := ⟨callt rfl rfl fun w hG => rAround_i true n x w hn i2,
    callt rfl rfl fun w hG => rTop_r true n x w hn,
    callt rfl rfl fun w hG => rSigned_r true (pk (rM n x + 1) (rQ n x)) w (pk_small _ n x (by have : rM n x < 9007199254740992 := (rM_b (x := x) (odd_ne hn.2.1)).1; omega)),
    callt rfl rfl fun w hG => rSigned_r true (pk (rM n x) (rQ n x)) w (pk_small _ n x (by have : rM n x < 9007199254740992 := (rM_b (x := x) (odd_ne hn.2.1)).1; omega)),
    trivial⟩
  have fin : ∀ v, @comes (rNear_t_k b1 b2 b3 b4 b5) Tryz.prog glT 3000 rNear_t_f rNear_t_a = some v → ground v = true → Ending.returned (gval v) = .returned (.float .f64 (rnd true n x (upNear n x))) → Calls Tryz.prog 34 #[.agg #[.bool true, .string (natS n), .int .i64 x]] w fun e w' => e = .returned (.float .f64 (rnd true n x (upNear n x))) ∧ Below w.heap.size w w' := fun v h1 h2 h3 => (@sym_ok _ (rNear_t_k b1 b2 b3 b4 b5) _ (@KnowOk.of _ (rNear_t_k b1 b2 b3 b4 b5) _ hops hcalls) (by kernel_rfl) _ _ _ _ h1 rfl h2 _ hG).mono fun e w' h => ⟨h.1.trans h3, h.2⟩
  clear hops hcalls
  cases b1 with
  | true =>
    exact absurd (i1.1 rfl) (natS_not (odd_ne hn.2.1))
  | false =>
    have h1 : ¬ (natS n = ⟨#[]⟩) := fun c => Bool.false_ne_true (i1.2 c)
    cases b3 with
    | true =>
      have h3 : rT n x ≥ 1024 := i3.1 rfl
      exact fin _ (rNear_t_r1 b2 b4 b5) rfl (show Ending.returned (.float .f64 (Bt.wf true (pk (rM n x + 1) (rQ n x)))) = .returned (.float .f64 (rnd true n x (upNear n x))) from by rw [upNear_t (Or.inl (rQ_far (show 1024 ≤ rT n x from h3)).2.2), rnd_t])
    | false =>
      have h3 : ¬ (rT n x ≥ 1024) := fun c => Bool.false_ne_true (i3.2 c)
      cases b4 with
      | true =>
        have h4 : rW n x < 2 := i4.1 rfl
        exact fin _ (rNear_t_r2 b2 b5) rfl (show Ending.returned (.float .f64 (Bt.wf true (pk (rM n x) (rQ n x)))) = .returned (.float .f64 (rnd true n x (upNear n x))) from by rw [upNear_f (by have := h4; omega), rnd_f])
      | false =>
        have h4 : ¬ (rW n x < 2) := fun c => Bool.false_ne_true (i4.2 c)
        cases b5 with
        | true =>
          have h5 : rW n x = 2 := i5.1 rfl
          cases b2 with
          | true =>
            have h2 : (rM n x % 2 == 0) = true := i2.1 rfl
            exact fin _ (rNear_t_r3) rfl (show Ending.returned (.float .f64 (Bt.wf true (pk (rM n x) (rQ n x)))) = .returned (.float .f64 (rnd true n x (upNear n x))) from by rw [upNear_f (by have := h5; have := beq_iff_eq.1 h2; omega), rnd_f])
          | false =>
            have h2 : ¬ ((rM n x % 2 == 0) = true) := fun c => Bool.false_ne_true (i2.2 c)
            exact fin _ (rNear_t_r4) rfl (show Ending.returned (.float .f64 (Bt.wf true (pk (rM n x + 1) (rQ n x)))) = .returned (.float .f64 (rnd true n x (upNear n x))) from by rw [upNear_t (by have := h5; have := mt beq_iff_eq.2 h2; omega), rnd_t])
        | false =>
          have h5 : ¬ (rW n x = 2) := fun c => Bool.false_ne_true (i5.2 c)
          exact fin _ (rNear_t_r5 b2) rfl (show Ending.returned (.float .f64 (Bt.wf true (pk (rM n x + 1) (rQ n x)))) = .returned (.float .f64 (rnd true n x (upNear n x))) from by rw [upNear_t (by have := rW_b (n := n) (x := x); have := h4; have := h5; omega), rnd_t])
end Go.Proofs.YtmjjodficjjehaaGreatDoor
namespace Go.Proofs.YtmjjodficjjehaaGreatDoor
open Go Go.RowKit Nt
@[reducible] def DNear_z_f : FuncId := 39
@[reducible] def DNear_z_a : List AV := [.lit (.agg #[.bool false, .string ⟨#[]⟩, .int .i64 0])]
@[reducible] noncomputable def DNear_z_k : Know := ⟨[],
  []⟩
theorem DNear_z_r1 : @comes DNear_z_k Tryz.prog glT 3000 DNear_z_f DNear_z_a = some (.lit (.tuple #[.float .f64 0, .int .i64 0])) := by kernel_rfl
set_option maxRecDepth 100000 in
set_option maxHeartbeats 4000000 in
theorem DNear_z  (w : World)  (hG : Globs glT w) : Calls Tryz.prog 39 #[.agg #[.bool false, .string ⟨#[]⟩, .int .i64 0]] w fun e w' => e = .returned (.tuple #[.float .f64 0, .int .i64 0]) ∧ Below w.heap.size w w' := by
  letI : Env := mkEnv glT [] rfl
  have hops : OpsT Tryz.prog (@Know.ops DNear_z_k) := trivial
  have hcalls : CallsT Tryz.prog (@Know.calls DNear_z_k) := trivial
  have fin : ∀ v, @comes DNear_z_k Tryz.prog glT 3000 DNear_z_f DNear_z_a = some v → ground v = true → Ending.returned (gval v) = .returned (.tuple #[.float .f64 0, .int .i64 0]) → Calls Tryz.prog 39 #[.agg #[.bool false, .string ⟨#[]⟩, .int .i64 0]] w fun e w' => e = .returned (.tuple #[.float .f64 0, .int .i64 0]) ∧ Below w.heap.size w w' := fun v h1 h2 h3 => (@sym_ok _ DNear_z_k _ (@KnowOk.of _ DNear_z_k _ hops hcalls) (by kernel_rfl) _ _ _ _ h1 rfl h2 _ hG).mono fun e w' h => ⟨h.1.trans h3, h.2⟩
  clear hops hcalls
  exact fin _ (DNear_z_r1) rfl rfl
end Go.Proofs.YtmjjodficjjehaaGreatDoor
namespace Go.Proofs.YtmjjodficjjehaaGreatDoor
open Go Go.RowKit Nt
theorem DFloat_f (x : Nat) (w : World) (hx : x < 18446744073709551616) (fx : Bt.finB x = true) (hG : Globs glT w) : Calls Tryz.prog 40 #[.float .f64 x] w fun e w' => e = .returned (.tuple #[(flt x).v, .int .i64 0]) ∧ Below w.heap.size w w' := DFloat_c x hx fx w (tabs_of hG)
theorem rdN_isn (d : Dy) : ¬ Bt.Ff.isn (rdN d) := by
  by_cases h : d.n = 0
  · unfold rdN; rw [if_pos h]
    have := wf_isn false (r := 0) (by omega)
    rwa [wf_f] at this
  · rw [rdN_num h, ← near_rnd d.g h]
    obtain ⟨r, hr, e⟩ := nearest_wf d.g d.n d.x
    rw [e]; exact wf_isn _ hr
theorem DNear_d (d : Dy) (w : World) (hd : d.Ok) (hG : Globs glT w) : Calls Tryz.prog 39 #[.agg #[.bool d.g, .string (natS d.n), .int .i64 d.x]] w fun e w' => e = .returned (.tuple #[.float .f64 (rdN d), .int .i64 0]) ∧ Below w.heap.size w w' := by
  rcases hd with rfl | hn
  · rw [rdN_zero]
    show Calls Tryz.prog _ #[.agg #[.bool false, .string (natS 0), .int .i64 0]] w _
    rw [natS_zero]
    exact DNear_z w hG
  · rw [rdN_num (odd_ne hn.2.1)]
    obtain ⟨g, n, x⟩ := d
    cases g with
    | false => exact DNear_f n x w hn hG
    | true => exact DNear_t n x w hn hG
section
variable [Env]
end
end Go.Proofs.YtmjjodficjjehaaGreatDoor
namespace Go.Proofs.YtmjjodficjjehaaGreatDoor.Bt
open Go Go.RowKit Ff
@[irreducible] def place (x : Nat) : Nat := if isn x then 18437736874454810626 else if sgn x then 9218868437227405312 - rung x else 9218868437227405313 + rung x
theorem sgn_rung {x : Nat} (hx : x < 18446744073709551616) (s : sgn x = false) : rung x = x := by
  unfold sgn at s; rw [beq_eq_false_iff_ne] at s; unfold rung; omega
end Go.Proofs.YtmjjodficjjehaaGreatDoor.Bt
namespace Go.Proofs.YtmjjodficjjehaaGreatDoor.Bt
open Go Go.RowKit Ff
@[irreducible] def fltB (x y : Nat) : Bool := decide (¬ isn x ∧ ¬ isn y ∧ srung x < srung y)
@[irreducible] def feqB (x y : Nat) : Bool := decide (¬ isn x ∧ ¬ isn y ∧ srung x = srung y)
theorem ord_cmp (x y : Nat) : FloatKind.f64.format.order x y = if isn x ∨ isn y then none else some (compare (srung x) (srung y)) := order_eq x y
theorem cmp_lt (a b : Int) : compare a b = Ordering.lt ↔ a < b := by
  simp only [compare, compareOfLessAndEq]; by_cases h : a < b <;> by_cases h' : a = b <;> simp [h, h']
theorem cmp_eq (a b : Int) : compare a b = Ordering.eq ↔ a = b := by
  simp only [compare, compareOfLessAndEq]; by_cases h : a < b <;> by_cases h' : a = b <;> simp [h, h'] <;> omega
theorem cmp_gt (a b : Int) : compare a b = Ordering.gt ↔ b < a := by
  simp only [compare, compareOfLessAndEq]; by_cases h : a < b <;> by_cases h' : a = b <;> simp [h, h'] <;> omega
theorem some_beq (o p : Ordering) : (some o == some p) = decide (o = p) := by cases o <;> cases p <;> rfl
@[local go_sem] theorem f_lt (x y : Nat) : (FloatKind.f64.format.order x y == some Ordering.lt) = fltB x y := by
  rw [ord_cmp]; unfold fltB
  by_cases h : isn x ∨ isn y
  · rw [if_pos h]; symm; rw [show (none == some Ordering.lt) = false from rfl, decide_eq_false_iff_not]; rintro ⟨h1, h2, _⟩; exact h.elim h1 h2
  · rw [if_neg h, some_beq, Bool.eq_iff_iff, decide_eq_true_iff, decide_eq_true_iff, cmp_lt]
    exact ⟨fun c => ⟨fun a => h (Or.inl a), fun a => h (Or.inr a), c⟩, fun c => c.2.2⟩
@[local go_sem] theorem f_gt (x y : Nat) : (FloatKind.f64.format.order x y == some Ordering.gt) = fltB y x := by
  rw [ord_cmp]; unfold fltB
  by_cases h : isn x ∨ isn y
  · rw [if_pos h]; symm; rw [show (none == some Ordering.gt) = false from rfl, decide_eq_false_iff_not]; rintro ⟨h1, h2, _⟩; exact h.elim h2 h1
  · rw [if_neg h, some_beq, Bool.eq_iff_iff, decide_eq_true_iff, decide_eq_true_iff, cmp_gt]
    exact ⟨fun c => ⟨fun a => h (Or.inr a), fun a => h (Or.inl a), c⟩, fun c => c.2.2⟩
@[local go_sem] theorem f_eq (x y : Nat) : (FloatKind.f64.format.order x y == some Ordering.eq) = feqB x y := by
  rw [ord_cmp]; unfold feqB
  by_cases h : isn x ∨ isn y
  · rw [if_pos h]; symm; rw [show (none == some Ordering.eq) = false from rfl, decide_eq_false_iff_not]; rintro ⟨h1, h2, _⟩; exact h.elim h1 h2
  · rw [if_neg h, some_beq, Bool.eq_iff_iff, decide_eq_true_iff, decide_eq_true_iff, cmp_eq]
    exact ⟨fun c => ⟨fun a => h (Or.inl a), fun a => h (Or.inr a), c⟩, fun c => c.2.2⟩
@[local go_sem] theorem f_ne (x y : Nat) : (FloatKind.f64.format.order x y != some Ordering.eq) = !feqB x y := by
  rw [bne, f_eq]
end Go.Proofs.YtmjjodficjjehaaGreatDoor.Bt
namespace Go.Proofs.YtmjjodficjjehaaGreatDoor.Bt
open Go Go.RowKit Ff
attribute [local go_sem] f_lt f_gt f_eq f_ne
@[irreducible] def infW (x : Nat) : Bool := decide (x = 9218868437227405312)
theorem infW_iff (x : Nat) : infW x = true ↔ x = 9218868437227405312 := by unfold infW; exact decide_eq_true_iff
@[local go_sem] theorem inf_w (x : Nat) : ((x : Int) == 9218868437227405312) = infW x := by
  rw [Bool.eq_iff_iff, beq_iff_eq, infW_iff]; omega
@[irreducible] def upF (x : Nat) : Nat := if isn x then x else if x = 9218868437227405312 then x else if rung x = 0 then 1 else if sgn x then x - 1 else x + 1
theorem notInf {x : Nat} (h : infW x = false) : ¬ x = 9218868437227405312 := fun c => by rw [(infW_iff x).2 c] at h; cases h
theorem up_zero {x : Nat} (h : ¬ isn x) (h' : infW x = false) (h0 : rung x = 0) : upF x = 1 := by unfold upF; rw [if_neg h, if_neg (notInf h'), if_pos h0]
theorem up_neg {x : Nat} (h : ¬ isn x) (h' : infW x = false) (h0 : rung x ≠ 0) (s : sgn x = true) : upF x = x - 1 := by unfold upF; rw [if_neg h, if_neg (notInf h'), if_neg h0, if_pos s]
theorem up_pos {x : Nat} (h : ¬ isn x) (h' : infW x = false) (h0 : rung x ≠ 0) (s : sgn x = false) : upF x = x + 1 := by unfold upF; rw [if_neg h, if_neg (notInf h'), if_neg h0, if_neg (by simp [s])]
end Go.Proofs.YtmjjodficjjehaaGreatDoor.Bt
namespace Go.Proofs.YtmjjodficjjehaaGreatDoor
open Go Go.RowKit Nt
def uu (q : Int) : Nat := 2 ^ (q + (EE : Int)).toNat
theorem uu_pos (q : Int) : 0 < uu q := Nat.two_pow_pos _
theorem uu_up {p q : Int} (h : -1074 ≤ p) (hpq : p < q) : 2 * uu p ≤ uu q := by
  have e := EE_eq
  unfold uu
  have := Nat.pow_le_pow_right (n := 2) (by omega) (show (p + (EE : Int)).toNat + 1 ≤ (q + (EE : Int)).toNat by omega)
  rw [Nat.pow_succ] at this
  omega
theorem uu_add {q : Int} {k : Nat} (h : -1048576 ≤ q) : uu (q + k) = 2 ^ k * uu q := by
  have e := EE_eq
  unfold uu
  rw [← Nat.pow_add]
  congr 1
  omega
structure NF (m : Nat) (q : Int) : Prop where
  lt : m < 9007199254740992
  lo : -1074 ≤ q
  hi : q ≤ 971
  nm : 4503599627370496 ≤ m ∨ q = -1074
theorem NF.lt_of {m1 m2 : Nat} {q1 q2 : Int} (h1 : NF m1 q1) (h2 : NF m2 q2) (h : pk m1 q1 < pk m2 q2) : (m1 + 1) * uu q1 ≤ m2 * uu q2 := by
  obtain ⟨a1, a2, a3, a4⟩ := h1
  obtain ⟨b1, b2, b3, b4⟩ := h2
  rw [pk_eq, pk_eq] at h
  rcases Int.lt_trichotomy q1 q2 with c | c | c
  · have h52 : 4503599627370496 ≤ m2 := by omega
    have k1 : (m1 + 1) * uu q1 ≤ 9007199254740992 * uu q1 := Nat.mul_le_mul_right _ (by omega)
    have k2 := uu_up a2 c
    have k3 : 4503599627370496 * uu q2 ≤ m2 * uu q2 := Nat.mul_le_mul_right _ h52
    omega
  · subst c; exact Nat.mul_le_mul_right _ (by omega)
  · omega
theorem NF.inj {m1 m2 : Nat} {q1 q2 : Int} (h1 : NF m1 q1) (h2 : NF m2 q2) (h : pk m1 q1 = pk m2 q2) : m1 = m2 ∧ q1 = q2 := by
  obtain ⟨a1, a2, a3, a4⟩ := h1
  obtain ⟨b1, b2, b3, b4⟩ := h2
  rw [pk_eq, pk_eq] at h
  omega
structure RF (N M : Nat) (Q r : Int) : Prop where
  nf : NF M Q
  rc : r = 0 ∨ r = 1 ∨ r = 2 ∨ r = 3
  ex : r = 0 → N = M * uu Q
  lo : r ≠ 0 → M * uu Q < N
  hi : N < (M + 1) * uu Q ∨ pk M Q + 1 = 9218868437227405312
  r1 : r = 1 → (N - M * uu Q) * 2 < uu Q
  r2 : r = 2 → (N - M * uu Q) * 2 = uu Q
  r3 : r = 3 → uu Q < (N - M * uu Q) * 2
theorem RF.le {N M : Nat} {Q r : Int} (h : RF N M Q r) : M * uu Q ≤ N := by
  by_cases c : r = 0
  · rw [h.ex c]; exact Nat.le_refl _
  · exact Nat.le_of_lt (h.lo c)
theorem RF.pk_lt {N M : Nat} {Q r : Int} (h : RF N M Q r) : pk M Q < 9218868437227405312 := by
  obtain ⟨a1, a2, a3, a4⟩ := h.nf
  rw [pk_eq]; omega
theorem rf_of {g : Bool} {n : Nat} {x : Int} (hn : (Dy.mk g n x).Num) : RF (n * uu x) (rM n x) (rQ n x) (rW n x) := by
  have e := EE_eq
  obtain ⟨hf, ho, hx1, hx2⟩ := hn
  simp only at hf ho hx1 hx2
  have h0 : n ≠ 0 := odd_ne ho
  have hb := rM_b (x := x) h0
  have hq := rQ_b n x
  have nf : NF (rM n x) (rQ n x) := ⟨hb.1, hq.1, hq.2, hb.2⟩
  have hnd : nd 2 n ≠ 0 := fun c => h0 ((nd_eq_zero (by omega)).1 c)
  have l2 : 2 ^ (nd 2 n - 1) ≤ n := (pow_le_iff (b := 2) (by omega) _ _).2 (by omega)
  by_cases h : 1024 ≤ rT n x
  · obtain ⟨e1, e2, e3⟩ := rQ_far h
    rw [e1, e2] at nf
    rw [e1, e2, e3]
    have hN : 9007199254740992 * uu 971 ≤ n * uu x := by
      have k1 : 2 ^ (nd 2 n - 1) * uu x ≤ n * uu x := Nat.mul_le_mul_right _ l2
      have k2 : 2 ^ 53 * uu 971 ≤ 2 ^ (nd 2 n - 1) * uu x := by
        unfold uu
        rw [← Nat.pow_add, ← Nat.pow_add]
        refine Nat.pow_le_pow_right (by omega) ?_
        unfold rT at h
        omega
      rw [show (2 : Nat) ^ 53 = 9007199254740992 by decide] at k2
      omega
    have up := uu_pos 971
    generalize n * uu x = N at *
    exact ⟨nf, by omega, by omega, fun _ => by omega, Or.inr (by have := pk_eq 9007199254740991 971; omega), by omega, by omega, fun _ => by omega⟩
  · by_cases hu : rQ n x ≤ x
    · obtain ⟨e1, e2⟩ := rM_up h hu
      have hN : n * uu x = rM n x * uu (rQ n x) := by
        rw [e1, Nat.mul_assoc]
        congr 1
        have := uu_add (q := rQ n x) (k := (x - rQ n x).toNat) (by omega)
        rw [← this]
        congr 1
        omega
      rw [e2, hN]
      have up := uu_pos (rQ n x)
      refine ⟨nf, by omega, fun _ => rfl, by omega, Or.inl ?_, by omega, by omega, by omega⟩
      rw [Nat.add_mul]; omega
    · obtain ⟨e1, e2⟩ := rM_dn h hu
      obtain ⟨k, hk⟩ : ∃ k, k = (rQ n x - x).toNat := ⟨_, rfl⟩
      rw [← hk] at e1 e2
      have hk1 : 1 ≤ k := by omega
      have hu2 : uu (rQ n x) = 2 ^ k * uu x := by
        have := uu_add (q := x) (k := k) (by omega)
        rw [← this]; congr 1; omega
      have hkp := Nat.two_pow_pos k
      have hL0 : n % 2 ^ k ≠ 0 := fun c => by
        have : n % 2 ^ k % 2 = n % 2 := Nat.mod_mod_of_dvd n ⟨2 ^ (k - 1), by rw [Nat.mul_comm, ← Nat.pow_succ]; congr 1; omega⟩
        rw [c] at this; omega
      have hL := Nat.mod_lt n hkp
      have hdm := Nat.div_add_mod n (2 ^ k)
      rw [← e1] at hdm
      have hux := uu_pos x
      have hN : n * uu x = rM n x * uu (rQ n x) + n % 2 ^ k * uu x := by
        rw [hu2]
        calc n * uu x = (2 ^ k * rM n x + n % 2 ^ k) * uu x := by rw [hdm]
          _ = _ := by rw [Nat.add_mul, Nat.mul_comm (2 ^ k) (rM n x), Nat.mul_assoc]
      have hpos : 0 < n % 2 ^ k * uu x := Nat.mul_pos (Nat.pos_of_ne_zero hL0) hux
      have hlt : n % 2 ^ k * uu x < uu (rQ n x) := by rw [hu2]; exact Nat.mul_lt_mul_of_pos_right hL hux
      have hc : (n % 2 ^ k * uu x) * 2 = (n % 2 ^ k * 2) * uu x := Nat.mul_right_comm _ _ _
      rw [hN, e2]
      have w1 := fun (h : n % 2 ^ k * 2 < 2 ^ k) => Nat.mul_lt_mul_of_pos_right h hux
      have w3 := fun (h : 2 ^ k < n % 2 ^ k * 2) => Nat.mul_lt_mul_of_pos_right h hux
      have w2 : n % 2 ^ k * 2 = 2 ^ k → (n % 2 ^ k * 2) * uu x = 2 ^ k * uu x := fun h => by rw [h]
      rw [← hc, ← hu2] at w1 w2 w3
      have hsub : rM n x * uu (rQ n x) + n % 2 ^ k * uu x - rM n x * uu (rQ n x) = n % 2 ^ k * uu x := by omega
      rcases Nat.lt_trichotomy (n % 2 ^ k * 2) (2 ^ k) with c | c | c
      · rw [cmpN_lt c]
        have := w1 c
        refine ⟨nf, by omega, by omega, fun _ => by omega, Or.inl (by rw [Nat.add_mul]; omega), fun _ => by omega, by omega, by omega⟩
      · rw [c, cmpN_eq]
        have := w2 c
        refine ⟨nf, by omega, by omega, fun _ => by omega, Or.inl (by rw [Nat.add_mul]; omega), by omega, fun _ => by omega, by omega⟩
      · rw [cmpN_gt c]
        have := w3 c
        refine ⟨nf, by omega, by omega, fun _ => by omega, Or.inl (by rw [Nat.add_mul]; omega), by omega, by omega, fun _ => by omega⟩
def upP (M : Nat) (r : Int) : Prop := r = 3 ∨ (r = 2 ∧ M % 2 = 1)
theorem RF.mono {N1 N2 M1 M2 : Nat} {Q1 Q2 r1 r2 : Int} (h1 : RF N1 M1 Q1 r1) (h2 : RF N2 M2 Q2 r2) (h : N1 ≤ N2) : pk M1 Q1 ≤ pk M2 Q2 ∧ (pk M1 Q1 = pk M2 Q2 → (r1 ≠ 0 → r2 ≠ 0) ∧ (upP M1 r1 → upP M2 r2)) := by
  have p1 := h1.pk_lt
  have p2 := h2.pk_lt
  constructor
  · refine Nat.not_lt.1 fun c => ?_
    have k := h2.nf.lt_of h1.nf c
    have k1 := h1.le
    rcases h2.hi with k2 | k2 <;> omega
  · intro he
    obtain ⟨rfl, rfl⟩ := h1.nf.inj h2.nf he
    have up := uu_pos Q1
    have c1 := h1.rc
    have c2 := h2.rc
    obtain ⟨-, -, x1, x2, x3, x4, x5, x6⟩ := h1
    obtain ⟨-, -, y1, y2, y3, y4, y5, y6⟩ := h2
    generalize M1 * uu Q1 = F at *
    constructor
    · intro hr c
      have := x2 hr
      have := y1 c
      omega
    · rintro (hr | ⟨hr, hp⟩)
      · have := x6 hr
        rcases c2 with c2 | c2 | c2 | c2
        · have := y1 c2; omega
        · have := y4 c2; omega
        · have := y5 c2; omega
        · exact Or.inl c2
      · have := x5 hr
        rcases c2 with c2 | c2 | c2 | c2
        · have := y1 c2; omega
        · have := y4 c2; omega
        · exact Or.inr ⟨c2, hp⟩
        · exact Or.inl c2
theorem RF.own {m M : Nat} {e Q r : Int} (h : RF (m * uu e) M Q r) (hm : NF m e) : M = m ∧ Q = e ∧ r = 0 := by
  have p1 := h.pk_lt
  have p2 : pk m e < 9218868437227405312 := by obtain ⟨a1, a2, a3, a4⟩ := hm; rw [pk_eq]; omega
  have he : pk M Q = pk m e := by
    rcases Nat.lt_trichotomy (pk M Q) (pk m e) with c | c | c
    · have k := h.nf.lt_of hm c
      rcases h.hi with k2 | k2 <;> omega
    · exact c
    · have k := hm.lt_of h.nf c
      have k1 := h.le
      have up := uu_pos e
      rw [Nat.add_mul] at k
      omega
  obtain ⟨rfl, rfl⟩ := h.nf.inj hm he
  refine ⟨rfl, rfl, ?_⟩
  refine Classical.not_not.1 fun c => ?_
  have := h.lo c
  omega
end Go.Proofs.YtmjjodficjjehaaGreatDoor
namespace Go.Proofs.YtmjjodficjjehaaGreatDoor
open Go Go.RowKit Nt
@[irreducible] def lowW (a : Dy) : Nat := if a.n = 0 then 0 else rnd a.g a.n a.x (upBelow a.g a.n a.x)
@[irreducible] def highW (a : Dy) : Nat := if a.n = 0 then 0 else rnd a.g a.n a.x (upAbove a.g a.n a.x)
@[irreducible] def nearW (a : Dy) : Nat := if a.n = 0 then 0 else rnd a.g a.n a.x (upNear a.n a.x)
theorem pk_up (m : Nat) (e : Int) : pk (m + 1) e = pk m e + 1 := by rw [pk_eq, pk_eq]; omega
theorem wf_lt3 (g : Bool) {p : Nat} (h : p ≤ 9218868437227405312) : Bt.wf g p < 18446744073709551616 := by
  rw [Bt.wf_eq]
  cases g
  · rw [if_neg Bool.false_ne_true]; omega
  · rw [if_pos rfl, Bt.topped_eq]; omega
theorem fin_wf3 (g : Bool) {p : Nat} (hp : p ≤ 9218868437227405312) : Bt.finB (Bt.wf g p) = decide (p < 9218868437227405312) := by
  unfold Bt.finB; rw [(wf_rung g hp).1]
theorem words_num {a : Dy} (h : a.n ≠ 0) : lowW a = Bt.wf a.g (pk (rM a.n a.x) (rQ a.n a.x) + (if a.g = true ∧ rW a.n a.x ≠ 0 then 1 else 0)) ∧ highW a = Bt.wf a.g (pk (rM a.n a.x) (rQ a.n a.x) + (if ¬ a.g = true ∧ rW a.n a.x ≠ 0 then 1 else 0)) ∧ nearW a = Bt.wf a.g (pk (rM a.n a.x) (rQ a.n a.x) + (if rW a.n a.x = 3 ∨ (rW a.n a.x = 2 ∧ rM a.n a.x % 2 = 1) then 1 else 0)) := by
  have key : ∀ up : Bool, rnd a.g a.n a.x up = Bt.wf a.g (pk (rM a.n a.x) (rQ a.n a.x) + (if up = true then 1 else 0)) := fun up => by
    cases up
    · rw [rnd_f, if_neg Bool.false_ne_true]; rfl
    · rw [rnd_t, if_pos rfl, pk_up]
  unfold lowW highW nearW
  rw [if_neg h, if_neg h, if_neg h, key, key, key]
  unfold upBelow upAbove upNear
  refine ⟨?_, ?_, ?_⟩
  · congr 2; simp
  · congr 2; simp
  · congr 2; simp
theorem up_wf3f {p : Nat} (h : p < 9218868437227405312) : Bt.upF (Bt.wf false p) = Bt.wf false (p + 1) := by
  have hn := wf_isn false (r := p) (by omega)
  obtain ⟨r1, s1⟩ := wf_rung false (r := p) (by omega)
  have e : ∀ q, Bt.wf false q = q := fun q => by rw [Bt.wf_eq, if_neg Bool.false_ne_true]
  have hi : Bt.infW (Bt.wf false p) = false := Bool.eq_false_iff.2 fun c => by have := (Bt.infW_iff _).1 c; rw [e] at this; omega
  by_cases h0 : p = 0
  · rw [Bt.up_zero hn hi (by rw [r1]; exact h0), e, h0]
  · rw [Bt.up_pos hn hi (by rw [r1]; exact h0) s1, e, e]
theorem up_wf3t {p : Nat} (h : p < 9218868437227405312) : Bt.upF (Bt.wf true (p + 1)) = Bt.wf true p := by
  have hn := wf_isn true (r := p + 1) (by omega)
  obtain ⟨r1, s1⟩ := wf_rung true (r := p + 1) (by omega)
  have e : ∀ q, Bt.wf true q = 9223372036854775808 + q := fun q => by rw [Bt.wf_eq, if_pos rfl, Bt.topped_eq]
  have hi : Bt.infW (Bt.wf true (p + 1)) = false := Bool.eq_false_iff.2 fun c => by have := (Bt.infW_iff _).1 c; rw [e] at this; omega
  rw [Bt.up_neg hn hi (by rw [r1]; omega) s1, e, e]; omega
theorem iv_flt {x : Nat} (hx : x < 18446744073709551616) (hf : Bt.finB x = true) : iv (flt x) = sgnd (Bt.Ff.sgn x) (Bt.pm x * uu (Bt.pex x)) := by
  have e := EE_eq
  obtain ⟨e1, e2⟩ := pex_bounds hx hf
  obtain ⟨k1, k2⟩ := mk_toZ (Bt.Ff.sgn x) (Bt.pm x) (Bt.pex x) EE (by omega)
  have hk := mkE_ok (float_ok hx hf)
  rw [k2] at hk
  unfold flt
  rw [k1, mk_iv hk]
  rfl
theorem pm_wf (g : Bool) {m : Nat} {e : Int} (h : NF m e) : Bt.pm (Bt.wf g (pk m e)) = m ∧ Bt.pex (Bt.wf g (pk m e)) = e := by
  obtain ⟨h1, h2, h3, h4⟩ := h
  have hp := pk_lt (m := m) (q := e) (by omega) h3
  obtain ⟨r1, r2⟩ := wf_rung g (r := pk m e) hp
  rw [pk_eq] at r1
  rw [pk_eq]
  obtain ⟨t, ht⟩ : ∃ t : Nat, t = (e + 1074).toNat := ⟨_, rfl⟩
  rw [← ht] at r1 ⊢
  by_cases c : 4503599627370496 ≤ m
  · rw [Bt.pm_nor (by omega), Bt.pex_nor (by omega), Bt.frac_eq, r1]
    refine ⟨by omega, ?_⟩
    rw [show (t * 4503599627370496 + m) / 4503599627370496 - 1 = t by omega]
    omega
  · rw [Bt.pm_sub (by omega), Bt.pex_sub (by omega), r1]
    omega
theorem val_wf (g : Bool) {m : Nat} {e : Int} (h : NF m e) (hp : pk m e < 9218868437227405312) : iv (flt (Bt.wf g (pk m e))) = sgnd g (m * uu e) := by
  have hf : Bt.finB (Bt.wf g (pk m e)) = true := by rw [fin_wf3 g (by omega)]; exact decide_eq_true hp
  rw [iv_flt (wf_lt3 g (by omega)) hf, (pm_wf g h).1, (pm_wf g h).2, (wf_rung g (r := pk m e) (by omega)).2]
theorem val_up (g : Bool) {m : Nat} {e : Int} (h : NF m e) (hp : pk m e + 1 < 9218868437227405312) : iv (flt (Bt.wf g (pk m e + 1))) = sgnd g ((m + 1) * uu e) := by
  by_cases c : m + 1 = 9007199254740992
  · obtain ⟨h1, h2, h3, h4⟩ := h
    have he : e ≤ 970 := by rw [pk_eq] at hp; omega
    have k : pk m e + 1 = pk 4503599627370496 (e + 1) := by rw [← pk_up, c]; exact pk_top e h2
    have hu := uu_add (q := e) (k := 1) (by omega)
    rw [k] at hp ⊢
    rw [val_wf g ⟨by omega, by omega, by omega, Or.inl (by omega)⟩ hp, c]
    congr 1
    rw [show e + (1 : Int) = e + ((1 : Nat) : Int) from rfl, hu]
    omega
  · rw [← pk_up] at hp ⊢
    obtain ⟨h1, h2, h3, h4⟩ := h
    exact val_wf g ⟨by omega, h2, h3, h4.imp (fun h => by omega) id⟩ hp
structure Bw (a : Dy) (l h n : Nat) : Prop where
  ll : l < 18446744073709551616
  lh : h < 18446744073709551616
  ln : n < 18446744073709551616
  nl : ¬ Bt.Ff.isn l
  nh : ¬ Bt.Ff.isn h
  nn : ¬ Bt.Ff.isn n
  al : 0 ≤ agR a l
  ah : agR a h ≤ 0
  z : agR a l = 0 ↔ agR a h = 0
  nw : n = l ∨ n = h
  nx : agR a l ≠ 0 → Bt.upF l = h
theorem ag_fin {a : Dy} (ha : a.Ok) {x : Nat} (hx : x < 18446744073709551616) (hf : Bt.finB x = true) : agR a x = sgI (iv a - iv (flt x)) := by
  rw [(agR_fin hf).1]
  exact cmp_iv ha (flt_Ok x)
theorem ag_inf {a : Dy} (g : Bool) : agR a (Bt.wf g 9218868437227405312) = if g = true then 1 else -1 :=
  (agR_inf (wf_isn g (Nat.le_refl _)) (by rw [fin_wf3 g (Nat.le_refl _)]; exact decide_eq_false (by omega)) g (wf_rung g (Nat.le_refl _)).2).1
theorem sgI_neg {z : Int} (h : z < 0) : sgI z = -1 := by unfold sgI; rw [if_pos h]
theorem sgI_pos {z : Int} (h : 0 < z) : sgI z = 1 := by unfold sgI; rw [if_neg (by omega), if_pos h]
theorem sgI_nul {z : Int} (h : z = 0) : sgI z = 0 := by unfold sgI; rw [if_neg (by omega), if_neg (by omega)]
theorem bw_num {a : Dy} (hn : a.Num) : Bw a (lowW a) (highW a) (nearW a) := by
  have ha : a.Ok := Or.inr hn
  have h0 : a.n ≠ 0 := odd_ne hn.2.1
  obtain ⟨e1, e2, e3⟩ := words_num h0
  rw [e1, e2, e3]
  have hr : RF (a.n * uu a.x) (rM a.n a.x) (rQ a.n a.x) (rW a.n a.x) := rf_of (g := a.g) hn
  have hiv : iv a = sgnd a.g (a.n * uu a.x) := rfl
  have hp := hr.pk_lt
  have nf := hr.nf
  have hc := hr.rc
  have v0 := val_wf a.g nf hp
  have v1 := fun h => val_up a.g nf h
  clear e1 e2 e3 h0 hn
  obtain ⟨-, -, x1, x2, x3, -, -, -⟩ := hr
  revert hiv hp hc v0 v1 x1 x2 x3
  generalize a.n * uu a.x = N
  have hm1 : (rM a.n a.x + 1) * uu (rQ a.n a.x) = rM a.n a.x * uu (rQ a.n a.x) + uu (rQ a.n a.x) := by rw [Nat.add_mul, Nat.one_mul]
  have up := uu_pos (rQ a.n a.x)
  rw [hm1]
  clear nf hm1
  generalize rM a.n a.x * uu (rQ a.n a.x) = F
  revert up
  generalize uu (rQ a.n a.x) = u
  generalize rM a.n a.x % 2 = par
  generalize pk (rM a.n a.x) (rQ a.n a.x) = P
  generalize rW a.n a.x = r
  generalize hg : a.g = g
  clear hg
  intro up hiv hp hc v0 v1 x1 x2 x3
  have a0 : agR a (Bt.wf g P) = sgI (iv a - sgnd g F) := by
    rw [ag_fin ha (wf_lt3 g (by omega)) (by rw [fin_wf3 g (by omega)]; exact decide_eq_true hp), v0]
  have a1 : r ≠ 0 → agR a (Bt.wf g (P + 1)) = if g = true then 1 else -1 := fun h => by
    by_cases c : P + 1 < 9218868437227405312
    · rw [ag_fin ha (wf_lt3 g (by omega)) (by rw [fin_wf3 g (by omega)]; exact decide_eq_true c), v1 c, hiv]
      have k : N < F + u := by rcases x3 with k | k <;> omega
      cases g
      · rw [sgnd_f, sgnd_f]; exact sgI_neg (by omega)
      · rw [sgnd_t, sgnd_t]; exact sgI_pos (by omega)
    · rw [show P + 1 = 9218868437227405312 by omega]; exact ag_inf g
  clear v0 v1 x3
  have nr : (if r = 3 ∨ r = 2 ∧ par = 1 then 1 else 0) = 0 ∨ ((if r = 3 ∨ r = 2 ∧ par = 1 then 1 else 0) = 1 ∧ r ≠ 0) := by
    split
    · exact Or.inr ⟨rfl, by omega⟩
    · exact Or.inl rfl
  generalize (if r = 3 ∨ r = 2 ∧ par = 1 then 1 else 0) = t at *
  have ht : t ≤ 1 := by omega
  by_cases c : r = 0
  · have ht0 : t = 0 := by rcases nr with k | ⟨_, k⟩; exact k; exact absurd c k
    rw [if_neg (fun k => k.2 c), if_neg (fun k => k.2 c), ht0, Nat.add_zero]
    have z0 : agR a (Bt.wf g P) = 0 := by rw [a0, hiv, x1 c]; exact sgI_nul (by omega)
    rw [← ht0] at *
    exact ⟨wf_lt3 g (by omega), wf_lt3 g (by omega), wf_lt3 g (by omega), wf_isn g (by omega), wf_isn g (by omega), wf_isn g (by omega), by rw [z0]; omega, by rw [z0]; omega, Iff.rfl, Or.inl rfl, fun k => absurd z0 k⟩
  · have k2 := x2 c
    have k1 := a1 c
    cases g
    · rw [if_neg (fun k => Bool.false_ne_true k.1), if_pos ⟨Bool.false_ne_true, c⟩, show P + 0 = P from rfl]
      rw [if_neg Bool.false_ne_true] at k1
      have z0 : agR a (Bt.wf false P) = 1 := by rw [a0, hiv, sgnd_f, sgnd_f]; exact sgI_pos (by omega)
      refine ⟨wf_lt3 _ (by omega), wf_lt3 _ (by omega), wf_lt3 _ (by omega), wf_isn _ (by omega), wf_isn _ (by omega), wf_isn _ (by omega), by rw [z0]; omega, by rw [k1]; omega, by rw [z0, k1]; omega, ?_, fun _ => up_wf3f hp⟩
      rcases nr with k | ⟨k, _⟩
      · rw [k]; exact Or.inl rfl
      · rw [k]; exact Or.inr rfl
    · rw [if_pos ⟨rfl, c⟩, if_neg (fun k => k.1 rfl), show P + 0 = P from rfl]
      rw [if_pos rfl] at k1
      have z0 : agR a (Bt.wf true P) = -1 := by rw [a0, hiv, sgnd_t, sgnd_t]; exact sgI_neg (by omega)
      refine ⟨wf_lt3 _ (by omega), wf_lt3 _ (by omega), wf_lt3 _ (by omega), wf_isn _ (by omega), wf_isn _ (by omega), wf_isn _ (by omega), by rw [k1]; omega, by rw [z0]; omega, by rw [z0, k1]; omega, ?_, fun _ => up_wf3t hp⟩
      rcases nr with k | ⟨k, _⟩
      · rw [k]; exact Or.inr rfl
      · rw [k]; exact Or.inl rfl
theorem words_zero : lowW Dy.zero = 0 ∧ highW Dy.zero = 0 ∧ nearW Dy.zero = 0 := by
  unfold lowW highW nearW
  exact ⟨if_pos rfl, if_pos rfl, if_pos rfl⟩
theorem bw_zero : Bw Dy.zero (lowW Dy.zero) (highW Dy.zero) (nearW Dy.zero) := by
  obtain ⟨e1, e2, e3⟩ := words_zero
  rw [e1, e2, e3]
  have z : agR Dy.zero 0 = 0 := by
    rw [ag_fin (Or.inl rfl) (by omega) ((Bt.finB_true 0).2 (by decide))]
    refine sgI_nul ?_
    have : flt 0 = Dy.zero := by unfold flt; rw [rung_pm (by decide), mkD_zero]
    rw [this]; omega
  exact ⟨by omega, by omega, by omega, by decide, by decide, by decide, by rw [z]; omega, by rw [z]; omega, Iff.rfl, Or.inl rfl, fun k => absurd z k⟩
theorem bw_of {a : Dy} (ha : a.Ok) : Bw a (lowW a) (highW a) (nearW a) := by
  rcases ha with rfl | h
  · exact bw_zero
  · exact bw_num h
end Go.Proofs.YtmjjodficjjehaaGreatDoor
namespace Go.Proofs.YtmjjodficjjehaaGreatDoor
open Go Go.RowKit
def Ers (w : World) (A : Nat) (l : List Int) : Prop := A < w.heap.size ∧ ∀ j (h : j < l.length), w.cell? ⟨A, j, none⟩ = some (.int .i64 l[j])
theorem Ers.below {w w' : World} {A : Nat} {l : List Int} (h : Ers w A l) (hb : Below w.heap.size w w') : Ers w' A l :=
  ⟨Nat.lt_of_lt_of_le h.1 hb.size, fun j hj => (hb.cell (p := ⟨A, j, none⟩) h.1).trans (h.2 j hj)⟩
section
variable [Env]
end
end Go.Proofs.YtmjjodficjjehaaGreatDoor
namespace Go.Proofs.YtmjjodficjjehaaGreatDoor
open Go Go.RowKit Nt
structure Gs where
  re : Dy
  im : Dy
def Gs.v (a : Gs) : Value := .agg #[.bool a.re.g, .string (natS a.re.n), .int .i64 a.re.x, .bool a.im.g, .string (natS a.im.n), .int .i64 a.im.x]
def Gs.zero : Gs := ⟨Dy.zero, Dy.zero⟩
theorem Gs.zero_v : Gs.zero.v = .agg #[.bool false, .string ⟨#[]⟩, .int .i64 0, .bool false, .string ⟨#[]⟩, .int .i64 0] := by
  show Value.agg #[.bool false, .string (natS 0), .int .i64 0, .bool false, .string (natS 0), .int .i64 0] = _
  rw [natS_zero]
def Gs.Ok (a : Gs) : Prop := a.re.Ok ∧ a.im.Ok
theorem Gs.zero_Ok : Gs.zero.Ok := ⟨Or.inl rfl, Or.inl rfl⟩
structure Gt where
  re : Dt
  im : Dt
def Gt.v (a : Gt) : Value := .agg #[.bool a.re.g, .string a.re.s, .int .i64 a.re.x, .bool a.im.g, .string a.im.s, .int .i64 a.im.x]
def Dt.zero : Dt := ⟨false, ⟨#[]⟩, 0⟩
theorem Dt.zero_v : Dt.zero.v = .agg #[.bool false, .string ⟨#[]⟩, .int .i64 0] := rfl
theorem Dt.zero_Ok : Dt.zero.Ok := Or.inl ⟨rfl, rfl, rfl⟩
def Gt.zero : Gt := ⟨Dt.zero, Dt.zero⟩
theorem Gt.zero_v : Gt.zero.v = .agg #[.bool false, .string ⟨#[]⟩, .int .i64 0, .bool false, .string ⟨#[]⟩, .int .i64 0] := rfl
def Gt.Ok (a : Gt) : Prop := a.re.Ok ∧ a.im.Ok
def Gs.t (a : Gs) : Gt := ⟨a.re.t, a.im.t⟩
theorem Gs.ok_t {a : Gs} (h : a.Ok) : a.t.Ok := ⟨Dy.ok_t h.1, Dy.ok_t h.2⟩
theorem Gt.gs {a : Gt} (h : a.Ok) : ∃ d : Gs, d.Ok ∧ a = d.t := by
  obtain ⟨r, i⟩ := a
  obtain ⟨x, h1, h2⟩ := Dt.dy h.1
  obtain ⟨y, h3, h4⟩ := Dt.dy h.2
  simp only at h2 h4
  exact ⟨⟨x, y⟩, ⟨h1, h3⟩, by rw [h2, h4]; rfl⟩
open Classical in
@[irreducible] noncomputable def gE (a : Gt) : Int := if a.Ok then 0 else 2
theorem gE_ok {a : Gt} (h : a.Ok) : gE a = 0 := by unfold gE; rw [if_pos h]
theorem gE_no {a : Gt} (h : ¬ a.Ok) : gE a = 2 := by unfold gE; rw [if_neg h]
theorem dE1 {t : Dt} : dE [t] = 0 ↔ t.Ok := by
  constructor
  · intro h
    by_cases hn : t.Ok
    · exact hn
    · rw [dE_no (List.mem_singleton.2 rfl) hn] at h; cases h
  · intro h
    exact dE_ok fun u hu => by rw [List.mem_singleton.1 hu]; exact h
theorem DCheck_dy (a : Dy) (ha : a.Ok) (w : World) : Calls Tryz.prog 72 #[.agg #[.bool a.g, .string (natS a.n), .int .i64 a.x]] w fun e w' => e = .returned (.int .i64 0) ∧ Below w.heap.size w w' := by
  have h := DCheck_c a.t w (by have := Dy.small ha; show (natS a.n).size ≤ _; omega)
  rwa [dE_ok (fun t ht => by rw [List.mem_singleton.1 ht]; exact Dy.ok_t ha)] at h
theorem eqG_run {g g' k k' : Bool} {s s' r r' : ByteArray} {x x' y y' : Int} {c : Bool} (h : c = true ↔ ((g = g' ∧ s = s' ∧ x = x') ∧ (k = k' ∧ r = r' ∧ y = y'))) (p q : Operand) (w : World) : (do eqGuard .eql 40 p q (.agg #[.bool g, .string s, .int .i64 x, .bool k, .string r, .int .i64 y]) (.agg #[.bool g', .string s', .int .i64 x', .bool k', .string r', .int .i64 y']); binOp .eql 40 (.agg #[.bool g, .string s, .int .i64 x, .bool k, .string r, .int .i64 y]) (.agg #[.bool g', .string s', .int .i64 x', .bool k', .string r', .int .i64 y'])).run Tryz.prog w = .ok (.bool c) w := by
  have hs : s.toList = s'.toList ↔ s = s' := ⟨str_inj, fun h => by rw [h]⟩
  have hr : r.toList = r'.toList ↔ r = r' := ⟨str_inj, fun h => by rw [h]⟩
  go_simp
  cases c with
  | true =>
    obtain ⟨⟨rfl, rfl, rfl⟩, rfl, rfl, rfl⟩ := h.1 rfl
    simp
  | false =>
    have hn : ¬ ((g = g' ∧ s = s' ∧ x = x') ∧ (k = k' ∧ r = r' ∧ y = y')) := fun e => Bool.false_ne_true (h.2 e)
    repeat' split
    all_goals first
      | rfl
      | exact absurd ⟨⟨by assumption, by assumption, by assumption⟩, by assumption, by assumption, by assumption⟩ hn
theorem Gs.ext_iff' {a b : Gs} : ((a.re.g = b.re.g ∧ natS a.re.n = natS b.re.n ∧ a.re.x = b.re.x) ∧ (a.im.g = b.im.g ∧ natS a.im.n = natS b.im.n ∧ a.im.x = b.im.x)) ↔ a = b := by
  rw [Dy.ext_iff', Dy.ext_iff']
  obtain ⟨r, i⟩ := a
  obtain ⟨r', i'⟩ := b
  simp
theorem Dt.ext_iff' {a b : Dt} : (a.g = b.g ∧ a.s = b.s ∧ a.x = b.x) ↔ a = b := by
  obtain ⟨g, n, x⟩ := a
  obtain ⟨g', n', x'⟩ := b
  simp
theorem Gt.ext_iff' {a b : Gt} : ((a.re.g = b.re.g ∧ a.re.s = b.re.s ∧ a.re.x = b.re.x) ∧ (a.im.g = b.im.g ∧ a.im.s = b.im.s ∧ a.im.x = b.im.x)) ↔ a = b := by
  rw [Dt.ext_iff', Dt.ext_iff']
  obtain ⟨r, i⟩ := a
  obtain ⟨r', i'⟩ := b
  simp
section
variable [Env]
theorem optU_eql_t {A B : AV} {a b : Gt} (ha : gval A = a.v) (hb : gval B = b.v) (h : a = b) : OpT Tryz.prog [0, 11, 40] [A, B] (.lit (.bool true)) :=
  opt_bin (op := .eql) rfl fun p q w => by rw [ha, hb]; exact eqG_run (c := true) ⟨fun _ => Gt.ext_iff'.2 h, fun _ => rfl⟩ p q w
theorem optU_eql_f {A B : AV} {a b : Gt} (ha : gval A = a.v) (hb : gval B = b.v) (h : ¬ a = b) : OpT Tryz.prog [0, 11, 40] [A, B] (.lit (.bool false)) :=
  opt_bin (op := .eql) rfl fun p q w => by rw [ha, hb]; exact eqG_run (c := false) ⟨(fun c => by cases c), fun c => absurd (Gt.ext_iff'.1 c) h⟩ p q w
end
end Go.Proofs.YtmjjodficjjehaaGreatDoor
namespace Go.Proofs.YtmjjodficjjehaaGreatDoor
open Go Go.RowKit Nt
def All0 : List Int → Prop
  | [] => True
  | t :: l => t = 0 ∧ All0 l
instance All0.dec : ∀ l, Decidable (All0 l)
  | [] => .isTrue trivial
  | t :: l => @instDecidableAnd _ _ _ (All0.dec l)
@[irreducible] def erI (l : List Int) : Int := if All0 l then 0 else 4
@[irreducible] def erD (l : List Int) (d : Dy) : Dy := if All0 l then d else Dy.zero
@[irreducible] def erG (l : List Int) (d : Gs) : Gs := if All0 l then d else Gs.zero
theorem erI_ok {l : List Int} (h : All0 l) : erI l = 0 := by unfold erI; exact if_pos h
theorem erI_no {l : List Int} (h : ¬ All0 l) : erI l = 4 := by unfold erI; exact if_neg h
theorem erD_ok {l : List Int} {d : Dy} (h : All0 l) : erD l d = d := by unfold erD; exact if_pos h
theorem erD_no {l : List Int} {d : Dy} (h : ¬ All0 l) : erD l d = Dy.zero := by unfold erD; exact if_neg h
theorem erG_ok {l : List Int} {d : Gs} (h : All0 l) : erG l d = d := by unfold erG; exact if_pos h
theorem erG_no {l : List Int} {d : Gs} (h : ¬ All0 l) : erG l d = Gs.zero := by unfold erG; exact if_neg h
theorem erI_zero {l : List Int} : erI l = 0 ↔ All0 l := by
  by_cases h : All0 l
  · rw [erI_ok h]; simp [h]
  · rw [erI_no h]; simp [h]
theorem erD_Ok {l : List Int} {d : Dy} (h : d.Ok) : (erD l d).Ok := by
  by_cases c : All0 l
  · rw [erD_ok c]; exact h
  · rw [erD_no c]; exact Or.inl rfl
theorem erG_Ok {l : List Int} {d : Gs} (h : d.Ok) : (erG l d).Ok := by
  by_cases c : All0 l
  · rw [erG_ok c]; exact h
  · rw [erG_no c]; exact Gs.zero_Ok
theorem mkE4 {n : Nat} {x : Int} (h : ¬ mkE n x = 0) : mkE n x = 4 := by
  by_cases c : mkOk3 n x
  · exact absurd (mkE_ok c) h
  · exact mkE_no c
theorem mulE4 {a b : Dy} (h : ¬ mulE a b = 0) : mulE a b = 4 := by rw [mulE_eq] at h ⊢; exact mkE4 h
theorem addE4 {a b : Dy} (h : ¬ addE a b = 0) : addE a b = 4 := by
  by_cases h0 : a.n = 0
  · exact absurd (add_zl h0).2 h
  · by_cases h1 : b.n = 0
    · exact absurd (add_zr h0 h1).2 h
    · by_cases h2 : a.x < b.x
      · rw [(add_lt h0 h1 h2).2, hiE_eq] at h ⊢; exact mkE4 h
      · rw [(add_ge h0 h1 h2).2, hiE_eq] at h ⊢; exact mkE4 h
def neG (a : Gs) : Gs := ⟨negD a.re, negD a.im⟩
theorem neG_Ok {a : Gs} (h : a.Ok) : (neG a).Ok := ⟨negD_Ok h.1, negD_Ok h.2⟩
def gaddL (a b : Gs) : List Int := [addE a.re b.re, addE a.im b.im]
def gaddD (a b : Gs) : Gs := erG (gaddL a b) ⟨addD a.re b.re, addD a.im b.im⟩
def gaddE (a b : Gs) : Int := erI (gaddL a b)
theorem gaddD_Ok {a b : Gs} (ha : a.Ok) (hb : b.Ok) : (gaddD a b).Ok := erG_Ok ⟨add_Ok ha.1 hb.1, add_Ok ha.2 hb.2⟩
def twoL (a b c d : Dy) : List Int := [mulE a b, mulE c d, addE (mulD a b) (mulD c d)]
def twoD (a b c d : Dy) : Dy := addD (mulD a b) (mulD c d)
theorem twoD_Ok (a b c d : Dy) : (twoD a b c d).Ok := add_Ok (mulD_Ok _ _) (mulD_Ok _ _)
def dotD (a b : Gs) : Dy := erD (twoL a.re b.re a.im b.im) (twoD a.re b.re a.im b.im)
def dotE (a b : Gs) : Int := erI (twoL a.re b.re a.im b.im)
theorem dotD_Ok (a b : Gs) : (dotD a b).Ok := erD_Ok (twoD_Ok _ _ _ _)
end Go.Proofs.YtmjjodficjjehaaGreatDoor
namespace Go.Proofs.YtmjjodficjjehaaGreatDoor
open Go Go.RowKit Nt
@[irreducible] def KK : Int := 2 ^ EE
theorem KK_eq : KK = 2 ^ EE := by unfold KK; rfl
theorem KK_pos : 0 < KK := by rw [KK_eq]; exact Int.pow_pos (by decide)
theorem iv_mulK {a b : Dy} (ha : a.Ok) (hb : b.Ok) (h : mulE a b = 0) : iv (mulD a b) * KK = iv a * iv b := by rw [KK_eq]; exact iv_mul ha hb h
theorem two_iv {a b c d : Dy} (ha : a.Ok) (hb : b.Ok) (hc : c.Ok) (hd : d.Ok) (h : All0 (twoL a b c d)) : iv (twoD a b c d) * KK = iv a * iv b + iv c * iv d := by
  obtain ⟨h1, h2, h3, _⟩ := h
  show iv (addD (mulD a b) (mulD c d)) * KK = _
  rw [iv_add (mulD_Ok _ _) (mulD_Ok _ _) h3, Int.add_mul, iv_mulK ha hb h1, iv_mulK hc hd h2]
theorem er0 {l : List Int} (h : erI l = 0) : All0 l := erI_zero.1 h
theorem gadd_eq {a b : Gs} (h : gaddE a b = 0) : gaddD a b = ⟨addD a.re b.re, addD a.im b.im⟩ ∧ addE a.re b.re = 0 ∧ addE a.im b.im = 0 := by
  have h1 := er0 h
  exact ⟨erG_ok h1, h1.1, h1.2.1⟩
theorem gadd_iv {a b : Gs} (ha : a.Ok) (hb : b.Ok) (h : gaddE a b = 0) : iv (gaddD a b).re = iv a.re + iv b.re ∧ iv (gaddD a b).im = iv a.im + iv b.im := by
  obtain ⟨e, h1, h2⟩ := gadd_eq h
  rw [e]
  exact ⟨iv_add ha.1 hb.1 h1, iv_add ha.2 hb.2 h2⟩
theorem dot_iv {a b : Gs} (ha : a.Ok) (hb : b.Ok) (h : dotE a b = 0) : iv (dotD a b) * KK = iv a.re * iv b.re + iv a.im * iv b.im := by
  have h1 := er0 h
  rw [show dotD a b = twoD a.re b.re a.im b.im from erD_ok h1]
  exact two_iv ha.1 hb.1 ha.2 hb.2 h1
def Gs.i : Gs := ⟨Dy.zero, Dy.one⟩
end Go.Proofs.YtmjjodficjjehaaGreatDoor
namespace Go.Proofs.YtmjjodficjjehaaGreatDoor
open Go Go.RowKit Nt
@[reducible] noncomputable def GCheck_c_k1 : Know := ⟨[([0, 11, 40], [.agg [.sym 0, .sym 1, .sym 2, .sym 3, .sym 4, .sym 5], .lit (.agg #[.bool false, .string ⟨#[]⟩, .int .i64 0, .bool false, .string ⟨#[]⟩, .int .i64 0])], .lit (.bool true))],
  []⟩
theorem GCheck_c_r1 : @comes GCheck_c_k1 Tryz.prog glT 3000 38 [.agg [.sym 0, .sym 1, .sym 2, .sym 3, .sym 4, .sym 5]] = some (.lit (.int .i64 0)) := by kernel_rfl
@[reducible] noncomputable def GCheck_c_k2 : Know := ⟨[([0, 11, 40], [.agg [.sym 0, .sym 1, .sym 2, .sym 3, .sym 4, .sym 5], .lit (.agg #[.bool false, .string ⟨#[]⟩, .int .i64 0, .bool false, .string ⟨#[]⟩, .int .i64 0])], .lit (.bool false)),
  ([0, 12, 31], [.sym 6, .lit (.int .i64 0)], .lit (.bool false)),
  ([0, 12, 31], [.sym 7, .lit (.int .i64 0)], .lit (.bool false))],
  [(72, [.agg [.sym 0, .sym 1, .sym 2]], .sym 6),
  (72, [.agg [.sym 3, .sym 4, .sym 5]], .sym 7)]⟩
theorem GCheck_c_r2 : @comes GCheck_c_k2 Tryz.prog glT 3000 38 [.agg [.sym 0, .sym 1, .sym 2, .sym 3, .sym 4, .sym 5]] = some (.lit (.int .i64 0)) := by kernel_rfl
@[reducible] noncomputable def GCheck_c_k3 : Know := ⟨[([0, 11, 40], [.agg [.sym 0, .sym 1, .sym 2, .sym 3, .sym 4, .sym 5], .lit (.agg #[.bool false, .string ⟨#[]⟩, .int .i64 0, .bool false, .string ⟨#[]⟩, .int .i64 0])], .lit (.bool false)),
  ([0, 12, 31], [.sym 6, .lit (.int .i64 0)], .lit (.bool false)),
  ([0, 12, 31], [.sym 7, .lit (.int .i64 0)], .lit (.bool true))],
  [(72, [.agg [.sym 0, .sym 1, .sym 2]], .sym 6),
  (72, [.agg [.sym 3, .sym 4, .sym 5]], .sym 7)]⟩
theorem GCheck_c_r3 : @comes GCheck_c_k3 Tryz.prog glT 3000 38 [.agg [.sym 0, .sym 1, .sym 2, .sym 3, .sym 4, .sym 5]] = some (.lit (.int .i64 2)) := by kernel_rfl
@[reducible] noncomputable def GCheck_c_k4 : Know := ⟨[([0, 11, 40], [.agg [.sym 0, .sym 1, .sym 2, .sym 3, .sym 4, .sym 5], .lit (.agg #[.bool false, .string ⟨#[]⟩, .int .i64 0, .bool false, .string ⟨#[]⟩, .int .i64 0])], .lit (.bool false)),
  ([0, 12, 31], [.sym 6, .lit (.int .i64 0)], .lit (.bool true))],
  [(72, [.agg [.sym 0, .sym 1, .sym 2]], .sym 6)]⟩
theorem GCheck_c_r4 : @comes GCheck_c_k4 Tryz.prog glT 3000 38 [.agg [.sym 0, .sym 1, .sym 2, .sym 3, .sym 4, .sym 5]] = some (.lit (.int .i64 2)) := by kernel_rfl
set_option maxRecDepth 100000 in
theorem GCheck_c (a : Gt) (w : World) (hre : a.re.s.size ≤ 9223372036854775807) (him : a.im.s.size ≤ 9223372036854775807) (hG : Globs glT w) : Calls Tryz.prog 38 #[.agg #[.bool a.re.g, .string a.re.s, .int .i64 a.re.x, .bool a.im.g, .string a.im.s, .int .i64 a.im.x]] w fun e w' => e = .returned (.int .i64 (gE a)) ∧ Below w.heap.size w w' := by
  by_cases h1 : a = Gt.zero
  · letI : Env := mkEnv glT [.bool a.re.g, .string a.re.s, .int .i64 a.re.x, .bool a.im.g, .string a.im.s, .int .i64 a.im.x] rfl
    have hops : OpsT Tryz.prog (@Know.ops GCheck_c_k1) := ⟨optU_eql_t (a := a) (b := Gt.zero) rfl Gt.zero_v.symm h1, trivial⟩
    have hcalls : CallsT Tryz.prog (@Know.calls GCheck_c_k1) := trivial
    exact (@sym_ok _ GCheck_c_k1 _ (@KnowOk.of _ GCheck_c_k1 _ hops hcalls) (by kernel_rfl) _ _ _ _ GCheck_c_r1 rfl rfl _ hG).mono fun e w' h => ⟨h.1.trans (show Ending.returned (.int .i64 0) = .returned (.int .i64 (gE a)) from by rw [gE_ok (show a.Ok from h1 ▸ ⟨Dt.zero_Ok, Dt.zero_Ok⟩)]), h.2⟩
  · by_cases h2 : dE [a.re] = 0
    · by_cases h3 : dE [a.im] = 0
      · letI : Env := mkEnv glT [.bool a.re.g, .string a.re.s, .int .i64 a.re.x, .bool a.im.g, .string a.im.s, .int .i64 a.im.x, .int .i64 (dE [a.re]), .int .i64 (dE [a.im])] rfl
        have hops : OpsT Tryz.prog (@Know.ops GCheck_c_k2) := ⟨optU_eql_f (a := a) (b := Gt.zero) rfl Gt.zero_v.symm h1, opt_neq_f rfl rfl h2, opt_neq_f rfl rfl h3, trivial⟩
        have hcalls : CallsT Tryz.prog (@Know.calls GCheck_c_k2) := ⟨callt rfl rfl fun w hG => DCheck_c a.re w hre, callt rfl rfl fun w hG => DCheck_c a.im w him, trivial⟩
        exact (@sym_ok _ GCheck_c_k2 _ (@KnowOk.of _ GCheck_c_k2 _ hops hcalls) (by kernel_rfl) _ _ _ _ GCheck_c_r2 rfl rfl _ hG).mono fun e w' h => ⟨h.1.trans (show Ending.returned (.int .i64 0) = .returned (.int .i64 (gE a)) from by rw [gE_ok ⟨dE1.1 h2, dE1.1 h3⟩]), h.2⟩
      · letI : Env := mkEnv glT [.bool a.re.g, .string a.re.s, .int .i64 a.re.x, .bool a.im.g, .string a.im.s, .int .i64 a.im.x, .int .i64 (dE [a.re]), .int .i64 (dE [a.im])] rfl
        have hops : OpsT Tryz.prog (@Know.ops GCheck_c_k3) := ⟨optU_eql_f (a := a) (b := Gt.zero) rfl Gt.zero_v.symm h1, opt_neq_f rfl rfl h2, opt_neq_t rfl rfl h3, trivial⟩
        have hcalls : CallsT Tryz.prog (@Know.calls GCheck_c_k3) := ⟨callt rfl rfl fun w hG => DCheck_c a.re w hre, callt rfl rfl fun w hG => DCheck_c a.im w him, trivial⟩
        exact (@sym_ok _ GCheck_c_k3 _ (@KnowOk.of _ GCheck_c_k3 _ hops hcalls) (by kernel_rfl) _ _ _ _ GCheck_c_r3 rfl rfl _ hG).mono fun e w' h => ⟨h.1.trans (show Ending.returned (.int .i64 2) = .returned (.int .i64 (gE a)) from by rw [gE_no (fun c => h3 (dE1.2 c.2))]), h.2⟩
    · letI : Env := mkEnv glT [.bool a.re.g, .string a.re.s, .int .i64 a.re.x, .bool a.im.g, .string a.im.s, .int .i64 a.im.x, .int .i64 (dE [a.re])] rfl
      have hops : OpsT Tryz.prog (@Know.ops GCheck_c_k4) := ⟨optU_eql_f (a := a) (b := Gt.zero) rfl Gt.zero_v.symm h1, opt_neq_t rfl rfl h2, trivial⟩
      have hcalls : CallsT Tryz.prog (@Know.calls GCheck_c_k4) := ⟨callt rfl rfl fun w hG => DCheck_c a.re w hre, trivial⟩
      exact (@sym_ok _ GCheck_c_k4 _ (@KnowOk.of _ GCheck_c_k4 _ hops hcalls) (by kernel_rfl) _ _ _ _ GCheck_c_r4 rfl rfl _ hG).mono fun e w' h => ⟨h.1.trans (show Ending.returned (.int .i64 2) = .returned (.int .i64 (gE a)) from by rw [gE_no (fun c => h2 (dE1.2 c.1))]), h.2⟩
theorem GCheck_gs (a : Gs) (ha : a.Ok) (w : World) (hG : Globs glT w) : Calls Tryz.prog 38 #[.agg #[.bool a.re.g, .string (natS a.re.n), .int .i64 a.re.x, .bool a.im.g, .string (natS a.im.n), .int .i64 a.im.x]] w fun e w' => e = .returned (.int .i64 0) ∧ Below w.heap.size w w' := by
  have h := GCheck_c a.t w (by have := Dy.small ha.1; show (natS a.re.n).size ≤ _; omega) (by have := Dy.small ha.2; show (natS a.im.n).size ≤ _; omega) hG
  rwa [gE_ok (Gs.ok_t ha)] at h
end Go.Proofs.YtmjjodficjjehaaGreatDoor
