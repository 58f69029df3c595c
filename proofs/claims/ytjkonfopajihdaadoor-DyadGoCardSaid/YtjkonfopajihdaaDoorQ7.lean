/- Texts put together: D64 D46 D47 D48 Frt D67 D68. -/
import Derived.Test.YtjkonfopajihdaaDoorQ6
import Derived.Test.YtjkonfopajihdaaDoorQ2
set_option linter.unusedVariables false
set_option linter.unusedSimpArgs false
namespace Go.Proofs.YtjkonfopajihdaaDoor
open Go Go.RowKit Nt


@[reducible] def DNear_far_f_f : FuncId := 29
@[reducible] def DNear_far_f_a : List AV := [.agg [.lit (.bool false), .sym 0, .sym 1]]
@[reducible] noncomputable def DNear_far_f_k (b1 b2 : Bool) : Know := ⟨[([0, 15, 3], [.sym 2, .lit (.int .i64 1023)], .lit (.bool b2))],
  [(15, [.agg [.lit (.bool false), .sym 0, .sym 1]], .lit (.int .i64 0)),
  (13, [.agg [.lit (.bool false), .sym 0, .sym 1]], .tup [.sym 2, .lit (.bool true)]),
  (128, [.lit (.bool false), .lit (.int .u64 9007199254740992), .lit (.int .i64 971)], .tup [.sym 3, .lit (.bool b1)])]⟩
theorem DNear_far_f_r1 : @comes (DNear_far_f_k false true) Tryd.prog glT 3000 DNear_far_f_f DNear_far_f_a = some (.lit (.tuple #[.float .f64 9218868437227405312, .int .i64 0])) := by kernel_rfl

set_option maxRecDepth 100000 in
set_option maxHeartbeats 4000000 in
theorem DNear_far_f (n : Nat) (x : Int) (w : World) (hn : (Dy.mk false n x).Num) (h : 1024 ≤ rT n x) (hG : Globs glT w) : Calls Tryd.prog 29 #[.agg #[.bool false, .string (natS n), .int .i64 x]] w fun e w' => e = .returned (.tuple #[.float .f64 (rnd false n x (upNear n x)), .int .i64 0]) ∧ Below w.heap.size w w' := by
  obtain ⟨b1, i1⟩ := bex (okP 9007199254740992 971 = true)
  obtain ⟨b2, i2⟩ := bex (rT n x > 1023)
  letI : Env := mkEnv glT [.string (natS n), .int .i64 x, .int .i64 (rT n x), .float .f64 (mkW false 9007199254740992 971)] rfl
  have hops : OpsT Tryd.prog (@Know.ops (DNear_far_f_k b1 b2)) := ⟨opt_gtr_i rfl rfl i2,
    trivial⟩
  have hcalls : CallsT Tryd.prog (@Know.calls (DNear_far_f_k b1 b2)) := ⟨callt rfl rfl fun w hG => DCheck_dyr (Dy.mk false n x) (Or.inr hn) w,
    callt rfl rfl fun w hG => DTop_r false n x w hn,
    callt rfl rfl fun w hG => bMake_i false 9007199254740992 971 w (by omega) (by omega) (by omega) (Or.inl (by omega)) i1 hG,
    trivial⟩
  have fin : ∀ v, @comes (DNear_far_f_k b1 b2) Tryd.prog glT 3000 DNear_far_f_f DNear_far_f_a = some v → ground v = true → Ending.returned (gval v) = .returned (.tuple #[.float .f64 (rnd false n x (upNear n x)), .int .i64 0]) → Calls Tryd.prog 29 #[.agg #[.bool false, .string (natS n), .int .i64 x]] w fun e w' => e = .returned (.tuple #[.float .f64 (rnd false n x (upNear n x)), .int .i64 0]) ∧ Below w.heap.size w w' := fun v h1 h2 h3 => (@sym_ok _ (DNear_far_f_k b1 b2) _ (@KnowOk.of _ (DNear_far_f_k b1 b2) _ hops hcalls) (by kernel_rfl) _ _ _ _ h1 rfl h2 _ hG).mono fun e w' h => ⟨h.1.trans h3, h.2⟩
  clear hops hcalls
  cases b1 with
  | true =>
    exact absurd (i1.1 rfl) (fun c => okP_iff.1 c ⟨rfl, rfl⟩)
  | false =>
    have h1 : ¬ (okP 9007199254740992 971 = true) := fun c => Bool.false_ne_true (i1.2 c)
    cases b2 with
    | true =>
      have h2 : rT n x > 1023 := i2.1 rfl
      exact fin _ (DNear_far_f_r1) rfl (show Ending.returned (.tuple #[.float .f64 9218868437227405312, .int .i64 0]) = .returned (.tuple #[.float .f64 (rnd false n x (upNear n x)), .int .i64 0]) from by rw [upNear_t (Or.inl (rQ_far h).2.2), rnd_t, (rQ_far h).1, (rQ_far h).2.1, inf_f h1])
    | false =>
      exact absurd (i2.2 ((by omega))) Bool.false_ne_true

@[reducible] def DNear_up_f_f : FuncId := 29
@[reducible] def DNear_up_f_a : List AV := [.agg [.lit (.bool false), .sym 0, .sym 1]]
@[reducible] noncomputable def DNear_up_f_k (b1 b2 b3 : Bool) : Know := ⟨[([0, 15, 3], [.sym 2, .lit (.int .i64 1023)], .lit (.bool b1)),
  ([0, 1, 3], [.sym 3, .sym 1], .sym 4),
  ([1, 0, 3], [.sym 4], .sym 5),
  ([0, 14, 3], [.sym 4, .lit (.int .i64 0)], .lit (.bool b3))],
  [(15, [.agg [.lit (.bool false), .sym 0, .sym 1]], .lit (.int .i64 0)),
  (13, [.agg [.lit (.bool false), .sym 0, .sym 1]], .tup [.sym 2, .lit (.bool true)]),
  (107, [.sym 2], .sym 3),
  (65, [.sym 0, .sym 5], .tup [.sym 6, .lit (.int .i64 0)]),
  (108, [.sym 6], .tup [.sym 7, .lit (.bool true)]),
  (128, [.lit (.bool false), .sym 7, .sym 3], .tup [.sym 8, .lit (.bool b2)])]⟩
theorem DNear_up_f_r1 : @comes (DNear_up_f_k false true true) Tryd.prog glT 3000 DNear_up_f_f DNear_up_f_a = some (.tup [.sym 8, .lit (.int .i64 0)]) := by kernel_rfl

set_option maxRecDepth 100000 in
set_option maxHeartbeats 4000000 in
theorem DNear_up_f (n : Nat) (x : Int) (w : World) (hn : (Dy.mk false n x).Num) (h : ¬ 1024 ≤ rT n x) (hu : rQ n x ≤ x) (hG : Globs glT w) : Calls Tryd.prog 29 #[.agg #[.bool false, .string (natS n), .int .i64 x]] w fun e w' => e = .returned (.tuple #[.float .f64 (rnd false n x (upNear n x)), .int .i64 0]) ∧ Below w.heap.size w w' := by
  obtain ⟨b1, i1⟩ := bex (rT n x > 1023)
  obtain ⟨b2, i2⟩ := bex (okP (rM n x) (rQ n x) = true)
  obtain ⟨b3, i3⟩ := bex (rQ n x - x ≤ 0)
  letI : Env := mkEnv glT [.string (natS n), .int .i64 x, .int .i64 (rT n x), .int .i64 (rQ n x), .int .i64 (rQ n x - x), .int .i64 (-(rQ n x - x)), .string (natS (rM n x)), .int .u64 (((rM n x : Nat) : Int)), .float .f64 (mkW false (rM n x) (rQ n x))] rfl
  have hops : OpsT Tryd.prog (@Know.ops (DNear_up_f_k b1 b2 b3)) := ⟨opt_gtr_i rfl rfl i1,
    opt_sub rfl rfl rfl rfl rfl (by have := (rQ_b n x); have := hn.2.2.1; have := hn.2.2.2; simp only at *; omega),
    opt_neg rfl rfl rfl rfl (by have := (rQ_b n x); have := hn.2.2.1; have := hn.2.2.2; simp only at *; omega),
    opt_leq_i rfl rfl i3,
    trivial⟩
  have hcalls : CallsT Tryd.prog (@Know.calls (DNear_up_f_k b1 b2 b3)) := ⟨callt rfl rfl fun w hG => DCheck_dyr (Dy.mk false n x) (Or.inr hn) w,
    callt rfl rfl fun w hG => DTop_r false n x w hn,
    callt rfl rfl fun w hG => Least_r false n x w hn h,
    callt rfl rfl fun w hG => NShift_r false n x w hn h,
    callt rfl rfl fun w hG => NSmall_r false n x w hn,
    callt rfl rfl fun w hG => bMake_i false (rM n x) (rQ n x) w (Nat.le_of_lt (rM_b (x := x) (odd_ne hn.2.1)).1) (rQ_b n x).1 (rQ_b n x).2 (rM_b (x := x) (odd_ne hn.2.1)).2 i2 hG,
    trivial⟩
  have fin : ∀ v, @comes (DNear_up_f_k b1 b2 b3) Tryd.prog glT 3000 DNear_up_f_f DNear_up_f_a = some v → ground v = true → Ending.returned (gval v) = .returned (.tuple #[.float .f64 (rnd false n x (upNear n x)), .int .i64 0]) → Calls Tryd.prog 29 #[.agg #[.bool false, .string (natS n), .int .i64 x]] w fun e w' => e = .returned (.tuple #[.float .f64 (rnd false n x (upNear n x)), .int .i64 0]) ∧ Below w.heap.size w w' := fun v h1 h2 h3 => (@sym_ok _ (DNear_up_f_k b1 b2 b3) _ (@KnowOk.of _ (DNear_up_f_k b1 b2 b3) _ hops hcalls) (by kernel_rfl) _ _ _ _ h1 rfl h2 _ hG).mono fun e w' h => ⟨h.1.trans h3, h.2⟩
  clear hops hcalls
  cases b2 with
  | true =>
    have h2 : okP (rM n x) (rQ n x) = true := i2.1 rfl
    cases b1 with
    | true =>
      exact absurd (i1.1 rfl) ((by omega))
    | false =>
      have h1 : ¬ (rT n x > 1023) := fun c => Bool.false_ne_true (i1.2 c)
      cases b3 with
      | true =>
        have h3 : rQ n x - x ≤ 0 := i3.1 rfl
        exact fin _ (DNear_up_f_r1) rfl (show Ending.returned (.tuple #[.float .f64 (mkW false (rM n x) (rQ n x)), .int .i64 0]) = .returned (.tuple #[.float .f64 (rnd false n x (upNear n x)), .int .i64 0]) from by rw [upNear_f (by rw [(rM_up h hu).2]; omega), rnd_f, mkW_ok h2])
      | false =>
        exact absurd (i3.2 ((by omega))) Bool.false_ne_true
  | false =>
    exact absurd (i2.2 (okP_lt (rM_b (x := x) (odd_ne hn.2.1)).1)) Bool.false_ne_true

@[reducible] def DNear_dn_f_f : FuncId := 29
@[reducible] def DNear_dn_f_a : List AV := [.agg [.lit (.bool false), .sym 0, .sym 1]]
@[reducible] noncomputable def DNear_dn_f_k (b1 b2 b3 b4 b5 b6 b7 : Bool) : Know := ⟨[([0, 15, 3], [.sym 2, .lit (.int .i64 1023)], .lit (.bool b1)),
  ([0, 1, 3], [.sym 3, .sym 1], .sym 4),
  ([1, 0, 3], [.sym 4], .sym 5),
  ([0, 14, 3], [.sym 4, .lit (.int .i64 0)], .lit (.bool b3)),
  ([0, 1, 3], [.sym 4, .lit (.int .i64 1)], .sym 9),
  ([0, 11, 5], [.sym 10, .lit (.int .u8 0)], .lit (.bool b4)),
  ([0, 5, 80], [.sym 7, .lit (.int .u64 1)], .sym 11),
  ([0, 11, 80], [.sym 11, .lit (.int .u64 1)], .lit (.bool b5)),
  ([0, 11, 3], [.sym 4, .lit (.int .i64 1)], .lit (.bool b6)),
  ([0, 0, 80], [.sym 7, .lit (.int .u64 1)], .sym 12)],
  [(15, [.agg [.lit (.bool false), .sym 0, .sym 1]], .lit (.int .i64 0)),
  (13, [.agg [.lit (.bool false), .sym 0, .sym 1]], .tup [.sym 2, .lit (.bool true)]),
  (107, [.sym 2], .sym 3),
  (65, [.sym 0, .sym 5], .tup [.sym 6, .lit (.int .i64 0)]),
  (108, [.sym 6], .tup [.sym 7, .lit (.bool true)]),
  (128, [.lit (.bool false), .sym 7, .sym 3], .tup [.sym 8, .lit (.bool b2)]),
  (130, [.sym 0, .sym 9], .tup [.sym 10, .lit (.int .i64 0)]),
  (128, [.lit (.bool false), .sym 12, .sym 3], .tup [.sym 13, .lit (.bool b7)])]⟩
theorem DNear_dn_f_r1 (b6 b7 : Bool) : @comes (DNear_dn_f_k false true false true true b6 b7) Tryd.prog glT 3000 DNear_dn_f_f DNear_dn_f_a = some (.tup [.sym 8, .lit (.int .i64 0)]) := by kernel_rfl
theorem DNear_dn_f_r2 (b6 b7 : Bool) : @comes (DNear_dn_f_k false true false true false b6 b7) Tryd.prog glT 3000 DNear_dn_f_f DNear_dn_f_a = some (.tup [.sym 8, .lit (.int .i64 0)]) := by kernel_rfl
theorem DNear_dn_f_r3 (b2 : Bool) : @comes (DNear_dn_f_k false b2 false false true true true) Tryd.prog glT 3000 DNear_dn_f_f DNear_dn_f_a = some (.tup [.sym 13, .lit (.int .i64 0)]) := by kernel_rfl
theorem DNear_dn_f_r4 (b2 : Bool) : @comes (DNear_dn_f_k false b2 false false true true false) Tryd.prog glT 3000 DNear_dn_f_f DNear_dn_f_a = some (.lit (.tuple #[.float .f64 9218868437227405312, .int .i64 0])) := by kernel_rfl
theorem DNear_dn_f_r5 (b7 : Bool) : @comes (DNear_dn_f_k false true false false false true b7) Tryd.prog glT 3000 DNear_dn_f_f DNear_dn_f_a = some (.tup [.sym 8, .lit (.int .i64 0)]) := by kernel_rfl
theorem DNear_dn_f_r6 (b2 : Bool) : @comes (DNear_dn_f_k false b2 false false true false true) Tryd.prog glT 3000 DNear_dn_f_f DNear_dn_f_a = some (.tup [.sym 13, .lit (.int .i64 0)]) := by kernel_rfl
theorem DNear_dn_f_r7 (b2 : Bool) : @comes (DNear_dn_f_k false b2 false false true false false) Tryd.prog glT 3000 DNear_dn_f_f DNear_dn_f_a = some (.lit (.tuple #[.float .f64 9218868437227405312, .int .i64 0])) := by kernel_rfl
theorem DNear_dn_f_r8 (b2 : Bool) : @comes (DNear_dn_f_k false b2 false false false false true) Tryd.prog glT 3000 DNear_dn_f_f DNear_dn_f_a = some (.tup [.sym 13, .lit (.int .i64 0)]) := by kernel_rfl
theorem DNear_dn_f_r9 (b2 : Bool) : @comes (DNear_dn_f_k false b2 false false false false false) Tryd.prog glT 3000 DNear_dn_f_f DNear_dn_f_a = some (.lit (.tuple #[.float .f64 9218868437227405312, .int .i64 0])) := by kernel_rfl

set_option maxRecDepth 100000 in
set_option maxHeartbeats 4000000 in
theorem DNear_dn_f (n : Nat) (x : Int) (w : World) (hn : (Dy.mk false n x).Num) (h : ¬ 1024 ≤ rT n x) (hu : ¬ rQ n x ≤ x) (hG : Globs glT w) : Calls Tryd.prog 29 #[.agg #[.bool false, .string (natS n), .int .i64 x]] w fun e w' => e = .returned (.tuple #[.float .f64 (rnd false n x (upNear n x)), .int .i64 0]) ∧ Below w.heap.size w w' := by
  obtain ⟨b1, i1⟩ := bex (rT n x > 1023)
  obtain ⟨b2, i2⟩ := bex (okP (rM n x) (rQ n x) = true)
  obtain ⟨b3, i3⟩ := bex (rQ n x - x ≤ 0)
  obtain ⟨b4, i4⟩ := bex (((rB n x : Nat) : Int) = 0)
  obtain ⟨b5, i5⟩ := bex (((rM n x % 2 : Nat) : Int) = 1)
  obtain ⟨b6, i6⟩ := bex (rQ n x - x = 1)
  obtain ⟨b7, i7⟩ := bex (okP (rM n x + 1) (rQ n x) = true)
  letI : Env := mkEnv glT [.string (natS n), .int .i64 x, .int .i64 (rT n x), .int .i64 (rQ n x), .int .i64 (rQ n x - x), .int .i64 (-(rQ n x - x)), .string (natS (rM n x)), .int .u64 (((rM n x : Nat) : Int)), .float .f64 (mkW false (rM n x) (rQ n x)), .int .i64 (rQ n x - x - 1), .int .u8 (((rB n x : Nat) : Int)), .int .u64 (((rM n x % 2 : Nat) : Int)), .int .u64 (((rM n x + 1 : Nat) : Int)), .float .f64 (mkW false (rM n x + 1) (rQ n x))] rfl
  have hops : OpsT Tryd.prog (@Know.ops (DNear_dn_f_k b1 b2 b3 b4 b5 b6 b7)) := ⟨opt_gtr_i rfl rfl i1,
    opt_sub rfl rfl rfl rfl rfl (by have := (rQ_b n x); have := hn.2.2.1; have := hn.2.2.2; simp only at *; omega),
    opt_neg rfl rfl rfl rfl (by have := (rQ_b n x); have := hn.2.2.1; have := hn.2.2.2; simp only at *; omega),
    opt_leq_i rfl rfl i3,
    opt_sub rfl rfl rfl rfl rfl (by have := (rQ_b n x); have := hn.2.2.1; have := hn.2.2.2; simp only at *; omega),
    opt_eql_i rfl rfl i4,
    opt_odd rfl rfl rfl rfl (by have : rM n x < 9007199254740992 := (rM_b (x := x) (odd_ne hn.2.1)).1; omega),
    opt_eql_i rfl rfl i5,
    opt_eql_i rfl rfl i6,
    opt_add64 (y := 1) rfl rfl rfl rfl rfl (by have : rM n x < 9007199254740992 := (rM_b (x := x) (odd_ne hn.2.1)).1; omega),
    trivial⟩
  have hcalls : CallsT Tryd.prog (@Know.calls (DNear_dn_f_k b1 b2 b3 b4 b5 b6 b7)) := ⟨callt rfl rfl fun w hG => DCheck_dyr (Dy.mk false n x) (Or.inr hn) w,
    callt rfl rfl fun w hG => DTop_r false n x w hn,
    callt rfl rfl fun w hG => Least_r false n x w hn h,
    callt rfl rfl fun w hG => NShift_r false n x w hn h,
    callt rfl rfl fun w hG => NSmall_r false n x w hn,
    callt rfl rfl fun w hG => bMake_i false (rM n x) (rQ n x) w (Nat.le_of_lt (rM_b (x := x) (odd_ne hn.2.1)).1) (rQ_b n x).1 (rQ_b n x).2 (rM_b (x := x) (odd_ne hn.2.1)).2 i2 hG,
    callt rfl rfl fun w hG => NBit_r false n x w hn hu,
    callt rfl rfl fun w hG => bMake_i false (rM n x + 1) (rQ n x) w (rM_b (x := x) (odd_ne hn.2.1)).1 (rQ_b n x).1 (rQ_b n x).2 ((rM_b (x := x) (odd_ne hn.2.1)).2.imp (fun h => Nat.le_succ_of_le h) id) i7 hG,
    trivial⟩
  have fin : ∀ v, @comes (DNear_dn_f_k b1 b2 b3 b4 b5 b6 b7) Tryd.prog glT 3000 DNear_dn_f_f DNear_dn_f_a = some v → ground v = true → Ending.returned (gval v) = .returned (.tuple #[.float .f64 (rnd false n x (upNear n x)), .int .i64 0]) → Calls Tryd.prog 29 #[.agg #[.bool false, .string (natS n), .int .i64 x]] w fun e w' => e = .returned (.tuple #[.float .f64 (rnd false n x (upNear n x)), .int .i64 0]) ∧ Below w.heap.size w w' := fun v h1 h2 h3 => (@sym_ok _ (DNear_dn_f_k b1 b2 b3 b4 b5 b6 b7) _ (@KnowOk.of _ (DNear_dn_f_k b1 b2 b3 b4 b5 b6 b7) _ hops hcalls) (by kernel_rfl) _ _ _ _ h1 rfl h2 _ hG).mono fun e w' h => ⟨h.1.trans h3, h.2⟩
  clear hops hcalls
  cases b4 with
  | true =>
    have h4 : ((rB n x : Nat) : Int) = 0 := i4.1 rfl
    cases b5 with
    | true =>
      have h5 : ((rM n x % 2 : Nat) : Int) = 1 := i5.1 rfl
      cases b2 with
      | true =>
        have h2 : okP (rM n x) (rQ n x) = true := i2.1 rfl
        cases b1 with
        | true =>
          exact absurd (i1.1 rfl) ((by omega))
        | false =>
          have h1 : ¬ (rT n x > 1023) := fun c => Bool.false_ne_true (i1.2 c)
          cases b3 with
          | true =>
            exact absurd (i3.1 rfl) ((by omega))
          | false =>
            have h3 : ¬ (rQ n x - x ≤ 0) := fun c => Bool.false_ne_true (i3.2 c)
            exact fin _ (DNear_dn_f_r1 b6 b7) rfl (show Ending.returned (.tuple #[.float .f64 (mkW false (rM n x) (rQ n x)), .int .i64 0]) = .returned (.tuple #[.float .f64 (rnd false n x (upNear n x)), .int .i64 0]) from by rw [upNear_f (by rw [(show rW n x = 1 from (by rw [rW_dn hn h hu, if_pos (by have := h4; omega)]))]; omega), rnd_f, mkW_ok h2])
      | false =>
        exact absurd (i2.2 (okP_lt (rM_b (x := x) (odd_ne hn.2.1)).1)) Bool.false_ne_true
    | false =>
      have h5 : ¬ (((rM n x % 2 : Nat) : Int) = 1) := fun c => Bool.false_ne_true (i5.2 c)
      cases b2 with
      | true =>
        have h2 : okP (rM n x) (rQ n x) = true := i2.1 rfl
        cases b1 with
        | true =>
          exact absurd (i1.1 rfl) ((by omega))
        | false =>
          have h1 : ¬ (rT n x > 1023) := fun c => Bool.false_ne_true (i1.2 c)
          cases b3 with
          | true =>
            exact absurd (i3.1 rfl) ((by omega))
          | false =>
            have h3 : ¬ (rQ n x - x ≤ 0) := fun c => Bool.false_ne_true (i3.2 c)
            exact fin _ (DNear_dn_f_r2 b6 b7) rfl (show Ending.returned (.tuple #[.float .f64 (mkW false (rM n x) (rQ n x)), .int .i64 0]) = .returned (.tuple #[.float .f64 (rnd false n x (upNear n x)), .int .i64 0]) from by rw [upNear_f (by rw [(show rW n x = 1 from (by rw [rW_dn hn h hu, if_pos (by have := h4; omega)]))]; omega), rnd_f, mkW_ok h2])
      | false =>
        exact absurd (i2.2 (okP_lt (rM_b (x := x) (odd_ne hn.2.1)).1)) Bool.false_ne_true
  | false =>
    have h4 : ¬ (((rB n x : Nat) : Int) = 0) := fun c => Bool.false_ne_true (i4.2 c)
    cases b6 with
    | true =>
      have h6 : rQ n x - x = 1 := i6.1 rfl
      cases b5 with
      | true =>
        have h5 : ((rM n x % 2 : Nat) : Int) = 1 := i5.1 rfl
        cases b7 with
        | true =>
          have h7 : okP (rM n x + 1) (rQ n x) = true := i7.1 rfl
          cases b1 with
          | true =>
            exact absurd (i1.1 rfl) ((by omega))
          | false =>
            have h1 : ¬ (rT n x > 1023) := fun c => Bool.false_ne_true (i1.2 c)
            cases b3 with
            | true =>
              exact absurd (i3.1 rfl) ((by omega))
            | false =>
              have h3 : ¬ (rQ n x - x ≤ 0) := fun c => Bool.false_ne_true (i3.2 c)
              exact fin _ (DNear_dn_f_r3 b2) rfl (show Ending.returned (.tuple #[.float .f64 (mkW false (rM n x + 1) (rQ n x)), .int .i64 0]) = .returned (.tuple #[.float .f64 (rnd false n x (upNear n x)), .int .i64 0]) from by rw [upNear_t (Or.inr ⟨(show rW n x = 2 from (by rw [rW_dn hn h hu, if_neg (fun c => h4 (by rw [c]; rfl)), if_pos h6])), by have := h5; omega⟩), rnd_t, mkW_ok h7])
        | false =>
          have h7 : ¬ (okP (rM n x + 1) (rQ n x) = true) := fun c => Bool.false_ne_true (i7.2 c)
          cases b1 with
          | true =>
            exact absurd (i1.1 rfl) ((by omega))
          | false =>
            have h1 : ¬ (rT n x > 1023) := fun c => Bool.false_ne_true (i1.2 c)
            cases b3 with
            | true =>
              exact absurd (i3.1 rfl) ((by omega))
            | false =>
              have h3 : ¬ (rQ n x - x ≤ 0) := fun c => Bool.false_ne_true (i3.2 c)
              exact fin _ (DNear_dn_f_r4 b2) rfl (show Ending.returned (.tuple #[.float .f64 9218868437227405312, .int .i64 0]) = .returned (.tuple #[.float .f64 (rnd false n x (upNear n x)), .int .i64 0]) from by rw [upNear_t (Or.inr ⟨(show rW n x = 2 from (by rw [rW_dn hn h hu, if_neg (fun c => h4 (by rw [c]; rfl)), if_pos h6])), by have := h5; omega⟩), rnd_t, inf_f h7])
      | false =>
        have h5 : ¬ (((rM n x % 2 : Nat) : Int) = 1) := fun c => Bool.false_ne_true (i5.2 c)
        cases b2 with
        | true =>
          have h2 : okP (rM n x) (rQ n x) = true := i2.1 rfl
          cases b1 with
          | true =>
            exact absurd (i1.1 rfl) ((by omega))
          | false =>
            have h1 : ¬ (rT n x > 1023) := fun c => Bool.false_ne_true (i1.2 c)
            cases b3 with
            | true =>
              exact absurd (i3.1 rfl) ((by omega))
            | false =>
              have h3 : ¬ (rQ n x - x ≤ 0) := fun c => Bool.false_ne_true (i3.2 c)
              exact fin _ (DNear_dn_f_r5 b7) rfl (show Ending.returned (.tuple #[.float .f64 (mkW false (rM n x) (rQ n x)), .int .i64 0]) = .returned (.tuple #[.float .f64 (rnd false n x (upNear n x)), .int .i64 0]) from by rw [upNear_f (fun c => by rcases c with c | ⟨_, c⟩; exact absurd ((show rW n x = 2 from (by rw [rW_dn hn h hu, if_neg (fun c => h4 (by rw [c]; rfl)), if_pos h6])).symm.trans c) (by decide); exact h5 (by rw [c]; rfl)), rnd_f, mkW_ok h2])
        | false =>
          exact absurd (i2.2 (okP_lt (rM_b (x := x) (odd_ne hn.2.1)).1)) Bool.false_ne_true
    | false =>
      have h6 : ¬ (rQ n x - x = 1) := fun c => Bool.false_ne_true (i6.2 c)
      cases b5 with
      | true =>
        have h5 : ((rM n x % 2 : Nat) : Int) = 1 := i5.1 rfl
        cases b7 with
        | true =>
          have h7 : okP (rM n x + 1) (rQ n x) = true := i7.1 rfl
          cases b1 with
          | true =>
            exact absurd (i1.1 rfl) ((by omega))
          | false =>
            have h1 : ¬ (rT n x > 1023) := fun c => Bool.false_ne_true (i1.2 c)
            cases b3 with
            | true =>
              exact absurd (i3.1 rfl) ((by omega))
            | false =>
              have h3 : ¬ (rQ n x - x ≤ 0) := fun c => Bool.false_ne_true (i3.2 c)
              exact fin _ (DNear_dn_f_r6 b2) rfl (show Ending.returned (.tuple #[.float .f64 (mkW false (rM n x + 1) (rQ n x)), .int .i64 0]) = .returned (.tuple #[.float .f64 (rnd false n x (upNear n x)), .int .i64 0]) from by rw [upNear_t (Or.inl (show rW n x = 3 from (by rw [rW_dn hn h hu, if_neg (fun c => h4 (by rw [c]; rfl)), if_neg h6]))), rnd_t, mkW_ok h7])
        | false =>
          have h7 : ¬ (okP (rM n x + 1) (rQ n x) = true) := fun c => Bool.false_ne_true (i7.2 c)
          cases b1 with
          | true =>
            exact absurd (i1.1 rfl) ((by omega))
          | false =>
            have h1 : ¬ (rT n x > 1023) := fun c => Bool.false_ne_true (i1.2 c)
            cases b3 with
            | true =>
              exact absurd (i3.1 rfl) ((by omega))
            | false =>
              have h3 : ¬ (rQ n x - x ≤ 0) := fun c => Bool.false_ne_true (i3.2 c)
              exact fin _ (DNear_dn_f_r7 b2) rfl (show Ending.returned (.tuple #[.float .f64 9218868437227405312, .int .i64 0]) = .returned (.tuple #[.float .f64 (rnd false n x (upNear n x)), .int .i64 0]) from by rw [upNear_t (Or.inl (show rW n x = 3 from (by rw [rW_dn hn h hu, if_neg (fun c => h4 (by rw [c]; rfl)), if_neg h6]))), rnd_t, inf_f h7])
      | false =>
        have h5 : ¬ (((rM n x % 2 : Nat) : Int) = 1) := fun c => Bool.false_ne_true (i5.2 c)
        cases b7 with
        | true =>
          have h7 : okP (rM n x + 1) (rQ n x) = true := i7.1 rfl
          cases b1 with
          | true =>
            exact absurd (i1.1 rfl) ((by omega))
          | false =>
            have h1 : ¬ (rT n x > 1023) := fun c => Bool.false_ne_true (i1.2 c)
            cases b3 with
            | true =>
              exact absurd (i3.1 rfl) ((by omega))
            | false =>
              have h3 : ¬ (rQ n x - x ≤ 0) := fun c => Bool.false_ne_true (i3.2 c)
              exact fin _ (DNear_dn_f_r8 b2) rfl (show Ending.returned (.tuple #[.float .f64 (mkW false (rM n x + 1) (rQ n x)), .int .i64 0]) = .returned (.tuple #[.float .f64 (rnd false n x (upNear n x)), .int .i64 0]) from by rw [upNear_t (Or.inl (show rW n x = 3 from (by rw [rW_dn hn h hu, if_neg (fun c => h4 (by rw [c]; rfl)), if_neg h6]))), rnd_t, mkW_ok h7])
        | false =>
          have h7 : ¬ (okP (rM n x + 1) (rQ n x) = true) := fun c => Bool.false_ne_true (i7.2 c)
          cases b1 with
          | true =>
            exact absurd (i1.1 rfl) ((by omega))
          | false =>
            have h1 : ¬ (rT n x > 1023) := fun c => Bool.false_ne_true (i1.2 c)
            cases b3 with
            | true =>
              exact absurd (i3.1 rfl) ((by omega))
            | false =>
              have h3 : ¬ (rQ n x - x ≤ 0) := fun c => Bool.false_ne_true (i3.2 c)
              exact fin _ (DNear_dn_f_r9 b2) rfl (show Ending.returned (.tuple #[.float .f64 9218868437227405312, .int .i64 0]) = .returned (.tuple #[.float .f64 (rnd false n x (upNear n x)), .int .i64 0]) from by rw [upNear_t (Or.inl (show rW n x = 3 from (by rw [rW_dn hn h hu, if_neg (fun c => h4 (by rw [c]; rfl)), if_neg h6]))), rnd_t, inf_f h7])

theorem DNear_f (n : Nat) (x : Int) (w : World) (hn : (Dy.mk false n x).Num) (hG : Globs glT w) : Calls Tryd.prog 29 #[.agg #[.bool false, .string (natS n), .int .i64 x]] w fun e w' => e = .returned (.tuple #[.float .f64 (rnd false n x (upNear n x)), .int .i64 0]) ∧ Below w.heap.size w w' := by
  by_cases h : 1024 ≤ rT n x
  · exact DNear_far_f n x w hn h hG
  · by_cases hu : rQ n x ≤ x
    · exact DNear_up_f n x w hn h hu hG
    · exact DNear_dn_f n x w hn h hu hG
@[reducible] def DNear_far_t_f : FuncId := 29
@[reducible] def DNear_far_t_a : List AV := [.agg [.lit (.bool true), .sym 0, .sym 1]]
@[reducible] noncomputable def DNear_far_t_k (b1 b2 : Bool) : Know := ⟨[([0, 15, 3], [.sym 2, .lit (.int .i64 1023)], .lit (.bool b2))],
  [(15, [.agg [.lit (.bool true), .sym 0, .sym 1]], .lit (.int .i64 0)),
  (13, [.agg [.lit (.bool true), .sym 0, .sym 1]], .tup [.sym 2, .lit (.bool true)]),
  (128, [.lit (.bool true), .lit (.int .u64 9007199254740992), .lit (.int .i64 971)], .tup [.sym 3, .lit (.bool b1)])]⟩
theorem DNear_far_t_r1 : @comes (DNear_far_t_k false true) Tryd.prog glT 3000 DNear_far_t_f DNear_far_t_a = some (.lit (.tuple #[.float .f64 18442240474082181120, .int .i64 0])) := by kernel_rfl

set_option maxRecDepth 100000 in
set_option maxHeartbeats 4000000 in
theorem DNear_far_t (n : Nat) (x : Int) (w : World) (hn : (Dy.mk true n x).Num) (h : 1024 ≤ rT n x) (hG : Globs glT w) : Calls Tryd.prog 29 #[.agg #[.bool true, .string (natS n), .int .i64 x]] w fun e w' => e = .returned (.tuple #[.float .f64 (rnd true n x (upNear n x)), .int .i64 0]) ∧ Below w.heap.size w w' := by
  obtain ⟨b1, i1⟩ := bex (okP 9007199254740992 971 = true)
  obtain ⟨b2, i2⟩ := bex (rT n x > 1023)
  letI : Env := mkEnv glT [.string (natS n), .int .i64 x, .int .i64 (rT n x), .float .f64 (mkW true 9007199254740992 971)] rfl
  have hops : OpsT Tryd.prog (@Know.ops (DNear_far_t_k b1 b2)) := ⟨opt_gtr_i rfl rfl i2,
    trivial⟩
  have hcalls : CallsT Tryd.prog (@Know.calls (DNear_far_t_k b1 b2)) := ⟨callt rfl rfl fun w hG => DCheck_dyr (Dy.mk true n x) (Or.inr hn) w,
    callt rfl rfl fun w hG => DTop_r true n x w hn,
    callt rfl rfl fun w hG => bMake_i true 9007199254740992 971 w (by omega) (by omega) (by omega) (Or.inl (by omega)) i1 hG,
    trivial⟩
  have fin : ∀ v, @comes (DNear_far_t_k b1 b2) Tryd.prog glT 3000 DNear_far_t_f DNear_far_t_a = some v → ground v = true → Ending.returned (gval v) = .returned (.tuple #[.float .f64 (rnd true n x (upNear n x)), .int .i64 0]) → Calls Tryd.prog 29 #[.agg #[.bool true, .string (natS n), .int .i64 x]] w fun e w' => e = .returned (.tuple #[.float .f64 (rnd true n x (upNear n x)), .int .i64 0]) ∧ Below w.heap.size w w' := fun v h1 h2 h3 => (@sym_ok _ (DNear_far_t_k b1 b2) _ (@KnowOk.of _ (DNear_far_t_k b1 b2) _ hops hcalls) (by kernel_rfl) _ _ _ _ h1 rfl h2 _ hG).mono fun e w' h => ⟨h.1.trans h3, h.2⟩
  clear hops hcalls
  cases b1 with
  | true =>
    exact absurd (i1.1 rfl) (fun c => okP_iff.1 c ⟨rfl, rfl⟩)
  | false =>
    have h1 : ¬ (okP 9007199254740992 971 = true) := fun c => Bool.false_ne_true (i1.2 c)
    cases b2 with
    | true =>
      have h2 : rT n x > 1023 := i2.1 rfl
      exact fin _ (DNear_far_t_r1) rfl (show Ending.returned (.tuple #[.float .f64 18442240474082181120, .int .i64 0]) = .returned (.tuple #[.float .f64 (rnd true n x (upNear n x)), .int .i64 0]) from by rw [upNear_t (Or.inl (rQ_far h).2.2), rnd_t, (rQ_far h).1, (rQ_far h).2.1, inf_t h1])
    | false =>
      exact absurd (i2.2 ((by omega))) Bool.false_ne_true

@[reducible] def DNear_up_t_f : FuncId := 29
@[reducible] def DNear_up_t_a : List AV := [.agg [.lit (.bool true), .sym 0, .sym 1]]
@[reducible] noncomputable def DNear_up_t_k (b1 b2 b3 : Bool) : Know := ⟨[([0, 15, 3], [.sym 2, .lit (.int .i64 1023)], .lit (.bool b1)),
  ([0, 1, 3], [.sym 3, .sym 1], .sym 4),
  ([1, 0, 3], [.sym 4], .sym 5),
  ([0, 14, 3], [.sym 4, .lit (.int .i64 0)], .lit (.bool b3))],
  [(15, [.agg [.lit (.bool true), .sym 0, .sym 1]], .lit (.int .i64 0)),
  (13, [.agg [.lit (.bool true), .sym 0, .sym 1]], .tup [.sym 2, .lit (.bool true)]),
  (107, [.sym 2], .sym 3),
  (65, [.sym 0, .sym 5], .tup [.sym 6, .lit (.int .i64 0)]),
  (108, [.sym 6], .tup [.sym 7, .lit (.bool true)]),
  (128, [.lit (.bool true), .sym 7, .sym 3], .tup [.sym 8, .lit (.bool b2)])]⟩
theorem DNear_up_t_r1 : @comes (DNear_up_t_k false true true) Tryd.prog glT 3000 DNear_up_t_f DNear_up_t_a = some (.tup [.sym 8, .lit (.int .i64 0)]) := by kernel_rfl

set_option maxRecDepth 100000 in
set_option maxHeartbeats 4000000 in
theorem DNear_up_t (n : Nat) (x : Int) (w : World) (hn : (Dy.mk true n x).Num) (h : ¬ 1024 ≤ rT n x) (hu : rQ n x ≤ x) (hG : Globs glT w) : Calls Tryd.prog 29 #[.agg #[.bool true, .string (natS n), .int .i64 x]] w fun e w' => e = .returned (.tuple #[.float .f64 (rnd true n x (upNear n x)), .int .i64 0]) ∧ Below w.heap.size w w' := by
  obtain ⟨b1, i1⟩ := bex (rT n x > 1023)
  obtain ⟨b2, i2⟩ := bex (okP (rM n x) (rQ n x) = true)
  obtain ⟨b3, i3⟩ := bex (rQ n x - x ≤ 0)
  letI : Env := mkEnv glT [.string (natS n), .int .i64 x, .int .i64 (rT n x), .int .i64 (rQ n x), .int .i64 (rQ n x - x), .int .i64 (-(rQ n x - x)), .string (natS (rM n x)), .int .u64 (((rM n x : Nat) : Int)), .float .f64 (mkW true (rM n x) (rQ n x))] rfl
  have hops : OpsT Tryd.prog (@Know.ops (DNear_up_t_k b1 b2 b3)) := ⟨opt_gtr_i rfl rfl i1,
    opt_sub rfl rfl rfl rfl rfl (by have := (rQ_b n x); have := hn.2.2.1; have := hn.2.2.2; simp only at *; omega),
    opt_neg rfl rfl rfl rfl (by have := (rQ_b n x); have := hn.2.2.1; have := hn.2.2.2; simp only at *; omega),
    opt_leq_i rfl rfl i3,
    trivial⟩
  have hcalls : CallsT Tryd.prog (@Know.calls (DNear_up_t_k b1 b2 b3)) := ⟨callt rfl rfl fun w hG => DCheck_dyr (Dy.mk true n x) (Or.inr hn) w,
    callt rfl rfl fun w hG => DTop_r true n x w hn,
    callt rfl rfl fun w hG => Least_r true n x w hn h,
    callt rfl rfl fun w hG => NShift_r true n x w hn h,
    callt rfl rfl fun w hG => NSmall_r true n x w hn,
    callt rfl rfl fun w hG => bMake_i true (rM n x) (rQ n x) w (Nat.le_of_lt (rM_b (x := x) (odd_ne hn.2.1)).1) (rQ_b n x).1 (rQ_b n x).2 (rM_b (x := x) (odd_ne hn.2.1)).2 i2 hG,
    trivial⟩
  have fin : ∀ v, @comes (DNear_up_t_k b1 b2 b3) Tryd.prog glT 3000 DNear_up_t_f DNear_up_t_a = some v → ground v = true → Ending.returned (gval v) = .returned (.tuple #[.float .f64 (rnd true n x (upNear n x)), .int .i64 0]) → Calls Tryd.prog 29 #[.agg #[.bool true, .string (natS n), .int .i64 x]] w fun e w' => e = .returned (.tuple #[.float .f64 (rnd true n x (upNear n x)), .int .i64 0]) ∧ Below w.heap.size w w' := fun v h1 h2 h3 => (@sym_ok _ (DNear_up_t_k b1 b2 b3) _ (@KnowOk.of _ (DNear_up_t_k b1 b2 b3) _ hops hcalls) (by kernel_rfl) _ _ _ _ h1 rfl h2 _ hG).mono fun e w' h => ⟨h.1.trans h3, h.2⟩
  clear hops hcalls
  cases b2 with
  | true =>
    have h2 : okP (rM n x) (rQ n x) = true := i2.1 rfl
    cases b1 with
    | true =>
      exact absurd (i1.1 rfl) ((by omega))
    | false =>
      have h1 : ¬ (rT n x > 1023) := fun c => Bool.false_ne_true (i1.2 c)
      cases b3 with
      | true =>
        have h3 : rQ n x - x ≤ 0 := i3.1 rfl
        exact fin _ (DNear_up_t_r1) rfl (show Ending.returned (.tuple #[.float .f64 (mkW true (rM n x) (rQ n x)), .int .i64 0]) = .returned (.tuple #[.float .f64 (rnd true n x (upNear n x)), .int .i64 0]) from by rw [upNear_f (by rw [(rM_up h hu).2]; omega), rnd_f, mkW_ok h2])
      | false =>
        exact absurd (i3.2 ((by omega))) Bool.false_ne_true
  | false =>
    exact absurd (i2.2 (okP_lt (rM_b (x := x) (odd_ne hn.2.1)).1)) Bool.false_ne_true

@[reducible] def DNear_dn_t_f : FuncId := 29
@[reducible] def DNear_dn_t_a : List AV := [.agg [.lit (.bool true), .sym 0, .sym 1]]
@[reducible] noncomputable def DNear_dn_t_k (b1 b2 b3 b4 b5 b6 b7 : Bool) : Know := ⟨[([0, 15, 3], [.sym 2, .lit (.int .i64 1023)], .lit (.bool b1)),
  ([0, 1, 3], [.sym 3, .sym 1], .sym 4),
  ([1, 0, 3], [.sym 4], .sym 5),
  ([0, 14, 3], [.sym 4, .lit (.int .i64 0)], .lit (.bool b3)),
  ([0, 1, 3], [.sym 4, .lit (.int .i64 1)], .sym 9),
  ([0, 11, 5], [.sym 10, .lit (.int .u8 0)], .lit (.bool b4)),
  ([0, 5, 80], [.sym 7, .lit (.int .u64 1)], .sym 11),
  ([0, 11, 80], [.sym 11, .lit (.int .u64 1)], .lit (.bool b5)),
  ([0, 11, 3], [.sym 4, .lit (.int .i64 1)], .lit (.bool b6)),
  ([0, 0, 80], [.sym 7, .lit (.int .u64 1)], .sym 12)],
  [(15, [.agg [.lit (.bool true), .sym 0, .sym 1]], .lit (.int .i64 0)),
  (13, [.agg [.lit (.bool true), .sym 0, .sym 1]], .tup [.sym 2, .lit (.bool true)]),
  (107, [.sym 2], .sym 3),
  (65, [.sym 0, .sym 5], .tup [.sym 6, .lit (.int .i64 0)]),
  (108, [.sym 6], .tup [.sym 7, .lit (.bool true)]),
  (128, [.lit (.bool true), .sym 7, .sym 3], .tup [.sym 8, .lit (.bool b2)]),
  (130, [.sym 0, .sym 9], .tup [.sym 10, .lit (.int .i64 0)]),
  (128, [.lit (.bool true), .sym 12, .sym 3], .tup [.sym 13, .lit (.bool b7)])]⟩
theorem DNear_dn_t_r1 (b6 b7 : Bool) : @comes (DNear_dn_t_k false true false true true b6 b7) Tryd.prog glT 3000 DNear_dn_t_f DNear_dn_t_a = some (.tup [.sym 8, .lit (.int .i64 0)]) := by kernel_rfl
theorem DNear_dn_t_r2 (b6 b7 : Bool) : @comes (DNear_dn_t_k false true false true false b6 b7) Tryd.prog glT 3000 DNear_dn_t_f DNear_dn_t_a = some (.tup [.sym 8, .lit (.int .i64 0)]) := by kernel_rfl
theorem DNear_dn_t_r3 (b2 : Bool) : @comes (DNear_dn_t_k false b2 false false true true true) Tryd.prog glT 3000 DNear_dn_t_f DNear_dn_t_a = some (.tup [.sym 13, .lit (.int .i64 0)]) := by kernel_rfl
theorem DNear_dn_t_r4 (b2 : Bool) : @comes (DNear_dn_t_k false b2 false false true true false) Tryd.prog glT 3000 DNear_dn_t_f DNear_dn_t_a = some (.lit (.tuple #[.float .f64 18442240474082181120, .int .i64 0])) := by kernel_rfl
theorem DNear_dn_t_r5 (b7 : Bool) : @comes (DNear_dn_t_k false true false false false true b7) Tryd.prog glT 3000 DNear_dn_t_f DNear_dn_t_a = some (.tup [.sym 8, .lit (.int .i64 0)]) := by kernel_rfl
theorem DNear_dn_t_r6 (b2 : Bool) : @comes (DNear_dn_t_k false b2 false false true false true) Tryd.prog glT 3000 DNear_dn_t_f DNear_dn_t_a = some (.tup [.sym 13, .lit (.int .i64 0)]) := by kernel_rfl
theorem DNear_dn_t_r7 (b2 : Bool) : @comes (DNear_dn_t_k false b2 false false true false false) Tryd.prog glT 3000 DNear_dn_t_f DNear_dn_t_a = some (.lit (.tuple #[.float .f64 18442240474082181120, .int .i64 0])) := by kernel_rfl
theorem DNear_dn_t_r8 (b2 : Bool) : @comes (DNear_dn_t_k false b2 false false false false true) Tryd.prog glT 3000 DNear_dn_t_f DNear_dn_t_a = some (.tup [.sym 13, .lit (.int .i64 0)]) := by kernel_rfl
theorem DNear_dn_t_r9 (b2 : Bool) : @comes (DNear_dn_t_k false b2 false false false false false) Tryd.prog glT 3000 DNear_dn_t_f DNear_dn_t_a = some (.lit (.tuple #[.float .f64 18442240474082181120, .int .i64 0])) := by kernel_rfl

set_option maxRecDepth 100000 in
set_option maxHeartbeats 4000000 in
theorem DNear_dn_t (n : Nat) (x : Int) (w : World) (hn : (Dy.mk true n x).Num) (h : ¬ 1024 ≤ rT n x) (hu : ¬ rQ n x ≤ x) (hG : Globs glT w) : Calls Tryd.prog 29 #[.agg #[.bool true, .string (natS n), .int .i64 x]] w fun e w' => e = .returned (.tuple #[.float .f64 (rnd true n x (upNear n x)), .int .i64 0]) ∧ Below w.heap.size w w' := by
  obtain ⟨b1, i1⟩ := bex (rT n x > 1023)
  obtain ⟨b2, i2⟩ := bex (okP (rM n x) (rQ n x) = true)
  obtain ⟨b3, i3⟩ := bex (rQ n x - x ≤ 0)
  obtain ⟨b4, i4⟩ := bex (((rB n x : Nat) : Int) = 0)
  obtain ⟨b5, i5⟩ := bex (((rM n x % 2 : Nat) : Int) = 1)
  obtain ⟨b6, i6⟩ := bex (rQ n x - x = 1)
  obtain ⟨b7, i7⟩ := bex (okP (rM n x + 1) (rQ n x) = true)
  letI : Env := mkEnv glT [.string (natS n), .int .i64 x, .int .i64 (rT n x), .int .i64 (rQ n x), .int .i64 (rQ n x - x), .int .i64 (-(rQ n x - x)), .string (natS (rM n x)), .int .u64 (((rM n x : Nat) : Int)), .float .f64 (mkW true (rM n x) (rQ n x)), .int .i64 (rQ n x - x - 1), .int .u8 (((rB n x : Nat) : Int)), .int .u64 (((rM n x % 2 : Nat) : Int)), .int .u64 (((rM n x + 1 : Nat) : Int)), .float .f64 (mkW true (rM n x + 1) (rQ n x))] rfl
  have hops : OpsT Tryd.prog (@Know.ops (DNear_dn_t_k b1 b2 b3 b4 b5 b6 b7)) := ⟨opt_gtr_i rfl rfl i1,
    opt_sub rfl rfl rfl rfl rfl (by have := (rQ_b n x); have := hn.2.2.1; have := hn.2.2.2; simp only at *; omega),
    opt_neg rfl rfl rfl rfl (by have := (rQ_b n x); have := hn.2.2.1; have := hn.2.2.2; simp only at *; omega),
    opt_leq_i rfl rfl i3,
    opt_sub rfl rfl rfl rfl rfl (by have := (rQ_b n x); have := hn.2.2.1; have := hn.2.2.2; simp only at *; omega),
    opt_eql_i rfl rfl i4,
    opt_odd rfl rfl rfl rfl (by have : rM n x < 9007199254740992 := (rM_b (x := x) (odd_ne hn.2.1)).1; omega),
    opt_eql_i rfl rfl i5,
    opt_eql_i rfl rfl i6,
    opt_add64 (y := 1) rfl rfl rfl rfl rfl (by have : rM n x < 9007199254740992 := (rM_b (x := x) (odd_ne hn.2.1)).1; omega),
    trivial⟩
  have hcalls : CallsT Tryd.prog (@Know.calls (DNear_dn_t_k b1 b2 b3 b4 b5 b6 b7)) := ⟨callt rfl rfl fun w hG => DCheck_dyr (Dy.mk true n x) (Or.inr hn) w,
    callt rfl rfl fun w hG => DTop_r true n x w hn,
    callt rfl rfl fun w hG => Least_r true n x w hn h,
    callt rfl rfl fun w hG => NShift_r true n x w hn h,
    callt rfl rfl fun w hG => NSmall_r true n x w hn,
    callt rfl rfl fun w hG => bMake_i true (rM n x) (rQ n x) w (Nat.le_of_lt (rM_b (x := x) (odd_ne hn.2.1)).1) (rQ_b n x).1 (rQ_b n x).2 (rM_b (x := x) (odd_ne hn.2.1)).2 i2 hG,
    callt rfl rfl fun w hG => NBit_r true n x w hn hu,
    callt rfl rfl fun w hG => bMake_i true (rM n x + 1) (rQ n x) w (rM_b (x := x) (odd_ne hn.2.1)).1 (rQ_b n x).1 (rQ_b n x).2 ((rM_b (x := x) (odd_ne hn.2.1)).2.imp (fun h => Nat.le_succ_of_le h) id) i7 hG,
    trivial⟩
  have fin : ∀ v, @comes (DNear_dn_t_k b1 b2 b3 b4 b5 b6 b7) Tryd.prog glT 3000 DNear_dn_t_f DNear_dn_t_a = some v → ground v = true → Ending.returned (gval v) = .returned (.tuple #[.float .f64 (rnd true n x (upNear n x)), .int .i64 0]) → Calls Tryd.prog 29 #[.agg #[.bool true, .string (natS n), .int .i64 x]] w fun e w' => e = .returned (.tuple #[.float .f64 (rnd true n x (upNear n x)), .int .i64 0]) ∧ Below w.heap.size w w' := fun v h1 h2 h3 => (@sym_ok _ (DNear_dn_t_k b1 b2 b3 b4 b5 b6 b7) _ (@KnowOk.of _ (DNear_dn_t_k b1 b2 b3 b4 b5 b6 b7) _ hops hcalls) (by kernel_rfl) _ _ _ _ h1 rfl h2 _ hG).mono fun e w' h => ⟨h.1.trans h3, h.2⟩
  clear hops hcalls
  cases b4 with
  | true =>
    have h4 : ((rB n x : Nat) : Int) = 0 := i4.1 rfl
    cases b5 with
    | true =>
      have h5 : ((rM n x % 2 : Nat) : Int) = 1 := i5.1 rfl
      cases b2 with
      | true =>
        have h2 : okP (rM n x) (rQ n x) = true := i2.1 rfl
        cases b1 with
        | true =>
          exact absurd (i1.1 rfl) ((by omega))
        | false =>
          have h1 : ¬ (rT n x > 1023) := fun c => Bool.false_ne_true (i1.2 c)
          cases b3 with
          | true =>
            exact absurd (i3.1 rfl) ((by omega))
          | false =>
            have h3 : ¬ (rQ n x - x ≤ 0) := fun c => Bool.false_ne_true (i3.2 c)
            exact fin _ (DNear_dn_t_r1 b6 b7) rfl (show Ending.returned (.tuple #[.float .f64 (mkW true (rM n x) (rQ n x)), .int .i64 0]) = .returned (.tuple #[.float .f64 (rnd true n x (upNear n x)), .int .i64 0]) from by rw [upNear_f (by rw [(show rW n x = 1 from (by rw [rW_dn hn h hu, if_pos (by have := h4; omega)]))]; omega), rnd_f, mkW_ok h2])
      | false =>
        exact absurd (i2.2 (okP_lt (rM_b (x := x) (odd_ne hn.2.1)).1)) Bool.false_ne_true
    | false =>
      have h5 : ¬ (((rM n x % 2 : Nat) : Int) = 1) := fun c => Bool.false_ne_true (i5.2 c)
      cases b2 with
      | true =>
        have h2 : okP (rM n x) (rQ n x) = true := i2.1 rfl
        cases b1 with
        | true =>
          exact absurd (i1.1 rfl) ((by omega))
        | false =>
          have h1 : ¬ (rT n x > 1023) := fun c => Bool.false_ne_true (i1.2 c)
          cases b3 with
          | true =>
            exact absurd (i3.1 rfl) ((by omega))
          | false =>
            have h3 : ¬ (rQ n x - x ≤ 0) := fun c => Bool.false_ne_true (i3.2 c)
            exact fin _ (DNear_dn_t_r2 b6 b7) rfl (show Ending.returned (.tuple #[.float .f64 (mkW true (rM n x) (rQ n x)), .int .i64 0]) = .returned (.tuple #[.float .f64 (rnd true n x (upNear n x)), .int .i64 0]) from by rw [upNear_f (by rw [(show rW n x = 1 from (by rw [rW_dn hn h hu, if_pos (by have := h4; omega)]))]; omega), rnd_f, mkW_ok h2])
      | false =>
        exact absurd (i2.2 (okP_lt (rM_b (x := x) (odd_ne hn.2.1)).1)) Bool.false_ne_true
  | false =>
    have h4 : ¬ (((rB n x : Nat) : Int) = 0) := fun c => Bool.false_ne_true (i4.2 c)
    cases b6 with
    | true =>
      have h6 : rQ n x - x = 1 := i6.1 rfl
      cases b5 with
      | true =>
        have h5 : ((rM n x % 2 : Nat) : Int) = 1 := i5.1 rfl
        cases b7 with
        | true =>
          have h7 : okP (rM n x + 1) (rQ n x) = true := i7.1 rfl
          cases b1 with
          | true =>
            exact absurd (i1.1 rfl) ((by omega))
          | false =>
            have h1 : ¬ (rT n x > 1023) := fun c => Bool.false_ne_true (i1.2 c)
            cases b3 with
            | true =>
              exact absurd (i3.1 rfl) ((by omega))
            | false =>
              have h3 : ¬ (rQ n x - x ≤ 0) := fun c => Bool.false_ne_true (i3.2 c)
              exact fin _ (DNear_dn_t_r3 b2) rfl (show Ending.returned (.tuple #[.float .f64 (mkW true (rM n x + 1) (rQ n x)), .int .i64 0]) = .returned (.tuple #[.float .f64 (rnd true n x (upNear n x)), .int .i64 0]) from by rw [upNear_t (Or.inr ⟨(show rW n x = 2 from (by rw [rW_dn hn h hu, if_neg (fun c => h4 (by rw [c]; rfl)), if_pos h6])), by have := h5; omega⟩), rnd_t, mkW_ok h7])
        | false =>
          have h7 : ¬ (okP (rM n x + 1) (rQ n x) = true) := fun c => Bool.false_ne_true (i7.2 c)
          cases b1 with
          | true =>
            exact absurd (i1.1 rfl) ((by omega))
          | false =>
            have h1 : ¬ (rT n x > 1023) := fun c => Bool.false_ne_true (i1.2 c)
            cases b3 with
            | true =>
              exact absurd (i3.1 rfl) ((by omega))
            | false =>
              have h3 : ¬ (rQ n x - x ≤ 0) := fun c => Bool.false_ne_true (i3.2 c)
              exact fin _ (DNear_dn_t_r4 b2) rfl (show Ending.returned (.tuple #[.float .f64 18442240474082181120, .int .i64 0]) = .returned (.tuple #[.float .f64 (rnd true n x (upNear n x)), .int .i64 0]) from by rw [upNear_t (Or.inr ⟨(show rW n x = 2 from (by rw [rW_dn hn h hu, if_neg (fun c => h4 (by rw [c]; rfl)), if_pos h6])), by have := h5; omega⟩), rnd_t, inf_t h7])
      | false =>
        have h5 : ¬ (((rM n x % 2 : Nat) : Int) = 1) := fun c => Bool.false_ne_true (i5.2 c)
        cases b2 with
        | true =>
          have h2 : okP (rM n x) (rQ n x) = true := i2.1 rfl
          cases b1 with
          | true =>
            exact absurd (i1.1 rfl) ((by omega))
          | false =>
            have h1 : ¬ (rT n x > 1023) := fun c => Bool.false_ne_true (i1.2 c)
            cases b3 with
            | true =>
              exact absurd (i3.1 rfl) ((by omega))
            | false =>
              have h3 : ¬ (rQ n x - x ≤ 0) := fun c => Bool.false_ne_true (i3.2 c)
              exact fin _ (DNear_dn_t_r5 b7) rfl (show Ending.returned (.tuple #[.float .f64 (mkW true (rM n x) (rQ n x)), .int .i64 0]) = .returned (.tuple #[.float .f64 (rnd true n x (upNear n x)), .int .i64 0]) from by rw [upNear_f (fun c => by rcases c with c | ⟨_, c⟩; exact absurd ((show rW n x = 2 from (by rw [rW_dn hn h hu, if_neg (fun c => h4 (by rw [c]; rfl)), if_pos h6])).symm.trans c) (by decide); exact h5 (by rw [c]; rfl)), rnd_f, mkW_ok h2])
        | false =>
          exact absurd (i2.2 (okP_lt (rM_b (x := x) (odd_ne hn.2.1)).1)) Bool.false_ne_true
    | false =>
      have h6 : ¬ (rQ n x - x = 1) := fun c => Bool.false_ne_true (i6.2 c)
      cases b5 with
      | true =>
        have h5 : ((rM n x % 2 : Nat) : Int) = 1 := i5.1 rfl
        cases b7 with
        | true =>
          have h7 : okP (rM n x + 1) (rQ n x) = true := i7.1 rfl
          cases b1 with
          | true =>
            exact absurd (i1.1 rfl) ((by omega))
          | false =>
            have h1 : ¬ (rT n x > 1023) := fun c => Bool.false_ne_true (i1.2 c)
            cases b3 with
            | true =>
              exact absurd (i3.1 rfl) ((by omega))
            | false =>
              have h3 : ¬ (rQ n x - x ≤ 0) := fun c => Bool.false_ne_true (i3.2 c)
              exact fin _ (DNear_dn_t_r6 b2) rfl (show Ending.returned (.tuple #[.float .f64 (mkW true (rM n x + 1) (rQ n x)), .int .i64 0]) = .returned (.tuple #[.float .f64 (rnd true n x (upNear n x)), .int .i64 0]) from by rw [upNear_t (Or.inl (show rW n x = 3 from (by rw [rW_dn hn h hu, if_neg (fun c => h4 (by rw [c]; rfl)), if_neg h6]))), rnd_t, mkW_ok h7])
        | false =>
          have h7 : ¬ (okP (rM n x + 1) (rQ n x) = true) := fun c => Bool.false_ne_true (i7.2 c)
          cases b1 with
          | true =>
            exact absurd (i1.1 rfl) ((by omega))
          | false =>
            have h1 : ¬ (rT n x > 1023) := fun c => Bool.false_ne_true (i1.2 c)
            cases b3 with
            | true =>
              exact absurd (i3.1 rfl) ((by omega))
            | false =>
              have h3 : ¬ (rQ n x - x ≤ 0) := fun c => Bool.false_ne_true (i3.2 c)
              exact fin _ (DNear_dn_t_r7 b2) rfl (show Ending.returned (.tuple #[.float .f64 18442240474082181120, .int .i64 0]) = .returned (.tuple #[.float .f64 (rnd true n x (upNear n x)), .int .i64 0]) from by rw [upNear_t (Or.inl (show rW n x = 3 from (by rw [rW_dn hn h hu, if_neg (fun c => h4 (by rw [c]; rfl)), if_neg h6]))), rnd_t, inf_t h7])
      | false =>
        have h5 : ¬ (((rM n x % 2 : Nat) : Int) = 1) := fun c => Bool.false_ne_true (i5.2 c)
        cases b7 with
        | true =>
          have h7 : okP (rM n x + 1) (rQ n x) = true := i7.1 rfl
          cases b1 with
          | true =>
            exact absurd (i1.1 rfl) ((by omega))
          | false =>
            have h1 : ¬ (rT n x > 1023) := fun c => Bool.false_ne_true (i1.2 c)
            cases b3 with
            | true =>
              exact absurd (i3.1 rfl) ((by omega))
            | false =>
              have h3 : ¬ (rQ n x - x ≤ 0) := fun c => Bool.false_ne_true (i3.2 c)
              exact fin _ (DNear_dn_t_r8 b2) rfl (show Ending.returned (.tuple #[.float .f64 (mkW true (rM n x + 1) (rQ n x)), .int .i64 0]) = .returned (.tuple #[.float .f64 (rnd true n x (upNear n x)), .int .i64 0]) from by rw [upNear_t (Or.inl (show rW n x = 3 from (by rw [rW_dn hn h hu, if_neg (fun c => h4 (by rw [c]; rfl)), if_neg h6]))), rnd_t, mkW_ok h7])
        | false =>
          have h7 : ¬ (okP (rM n x + 1) (rQ n x) = true) := fun c => Bool.false_ne_true (i7.2 c)
          cases b1 with
          | true =>
            exact absurd (i1.1 rfl) ((by omega))
          | false =>
            have h1 : ¬ (rT n x > 1023) := fun c => Bool.false_ne_true (i1.2 c)
            cases b3 with
            | true =>
              exact absurd (i3.1 rfl) ((by omega))
            | false =>
              have h3 : ¬ (rQ n x - x ≤ 0) := fun c => Bool.false_ne_true (i3.2 c)
              exact fin _ (DNear_dn_t_r9 b2) rfl (show Ending.returned (.tuple #[.float .f64 18442240474082181120, .int .i64 0]) = .returned (.tuple #[.float .f64 (rnd true n x (upNear n x)), .int .i64 0]) from by rw [upNear_t (Or.inl (show rW n x = 3 from (by rw [rW_dn hn h hu, if_neg (fun c => h4 (by rw [c]; rfl)), if_neg h6]))), rnd_t, inf_t h7])

theorem DNear_t (n : Nat) (x : Int) (w : World) (hn : (Dy.mk true n x).Num) (hG : Globs glT w) : Calls Tryd.prog 29 #[.agg #[.bool true, .string (natS n), .int .i64 x]] w fun e w' => e = .returned (.tuple #[.float .f64 (rnd true n x (upNear n x)), .int .i64 0]) ∧ Below w.heap.size w w' := by
  by_cases h : 1024 ≤ rT n x
  · exact DNear_far_t n x w hn h hG
  · by_cases hu : rQ n x ≤ x
    · exact DNear_up_t n x w hn h hu hG
    · exact DNear_dn_t n x w hn h hu hG
@[reducible] def DAbove_far_f_f : FuncId := 31
@[reducible] def DAbove_far_f_a : List AV := [.agg [.lit (.bool false), .sym 0, .sym 1]]
@[reducible] noncomputable def DAbove_far_f_k (b1 b2 : Bool) : Know := ⟨[([0, 15, 3], [.sym 2, .lit (.int .i64 1023)], .lit (.bool b2))],
  [(15, [.agg [.lit (.bool false), .sym 0, .sym 1]], .lit (.int .i64 0)),
  (13, [.agg [.lit (.bool false), .sym 0, .sym 1]], .tup [.sym 2, .lit (.bool true)]),
  (128, [.lit (.bool false), .lit (.int .u64 9007199254740992), .lit (.int .i64 971)], .tup [.sym 3, .lit (.bool b1)])]⟩
theorem DAbove_far_f_r1 : @comes (DAbove_far_f_k false true) Tryd.prog glT 3000 DAbove_far_f_f DAbove_far_f_a = some (.lit (.tuple #[.float .f64 9218868437227405312, .int .i64 0])) := by kernel_rfl

set_option maxRecDepth 100000 in
set_option maxHeartbeats 4000000 in
theorem DAbove_far_f (n : Nat) (x : Int) (w : World) (hn : (Dy.mk false n x).Num) (h : 1024 ≤ rT n x) (hG : Globs glT w) : Calls Tryd.prog 31 #[.agg #[.bool false, .string (natS n), .int .i64 x]] w fun e w' => e = .returned (.tuple #[.float .f64 (rnd false n x (upAbove false n x)), .int .i64 0]) ∧ Below w.heap.size w w' := by
  obtain ⟨b1, i1⟩ := bex (okP 9007199254740992 971 = true)
  obtain ⟨b2, i2⟩ := bex (rT n x > 1023)
  letI : Env := mkEnv glT [.string (natS n), .int .i64 x, .int .i64 (rT n x), .float .f64 (mkW false 9007199254740992 971)] rfl
  have hops : OpsT Tryd.prog (@Know.ops (DAbove_far_f_k b1 b2)) := ⟨opt_gtr_i rfl rfl i2,
    trivial⟩
  have hcalls : CallsT Tryd.prog (@Know.calls (DAbove_far_f_k b1 b2)) := ⟨callt rfl rfl fun w hG => DCheck_dyr (Dy.mk false n x) (Or.inr hn) w,
    callt rfl rfl fun w hG => DTop_r false n x w hn,
    callt rfl rfl fun w hG => bMake_i false 9007199254740992 971 w (by omega) (by omega) (by omega) (Or.inl (by omega)) i1 hG,
    trivial⟩
  have fin : ∀ v, @comes (DAbove_far_f_k b1 b2) Tryd.prog glT 3000 DAbove_far_f_f DAbove_far_f_a = some v → ground v = true → Ending.returned (gval v) = .returned (.tuple #[.float .f64 (rnd false n x (upAbove false n x)), .int .i64 0]) → Calls Tryd.prog 31 #[.agg #[.bool false, .string (natS n), .int .i64 x]] w fun e w' => e = .returned (.tuple #[.float .f64 (rnd false n x (upAbove false n x)), .int .i64 0]) ∧ Below w.heap.size w w' := fun v h1 h2 h3 => (@sym_ok _ (DAbove_far_f_k b1 b2) _ (@KnowOk.of _ (DAbove_far_f_k b1 b2) _ hops hcalls) (by kernel_rfl) _ _ _ _ h1 rfl h2 _ hG).mono fun e w' h => ⟨h.1.trans h3, h.2⟩
  clear hops hcalls
  cases b1 with
  | true =>
    exact absurd (i1.1 rfl) (fun c => okP_iff.1 c ⟨rfl, rfl⟩)
  | false =>
    have h1 : ¬ (okP 9007199254740992 971 = true) := fun c => Bool.false_ne_true (i1.2 c)
    cases b2 with
    | true =>
      have h2 : rT n x > 1023 := i2.1 rfl
      exact fin _ (DAbove_far_f_r1) rfl (show Ending.returned (.tuple #[.float .f64 9218868437227405312, .int .i64 0]) = .returned (.tuple #[.float .f64 (rnd false n x (upAbove false n x)), .int .i64 0]) from by rw [upAbove_t (by rw [(rQ_far h).2.2]; decide), rnd_t, (rQ_far h).1, (rQ_far h).2.1, inf_f h1])
    | false =>
      exact absurd (i2.2 ((by omega))) Bool.false_ne_true

@[reducible] def DAbove_up_f_f : FuncId := 31
@[reducible] def DAbove_up_f_a : List AV := [.agg [.lit (.bool false), .sym 0, .sym 1]]
@[reducible] noncomputable def DAbove_up_f_k (b1 b2 b3 : Bool) : Know := ⟨[([0, 15, 3], [.sym 2, .lit (.int .i64 1023)], .lit (.bool b1)),
  ([0, 1, 3], [.sym 3, .sym 1], .sym 4),
  ([1, 0, 3], [.sym 4], .sym 5),
  ([0, 14, 3], [.sym 4, .lit (.int .i64 0)], .lit (.bool b3))],
  [(15, [.agg [.lit (.bool false), .sym 0, .sym 1]], .lit (.int .i64 0)),
  (13, [.agg [.lit (.bool false), .sym 0, .sym 1]], .tup [.sym 2, .lit (.bool true)]),
  (107, [.sym 2], .sym 3),
  (65, [.sym 0, .sym 5], .tup [.sym 6, .lit (.int .i64 0)]),
  (108, [.sym 6], .tup [.sym 7, .lit (.bool true)]),
  (128, [.lit (.bool false), .sym 7, .sym 3], .tup [.sym 8, .lit (.bool b2)])]⟩
theorem DAbove_up_f_r1 : @comes (DAbove_up_f_k false true true) Tryd.prog glT 3000 DAbove_up_f_f DAbove_up_f_a = some (.tup [.sym 8, .lit (.int .i64 0)]) := by kernel_rfl

set_option maxRecDepth 100000 in
set_option maxHeartbeats 4000000 in
theorem DAbove_up_f (n : Nat) (x : Int) (w : World) (hn : (Dy.mk false n x).Num) (h : ¬ 1024 ≤ rT n x) (hu : rQ n x ≤ x) (hG : Globs glT w) : Calls Tryd.prog 31 #[.agg #[.bool false, .string (natS n), .int .i64 x]] w fun e w' => e = .returned (.tuple #[.float .f64 (rnd false n x (upAbove false n x)), .int .i64 0]) ∧ Below w.heap.size w w' := by
  obtain ⟨b1, i1⟩ := bex (rT n x > 1023)
  obtain ⟨b2, i2⟩ := bex (okP (rM n x) (rQ n x) = true)
  obtain ⟨b3, i3⟩ := bex (rQ n x - x ≤ 0)
  letI : Env := mkEnv glT [.string (natS n), .int .i64 x, .int .i64 (rT n x), .int .i64 (rQ n x), .int .i64 (rQ n x - x), .int .i64 (-(rQ n x - x)), .string (natS (rM n x)), .int .u64 (((rM n x : Nat) : Int)), .float .f64 (mkW false (rM n x) (rQ n x))] rfl
  have hops : OpsT Tryd.prog (@Know.ops (DAbove_up_f_k b1 b2 b3)) := ⟨opt_gtr_i rfl rfl i1,
    opt_sub rfl rfl rfl rfl rfl (by have := (rQ_b n x); have := hn.2.2.1; have := hn.2.2.2; simp only at *; omega),
    opt_neg rfl rfl rfl rfl (by have := (rQ_b n x); have := hn.2.2.1; have := hn.2.2.2; simp only at *; omega),
    opt_leq_i rfl rfl i3,
    trivial⟩
  have hcalls : CallsT Tryd.prog (@Know.calls (DAbove_up_f_k b1 b2 b3)) := ⟨callt rfl rfl fun w hG => DCheck_dyr (Dy.mk false n x) (Or.inr hn) w,
    callt rfl rfl fun w hG => DTop_r false n x w hn,
    callt rfl rfl fun w hG => Least_r false n x w hn h,
    callt rfl rfl fun w hG => NShift_r false n x w hn h,
    callt rfl rfl fun w hG => NSmall_r false n x w hn,
    callt rfl rfl fun w hG => bMake_i false (rM n x) (rQ n x) w (Nat.le_of_lt (rM_b (x := x) (odd_ne hn.2.1)).1) (rQ_b n x).1 (rQ_b n x).2 (rM_b (x := x) (odd_ne hn.2.1)).2 i2 hG,
    trivial⟩
  have fin : ∀ v, @comes (DAbove_up_f_k b1 b2 b3) Tryd.prog glT 3000 DAbove_up_f_f DAbove_up_f_a = some v → ground v = true → Ending.returned (gval v) = .returned (.tuple #[.float .f64 (rnd false n x (upAbove false n x)), .int .i64 0]) → Calls Tryd.prog 31 #[.agg #[.bool false, .string (natS n), .int .i64 x]] w fun e w' => e = .returned (.tuple #[.float .f64 (rnd false n x (upAbove false n x)), .int .i64 0]) ∧ Below w.heap.size w w' := fun v h1 h2 h3 => (@sym_ok _ (DAbove_up_f_k b1 b2 b3) _ (@KnowOk.of _ (DAbove_up_f_k b1 b2 b3) _ hops hcalls) (by kernel_rfl) _ _ _ _ h1 rfl h2 _ hG).mono fun e w' h => ⟨h.1.trans h3, h.2⟩
  clear hops hcalls
  cases b2 with
  | true =>
    have h2 : okP (rM n x) (rQ n x) = true := i2.1 rfl
    cases b1 with
    | true =>
      exact absurd (i1.1 rfl) ((by omega))
    | false =>
      have h1 : ¬ (rT n x > 1023) := fun c => Bool.false_ne_true (i1.2 c)
      cases b3 with
      | true =>
        have h3 : rQ n x - x ≤ 0 := i3.1 rfl
        exact fin _ (DAbove_up_f_r1) rfl (show Ending.returned (.tuple #[.float .f64 (mkW false (rM n x) (rQ n x)), .int .i64 0]) = .returned (.tuple #[.float .f64 (rnd false n x (upAbove false n x)), .int .i64 0]) from by rw [upAbove_f (rM_up h hu).2, rnd_f, mkW_ok h2])
      | false =>
        exact absurd (i3.2 ((by omega))) Bool.false_ne_true
  | false =>
    exact absurd (i2.2 (okP_lt (rM_b (x := x) (odd_ne hn.2.1)).1)) Bool.false_ne_true

@[reducible] def DAbove_dn_f_f : FuncId := 31
@[reducible] def DAbove_dn_f_a : List AV := [.agg [.lit (.bool false), .sym 0, .sym 1]]
@[reducible] noncomputable def DAbove_dn_f_k (b1 b2 b3 b4 b5 b6 : Bool) : Know := ⟨[([0, 15, 3], [.sym 2, .lit (.int .i64 1023)], .lit (.bool b1)),
  ([0, 1, 3], [.sym 3, .sym 1], .sym 4),
  ([1, 0, 3], [.sym 4], .sym 5),
  ([0, 14, 3], [.sym 4, .lit (.int .i64 0)], .lit (.bool b2)),
  ([0, 1, 3], [.sym 4, .lit (.int .i64 1)], .sym 8),
  ([0, 11, 5], [.sym 9, .lit (.int .u8 0)], .lit (.bool b3)),
  ([0, 5, 80], [.sym 7, .lit (.int .u64 1)], .sym 10),
  ([0, 11, 80], [.sym 10, .lit (.int .u64 1)], .lit (.bool b4)),
  ([0, 0, 80], [.sym 7, .lit (.int .u64 1)], .sym 11),
  ([0, 11, 3], [.sym 4, .lit (.int .i64 1)], .lit (.bool b6))],
  [(15, [.agg [.lit (.bool false), .sym 0, .sym 1]], .lit (.int .i64 0)),
  (13, [.agg [.lit (.bool false), .sym 0, .sym 1]], .tup [.sym 2, .lit (.bool true)]),
  (107, [.sym 2], .sym 3),
  (65, [.sym 0, .sym 5], .tup [.sym 6, .lit (.int .i64 0)]),
  (108, [.sym 6], .tup [.sym 7, .lit (.bool true)]),
  (130, [.sym 0, .sym 8], .tup [.sym 9, .lit (.int .i64 0)]),
  (128, [.lit (.bool false), .sym 11, .sym 3], .tup [.sym 12, .lit (.bool b5)])]⟩
theorem DAbove_dn_f_r1 (b6 : Bool) : @comes (DAbove_dn_f_k false false true true true b6) Tryd.prog glT 3000 DAbove_dn_f_f DAbove_dn_f_a = some (.tup [.sym 12, .lit (.int .i64 0)]) := by kernel_rfl
theorem DAbove_dn_f_r2 (b6 : Bool) : @comes (DAbove_dn_f_k false false true true false b6) Tryd.prog glT 3000 DAbove_dn_f_f DAbove_dn_f_a = some (.lit (.tuple #[.float .f64 9218868437227405312, .int .i64 0])) := by kernel_rfl
theorem DAbove_dn_f_r3 (b6 : Bool) : @comes (DAbove_dn_f_k false false true false true b6) Tryd.prog glT 3000 DAbove_dn_f_f DAbove_dn_f_a = some (.tup [.sym 12, .lit (.int .i64 0)]) := by kernel_rfl
theorem DAbove_dn_f_r4 (b6 : Bool) : @comes (DAbove_dn_f_k false false true false false b6) Tryd.prog glT 3000 DAbove_dn_f_f DAbove_dn_f_a = some (.lit (.tuple #[.float .f64 9218868437227405312, .int .i64 0])) := by kernel_rfl
theorem DAbove_dn_f_r5 : @comes (DAbove_dn_f_k false false false true true true) Tryd.prog glT 3000 DAbove_dn_f_f DAbove_dn_f_a = some (.tup [.sym 12, .lit (.int .i64 0)]) := by kernel_rfl
theorem DAbove_dn_f_r6 : @comes (DAbove_dn_f_k false false false true false true) Tryd.prog glT 3000 DAbove_dn_f_f DAbove_dn_f_a = some (.lit (.tuple #[.float .f64 9218868437227405312, .int .i64 0])) := by kernel_rfl
theorem DAbove_dn_f_r7 : @comes (DAbove_dn_f_k false false false false true true) Tryd.prog glT 3000 DAbove_dn_f_f DAbove_dn_f_a = some (.tup [.sym 12, .lit (.int .i64 0)]) := by kernel_rfl
theorem DAbove_dn_f_r8 : @comes (DAbove_dn_f_k false false false false false true) Tryd.prog glT 3000 DAbove_dn_f_f DAbove_dn_f_a = some (.lit (.tuple #[.float .f64 9218868437227405312, .int .i64 0])) := by kernel_rfl
theorem DAbove_dn_f_r9 : @comes (DAbove_dn_f_k false false false true true false) Tryd.prog glT 3000 DAbove_dn_f_f DAbove_dn_f_a = some (.tup [.sym 12, .lit (.int .i64 0)]) := by kernel_rfl
theorem DAbove_dn_f_r10 : @comes (DAbove_dn_f_k false false false true false false) Tryd.prog glT 3000 DAbove_dn_f_f DAbove_dn_f_a = some (.lit (.tuple #[.float .f64 9218868437227405312, .int .i64 0])) := by kernel_rfl
theorem DAbove_dn_f_r11 : @comes (DAbove_dn_f_k false false false false true false) Tryd.prog glT 3000 DAbove_dn_f_f DAbove_dn_f_a = some (.tup [.sym 12, .lit (.int .i64 0)]) := by kernel_rfl
theorem DAbove_dn_f_r12 : @comes (DAbove_dn_f_k false false false false false false) Tryd.prog glT 3000 DAbove_dn_f_f DAbove_dn_f_a = some (.lit (.tuple #[.float .f64 9218868437227405312, .int .i64 0])) := by kernel_rfl

set_option maxRecDepth 100000 in
set_option maxHeartbeats 4000000 in
theorem DAbove_dn_f (n : Nat) (x : Int) (w : World) (hn : (Dy.mk false n x).Num) (h : ¬ 1024 ≤ rT n x) (hu : ¬ rQ n x ≤ x) (hG : Globs glT w) : Calls Tryd.prog 31 #[.agg #[.bool false, .string (natS n), .int .i64 x]] w fun e w' => e = .returned (.tuple #[.float .f64 (rnd false n x (upAbove false n x)), .int .i64 0]) ∧ Below w.heap.size w w' := by
  obtain ⟨b1, i1⟩ := bex (rT n x > 1023)
  obtain ⟨b2, i2⟩ := bex (rQ n x - x ≤ 0)
  obtain ⟨b3, i3⟩ := bex (((rB n x : Nat) : Int) = 0)
  obtain ⟨b4, i4⟩ := bex (((rM n x % 2 : Nat) : Int) = 1)
  obtain ⟨b5, i5⟩ := bex (okP (rM n x + 1) (rQ n x) = true)
  obtain ⟨b6, i6⟩ := bex (rQ n x - x = 1)
  letI : Env := mkEnv glT [.string (natS n), .int .i64 x, .int .i64 (rT n x), .int .i64 (rQ n x), .int .i64 (rQ n x - x), .int .i64 (-(rQ n x - x)), .string (natS (rM n x)), .int .u64 (((rM n x : Nat) : Int)), .int .i64 (rQ n x - x - 1), .int .u8 (((rB n x : Nat) : Int)), .int .u64 (((rM n x % 2 : Nat) : Int)), .int .u64 (((rM n x + 1 : Nat) : Int)), .float .f64 (mkW false (rM n x + 1) (rQ n x))] rfl
  have hops : OpsT Tryd.prog (@Know.ops (DAbove_dn_f_k b1 b2 b3 b4 b5 b6)) := ⟨opt_gtr_i rfl rfl i1,
    opt_sub rfl rfl rfl rfl rfl (by have := (rQ_b n x); have := hn.2.2.1; have := hn.2.2.2; simp only at *; omega),
    opt_neg rfl rfl rfl rfl (by have := (rQ_b n x); have := hn.2.2.1; have := hn.2.2.2; simp only at *; omega),
    opt_leq_i rfl rfl i2,
    opt_sub rfl rfl rfl rfl rfl (by have := (rQ_b n x); have := hn.2.2.1; have := hn.2.2.2; simp only at *; omega),
    opt_eql_i rfl rfl i3,
    opt_odd rfl rfl rfl rfl (by have : rM n x < 9007199254740992 := (rM_b (x := x) (odd_ne hn.2.1)).1; omega),
    opt_eql_i rfl rfl i4,
    opt_add64 (y := 1) rfl rfl rfl rfl rfl (by have : rM n x < 9007199254740992 := (rM_b (x := x) (odd_ne hn.2.1)).1; omega),
    opt_eql_i rfl rfl i6,
    trivial⟩
  have hcalls : CallsT Tryd.prog (@Know.calls (DAbove_dn_f_k b1 b2 b3 b4 b5 b6)) := ⟨callt rfl rfl fun w hG => DCheck_dyr (Dy.mk false n x) (Or.inr hn) w,
    callt rfl rfl fun w hG => DTop_r false n x w hn,
    callt rfl rfl fun w hG => Least_r false n x w hn h,
    callt rfl rfl fun w hG => NShift_r false n x w hn h,
    callt rfl rfl fun w hG => NSmall_r false n x w hn,
    callt rfl rfl fun w hG => NBit_r false n x w hn hu,
    callt rfl rfl fun w hG => bMake_i false (rM n x + 1) (rQ n x) w (rM_b (x := x) (odd_ne hn.2.1)).1 (rQ_b n x).1 (rQ_b n x).2 ((rM_b (x := x) (odd_ne hn.2.1)).2.imp (fun h => Nat.le_succ_of_le h) id) i5 hG,
    trivial⟩
  have fin : ∀ v, @comes (DAbove_dn_f_k b1 b2 b3 b4 b5 b6) Tryd.prog glT 3000 DAbove_dn_f_f DAbove_dn_f_a = some v → ground v = true → Ending.returned (gval v) = .returned (.tuple #[.float .f64 (rnd false n x (upAbove false n x)), .int .i64 0]) → Calls Tryd.prog 31 #[.agg #[.bool false, .string (natS n), .int .i64 x]] w fun e w' => e = .returned (.tuple #[.float .f64 (rnd false n x (upAbove false n x)), .int .i64 0]) ∧ Below w.heap.size w w' := fun v h1 h2 h3 => (@sym_ok _ (DAbove_dn_f_k b1 b2 b3 b4 b5 b6) _ (@KnowOk.of _ (DAbove_dn_f_k b1 b2 b3 b4 b5 b6) _ hops hcalls) (by kernel_rfl) _ _ _ _ h1 rfl h2 _ hG).mono fun e w' h => ⟨h.1.trans h3, h.2⟩
  clear hops hcalls
  cases b3 with
  | true =>
    have h3 : ((rB n x : Nat) : Int) = 0 := i3.1 rfl
    cases b4 with
    | true =>
      have h4 : ((rM n x % 2 : Nat) : Int) = 1 := i4.1 rfl
      cases b5 with
      | true =>
        have h5 : okP (rM n x + 1) (rQ n x) = true := i5.1 rfl
        cases b1 with
        | true =>
          exact absurd (i1.1 rfl) ((by omega))
        | false =>
          have h1 : ¬ (rT n x > 1023) := fun c => Bool.false_ne_true (i1.2 c)
          cases b2 with
          | true =>
            exact absurd (i2.1 rfl) ((by omega))
          | false =>
            have h2 : ¬ (rQ n x - x ≤ 0) := fun c => Bool.false_ne_true (i2.2 c)
            exact fin _ (DAbove_dn_f_r1 b6) rfl (show Ending.returned (.tuple #[.float .f64 (mkW false (rM n x + 1) (rQ n x)), .int .i64 0]) = .returned (.tuple #[.float .f64 (rnd false n x (upAbove false n x)), .int .i64 0]) from by rw [upAbove_t (by rw [(show rW n x = 1 from (by rw [rW_dn hn h hu, if_pos (by have := h3; omega)]))]; decide), rnd_t, mkW_ok h5])
      | false =>
        have h5 : ¬ (okP (rM n x + 1) (rQ n x) = true) := fun c => Bool.false_ne_true (i5.2 c)
        cases b1 with
        | true =>
          exact absurd (i1.1 rfl) ((by omega))
        | false =>
          have h1 : ¬ (rT n x > 1023) := fun c => Bool.false_ne_true (i1.2 c)
          cases b2 with
          | true =>
            exact absurd (i2.1 rfl) ((by omega))
          | false =>
            have h2 : ¬ (rQ n x - x ≤ 0) := fun c => Bool.false_ne_true (i2.2 c)
            exact fin _ (DAbove_dn_f_r2 b6) rfl (show Ending.returned (.tuple #[.float .f64 9218868437227405312, .int .i64 0]) = .returned (.tuple #[.float .f64 (rnd false n x (upAbove false n x)), .int .i64 0]) from by rw [upAbove_t (by rw [(show rW n x = 1 from (by rw [rW_dn hn h hu, if_pos (by have := h3; omega)]))]; decide), rnd_t, inf_f h5])
    | false =>
      have h4 : ¬ (((rM n x % 2 : Nat) : Int) = 1) := fun c => Bool.false_ne_true (i4.2 c)
      cases b5 with
      | true =>
        have h5 : okP (rM n x + 1) (rQ n x) = true := i5.1 rfl
        cases b1 with
        | true =>
          exact absurd (i1.1 rfl) ((by omega))
        | false =>
          have h1 : ¬ (rT n x > 1023) := fun c => Bool.false_ne_true (i1.2 c)
          cases b2 with
          | true =>
            exact absurd (i2.1 rfl) ((by omega))
          | false =>
            have h2 : ¬ (rQ n x - x ≤ 0) := fun c => Bool.false_ne_true (i2.2 c)
            exact fin _ (DAbove_dn_f_r3 b6) rfl (show Ending.returned (.tuple #[.float .f64 (mkW false (rM n x + 1) (rQ n x)), .int .i64 0]) = .returned (.tuple #[.float .f64 (rnd false n x (upAbove false n x)), .int .i64 0]) from by rw [upAbove_t (by rw [(show rW n x = 1 from (by rw [rW_dn hn h hu, if_pos (by have := h3; omega)]))]; decide), rnd_t, mkW_ok h5])
      | false =>
        have h5 : ¬ (okP (rM n x + 1) (rQ n x) = true) := fun c => Bool.false_ne_true (i5.2 c)
        cases b1 with
        | true =>
          exact absurd (i1.1 rfl) ((by omega))
        | false =>
          have h1 : ¬ (rT n x > 1023) := fun c => Bool.false_ne_true (i1.2 c)
          cases b2 with
          | true =>
            exact absurd (i2.1 rfl) ((by omega))
          | false =>
            have h2 : ¬ (rQ n x - x ≤ 0) := fun c => Bool.false_ne_true (i2.2 c)
            exact fin _ (DAbove_dn_f_r4 b6) rfl (show Ending.returned (.tuple #[.float .f64 9218868437227405312, .int .i64 0]) = .returned (.tuple #[.float .f64 (rnd false n x (upAbove false n x)), .int .i64 0]) from by rw [upAbove_t (by rw [(show rW n x = 1 from (by rw [rW_dn hn h hu, if_pos (by have := h3; omega)]))]; decide), rnd_t, inf_f h5])
  | false =>
    have h3 : ¬ (((rB n x : Nat) : Int) = 0) := fun c => Bool.false_ne_true (i3.2 c)
    cases b6 with
    | true =>
      have h6 : rQ n x - x = 1 := i6.1 rfl
      cases b4 with
      | true =>
        have h4 : ((rM n x % 2 : Nat) : Int) = 1 := i4.1 rfl
        cases b5 with
        | true =>
          have h5 : okP (rM n x + 1) (rQ n x) = true := i5.1 rfl
          cases b1 with
          | true =>
            exact absurd (i1.1 rfl) ((by omega))
          | false =>
            have h1 : ¬ (rT n x > 1023) := fun c => Bool.false_ne_true (i1.2 c)
            cases b2 with
            | true =>
              exact absurd (i2.1 rfl) ((by omega))
            | false =>
              have h2 : ¬ (rQ n x - x ≤ 0) := fun c => Bool.false_ne_true (i2.2 c)
              exact fin _ (DAbove_dn_f_r5) rfl (show Ending.returned (.tuple #[.float .f64 (mkW false (rM n x + 1) (rQ n x)), .int .i64 0]) = .returned (.tuple #[.float .f64 (rnd false n x (upAbove false n x)), .int .i64 0]) from by rw [upAbove_t (by rw [(show rW n x = 2 from (by rw [rW_dn hn h hu, if_neg (fun c => h3 (by rw [c]; rfl)), if_pos h6]))]; decide), rnd_t, mkW_ok h5])
        | false =>
          have h5 : ¬ (okP (rM n x + 1) (rQ n x) = true) := fun c => Bool.false_ne_true (i5.2 c)
          cases b1 with
          | true =>
            exact absurd (i1.1 rfl) ((by omega))
          | false =>
            have h1 : ¬ (rT n x > 1023) := fun c => Bool.false_ne_true (i1.2 c)
            cases b2 with
            | true =>
              exact absurd (i2.1 rfl) ((by omega))
            | false =>
              have h2 : ¬ (rQ n x - x ≤ 0) := fun c => Bool.false_ne_true (i2.2 c)
              exact fin _ (DAbove_dn_f_r6) rfl (show Ending.returned (.tuple #[.float .f64 9218868437227405312, .int .i64 0]) = .returned (.tuple #[.float .f64 (rnd false n x (upAbove false n x)), .int .i64 0]) from by rw [upAbove_t (by rw [(show rW n x = 2 from (by rw [rW_dn hn h hu, if_neg (fun c => h3 (by rw [c]; rfl)), if_pos h6]))]; decide), rnd_t, inf_f h5])
      | false =>
        have h4 : ¬ (((rM n x % 2 : Nat) : Int) = 1) := fun c => Bool.false_ne_true (i4.2 c)
        cases b5 with
        | true =>
          have h5 : okP (rM n x + 1) (rQ n x) = true := i5.1 rfl
          cases b1 with
          | true =>
            exact absurd (i1.1 rfl) ((by omega))
          | false =>
            have h1 : ¬ (rT n x > 1023) := fun c => Bool.false_ne_true (i1.2 c)
            cases b2 with
            | true =>
              exact absurd (i2.1 rfl) ((by omega))
            | false =>
              have h2 : ¬ (rQ n x - x ≤ 0) := fun c => Bool.false_ne_true (i2.2 c)
              exact fin _ (DAbove_dn_f_r7) rfl (show Ending.returned (.tuple #[.float .f64 (mkW false (rM n x + 1) (rQ n x)), .int .i64 0]) = .returned (.tuple #[.float .f64 (rnd false n x (upAbove false n x)), .int .i64 0]) from by rw [upAbove_t (by rw [(show rW n x = 2 from (by rw [rW_dn hn h hu, if_neg (fun c => h3 (by rw [c]; rfl)), if_pos h6]))]; decide), rnd_t, mkW_ok h5])
        | false =>
          have h5 : ¬ (okP (rM n x + 1) (rQ n x) = true) := fun c => Bool.false_ne_true (i5.2 c)
          cases b1 with
          | true =>
            exact absurd (i1.1 rfl) ((by omega))
          | false =>
            have h1 : ¬ (rT n x > 1023) := fun c => Bool.false_ne_true (i1.2 c)
            cases b2 with
            | true =>
              exact absurd (i2.1 rfl) ((by omega))
            | false =>
              have h2 : ¬ (rQ n x - x ≤ 0) := fun c => Bool.false_ne_true (i2.2 c)
              exact fin _ (DAbove_dn_f_r8) rfl (show Ending.returned (.tuple #[.float .f64 9218868437227405312, .int .i64 0]) = .returned (.tuple #[.float .f64 (rnd false n x (upAbove false n x)), .int .i64 0]) from by rw [upAbove_t (by rw [(show rW n x = 2 from (by rw [rW_dn hn h hu, if_neg (fun c => h3 (by rw [c]; rfl)), if_pos h6]))]; decide), rnd_t, inf_f h5])
    | false =>
      have h6 : ¬ (rQ n x - x = 1) := fun c => Bool.false_ne_true (i6.2 c)
      cases b4 with
      | true =>
        have h4 : ((rM n x % 2 : Nat) : Int) = 1 := i4.1 rfl
        cases b5 with
        | true =>
          have h5 : okP (rM n x + 1) (rQ n x) = true := i5.1 rfl
          cases b1 with
          | true =>
            exact absurd (i1.1 rfl) ((by omega))
          | false =>
            have h1 : ¬ (rT n x > 1023) := fun c => Bool.false_ne_true (i1.2 c)
            cases b2 with
            | true =>
              exact absurd (i2.1 rfl) ((by omega))
            | false =>
              have h2 : ¬ (rQ n x - x ≤ 0) := fun c => Bool.false_ne_true (i2.2 c)
              exact fin _ (DAbove_dn_f_r9) rfl (show Ending.returned (.tuple #[.float .f64 (mkW false (rM n x + 1) (rQ n x)), .int .i64 0]) = .returned (.tuple #[.float .f64 (rnd false n x (upAbove false n x)), .int .i64 0]) from by rw [upAbove_t (by rw [(show rW n x = 3 from (by rw [rW_dn hn h hu, if_neg (fun c => h3 (by rw [c]; rfl)), if_neg h6]))]; decide), rnd_t, mkW_ok h5])
        | false =>
          have h5 : ¬ (okP (rM n x + 1) (rQ n x) = true) := fun c => Bool.false_ne_true (i5.2 c)
          cases b1 with
          | true =>
            exact absurd (i1.1 rfl) ((by omega))
          | false =>
            have h1 : ¬ (rT n x > 1023) := fun c => Bool.false_ne_true (i1.2 c)
            cases b2 with
            | true =>
              exact absurd (i2.1 rfl) ((by omega))
            | false =>
              have h2 : ¬ (rQ n x - x ≤ 0) := fun c => Bool.false_ne_true (i2.2 c)
              exact fin _ (DAbove_dn_f_r10) rfl (show Ending.returned (.tuple #[.float .f64 9218868437227405312, .int .i64 0]) = .returned (.tuple #[.float .f64 (rnd false n x (upAbove false n x)), .int .i64 0]) from by rw [upAbove_t (by rw [(show rW n x = 3 from (by rw [rW_dn hn h hu, if_neg (fun c => h3 (by rw [c]; rfl)), if_neg h6]))]; decide), rnd_t, inf_f h5])
      | false =>
        have h4 : ¬ (((rM n x % 2 : Nat) : Int) = 1) := fun c => Bool.false_ne_true (i4.2 c)
        cases b5 with
        | true =>
          have h5 : okP (rM n x + 1) (rQ n x) = true := i5.1 rfl
          cases b1 with
          | true =>
            exact absurd (i1.1 rfl) ((by omega))
          | false =>
            have h1 : ¬ (rT n x > 1023) := fun c => Bool.false_ne_true (i1.2 c)
            cases b2 with
            | true =>
              exact absurd (i2.1 rfl) ((by omega))
            | false =>
              have h2 : ¬ (rQ n x - x ≤ 0) := fun c => Bool.false_ne_true (i2.2 c)
              exact fin _ (DAbove_dn_f_r11) rfl (show Ending.returned (.tuple #[.float .f64 (mkW false (rM n x + 1) (rQ n x)), .int .i64 0]) = .returned (.tuple #[.float .f64 (rnd false n x (upAbove false n x)), .int .i64 0]) from by rw [upAbove_t (by rw [(show rW n x = 3 from (by rw [rW_dn hn h hu, if_neg (fun c => h3 (by rw [c]; rfl)), if_neg h6]))]; decide), rnd_t, mkW_ok h5])
        | false =>
          have h5 : ¬ (okP (rM n x + 1) (rQ n x) = true) := fun c => Bool.false_ne_true (i5.2 c)
          cases b1 with
          | true =>
            exact absurd (i1.1 rfl) ((by omega))
          | false =>
            have h1 : ¬ (rT n x > 1023) := fun c => Bool.false_ne_true (i1.2 c)
            cases b2 with
            | true =>
              exact absurd (i2.1 rfl) ((by omega))
            | false =>
              have h2 : ¬ (rQ n x - x ≤ 0) := fun c => Bool.false_ne_true (i2.2 c)
              exact fin _ (DAbove_dn_f_r12) rfl (show Ending.returned (.tuple #[.float .f64 9218868437227405312, .int .i64 0]) = .returned (.tuple #[.float .f64 (rnd false n x (upAbove false n x)), .int .i64 0]) from by rw [upAbove_t (by rw [(show rW n x = 3 from (by rw [rW_dn hn h hu, if_neg (fun c => h3 (by rw [c]; rfl)), if_neg h6]))]; decide), rnd_t, inf_f h5])

theorem DAbove_f (n : Nat) (x : Int) (w : World) (hn : (Dy.mk false n x).Num) (hG : Globs glT w) : Calls Tryd.prog 31 #[.agg #[.bool false, .string (natS n), .int .i64 x]] w fun e w' => e = .returned (.tuple #[.float .f64 (rnd false n x (upAbove false n x)), .int .i64 0]) ∧ Below w.heap.size w w' := by
  by_cases h : 1024 ≤ rT n x
  · exact DAbove_far_f n x w hn h hG
  · by_cases hu : rQ n x ≤ x
    · exact DAbove_up_f n x w hn h hu hG
    · exact DAbove_dn_f n x w hn h hu hG
@[reducible] def DAbove_far_t_f : FuncId := 31
@[reducible] def DAbove_far_t_a : List AV := [.agg [.lit (.bool true), .sym 0, .sym 1]]
@[reducible] noncomputable def DAbove_far_t_k (b1 b2 : Bool) : Know := ⟨[([0, 15, 3], [.sym 2, .lit (.int .i64 1023)], .lit (.bool b2))],
  [(15, [.agg [.lit (.bool true), .sym 0, .sym 1]], .lit (.int .i64 0)),
  (13, [.agg [.lit (.bool true), .sym 0, .sym 1]], .tup [.sym 2, .lit (.bool true)]),
  (128, [.lit (.bool true), .lit (.int .u64 9007199254740991), .lit (.int .i64 971)], .tup [.sym 3, .lit (.bool b1)])]⟩
theorem DAbove_far_t_r1 : @comes (DAbove_far_t_k true true) Tryd.prog glT 3000 DAbove_far_t_f DAbove_far_t_a = some (.tup [.sym 3, .lit (.int .i64 0)]) := by kernel_rfl

set_option maxRecDepth 100000 in
set_option maxHeartbeats 4000000 in
theorem DAbove_far_t (n : Nat) (x : Int) (w : World) (hn : (Dy.mk true n x).Num) (h : 1024 ≤ rT n x) (hG : Globs glT w) : Calls Tryd.prog 31 #[.agg #[.bool true, .string (natS n), .int .i64 x]] w fun e w' => e = .returned (.tuple #[.float .f64 (rnd true n x (upAbove true n x)), .int .i64 0]) ∧ Below w.heap.size w w' := by
  obtain ⟨b1, i1⟩ := bex (okP 9007199254740991 971 = true)
  obtain ⟨b2, i2⟩ := bex (rT n x > 1023)
  letI : Env := mkEnv glT [.string (natS n), .int .i64 x, .int .i64 (rT n x), .float .f64 (mkW true 9007199254740991 971)] rfl
  have hops : OpsT Tryd.prog (@Know.ops (DAbove_far_t_k b1 b2)) := ⟨opt_gtr_i rfl rfl i2,
    trivial⟩
  have hcalls : CallsT Tryd.prog (@Know.calls (DAbove_far_t_k b1 b2)) := ⟨callt rfl rfl fun w hG => DCheck_dyr (Dy.mk true n x) (Or.inr hn) w,
    callt rfl rfl fun w hG => DTop_r true n x w hn,
    callt rfl rfl fun w hG => bMake_i true 9007199254740991 971 w (by omega) (by omega) (by omega) (Or.inl (by omega)) i1 hG,
    trivial⟩
  have fin : ∀ v, @comes (DAbove_far_t_k b1 b2) Tryd.prog glT 3000 DAbove_far_t_f DAbove_far_t_a = some v → ground v = true → Ending.returned (gval v) = .returned (.tuple #[.float .f64 (rnd true n x (upAbove true n x)), .int .i64 0]) → Calls Tryd.prog 31 #[.agg #[.bool true, .string (natS n), .int .i64 x]] w fun e w' => e = .returned (.tuple #[.float .f64 (rnd true n x (upAbove true n x)), .int .i64 0]) ∧ Below w.heap.size w w' := fun v h1 h2 h3 => (@sym_ok _ (DAbove_far_t_k b1 b2) _ (@KnowOk.of _ (DAbove_far_t_k b1 b2) _ hops hcalls) (by kernel_rfl) _ _ _ _ h1 rfl h2 _ hG).mono fun e w' h => ⟨h.1.trans h3, h.2⟩
  clear hops hcalls
  cases b1 with
  | true =>
    have h1 : okP 9007199254740991 971 = true := i1.1 rfl
    cases b2 with
    | true =>
      have h2 : rT n x > 1023 := i2.1 rfl
      exact fin _ (DAbove_far_t_r1) rfl (show Ending.returned (.tuple #[.float .f64 (mkW true 9007199254740991 971), .int .i64 0]) = .returned (.tuple #[.float .f64 (rnd true n x (upAbove true n x)), .int .i64 0]) from by rw [upAbove_n n x, rnd_f, (rQ_far h).1, (rQ_far h).2.1, mkW_ok h1])
    | false =>
      exact absurd (i2.2 ((by omega))) Bool.false_ne_true
  | false =>
    exact absurd (i1.2 (okP_lt (by omega))) Bool.false_ne_true

@[reducible] def DAbove_up_t_f : FuncId := 31
@[reducible] def DAbove_up_t_a : List AV := [.agg [.lit (.bool true), .sym 0, .sym 1]]
@[reducible] noncomputable def DAbove_up_t_k (b1 b2 b3 : Bool) : Know := ⟨[([0, 15, 3], [.sym 2, .lit (.int .i64 1023)], .lit (.bool b1)),
  ([0, 1, 3], [.sym 3, .sym 1], .sym 4),
  ([1, 0, 3], [.sym 4], .sym 5),
  ([0, 14, 3], [.sym 4, .lit (.int .i64 0)], .lit (.bool b3))],
  [(15, [.agg [.lit (.bool true), .sym 0, .sym 1]], .lit (.int .i64 0)),
  (13, [.agg [.lit (.bool true), .sym 0, .sym 1]], .tup [.sym 2, .lit (.bool true)]),
  (107, [.sym 2], .sym 3),
  (65, [.sym 0, .sym 5], .tup [.sym 6, .lit (.int .i64 0)]),
  (108, [.sym 6], .tup [.sym 7, .lit (.bool true)]),
  (128, [.lit (.bool true), .sym 7, .sym 3], .tup [.sym 8, .lit (.bool b2)])]⟩
theorem DAbove_up_t_r1 : @comes (DAbove_up_t_k false true true) Tryd.prog glT 3000 DAbove_up_t_f DAbove_up_t_a = some (.tup [.sym 8, .lit (.int .i64 0)]) := by kernel_rfl

set_option maxRecDepth 100000 in
set_option maxHeartbeats 4000000 in
theorem DAbove_up_t (n : Nat) (x : Int) (w : World) (hn : (Dy.mk true n x).Num) (h : ¬ 1024 ≤ rT n x) (hu : rQ n x ≤ x) (hG : Globs glT w) : Calls Tryd.prog 31 #[.agg #[.bool true, .string (natS n), .int .i64 x]] w fun e w' => e = .returned (.tuple #[.float .f64 (rnd true n x (upAbove true n x)), .int .i64 0]) ∧ Below w.heap.size w w' := by
  obtain ⟨b1, i1⟩ := bex (rT n x > 1023)
  obtain ⟨b2, i2⟩ := bex (okP (rM n x) (rQ n x) = true)
  obtain ⟨b3, i3⟩ := bex (rQ n x - x ≤ 0)
  letI : Env := mkEnv glT [.string (natS n), .int .i64 x, .int .i64 (rT n x), .int .i64 (rQ n x), .int .i64 (rQ n x - x), .int .i64 (-(rQ n x - x)), .string (natS (rM n x)), .int .u64 (((rM n x : Nat) : Int)), .float .f64 (mkW true (rM n x) (rQ n x))] rfl
  have hops : OpsT Tryd.prog (@Know.ops (DAbove_up_t_k b1 b2 b3)) := ⟨opt_gtr_i rfl rfl i1,
    opt_sub rfl rfl rfl rfl rfl (by have := (rQ_b n x); have := hn.2.2.1; have := hn.2.2.2; simp only at *; omega),
    opt_neg rfl rfl rfl rfl (by have := (rQ_b n x); have := hn.2.2.1; have := hn.2.2.2; simp only at *; omega),
    opt_leq_i rfl rfl i3,
    trivial⟩
  have hcalls : CallsT Tryd.prog (@Know.calls (DAbove_up_t_k b1 b2 b3)) := ⟨callt rfl rfl fun w hG => DCheck_dyr (Dy.mk true n x) (Or.inr hn) w,
    callt rfl rfl fun w hG => DTop_r true n x w hn,
    callt rfl rfl fun w hG => Least_r true n x w hn h,
    callt rfl rfl fun w hG => NShift_r true n x w hn h,
    callt rfl rfl fun w hG => NSmall_r true n x w hn,
    callt rfl rfl fun w hG => bMake_i true (rM n x) (rQ n x) w (Nat.le_of_lt (rM_b (x := x) (odd_ne hn.2.1)).1) (rQ_b n x).1 (rQ_b n x).2 (rM_b (x := x) (odd_ne hn.2.1)).2 i2 hG,
    trivial⟩
  have fin : ∀ v, @comes (DAbove_up_t_k b1 b2 b3) Tryd.prog glT 3000 DAbove_up_t_f DAbove_up_t_a = some v → ground v = true → Ending.returned (gval v) = .returned (.tuple #[.float .f64 (rnd true n x (upAbove true n x)), .int .i64 0]) → Calls Tryd.prog 31 #[.agg #[.bool true, .string (natS n), .int .i64 x]] w fun e w' => e = .returned (.tuple #[.float .f64 (rnd true n x (upAbove true n x)), .int .i64 0]) ∧ Below w.heap.size w w' := fun v h1 h2 h3 => (@sym_ok _ (DAbove_up_t_k b1 b2 b3) _ (@KnowOk.of _ (DAbove_up_t_k b1 b2 b3) _ hops hcalls) (by kernel_rfl) _ _ _ _ h1 rfl h2 _ hG).mono fun e w' h => ⟨h.1.trans h3, h.2⟩
  clear hops hcalls
  cases b2 with
  | true =>
    have h2 : okP (rM n x) (rQ n x) = true := i2.1 rfl
    cases b1 with
    | true =>
      exact absurd (i1.1 rfl) ((by omega))
    | false =>
      have h1 : ¬ (rT n x > 1023) := fun c => Bool.false_ne_true (i1.2 c)
      cases b3 with
      | true =>
        have h3 : rQ n x - x ≤ 0 := i3.1 rfl
        exact fin _ (DAbove_up_t_r1) rfl (show Ending.returned (.tuple #[.float .f64 (mkW true (rM n x) (rQ n x)), .int .i64 0]) = .returned (.tuple #[.float .f64 (rnd true n x (upAbove true n x)), .int .i64 0]) from by rw [upAbove_n n x, rnd_f, mkW_ok h2])
      | false =>
        exact absurd (i3.2 ((by omega))) Bool.false_ne_true
  | false =>
    exact absurd (i2.2 (okP_lt (rM_b (x := x) (odd_ne hn.2.1)).1)) Bool.false_ne_true

@[reducible] def DAbove_dn_t_f : FuncId := 31
@[reducible] def DAbove_dn_t_a : List AV := [.agg [.lit (.bool true), .sym 0, .sym 1]]
@[reducible] noncomputable def DAbove_dn_t_k (b1 b2 b3 b4 b5 b6 : Bool) : Know := ⟨[([0, 15, 3], [.sym 2, .lit (.int .i64 1023)], .lit (.bool b1)),
  ([0, 1, 3], [.sym 3, .sym 1], .sym 4),
  ([1, 0, 3], [.sym 4], .sym 5),
  ([0, 14, 3], [.sym 4, .lit (.int .i64 0)], .lit (.bool b3)),
  ([0, 1, 3], [.sym 4, .lit (.int .i64 1)], .sym 9),
  ([0, 11, 5], [.sym 10, .lit (.int .u8 0)], .lit (.bool b4)),
  ([0, 5, 80], [.sym 7, .lit (.int .u64 1)], .sym 11),
  ([0, 11, 80], [.sym 11, .lit (.int .u64 1)], .lit (.bool b5)),
  ([0, 11, 3], [.sym 4, .lit (.int .i64 1)], .lit (.bool b6))],
  [(15, [.agg [.lit (.bool true), .sym 0, .sym 1]], .lit (.int .i64 0)),
  (13, [.agg [.lit (.bool true), .sym 0, .sym 1]], .tup [.sym 2, .lit (.bool true)]),
  (107, [.sym 2], .sym 3),
  (65, [.sym 0, .sym 5], .tup [.sym 6, .lit (.int .i64 0)]),
  (108, [.sym 6], .tup [.sym 7, .lit (.bool true)]),
  (128, [.lit (.bool true), .sym 7, .sym 3], .tup [.sym 8, .lit (.bool b2)]),
  (130, [.sym 0, .sym 9], .tup [.sym 10, .lit (.int .i64 0)])]⟩
theorem DAbove_dn_t_r1 (b6 : Bool) : @comes (DAbove_dn_t_k false true false true true b6) Tryd.prog glT 3000 DAbove_dn_t_f DAbove_dn_t_a = some (.tup [.sym 8, .lit (.int .i64 0)]) := by kernel_rfl
theorem DAbove_dn_t_r2 (b6 : Bool) : @comes (DAbove_dn_t_k false true false true false b6) Tryd.prog glT 3000 DAbove_dn_t_f DAbove_dn_t_a = some (.tup [.sym 8, .lit (.int .i64 0)]) := by kernel_rfl
theorem DAbove_dn_t_r3 : @comes (DAbove_dn_t_k false true false false true true) Tryd.prog glT 3000 DAbove_dn_t_f DAbove_dn_t_a = some (.tup [.sym 8, .lit (.int .i64 0)]) := by kernel_rfl
theorem DAbove_dn_t_r4 : @comes (DAbove_dn_t_k false true false false false true) Tryd.prog glT 3000 DAbove_dn_t_f DAbove_dn_t_a = some (.tup [.sym 8, .lit (.int .i64 0)]) := by kernel_rfl
theorem DAbove_dn_t_r5 : @comes (DAbove_dn_t_k false true false false true false) Tryd.prog glT 3000 DAbove_dn_t_f DAbove_dn_t_a = some (.tup [.sym 8, .lit (.int .i64 0)]) := by kernel_rfl
theorem DAbove_dn_t_r6 : @comes (DAbove_dn_t_k false true false false false false) Tryd.prog glT 3000 DAbove_dn_t_f DAbove_dn_t_a = some (.tup [.sym 8, .lit (.int .i64 0)]) := by kernel_rfl

set_option maxRecDepth 100000 in
set_option maxHeartbeats 4000000 in
theorem DAbove_dn_t (n : Nat) (x : Int) (w : World) (hn : (Dy.mk true n x).Num) (h : ¬ 1024 ≤ rT n x) (hu : ¬ rQ n x ≤ x) (hG : Globs glT w) : Calls Tryd.prog 31 #[.agg #[.bool true, .string (natS n), .int .i64 x]] w fun e w' => e = .returned (.tuple #[.float .f64 (rnd true n x (upAbove true n x)), .int .i64 0]) ∧ Below w.heap.size w w' := by
  obtain ⟨b1, i1⟩ := bex (rT n x > 1023)
  obtain ⟨b2, i2⟩ := bex (okP (rM n x) (rQ n x) = true)
  obtain ⟨b3, i3⟩ := bex (rQ n x - x ≤ 0)
  obtain ⟨b4, i4⟩ := bex (((rB n x : Nat) : Int) = 0)
  obtain ⟨b5, i5⟩ := bex (((rM n x % 2 : Nat) : Int) = 1)
  obtain ⟨b6, i6⟩ := bex (rQ n x - x = 1)
  letI : Env := mkEnv glT [.string (natS n), .int .i64 x, .int .i64 (rT n x), .int .i64 (rQ n x), .int .i64 (rQ n x - x), .int .i64 (-(rQ n x - x)), .string (natS (rM n x)), .int .u64 (((rM n x : Nat) : Int)), .float .f64 (mkW true (rM n x) (rQ n x)), .int .i64 (rQ n x - x - 1), .int .u8 (((rB n x : Nat) : Int)), .int .u64 (((rM n x % 2 : Nat) : Int))] rfl
  have hops : OpsT Tryd.prog (@Know.ops (DAbove_dn_t_k b1 b2 b3 b4 b5 b6)) := ⟨opt_gtr_i rfl rfl i1,
    opt_sub rfl rfl rfl rfl rfl (by have := (rQ_b n x); have := hn.2.2.1; have := hn.2.2.2; simp only at *; omega),
    opt_neg rfl rfl rfl rfl (by have := (rQ_b n x); have := hn.2.2.1; have := hn.2.2.2; simp only at *; omega),
    opt_leq_i rfl rfl i3,
    opt_sub rfl rfl rfl rfl rfl (by have := (rQ_b n x); have := hn.2.2.1; have := hn.2.2.2; simp only at *; omega),
    opt_eql_i rfl rfl i4,
    opt_odd rfl rfl rfl rfl (by have : rM n x < 9007199254740992 := (rM_b (x := x) (odd_ne hn.2.1)).1; omega),
    opt_eql_i rfl rfl i5,
    opt_eql_i rfl rfl i6,
    trivial⟩
  have hcalls : CallsT Tryd.prog (@Know.calls (DAbove_dn_t_k b1 b2 b3 b4 b5 b6)) := ⟨callt rfl rfl fun w hG => DCheck_dyr (Dy.mk true n x) (Or.inr hn) w,
    callt rfl rfl fun w hG => DTop_r true n x w hn,
    callt rfl rfl fun w hG => Least_r true n x w hn h,
    callt rfl rfl fun w hG => NShift_r true n x w hn h,
    callt rfl rfl fun w hG => NSmall_r true n x w hn,
    callt rfl rfl fun w hG => bMake_i true (rM n x) (rQ n x) w (Nat.le_of_lt (rM_b (x := x) (odd_ne hn.2.1)).1) (rQ_b n x).1 (rQ_b n x).2 (rM_b (x := x) (odd_ne hn.2.1)).2 i2 hG,
    callt rfl rfl fun w hG => NBit_r true n x w hn hu,
    trivial⟩
  have fin : ∀ v, @comes (DAbove_dn_t_k b1 b2 b3 b4 b5 b6) Tryd.prog glT 3000 DAbove_dn_t_f DAbove_dn_t_a = some v → ground v = true → Ending.returned (gval v) = .returned (.tuple #[.float .f64 (rnd true n x (upAbove true n x)), .int .i64 0]) → Calls Tryd.prog 31 #[.agg #[.bool true, .string (natS n), .int .i64 x]] w fun e w' => e = .returned (.tuple #[.float .f64 (rnd true n x (upAbove true n x)), .int .i64 0]) ∧ Below w.heap.size w w' := fun v h1 h2 h3 => (@sym_ok _ (DAbove_dn_t_k b1 b2 b3 b4 b5 b6) _ (@KnowOk.of _ (DAbove_dn_t_k b1 b2 b3 b4 b5 b6) _ hops hcalls) (by kernel_rfl) _ _ _ _ h1 rfl h2 _ hG).mono fun e w' h => ⟨h.1.trans h3, h.2⟩
  clear hops hcalls
  cases b4 with
  | true =>
    have h4 : ((rB n x : Nat) : Int) = 0 := i4.1 rfl
    cases b5 with
    | true =>
      have h5 : ((rM n x % 2 : Nat) : Int) = 1 := i5.1 rfl
      cases b2 with
      | true =>
        have h2 : okP (rM n x) (rQ n x) = true := i2.1 rfl
        cases b1 with
        | true =>
          exact absurd (i1.1 rfl) ((by omega))
        | false =>
          have h1 : ¬ (rT n x > 1023) := fun c => Bool.false_ne_true (i1.2 c)
          cases b3 with
          | true =>
            exact absurd (i3.1 rfl) ((by omega))
          | false =>
            have h3 : ¬ (rQ n x - x ≤ 0) := fun c => Bool.false_ne_true (i3.2 c)
            exact fin _ (DAbove_dn_t_r1 b6) rfl (show Ending.returned (.tuple #[.float .f64 (mkW true (rM n x) (rQ n x)), .int .i64 0]) = .returned (.tuple #[.float .f64 (rnd true n x (upAbove true n x)), .int .i64 0]) from by rw [upAbove_n n x, rnd_f, mkW_ok h2])
      | false =>
        exact absurd (i2.2 (okP_lt (rM_b (x := x) (odd_ne hn.2.1)).1)) Bool.false_ne_true
    | false =>
      have h5 : ¬ (((rM n x % 2 : Nat) : Int) = 1) := fun c => Bool.false_ne_true (i5.2 c)
      cases b2 with
      | true =>
        have h2 : okP (rM n x) (rQ n x) = true := i2.1 rfl
        cases b1 with
        | true =>
          exact absurd (i1.1 rfl) ((by omega))
        | false =>
          have h1 : ¬ (rT n x > 1023) := fun c => Bool.false_ne_true (i1.2 c)
          cases b3 with
          | true =>
            exact absurd (i3.1 rfl) ((by omega))
          | false =>
            have h3 : ¬ (rQ n x - x ≤ 0) := fun c => Bool.false_ne_true (i3.2 c)
            exact fin _ (DAbove_dn_t_r2 b6) rfl (show Ending.returned (.tuple #[.float .f64 (mkW true (rM n x) (rQ n x)), .int .i64 0]) = .returned (.tuple #[.float .f64 (rnd true n x (upAbove true n x)), .int .i64 0]) from by rw [upAbove_n n x, rnd_f, mkW_ok h2])
      | false =>
        exact absurd (i2.2 (okP_lt (rM_b (x := x) (odd_ne hn.2.1)).1)) Bool.false_ne_true
  | false =>
    have h4 : ¬ (((rB n x : Nat) : Int) = 0) := fun c => Bool.false_ne_true (i4.2 c)
    cases b6 with
    | true =>
      have h6 : rQ n x - x = 1 := i6.1 rfl
      cases b5 with
      | true =>
        have h5 : ((rM n x % 2 : Nat) : Int) = 1 := i5.1 rfl
        cases b2 with
        | true =>
          have h2 : okP (rM n x) (rQ n x) = true := i2.1 rfl
          cases b1 with
          | true =>
            exact absurd (i1.1 rfl) ((by omega))
          | false =>
            have h1 : ¬ (rT n x > 1023) := fun c => Bool.false_ne_true (i1.2 c)
            cases b3 with
            | true =>
              exact absurd (i3.1 rfl) ((by omega))
            | false =>
              have h3 : ¬ (rQ n x - x ≤ 0) := fun c => Bool.false_ne_true (i3.2 c)
              exact fin _ (DAbove_dn_t_r3) rfl (show Ending.returned (.tuple #[.float .f64 (mkW true (rM n x) (rQ n x)), .int .i64 0]) = .returned (.tuple #[.float .f64 (rnd true n x (upAbove true n x)), .int .i64 0]) from by rw [upAbove_n n x, rnd_f, mkW_ok h2])
        | false =>
          exact absurd (i2.2 (okP_lt (rM_b (x := x) (odd_ne hn.2.1)).1)) Bool.false_ne_true
      | false =>
        have h5 : ¬ (((rM n x % 2 : Nat) : Int) = 1) := fun c => Bool.false_ne_true (i5.2 c)
        cases b2 with
        | true =>
          have h2 : okP (rM n x) (rQ n x) = true := i2.1 rfl
          cases b1 with
          | true =>
            exact absurd (i1.1 rfl) ((by omega))
          | false =>
            have h1 : ¬ (rT n x > 1023) := fun c => Bool.false_ne_true (i1.2 c)
            cases b3 with
            | true =>
              exact absurd (i3.1 rfl) ((by omega))
            | false =>
              have h3 : ¬ (rQ n x - x ≤ 0) := fun c => Bool.false_ne_true (i3.2 c)
              exact fin _ (DAbove_dn_t_r4) rfl (show Ending.returned (.tuple #[.float .f64 (mkW true (rM n x) (rQ n x)), .int .i64 0]) = .returned (.tuple #[.float .f64 (rnd true n x (upAbove true n x)), .int .i64 0]) from by rw [upAbove_n n x, rnd_f, mkW_ok h2])
        | false =>
          exact absurd (i2.2 (okP_lt (rM_b (x := x) (odd_ne hn.2.1)).1)) Bool.false_ne_true
    | false =>
      have h6 : ¬ (rQ n x - x = 1) := fun c => Bool.false_ne_true (i6.2 c)
      cases b5 with
      | true =>
        have h5 : ((rM n x % 2 : Nat) : Int) = 1 := i5.1 rfl
        cases b2 with
        | true =>
          have h2 : okP (rM n x) (rQ n x) = true := i2.1 rfl
          cases b1 with
          | true =>
            exact absurd (i1.1 rfl) ((by omega))
          | false =>
            have h1 : ¬ (rT n x > 1023) := fun c => Bool.false_ne_true (i1.2 c)
            cases b3 with
            | true =>
              exact absurd (i3.1 rfl) ((by omega))
            | false =>
              have h3 : ¬ (rQ n x - x ≤ 0) := fun c => Bool.false_ne_true (i3.2 c)
              exact fin _ (DAbove_dn_t_r5) rfl (show Ending.returned (.tuple #[.float .f64 (mkW true (rM n x) (rQ n x)), .int .i64 0]) = .returned (.tuple #[.float .f64 (rnd true n x (upAbove true n x)), .int .i64 0]) from by rw [upAbove_n n x, rnd_f, mkW_ok h2])
        | false =>
          exact absurd (i2.2 (okP_lt (rM_b (x := x) (odd_ne hn.2.1)).1)) Bool.false_ne_true
      | false =>
        have h5 : ¬ (((rM n x % 2 : Nat) : Int) = 1) := fun c => Bool.false_ne_true (i5.2 c)
        cases b2 with
        | true =>
          have h2 : okP (rM n x) (rQ n x) = true := i2.1 rfl
          cases b1 with
          | true =>
            exact absurd (i1.1 rfl) ((by omega))
          | false =>
            have h1 : ¬ (rT n x > 1023) := fun c => Bool.false_ne_true (i1.2 c)
            cases b3 with
            | true =>
              exact absurd (i3.1 rfl) ((by omega))
            | false =>
              have h3 : ¬ (rQ n x - x ≤ 0) := fun c => Bool.false_ne_true (i3.2 c)
              exact fin _ (DAbove_dn_t_r6) rfl (show Ending.returned (.tuple #[.float .f64 (mkW true (rM n x) (rQ n x)), .int .i64 0]) = .returned (.tuple #[.float .f64 (rnd true n x (upAbove true n x)), .int .i64 0]) from by rw [upAbove_n n x, rnd_f, mkW_ok h2])
        | false =>
          exact absurd (i2.2 (okP_lt (rM_b (x := x) (odd_ne hn.2.1)).1)) Bool.false_ne_true

theorem DAbove_t (n : Nat) (x : Int) (w : World) (hn : (Dy.mk true n x).Num) (hG : Globs glT w) : Calls Tryd.prog 31 #[.agg #[.bool true, .string (natS n), .int .i64 x]] w fun e w' => e = .returned (.tuple #[.float .f64 (rnd true n x (upAbove true n x)), .int .i64 0]) ∧ Below w.heap.size w w' := by
  by_cases h : 1024 ≤ rT n x
  · exact DAbove_far_t n x w hn h hG
  · by_cases hu : rQ n x ≤ x
    · exact DAbove_up_t n x w hn h hu hG
    · exact DAbove_dn_t n x w hn h hu hG
@[reducible] def DBelow_far_f_f : FuncId := 30
@[reducible] def DBelow_far_f_a : List AV := [.agg [.lit (.bool false), .sym 0, .sym 1]]
@[reducible] noncomputable def DBelow_far_f_k (b1 b2 : Bool) : Know := ⟨[([0, 15, 3], [.sym 2, .lit (.int .i64 1023)], .lit (.bool b2))],
  [(15, [.agg [.lit (.bool false), .sym 0, .sym 1]], .lit (.int .i64 0)),
  (13, [.agg [.lit (.bool false), .sym 0, .sym 1]], .tup [.sym 2, .lit (.bool true)]),
  (128, [.lit (.bool false), .lit (.int .u64 9007199254740991), .lit (.int .i64 971)], .tup [.sym 3, .lit (.bool b1)])]⟩
theorem DBelow_far_f_r1 : @comes (DBelow_far_f_k true true) Tryd.prog glT 3000 DBelow_far_f_f DBelow_far_f_a = some (.tup [.sym 3, .lit (.int .i64 0)]) := by kernel_rfl

set_option maxRecDepth 100000 in
set_option maxHeartbeats 4000000 in
theorem DBelow_far_f (n : Nat) (x : Int) (w : World) (hn : (Dy.mk false n x).Num) (h : 1024 ≤ rT n x) (hG : Globs glT w) : Calls Tryd.prog 30 #[.agg #[.bool false, .string (natS n), .int .i64 x]] w fun e w' => e = .returned (.tuple #[.float .f64 (rnd false n x (upBelow false n x)), .int .i64 0]) ∧ Below w.heap.size w w' := by
  obtain ⟨b1, i1⟩ := bex (okP 9007199254740991 971 = true)
  obtain ⟨b2, i2⟩ := bex (rT n x > 1023)
  letI : Env := mkEnv glT [.string (natS n), .int .i64 x, .int .i64 (rT n x), .float .f64 (mkW false 9007199254740991 971)] rfl
  have hops : OpsT Tryd.prog (@Know.ops (DBelow_far_f_k b1 b2)) := ⟨opt_gtr_i rfl rfl i2,
    trivial⟩
  have hcalls : CallsT Tryd.prog (@Know.calls (DBelow_far_f_k b1 b2)) := ⟨callt rfl rfl fun w hG => DCheck_dyr (Dy.mk false n x) (Or.inr hn) w,
    callt rfl rfl fun w hG => DTop_r false n x w hn,
    callt rfl rfl fun w hG => bMake_i false 9007199254740991 971 w (by omega) (by omega) (by omega) (Or.inl (by omega)) i1 hG,
    trivial⟩
  have fin : ∀ v, @comes (DBelow_far_f_k b1 b2) Tryd.prog glT 3000 DBelow_far_f_f DBelow_far_f_a = some v → ground v = true → Ending.returned (gval v) = .returned (.tuple #[.float .f64 (rnd false n x (upBelow false n x)), .int .i64 0]) → Calls Tryd.prog 30 #[.agg #[.bool false, .string (natS n), .int .i64 x]] w fun e w' => e = .returned (.tuple #[.float .f64 (rnd false n x (upBelow false n x)), .int .i64 0]) ∧ Below w.heap.size w w' := fun v h1 h2 h3 => (@sym_ok _ (DBelow_far_f_k b1 b2) _ (@KnowOk.of _ (DBelow_far_f_k b1 b2) _ hops hcalls) (by kernel_rfl) _ _ _ _ h1 rfl h2 _ hG).mono fun e w' h => ⟨h.1.trans h3, h.2⟩
  clear hops hcalls
  cases b1 with
  | true =>
    have h1 : okP 9007199254740991 971 = true := i1.1 rfl
    cases b2 with
    | true =>
      have h2 : rT n x > 1023 := i2.1 rfl
      exact fin _ (DBelow_far_f_r1) rfl (show Ending.returned (.tuple #[.float .f64 (mkW false 9007199254740991 971), .int .i64 0]) = .returned (.tuple #[.float .f64 (rnd false n x (upBelow false n x)), .int .i64 0]) from by rw [upBelow_n n x, rnd_f, (rQ_far h).1, (rQ_far h).2.1, mkW_ok h1])
    | false =>
      exact absurd (i2.2 ((by omega))) Bool.false_ne_true
  | false =>
    exact absurd (i1.2 (okP_lt (by omega))) Bool.false_ne_true

@[reducible] def DBelow_up_f_f : FuncId := 30
@[reducible] def DBelow_up_f_a : List AV := [.agg [.lit (.bool false), .sym 0, .sym 1]]
@[reducible] noncomputable def DBelow_up_f_k (b1 b2 b3 : Bool) : Know := ⟨[([0, 15, 3], [.sym 2, .lit (.int .i64 1023)], .lit (.bool b1)),
  ([0, 1, 3], [.sym 3, .sym 1], .sym 4),
  ([1, 0, 3], [.sym 4], .sym 5),
  ([0, 14, 3], [.sym 4, .lit (.int .i64 0)], .lit (.bool b3))],
  [(15, [.agg [.lit (.bool false), .sym 0, .sym 1]], .lit (.int .i64 0)),
  (13, [.agg [.lit (.bool false), .sym 0, .sym 1]], .tup [.sym 2, .lit (.bool true)]),
  (107, [.sym 2], .sym 3),
  (65, [.sym 0, .sym 5], .tup [.sym 6, .lit (.int .i64 0)]),
  (108, [.sym 6], .tup [.sym 7, .lit (.bool true)]),
  (128, [.lit (.bool false), .sym 7, .sym 3], .tup [.sym 8, .lit (.bool b2)])]⟩
theorem DBelow_up_f_r1 : @comes (DBelow_up_f_k false true true) Tryd.prog glT 3000 DBelow_up_f_f DBelow_up_f_a = some (.tup [.sym 8, .lit (.int .i64 0)]) := by kernel_rfl

set_option maxRecDepth 100000 in
set_option maxHeartbeats 4000000 in
theorem DBelow_up_f (n : Nat) (x : Int) (w : World) (hn : (Dy.mk false n x).Num) (h : ¬ 1024 ≤ rT n x) (hu : rQ n x ≤ x) (hG : Globs glT w) : Calls Tryd.prog 30 #[.agg #[.bool false, .string (natS n), .int .i64 x]] w fun e w' => e = .returned (.tuple #[.float .f64 (rnd false n x (upBelow false n x)), .int .i64 0]) ∧ Below w.heap.size w w' := by
  obtain ⟨b1, i1⟩ := bex (rT n x > 1023)
  obtain ⟨b2, i2⟩ := bex (okP (rM n x) (rQ n x) = true)
  obtain ⟨b3, i3⟩ := bex (rQ n x - x ≤ 0)
  letI : Env := mkEnv glT [.string (natS n), .int .i64 x, .int .i64 (rT n x), .int .i64 (rQ n x), .int .i64 (rQ n x - x), .int .i64 (-(rQ n x - x)), .string (natS (rM n x)), .int .u64 (((rM n x : Nat) : Int)), .float .f64 (mkW false (rM n x) (rQ n x))] rfl
  have hops : OpsT Tryd.prog (@Know.ops (DBelow_up_f_k b1 b2 b3)) := ⟨opt_gtr_i rfl rfl i1,
    opt_sub rfl rfl rfl rfl rfl (by have := (rQ_b n x); have := hn.2.2.1; have := hn.2.2.2; simp only at *; omega),
    opt_neg rfl rfl rfl rfl (by have := (rQ_b n x); have := hn.2.2.1; have := hn.2.2.2; simp only at *; omega),
    opt_leq_i rfl rfl i3,
    trivial⟩
  have hcalls : CallsT Tryd.prog (@Know.calls (DBelow_up_f_k b1 b2 b3)) := ⟨callt rfl rfl fun w hG => DCheck_dyr (Dy.mk false n x) (Or.inr hn) w,
    callt rfl rfl fun w hG => DTop_r false n x w hn,
    callt rfl rfl fun w hG => Least_r false n x w hn h,
    callt rfl rfl fun w hG => NShift_r false n x w hn h,
    callt rfl rfl fun w hG => NSmall_r false n x w hn,
    callt rfl rfl fun w hG => bMake_i false (rM n x) (rQ n x) w (Nat.le_of_lt (rM_b (x := x) (odd_ne hn.2.1)).1) (rQ_b n x).1 (rQ_b n x).2 (rM_b (x := x) (odd_ne hn.2.1)).2 i2 hG,
    trivial⟩
  have fin : ∀ v, @comes (DBelow_up_f_k b1 b2 b3) Tryd.prog glT 3000 DBelow_up_f_f DBelow_up_f_a = some v → ground v = true → Ending.returned (gval v) = .returned (.tuple #[.float .f64 (rnd false n x (upBelow false n x)), .int .i64 0]) → Calls Tryd.prog 30 #[.agg #[.bool false, .string (natS n), .int .i64 x]] w fun e w' => e = .returned (.tuple #[.float .f64 (rnd false n x (upBelow false n x)), .int .i64 0]) ∧ Below w.heap.size w w' := fun v h1 h2 h3 => (@sym_ok _ (DBelow_up_f_k b1 b2 b3) _ (@KnowOk.of _ (DBelow_up_f_k b1 b2 b3) _ hops hcalls) (by kernel_rfl) _ _ _ _ h1 rfl h2 _ hG).mono fun e w' h => ⟨h.1.trans h3, h.2⟩
  clear hops hcalls
  cases b2 with
  | true =>
    have h2 : okP (rM n x) (rQ n x) = true := i2.1 rfl
    cases b1 with
    | true =>
      exact absurd (i1.1 rfl) ((by omega))
    | false =>
      have h1 : ¬ (rT n x > 1023) := fun c => Bool.false_ne_true (i1.2 c)
      cases b3 with
      | true =>
        have h3 : rQ n x - x ≤ 0 := i3.1 rfl
        exact fin _ (DBelow_up_f_r1) rfl (show Ending.returned (.tuple #[.float .f64 (mkW false (rM n x) (rQ n x)), .int .i64 0]) = .returned (.tuple #[.float .f64 (rnd false n x (upBelow false n x)), .int .i64 0]) from by rw [upBelow_n n x, rnd_f, mkW_ok h2])
      | false =>
        exact absurd (i3.2 ((by omega))) Bool.false_ne_true
  | false =>
    exact absurd (i2.2 (okP_lt (rM_b (x := x) (odd_ne hn.2.1)).1)) Bool.false_ne_true

@[reducible] def DBelow_dn_f_f : FuncId := 30
@[reducible] def DBelow_dn_f_a : List AV := [.agg [.lit (.bool false), .sym 0, .sym 1]]
@[reducible] noncomputable def DBelow_dn_f_k (b1 b2 b3 b4 b5 b6 : Bool) : Know := ⟨[([0, 15, 3], [.sym 2, .lit (.int .i64 1023)], .lit (.bool b1)),
  ([0, 1, 3], [.sym 3, .sym 1], .sym 4),
  ([1, 0, 3], [.sym 4], .sym 5),
  ([0, 14, 3], [.sym 4, .lit (.int .i64 0)], .lit (.bool b3)),
  ([0, 1, 3], [.sym 4, .lit (.int .i64 1)], .sym 9),
  ([0, 11, 5], [.sym 10, .lit (.int .u8 0)], .lit (.bool b4)),
  ([0, 5, 80], [.sym 7, .lit (.int .u64 1)], .sym 11),
  ([0, 11, 80], [.sym 11, .lit (.int .u64 1)], .lit (.bool b5)),
  ([0, 11, 3], [.sym 4, .lit (.int .i64 1)], .lit (.bool b6))],
  [(15, [.agg [.lit (.bool false), .sym 0, .sym 1]], .lit (.int .i64 0)),
  (13, [.agg [.lit (.bool false), .sym 0, .sym 1]], .tup [.sym 2, .lit (.bool true)]),
  (107, [.sym 2], .sym 3),
  (65, [.sym 0, .sym 5], .tup [.sym 6, .lit (.int .i64 0)]),
  (108, [.sym 6], .tup [.sym 7, .lit (.bool true)]),
  (128, [.lit (.bool false), .sym 7, .sym 3], .tup [.sym 8, .lit (.bool b2)]),
  (130, [.sym 0, .sym 9], .tup [.sym 10, .lit (.int .i64 0)])]⟩
theorem DBelow_dn_f_r1 (b6 : Bool) : @comes (DBelow_dn_f_k false true false true true b6) Tryd.prog glT 3000 DBelow_dn_f_f DBelow_dn_f_a = some (.tup [.sym 8, .lit (.int .i64 0)]) := by kernel_rfl
theorem DBelow_dn_f_r2 (b6 : Bool) : @comes (DBelow_dn_f_k false true false true false b6) Tryd.prog glT 3000 DBelow_dn_f_f DBelow_dn_f_a = some (.tup [.sym 8, .lit (.int .i64 0)]) := by kernel_rfl
theorem DBelow_dn_f_r3 : @comes (DBelow_dn_f_k false true false false true true) Tryd.prog glT 3000 DBelow_dn_f_f DBelow_dn_f_a = some (.tup [.sym 8, .lit (.int .i64 0)]) := by kernel_rfl
theorem DBelow_dn_f_r4 : @comes (DBelow_dn_f_k false true false false false true) Tryd.prog glT 3000 DBelow_dn_f_f DBelow_dn_f_a = some (.tup [.sym 8, .lit (.int .i64 0)]) := by kernel_rfl
theorem DBelow_dn_f_r5 : @comes (DBelow_dn_f_k false true false false true false) Tryd.prog glT 3000 DBelow_dn_f_f DBelow_dn_f_a = some (.tup [.sym 8, .lit (.int .i64 0)]) := by kernel_rfl
theorem DBelow_dn_f_r6 : @comes (DBelow_dn_f_k false true false false false false) Tryd.prog glT 3000 DBelow_dn_f_f DBelow_dn_f_a = some (.tup [.sym 8, .lit (.int .i64 0)]) := by kernel_rfl

set_option maxRecDepth 100000 in
set_option maxHeartbeats 4000000 in
theorem DBelow_dn_f (n : Nat) (x : Int) (w : World) (hn : (Dy.mk false n x).Num) (h : ¬ 1024 ≤ rT n x) (hu : ¬ rQ n x ≤ x) (hG : Globs glT w) : Calls Tryd.prog 30 #[.agg #[.bool false, .string (natS n), .int .i64 x]] w fun e w' => e = .returned (.tuple #[.float .f64 (rnd false n x (upBelow false n x)), .int .i64 0]) ∧ Below w.heap.size w w' := by
  obtain ⟨b1, i1⟩ := bex (rT n x > 1023)
  obtain ⟨b2, i2⟩ := bex (okP (rM n x) (rQ n x) = true)
  obtain ⟨b3, i3⟩ := bex (rQ n x - x ≤ 0)
  obtain ⟨b4, i4⟩ := bex (((rB n x : Nat) : Int) = 0)
  obtain ⟨b5, i5⟩ := bex (((rM n x % 2 : Nat) : Int) = 1)
  obtain ⟨b6, i6⟩ := bex (rQ n x - x = 1)
  letI : Env := mkEnv glT [.string (natS n), .int .i64 x, .int .i64 (rT n x), .int .i64 (rQ n x), .int .i64 (rQ n x - x), .int .i64 (-(rQ n x - x)), .string (natS (rM n x)), .int .u64 (((rM n x : Nat) : Int)), .float .f64 (mkW false (rM n x) (rQ n x)), .int .i64 (rQ n x - x - 1), .int .u8 (((rB n x : Nat) : Int)), .int .u64 (((rM n x % 2 : Nat) : Int))] rfl
  have hops : OpsT Tryd.prog (@Know.ops (DBelow_dn_f_k b1 b2 b3 b4 b5 b6)) := ⟨opt_gtr_i rfl rfl i1,
    opt_sub rfl rfl rfl rfl rfl (by have := (rQ_b n x); have := hn.2.2.1; have := hn.2.2.2; simp only at *; omega),
    opt_neg rfl rfl rfl rfl (by have := (rQ_b n x); have := hn.2.2.1; have := hn.2.2.2; simp only at *; omega),
    opt_leq_i rfl rfl i3,
    opt_sub rfl rfl rfl rfl rfl (by have := (rQ_b n x); have := hn.2.2.1; have := hn.2.2.2; simp only at *; omega),
    opt_eql_i rfl rfl i4,
    opt_odd rfl rfl rfl rfl (by have : rM n x < 9007199254740992 := (rM_b (x := x) (odd_ne hn.2.1)).1; omega),
    opt_eql_i rfl rfl i5,
    opt_eql_i rfl rfl i6,
    trivial⟩
  have hcalls : CallsT Tryd.prog (@Know.calls (DBelow_dn_f_k b1 b2 b3 b4 b5 b6)) := ⟨callt rfl rfl fun w hG => DCheck_dyr (Dy.mk false n x) (Or.inr hn) w,
    callt rfl rfl fun w hG => DTop_r false n x w hn,
    callt rfl rfl fun w hG => Least_r false n x w hn h,
    callt rfl rfl fun w hG => NShift_r false n x w hn h,
    callt rfl rfl fun w hG => NSmall_r false n x w hn,
    callt rfl rfl fun w hG => bMake_i false (rM n x) (rQ n x) w (Nat.le_of_lt (rM_b (x := x) (odd_ne hn.2.1)).1) (rQ_b n x).1 (rQ_b n x).2 (rM_b (x := x) (odd_ne hn.2.1)).2 i2 hG,
    callt rfl rfl fun w hG => NBit_r false n x w hn hu,
    trivial⟩
  have fin : ∀ v, @comes (DBelow_dn_f_k b1 b2 b3 b4 b5 b6) Tryd.prog glT 3000 DBelow_dn_f_f DBelow_dn_f_a = some v → ground v = true → Ending.returned (gval v) = .returned (.tuple #[.float .f64 (rnd false n x (upBelow false n x)), .int .i64 0]) → Calls Tryd.prog 30 #[.agg #[.bool false, .string (natS n), .int .i64 x]] w fun e w' => e = .returned (.tuple #[.float .f64 (rnd false n x (upBelow false n x)), .int .i64 0]) ∧ Below w.heap.size w w' := fun v h1 h2 h3 => (@sym_ok _ (DBelow_dn_f_k b1 b2 b3 b4 b5 b6) _ (@KnowOk.of _ (DBelow_dn_f_k b1 b2 b3 b4 b5 b6) _ hops hcalls) (by kernel_rfl) _ _ _ _ h1 rfl h2 _ hG).mono fun e w' h => ⟨h.1.trans h3, h.2⟩
  clear hops hcalls
  cases b4 with
  | true =>
    have h4 : ((rB n x : Nat) : Int) = 0 := i4.1 rfl
    cases b5 with
    | true =>
      have h5 : ((rM n x % 2 : Nat) : Int) = 1 := i5.1 rfl
      cases b2 with
      | true =>
        have h2 : okP (rM n x) (rQ n x) = true := i2.1 rfl
        cases b1 with
        | true =>
          exact absurd (i1.1 rfl) ((by omega))
        | false =>
          have h1 : ¬ (rT n x > 1023) := fun c => Bool.false_ne_true (i1.2 c)
          cases b3 with
          | true =>
            exact absurd (i3.1 rfl) ((by omega))
          | false =>
            have h3 : ¬ (rQ n x - x ≤ 0) := fun c => Bool.false_ne_true (i3.2 c)
            exact fin _ (DBelow_dn_f_r1 b6) rfl (show Ending.returned (.tuple #[.float .f64 (mkW false (rM n x) (rQ n x)), .int .i64 0]) = .returned (.tuple #[.float .f64 (rnd false n x (upBelow false n x)), .int .i64 0]) from by rw [upBelow_n n x, rnd_f, mkW_ok h2])
      | false =>
        exact absurd (i2.2 (okP_lt (rM_b (x := x) (odd_ne hn.2.1)).1)) Bool.false_ne_true
    | false =>
      have h5 : ¬ (((rM n x % 2 : Nat) : Int) = 1) := fun c => Bool.false_ne_true (i5.2 c)
      cases b2 with
      | true =>
        have h2 : okP (rM n x) (rQ n x) = true := i2.1 rfl
        cases b1 with
        | true =>
          exact absurd (i1.1 rfl) ((by omega))
        | false =>
          have h1 : ¬ (rT n x > 1023) := fun c => Bool.false_ne_true (i1.2 c)
          cases b3 with
          | true =>
            exact absurd (i3.1 rfl) ((by omega))
          | false =>
            have h3 : ¬ (rQ n x - x ≤ 0) := fun c => Bool.false_ne_true (i3.2 c)
            exact fin _ (DBelow_dn_f_r2 b6) rfl (show Ending.returned (.tuple #[.float .f64 (mkW false (rM n x) (rQ n x)), .int .i64 0]) = .returned (.tuple #[.float .f64 (rnd false n x (upBelow false n x)), .int .i64 0]) from by rw [upBelow_n n x, rnd_f, mkW_ok h2])
      | false =>
        exact absurd (i2.2 (okP_lt (rM_b (x := x) (odd_ne hn.2.1)).1)) Bool.false_ne_true
  | false =>
    have h4 : ¬ (((rB n x : Nat) : Int) = 0) := fun c => Bool.false_ne_true (i4.2 c)
    cases b6 with
    | true =>
      have h6 : rQ n x - x = 1 := i6.1 rfl
      cases b5 with
      | true =>
        have h5 : ((rM n x % 2 : Nat) : Int) = 1 := i5.1 rfl
        cases b2 with
        | true =>
          have h2 : okP (rM n x) (rQ n x) = true := i2.1 rfl
          cases b1 with
          | true =>
            exact absurd (i1.1 rfl) ((by omega))
          | false =>
            have h1 : ¬ (rT n x > 1023) := fun c => Bool.false_ne_true (i1.2 c)
            cases b3 with
            | true =>
              exact absurd (i3.1 rfl) ((by omega))
            | false =>
              have h3 : ¬ (rQ n x - x ≤ 0) := fun c => Bool.false_ne_true (i3.2 c)
              exact fin _ (DBelow_dn_f_r3) rfl (show Ending.returned (.tuple #[.float .f64 (mkW false (rM n x) (rQ n x)), .int .i64 0]) = .returned (.tuple #[.float .f64 (rnd false n x (upBelow false n x)), .int .i64 0]) from by rw [upBelow_n n x, rnd_f, mkW_ok h2])
        | false =>
          exact absurd (i2.2 (okP_lt (rM_b (x := x) (odd_ne hn.2.1)).1)) Bool.false_ne_true
      | false =>
        have h5 : ¬ (((rM n x % 2 : Nat) : Int) = 1) := fun c => Bool.false_ne_true (i5.2 c)
        cases b2 with
        | true =>
          have h2 : okP (rM n x) (rQ n x) = true := i2.1 rfl
          cases b1 with
          | true =>
            exact absurd (i1.1 rfl) ((by omega))
          | false =>
            have h1 : ¬ (rT n x > 1023) := fun c => Bool.false_ne_true (i1.2 c)
            cases b3 with
            | true =>
              exact absurd (i3.1 rfl) ((by omega))
            | false =>
              have h3 : ¬ (rQ n x - x ≤ 0) := fun c => Bool.false_ne_true (i3.2 c)
              exact fin _ (DBelow_dn_f_r4) rfl (show Ending.returned (.tuple #[.float .f64 (mkW false (rM n x) (rQ n x)), .int .i64 0]) = .returned (.tuple #[.float .f64 (rnd false n x (upBelow false n x)), .int .i64 0]) from by rw [upBelow_n n x, rnd_f, mkW_ok h2])
        | false =>
          exact absurd (i2.2 (okP_lt (rM_b (x := x) (odd_ne hn.2.1)).1)) Bool.false_ne_true
    | false =>
      have h6 : ¬ (rQ n x - x = 1) := fun c => Bool.false_ne_true (i6.2 c)
      cases b5 with
      | true =>
        have h5 : ((rM n x % 2 : Nat) : Int) = 1 := i5.1 rfl
        cases b2 with
        | true =>
          have h2 : okP (rM n x) (rQ n x) = true := i2.1 rfl
          cases b1 with
          | true =>
            exact absurd (i1.1 rfl) ((by omega))
          | false =>
            have h1 : ¬ (rT n x > 1023) := fun c => Bool.false_ne_true (i1.2 c)
            cases b3 with
            | true =>
              exact absurd (i3.1 rfl) ((by omega))
            | false =>
              have h3 : ¬ (rQ n x - x ≤ 0) := fun c => Bool.false_ne_true (i3.2 c)
              exact fin _ (DBelow_dn_f_r5) rfl (show Ending.returned (.tuple #[.float .f64 (mkW false (rM n x) (rQ n x)), .int .i64 0]) = .returned (.tuple #[.float .f64 (rnd false n x (upBelow false n x)), .int .i64 0]) from by rw [upBelow_n n x, rnd_f, mkW_ok h2])
        | false =>
          exact absurd (i2.2 (okP_lt (rM_b (x := x) (odd_ne hn.2.1)).1)) Bool.false_ne_true
      | false =>
        have h5 : ¬ (((rM n x % 2 : Nat) : Int) = 1) := fun c => Bool.false_ne_true (i5.2 c)
        cases b2 with
        | true =>
          have h2 : okP (rM n x) (rQ n x) = true := i2.1 rfl
          cases b1 with
          | true =>
            exact absurd (i1.1 rfl) ((by omega))
          | false =>
            have h1 : ¬ (rT n x > 1023) := fun c => Bool.false_ne_true (i1.2 c)
            cases b3 with
            | true =>
              exact absurd (i3.1 rfl) ((by omega))
            | false =>
              have h3 : ¬ (rQ n x - x ≤ 0) := fun c => Bool.false_ne_true (i3.2 c)
              exact fin _ (DBelow_dn_f_r6) rfl (show Ending.returned (.tuple #[.float .f64 (mkW false (rM n x) (rQ n x)), .int .i64 0]) = .returned (.tuple #[.float .f64 (rnd false n x (upBelow false n x)), .int .i64 0]) from by rw [upBelow_n n x, rnd_f, mkW_ok h2])
        | false =>
          exact absurd (i2.2 (okP_lt (rM_b (x := x) (odd_ne hn.2.1)).1)) Bool.false_ne_true

theorem DBelow_f (n : Nat) (x : Int) (w : World) (hn : (Dy.mk false n x).Num) (hG : Globs glT w) : Calls Tryd.prog 30 #[.agg #[.bool false, .string (natS n), .int .i64 x]] w fun e w' => e = .returned (.tuple #[.float .f64 (rnd false n x (upBelow false n x)), .int .i64 0]) ∧ Below w.heap.size w w' := by
  by_cases h : 1024 ≤ rT n x
  · exact DBelow_far_f n x w hn h hG
  · by_cases hu : rQ n x ≤ x
    · exact DBelow_up_f n x w hn h hu hG
    · exact DBelow_dn_f n x w hn h hu hG
@[reducible] def DBelow_far_t_f : FuncId := 30
@[reducible] def DBelow_far_t_a : List AV := [.agg [.lit (.bool true), .sym 0, .sym 1]]
@[reducible] noncomputable def DBelow_far_t_k (b1 b2 : Bool) : Know := ⟨[([0, 15, 3], [.sym 2, .lit (.int .i64 1023)], .lit (.bool b2))],
  [(15, [.agg [.lit (.bool true), .sym 0, .sym 1]], .lit (.int .i64 0)),
  (13, [.agg [.lit (.bool true), .sym 0, .sym 1]], .tup [.sym 2, .lit (.bool true)]),
  (128, [.lit (.bool true), .lit (.int .u64 9007199254740992), .lit (.int .i64 971)], .tup [.sym 3, .lit (.bool b1)])]⟩
theorem DBelow_far_t_r1 : @comes (DBelow_far_t_k false true) Tryd.prog glT 3000 DBelow_far_t_f DBelow_far_t_a = some (.lit (.tuple #[.float .f64 18442240474082181120, .int .i64 0])) := by kernel_rfl

set_option maxRecDepth 100000 in
set_option maxHeartbeats 4000000 in
theorem DBelow_far_t (n : Nat) (x : Int) (w : World) (hn : (Dy.mk true n x).Num) (h : 1024 ≤ rT n x) (hG : Globs glT w) : Calls Tryd.prog 30 #[.agg #[.bool true, .string (natS n), .int .i64 x]] w fun e w' => e = .returned (.tuple #[.float .f64 (rnd true n x (upBelow true n x)), .int .i64 0]) ∧ Below w.heap.size w w' := by
  obtain ⟨b1, i1⟩ := bex (okP 9007199254740992 971 = true)
  obtain ⟨b2, i2⟩ := bex (rT n x > 1023)
  letI : Env := mkEnv glT [.string (natS n), .int .i64 x, .int .i64 (rT n x), .float .f64 (mkW true 9007199254740992 971)] rfl
  have hops : OpsT Tryd.prog (@Know.ops (DBelow_far_t_k b1 b2)) := ⟨opt_gtr_i rfl rfl i2,
    trivial⟩
  have hcalls : CallsT Tryd.prog (@Know.calls (DBelow_far_t_k b1 b2)) := ⟨callt rfl rfl fun w hG => DCheck_dyr (Dy.mk true n x) (Or.inr hn) w,
    callt rfl rfl fun w hG => DTop_r true n x w hn,
    callt rfl rfl fun w hG => bMake_i true 9007199254740992 971 w (by omega) (by omega) (by omega) (Or.inl (by omega)) i1 hG,
    trivial⟩
  have fin : ∀ v, @comes (DBelow_far_t_k b1 b2) Tryd.prog glT 3000 DBelow_far_t_f DBelow_far_t_a = some v → ground v = true → Ending.returned (gval v) = .returned (.tuple #[.float .f64 (rnd true n x (upBelow true n x)), .int .i64 0]) → Calls Tryd.prog 30 #[.agg #[.bool true, .string (natS n), .int .i64 x]] w fun e w' => e = .returned (.tuple #[.float .f64 (rnd true n x (upBelow true n x)), .int .i64 0]) ∧ Below w.heap.size w w' := fun v h1 h2 h3 => (@sym_ok _ (DBelow_far_t_k b1 b2) _ (@KnowOk.of _ (DBelow_far_t_k b1 b2) _ hops hcalls) (by kernel_rfl) _ _ _ _ h1 rfl h2 _ hG).mono fun e w' h => ⟨h.1.trans h3, h.2⟩
  clear hops hcalls
  cases b1 with
  | true =>
    exact absurd (i1.1 rfl) (fun c => okP_iff.1 c ⟨rfl, rfl⟩)
  | false =>
    have h1 : ¬ (okP 9007199254740992 971 = true) := fun c => Bool.false_ne_true (i1.2 c)
    cases b2 with
    | true =>
      have h2 : rT n x > 1023 := i2.1 rfl
      exact fin _ (DBelow_far_t_r1) rfl (show Ending.returned (.tuple #[.float .f64 18442240474082181120, .int .i64 0]) = .returned (.tuple #[.float .f64 (rnd true n x (upBelow true n x)), .int .i64 0]) from by rw [upBelow_t (by rw [(rQ_far h).2.2]; decide), rnd_t, (rQ_far h).1, (rQ_far h).2.1, inf_t h1])
    | false =>
      exact absurd (i2.2 ((by omega))) Bool.false_ne_true

@[reducible] def DBelow_up_t_f : FuncId := 30
@[reducible] def DBelow_up_t_a : List AV := [.agg [.lit (.bool true), .sym 0, .sym 1]]
@[reducible] noncomputable def DBelow_up_t_k (b1 b2 b3 : Bool) : Know := ⟨[([0, 15, 3], [.sym 2, .lit (.int .i64 1023)], .lit (.bool b1)),
  ([0, 1, 3], [.sym 3, .sym 1], .sym 4),
  ([1, 0, 3], [.sym 4], .sym 5),
  ([0, 14, 3], [.sym 4, .lit (.int .i64 0)], .lit (.bool b3))],
  [(15, [.agg [.lit (.bool true), .sym 0, .sym 1]], .lit (.int .i64 0)),
  (13, [.agg [.lit (.bool true), .sym 0, .sym 1]], .tup [.sym 2, .lit (.bool true)]),
  (107, [.sym 2], .sym 3),
  (65, [.sym 0, .sym 5], .tup [.sym 6, .lit (.int .i64 0)]),
  (108, [.sym 6], .tup [.sym 7, .lit (.bool true)]),
  (128, [.lit (.bool true), .sym 7, .sym 3], .tup [.sym 8, .lit (.bool b2)])]⟩
theorem DBelow_up_t_r1 : @comes (DBelow_up_t_k false true true) Tryd.prog glT 3000 DBelow_up_t_f DBelow_up_t_a = some (.tup [.sym 8, .lit (.int .i64 0)]) := by kernel_rfl

set_option maxRecDepth 100000 in
set_option maxHeartbeats 4000000 in
theorem DBelow_up_t (n : Nat) (x : Int) (w : World) (hn : (Dy.mk true n x).Num) (h : ¬ 1024 ≤ rT n x) (hu : rQ n x ≤ x) (hG : Globs glT w) : Calls Tryd.prog 30 #[.agg #[.bool true, .string (natS n), .int .i64 x]] w fun e w' => e = .returned (.tuple #[.float .f64 (rnd true n x (upBelow true n x)), .int .i64 0]) ∧ Below w.heap.size w w' := by
  obtain ⟨b1, i1⟩ := bex (rT n x > 1023)
  obtain ⟨b2, i2⟩ := bex (okP (rM n x) (rQ n x) = true)
  obtain ⟨b3, i3⟩ := bex (rQ n x - x ≤ 0)
  letI : Env := mkEnv glT [.string (natS n), .int .i64 x, .int .i64 (rT n x), .int .i64 (rQ n x), .int .i64 (rQ n x - x), .int .i64 (-(rQ n x - x)), .string (natS (rM n x)), .int .u64 (((rM n x : Nat) : Int)), .float .f64 (mkW true (rM n x) (rQ n x))] rfl
  have hops : OpsT Tryd.prog (@Know.ops (DBelow_up_t_k b1 b2 b3)) := ⟨opt_gtr_i rfl rfl i1,
    opt_sub rfl rfl rfl rfl rfl (by have := (rQ_b n x); have := hn.2.2.1; have := hn.2.2.2; simp only at *; omega),
    opt_neg rfl rfl rfl rfl (by have := (rQ_b n x); have := hn.2.2.1; have := hn.2.2.2; simp only at *; omega),
    opt_leq_i rfl rfl i3,
    trivial⟩
  have hcalls : CallsT Tryd.prog (@Know.calls (DBelow_up_t_k b1 b2 b3)) := ⟨callt rfl rfl fun w hG => DCheck_dyr (Dy.mk true n x) (Or.inr hn) w,
    callt rfl rfl fun w hG => DTop_r true n x w hn,
    callt rfl rfl fun w hG => Least_r true n x w hn h,
    callt rfl rfl fun w hG => NShift_r true n x w hn h,
    callt rfl rfl fun w hG => NSmall_r true n x w hn,
    callt rfl rfl fun w hG => bMake_i true (rM n x) (rQ n x) w (Nat.le_of_lt (rM_b (x := x) (odd_ne hn.2.1)).1) (rQ_b n x).1 (rQ_b n x).2 (rM_b (x := x) (odd_ne hn.2.1)).2 i2 hG,
    trivial⟩
  have fin : ∀ v, @comes (DBelow_up_t_k b1 b2 b3) Tryd.prog glT 3000 DBelow_up_t_f DBelow_up_t_a = some v → ground v = true → Ending.returned (gval v) = .returned (.tuple #[.float .f64 (rnd true n x (upBelow true n x)), .int .i64 0]) → Calls Tryd.prog 30 #[.agg #[.bool true, .string (natS n), .int .i64 x]] w fun e w' => e = .returned (.tuple #[.float .f64 (rnd true n x (upBelow true n x)), .int .i64 0]) ∧ Below w.heap.size w w' := fun v h1 h2 h3 => (@sym_ok _ (DBelow_up_t_k b1 b2 b3) _ (@KnowOk.of _ (DBelow_up_t_k b1 b2 b3) _ hops hcalls) (by kernel_rfl) _ _ _ _ h1 rfl h2 _ hG).mono fun e w' h => ⟨h.1.trans h3, h.2⟩
  clear hops hcalls
  cases b2 with
  | true =>
    have h2 : okP (rM n x) (rQ n x) = true := i2.1 rfl
    cases b1 with
    | true =>
      exact absurd (i1.1 rfl) ((by omega))
    | false =>
      have h1 : ¬ (rT n x > 1023) := fun c => Bool.false_ne_true (i1.2 c)
      cases b3 with
      | true =>
        have h3 : rQ n x - x ≤ 0 := i3.1 rfl
        exact fin _ (DBelow_up_t_r1) rfl (show Ending.returned (.tuple #[.float .f64 (mkW true (rM n x) (rQ n x)), .int .i64 0]) = .returned (.tuple #[.float .f64 (rnd true n x (upBelow true n x)), .int .i64 0]) from by rw [upBelow_f (rM_up h hu).2, rnd_f, mkW_ok h2])
      | false =>
        exact absurd (i3.2 ((by omega))) Bool.false_ne_true
  | false =>
    exact absurd (i2.2 (okP_lt (rM_b (x := x) (odd_ne hn.2.1)).1)) Bool.false_ne_true

@[reducible] def DBelow_dn_t_f : FuncId := 30
@[reducible] def DBelow_dn_t_a : List AV := [.agg [.lit (.bool true), .sym 0, .sym 1]]
@[reducible] noncomputable def DBelow_dn_t_k (b1 b2 b3 b4 b5 b6 : Bool) : Know := ⟨[([0, 15, 3], [.sym 2, .lit (.int .i64 1023)], .lit (.bool b1)),
  ([0, 1, 3], [.sym 3, .sym 1], .sym 4),
  ([1, 0, 3], [.sym 4], .sym 5),
  ([0, 14, 3], [.sym 4, .lit (.int .i64 0)], .lit (.bool b2)),
  ([0, 1, 3], [.sym 4, .lit (.int .i64 1)], .sym 8),
  ([0, 11, 5], [.sym 9, .lit (.int .u8 0)], .lit (.bool b3)),
  ([0, 5, 80], [.sym 7, .lit (.int .u64 1)], .sym 10),
  ([0, 11, 80], [.sym 10, .lit (.int .u64 1)], .lit (.bool b4)),
  ([0, 0, 80], [.sym 7, .lit (.int .u64 1)], .sym 11),
  ([0, 11, 3], [.sym 4, .lit (.int .i64 1)], .lit (.bool b6))],
  [(15, [.agg [.lit (.bool true), .sym 0, .sym 1]], .lit (.int .i64 0)),
  (13, [.agg [.lit (.bool true), .sym 0, .sym 1]], .tup [.sym 2, .lit (.bool true)]),
  (107, [.sym 2], .sym 3),
  (65, [.sym 0, .sym 5], .tup [.sym 6, .lit (.int .i64 0)]),
  (108, [.sym 6], .tup [.sym 7, .lit (.bool true)]),
  (130, [.sym 0, .sym 8], .tup [.sym 9, .lit (.int .i64 0)]),
  (128, [.lit (.bool true), .sym 11, .sym 3], .tup [.sym 12, .lit (.bool b5)])]⟩
theorem DBelow_dn_t_r1 (b6 : Bool) : @comes (DBelow_dn_t_k false false true true true b6) Tryd.prog glT 3000 DBelow_dn_t_f DBelow_dn_t_a = some (.tup [.sym 12, .lit (.int .i64 0)]) := by kernel_rfl
theorem DBelow_dn_t_r2 (b6 : Bool) : @comes (DBelow_dn_t_k false false true true false b6) Tryd.prog glT 3000 DBelow_dn_t_f DBelow_dn_t_a = some (.lit (.tuple #[.float .f64 18442240474082181120, .int .i64 0])) := by kernel_rfl
theorem DBelow_dn_t_r3 (b6 : Bool) : @comes (DBelow_dn_t_k false false true false true b6) Tryd.prog glT 3000 DBelow_dn_t_f DBelow_dn_t_a = some (.tup [.sym 12, .lit (.int .i64 0)]) := by kernel_rfl
theorem DBelow_dn_t_r4 (b6 : Bool) : @comes (DBelow_dn_t_k false false true false false b6) Tryd.prog glT 3000 DBelow_dn_t_f DBelow_dn_t_a = some (.lit (.tuple #[.float .f64 18442240474082181120, .int .i64 0])) := by kernel_rfl
theorem DBelow_dn_t_r5 : @comes (DBelow_dn_t_k false false false true true true) Tryd.prog glT 3000 DBelow_dn_t_f DBelow_dn_t_a = some (.tup [.sym 12, .lit (.int .i64 0)]) := by kernel_rfl
theorem DBelow_dn_t_r6 : @comes (DBelow_dn_t_k false false false true false true) Tryd.prog glT 3000 DBelow_dn_t_f DBelow_dn_t_a = some (.lit (.tuple #[.float .f64 18442240474082181120, .int .i64 0])) := by kernel_rfl
theorem DBelow_dn_t_r7 : @comes (DBelow_dn_t_k false false false false true true) Tryd.prog glT 3000 DBelow_dn_t_f DBelow_dn_t_a = some (.tup [.sym 12, .lit (.int .i64 0)]) := by kernel_rfl
theorem DBelow_dn_t_r8 : @comes (DBelow_dn_t_k false false false false false true) Tryd.prog glT 3000 DBelow_dn_t_f DBelow_dn_t_a = some (.lit (.tuple #[.float .f64 18442240474082181120, .int .i64 0])) := by kernel_rfl
theorem DBelow_dn_t_r9 : @comes (DBelow_dn_t_k false false false true true false) Tryd.prog glT 3000 DBelow_dn_t_f DBelow_dn_t_a = some (.tup [.sym 12, .lit (.int .i64 0)]) := by kernel_rfl
theorem DBelow_dn_t_r10 : @comes (DBelow_dn_t_k false false false true false false) Tryd.prog glT 3000 DBelow_dn_t_f DBelow_dn_t_a = some (.lit (.tuple #[.float .f64 18442240474082181120, .int .i64 0])) := by kernel_rfl
theorem DBelow_dn_t_r11 : @comes (DBelow_dn_t_k false false false false true false) Tryd.prog glT 3000 DBelow_dn_t_f DBelow_dn_t_a = some (.tup [.sym 12, .lit (.int .i64 0)]) := by kernel_rfl
theorem DBelow_dn_t_r12 : @comes (DBelow_dn_t_k false false false false false false) Tryd.prog glT 3000 DBelow_dn_t_f DBelow_dn_t_a = some (.lit (.tuple #[.float .f64 18442240474082181120, .int .i64 0])) := by kernel_rfl

set_option maxRecDepth 100000 in
set_option maxHeartbeats 4000000 in
theorem DBelow_dn_t (n : Nat) (x : Int) (w : World) (hn : (Dy.mk true n x).Num) (h : ¬ 1024 ≤ rT n x) (hu : ¬ rQ n x ≤ x) (hG : Globs glT w) : Calls Tryd.prog 30 #[.agg #[.bool true, .string (natS n), .int .i64 x]] w fun e w' => e = .returned (.tuple #[.float .f64 (rnd true n x (upBelow true n x)), .int .i64 0]) ∧ Below w.heap.size w w' := by
  obtain ⟨b1, i1⟩ := bex (rT n x > 1023)
  obtain ⟨b2, i2⟩ := bex (rQ n x - x ≤ 0)
  obtain ⟨b3, i3⟩ := bex (((rB n x : Nat) : Int) = 0)
  obtain ⟨b4, i4⟩ := bex (((rM n x % 2 : Nat) : Int) = 1)
  obtain ⟨b5, i5⟩ := bex (okP (rM n x + 1) (rQ n x) = true)
  obtain ⟨b6, i6⟩ := bex (rQ n x - x = 1)
  letI : Env := mkEnv glT [.string (natS n), .int .i64 x, .int .i64 (rT n x), .int .i64 (rQ n x), .int .i64 (rQ n x - x), .int .i64 (-(rQ n x - x)), .string (natS (rM n x)), .int .u64 (((rM n x : Nat) : Int)), .int .i64 (rQ n x - x - 1), .int .u8 (((rB n x : Nat) : Int)), .int .u64 (((rM n x % 2 : Nat) : Int)), .int .u64 (((rM n x + 1 : Nat) : Int)), .float .f64 (mkW true (rM n x + 1) (rQ n x))] rfl
  have hops : OpsT Tryd.prog (@Know.ops (DBelow_dn_t_k b1 b2 b3 b4 b5 b6)) := ⟨opt_gtr_i rfl rfl i1,
    opt_sub rfl rfl rfl rfl rfl (by have := (rQ_b n x); have := hn.2.2.1; have := hn.2.2.2; simp only at *; omega),
    opt_neg rfl rfl rfl rfl (by have := (rQ_b n x); have := hn.2.2.1; have := hn.2.2.2; simp only at *; omega),
    opt_leq_i rfl rfl i2,
    opt_sub rfl rfl rfl rfl rfl (by have := (rQ_b n x); have := hn.2.2.1; have := hn.2.2.2; simp only at *; omega),
    opt_eql_i rfl rfl i3,
    opt_odd rfl rfl rfl rfl (by have : rM n x < 9007199254740992 := (rM_b (x := x) (odd_ne hn.2.1)).1; omega),
    opt_eql_i rfl rfl i4,
    opt_add64 (y := 1) rfl rfl rfl rfl rfl (by have : rM n x < 9007199254740992 := (rM_b (x := x) (odd_ne hn.2.1)).1; omega),
    opt_eql_i rfl rfl i6,
    trivial⟩
  have hcalls : CallsT Tryd.prog (@Know.calls (DBelow_dn_t_k b1 b2 b3 b4 b5 b6)) := ⟨callt rfl rfl fun w hG => DCheck_dyr (Dy.mk true n x) (Or.inr hn) w,
    callt rfl rfl fun w hG => DTop_r true n x w hn,
    callt rfl rfl fun w hG => Least_r true n x w hn h,
    callt rfl rfl fun w hG => NShift_r true n x w hn h,
    callt rfl rfl fun w hG => NSmall_r true n x w hn,
    callt rfl rfl fun w hG => NBit_r true n x w hn hu,
    callt rfl rfl fun w hG => bMake_i true (rM n x + 1) (rQ n x) w (rM_b (x := x) (odd_ne hn.2.1)).1 (rQ_b n x).1 (rQ_b n x).2 ((rM_b (x := x) (odd_ne hn.2.1)).2.imp (fun h => Nat.le_succ_of_le h) id) i5 hG,
    trivial⟩
  have fin : ∀ v, @comes (DBelow_dn_t_k b1 b2 b3 b4 b5 b6) Tryd.prog glT 3000 DBelow_dn_t_f DBelow_dn_t_a = some v → ground v = true → Ending.returned (gval v) = .returned (.tuple #[.float .f64 (rnd true n x (upBelow true n x)), .int .i64 0]) → Calls Tryd.prog 30 #[.agg #[.bool true, .string (natS n), .int .i64 x]] w fun e w' => e = .returned (.tuple #[.float .f64 (rnd true n x (upBelow true n x)), .int .i64 0]) ∧ Below w.heap.size w w' := fun v h1 h2 h3 => (@sym_ok _ (DBelow_dn_t_k b1 b2 b3 b4 b5 b6) _ (@KnowOk.of _ (DBelow_dn_t_k b1 b2 b3 b4 b5 b6) _ hops hcalls) (by kernel_rfl) _ _ _ _ h1 rfl h2 _ hG).mono fun e w' h => ⟨h.1.trans h3, h.2⟩
  clear hops hcalls
  cases b3 with
  | true =>
    have h3 : ((rB n x : Nat) : Int) = 0 := i3.1 rfl
    cases b4 with
    | true =>
      have h4 : ((rM n x % 2 : Nat) : Int) = 1 := i4.1 rfl
      cases b5 with
      | true =>
        have h5 : okP (rM n x + 1) (rQ n x) = true := i5.1 rfl
        cases b1 with
        | true =>
          exact absurd (i1.1 rfl) ((by omega))
        | false =>
          have h1 : ¬ (rT n x > 1023) := fun c => Bool.false_ne_true (i1.2 c)
          cases b2 with
          | true =>
            exact absurd (i2.1 rfl) ((by omega))
          | false =>
            have h2 : ¬ (rQ n x - x ≤ 0) := fun c => Bool.false_ne_true (i2.2 c)
            exact fin _ (DBelow_dn_t_r1 b6) rfl (show Ending.returned (.tuple #[.float .f64 (mkW true (rM n x + 1) (rQ n x)), .int .i64 0]) = .returned (.tuple #[.float .f64 (rnd true n x (upBelow true n x)), .int .i64 0]) from by rw [upBelow_t (by rw [(show rW n x = 1 from (by rw [rW_dn hn h hu, if_pos (by have := h3; omega)]))]; decide), rnd_t, mkW_ok h5])
      | false =>
        have h5 : ¬ (okP (rM n x + 1) (rQ n x) = true) := fun c => Bool.false_ne_true (i5.2 c)
        cases b1 with
        | true =>
          exact absurd (i1.1 rfl) ((by omega))
        | false =>
          have h1 : ¬ (rT n x > 1023) := fun c => Bool.false_ne_true (i1.2 c)
          cases b2 with
          | true =>
            exact absurd (i2.1 rfl) ((by omega))
          | false =>
            have h2 : ¬ (rQ n x - x ≤ 0) := fun c => Bool.false_ne_true (i2.2 c)
            exact fin _ (DBelow_dn_t_r2 b6) rfl (show Ending.returned (.tuple #[.float .f64 18442240474082181120, .int .i64 0]) = .returned (.tuple #[.float .f64 (rnd true n x (upBelow true n x)), .int .i64 0]) from by rw [upBelow_t (by rw [(show rW n x = 1 from (by rw [rW_dn hn h hu, if_pos (by have := h3; omega)]))]; decide), rnd_t, inf_t h5])
    | false =>
      have h4 : ¬ (((rM n x % 2 : Nat) : Int) = 1) := fun c => Bool.false_ne_true (i4.2 c)
      cases b5 with
      | true =>
        have h5 : okP (rM n x + 1) (rQ n x) = true := i5.1 rfl
        cases b1 with
        | true =>
          exact absurd (i1.1 rfl) ((by omega))
        | false =>
          have h1 : ¬ (rT n x > 1023) := fun c => Bool.false_ne_true (i1.2 c)
          cases b2 with
          | true =>
            exact absurd (i2.1 rfl) ((by omega))
          | false =>
            have h2 : ¬ (rQ n x - x ≤ 0) := fun c => Bool.false_ne_true (i2.2 c)
            exact fin _ (DBelow_dn_t_r3 b6) rfl (show Ending.returned (.tuple #[.float .f64 (mkW true (rM n x + 1) (rQ n x)), .int .i64 0]) = .returned (.tuple #[.float .f64 (rnd true n x (upBelow true n x)), .int .i64 0]) from by rw [upBelow_t (by rw [(show rW n x = 1 from (by rw [rW_dn hn h hu, if_pos (by have := h3; omega)]))]; decide), rnd_t, mkW_ok h5])
      | false =>
        have h5 : ¬ (okP (rM n x + 1) (rQ n x) = true) := fun c => Bool.false_ne_true (i5.2 c)
        cases b1 with
        | true =>
          exact absurd (i1.1 rfl) ((by omega))
        | false =>
          have h1 : ¬ (rT n x > 1023) := fun c => Bool.false_ne_true (i1.2 c)
          cases b2 with
          | true =>
            exact absurd (i2.1 rfl) ((by omega))
          | false =>
            have h2 : ¬ (rQ n x - x ≤ 0) := fun c => Bool.false_ne_true (i2.2 c)
            exact fin _ (DBelow_dn_t_r4 b6) rfl (show Ending.returned (.tuple #[.float .f64 18442240474082181120, .int .i64 0]) = .returned (.tuple #[.float .f64 (rnd true n x (upBelow true n x)), .int .i64 0]) from by rw [upBelow_t (by rw [(show rW n x = 1 from (by rw [rW_dn hn h hu, if_pos (by have := h3; omega)]))]; decide), rnd_t, inf_t h5])
  | false =>
    have h3 : ¬ (((rB n x : Nat) : Int) = 0) := fun c => Bool.false_ne_true (i3.2 c)
    cases b6 with
    | true =>
      have h6 : rQ n x - x = 1 := i6.1 rfl
      cases b4 with
      | true =>
        have h4 : ((rM n x % 2 : Nat) : Int) = 1 := i4.1 rfl
        cases b5 with
        | true =>
          have h5 : okP (rM n x + 1) (rQ n x) = true := i5.1 rfl
          cases b1 with
          | true =>
            exact absurd (i1.1 rfl) ((by omega))
          | false =>
            have h1 : ¬ (rT n x > 1023) := fun c => Bool.false_ne_true (i1.2 c)
            cases b2 with
            | true =>
              exact absurd (i2.1 rfl) ((by omega))
            | false =>
              have h2 : ¬ (rQ n x - x ≤ 0) := fun c => Bool.false_ne_true (i2.2 c)
              exact fin _ (DBelow_dn_t_r5) rfl (show Ending.returned (.tuple #[.float .f64 (mkW true (rM n x + 1) (rQ n x)), .int .i64 0]) = .returned (.tuple #[.float .f64 (rnd true n x (upBelow true n x)), .int .i64 0]) from by rw [upBelow_t (by rw [(show rW n x = 2 from (by rw [rW_dn hn h hu, if_neg (fun c => h3 (by rw [c]; rfl)), if_pos h6]))]; decide), rnd_t, mkW_ok h5])
        | false =>
          have h5 : ¬ (okP (rM n x + 1) (rQ n x) = true) := fun c => Bool.false_ne_true (i5.2 c)
          cases b1 with
          | true =>
            exact absurd (i1.1 rfl) ((by omega))
          | false =>
            have h1 : ¬ (rT n x > 1023) := fun c => Bool.false_ne_true (i1.2 c)
            cases b2 with
            | true =>
              exact absurd (i2.1 rfl) ((by omega))
            | false =>
              have h2 : ¬ (rQ n x - x ≤ 0) := fun c => Bool.false_ne_true (i2.2 c)
              exact fin _ (DBelow_dn_t_r6) rfl (show Ending.returned (.tuple #[.float .f64 18442240474082181120, .int .i64 0]) = .returned (.tuple #[.float .f64 (rnd true n x (upBelow true n x)), .int .i64 0]) from by rw [upBelow_t (by rw [(show rW n x = 2 from (by rw [rW_dn hn h hu, if_neg (fun c => h3 (by rw [c]; rfl)), if_pos h6]))]; decide), rnd_t, inf_t h5])
      | false =>
        have h4 : ¬ (((rM n x % 2 : Nat) : Int) = 1) := fun c => Bool.false_ne_true (i4.2 c)
        cases b5 with
        | true =>
          have h5 : okP (rM n x + 1) (rQ n x) = true := i5.1 rfl
          cases b1 with
          | true =>
            exact absurd (i1.1 rfl) ((by omega))
          | false =>
            have h1 : ¬ (rT n x > 1023) := fun c => Bool.false_ne_true (i1.2 c)
            cases b2 with
            | true =>
              exact absurd (i2.1 rfl) ((by omega))
            | false =>
              have h2 : ¬ (rQ n x - x ≤ 0) := fun c => Bool.false_ne_true (i2.2 c)
              exact fin _ (DBelow_dn_t_r7) rfl (show Ending.returned (.tuple #[.float .f64 (mkW true (rM n x + 1) (rQ n x)), .int .i64 0]) = .returned (.tuple #[.float .f64 (rnd true n x (upBelow true n x)), .int .i64 0]) from by rw [upBelow_t (by rw [(show rW n x = 2 from (by rw [rW_dn hn h hu, if_neg (fun c => h3 (by rw [c]; rfl)), if_pos h6]))]; decide), rnd_t, mkW_ok h5])
        | false =>
          have h5 : ¬ (okP (rM n x + 1) (rQ n x) = true) := fun c => Bool.false_ne_true (i5.2 c)
          cases b1 with
          | true =>
            exact absurd (i1.1 rfl) ((by omega))
          | false =>
            have h1 : ¬ (rT n x > 1023) := fun c => Bool.false_ne_true (i1.2 c)
            cases b2 with
            | true =>
              exact absurd (i2.1 rfl) ((by omega))
            | false =>
              have h2 : ¬ (rQ n x - x ≤ 0) := fun c => Bool.false_ne_true (i2.2 c)
              exact fin _ (DBelow_dn_t_r8) rfl (show Ending.returned (.tuple #[.float .f64 18442240474082181120, .int .i64 0]) = .returned (.tuple #[.float .f64 (rnd true n x (upBelow true n x)), .int .i64 0]) from by rw [upBelow_t (by rw [(show rW n x = 2 from (by rw [rW_dn hn h hu, if_neg (fun c => h3 (by rw [c]; rfl)), if_pos h6]))]; decide), rnd_t, inf_t h5])
    | false =>
      have h6 : ¬ (rQ n x - x = 1) := fun c => Bool.false_ne_true (i6.2 c)
      cases b4 with
      | true =>
        have h4 : ((rM n x % 2 : Nat) : Int) = 1 := i4.1 rfl
        cases b5 with
        | true =>
          have h5 : okP (rM n x + 1) (rQ n x) = true := i5.1 rfl
          cases b1 with
          | true =>
            exact absurd (i1.1 rfl) ((by omega))
          | false =>
            have h1 : ¬ (rT n x > 1023) := fun c => Bool.false_ne_true (i1.2 c)
            cases b2 with
            | true =>
              exact absurd (i2.1 rfl) ((by omega))
            | false =>
              have h2 : ¬ (rQ n x - x ≤ 0) := fun c => Bool.false_ne_true (i2.2 c)
              exact fin _ (DBelow_dn_t_r9) rfl (show Ending.returned (.tuple #[.float .f64 (mkW true (rM n x + 1) (rQ n x)), .int .i64 0]) = .returned (.tuple #[.float .f64 (rnd true n x (upBelow true n x)), .int .i64 0]) from by rw [upBelow_t (by rw [(show rW n x = 3 from (by rw [rW_dn hn h hu, if_neg (fun c => h3 (by rw [c]; rfl)), if_neg h6]))]; decide), rnd_t, mkW_ok h5])
        | false =>
          have h5 : ¬ (okP (rM n x + 1) (rQ n x) = true) := fun c => Bool.false_ne_true (i5.2 c)
          cases b1 with
          | true =>
            exact absurd (i1.1 rfl) ((by omega))
          | false =>
            have h1 : ¬ (rT n x > 1023) := fun c => Bool.false_ne_true (i1.2 c)
            cases b2 with
            | true =>
              exact absurd (i2.1 rfl) ((by omega))
            | false =>
              have h2 : ¬ (rQ n x - x ≤ 0) := fun c => Bool.false_ne_true (i2.2 c)
              exact fin _ (DBelow_dn_t_r10) rfl (show Ending.returned (.tuple #[.float .f64 18442240474082181120, .int .i64 0]) = .returned (.tuple #[.float .f64 (rnd true n x (upBelow true n x)), .int .i64 0]) from by rw [upBelow_t (by rw [(show rW n x = 3 from (by rw [rW_dn hn h hu, if_neg (fun c => h3 (by rw [c]; rfl)), if_neg h6]))]; decide), rnd_t, inf_t h5])
      | false =>
        have h4 : ¬ (((rM n x % 2 : Nat) : Int) = 1) := fun c => Bool.false_ne_true (i4.2 c)
        cases b5 with
        | true =>
          have h5 : okP (rM n x + 1) (rQ n x) = true := i5.1 rfl
          cases b1 with
          | true =>
            exact absurd (i1.1 rfl) ((by omega))
          | false =>
            have h1 : ¬ (rT n x > 1023) := fun c => Bool.false_ne_true (i1.2 c)
            cases b2 with
            | true =>
              exact absurd (i2.1 rfl) ((by omega))
            | false =>
              have h2 : ¬ (rQ n x - x ≤ 0) := fun c => Bool.false_ne_true (i2.2 c)
              exact fin _ (DBelow_dn_t_r11) rfl (show Ending.returned (.tuple #[.float .f64 (mkW true (rM n x + 1) (rQ n x)), .int .i64 0]) = .returned (.tuple #[.float .f64 (rnd true n x (upBelow true n x)), .int .i64 0]) from by rw [upBelow_t (by rw [(show rW n x = 3 from (by rw [rW_dn hn h hu, if_neg (fun c => h3 (by rw [c]; rfl)), if_neg h6]))]; decide), rnd_t, mkW_ok h5])
        | false =>
          have h5 : ¬ (okP (rM n x + 1) (rQ n x) = true) := fun c => Bool.false_ne_true (i5.2 c)
          cases b1 with
          | true =>
            exact absurd (i1.1 rfl) ((by omega))
          | false =>
            have h1 : ¬ (rT n x > 1023) := fun c => Bool.false_ne_true (i1.2 c)
            cases b2 with
            | true =>
              exact absurd (i2.1 rfl) ((by omega))
            | false =>
              have h2 : ¬ (rQ n x - x ≤ 0) := fun c => Bool.false_ne_true (i2.2 c)
              exact fin _ (DBelow_dn_t_r12) rfl (show Ending.returned (.tuple #[.float .f64 18442240474082181120, .int .i64 0]) = .returned (.tuple #[.float .f64 (rnd true n x (upBelow true n x)), .int .i64 0]) from by rw [upBelow_t (by rw [(show rW n x = 3 from (by rw [rW_dn hn h hu, if_neg (fun c => h3 (by rw [c]; rfl)), if_neg h6]))]; decide), rnd_t, inf_t h5])

theorem DBelow_t (n : Nat) (x : Int) (w : World) (hn : (Dy.mk true n x).Num) (hG : Globs glT w) : Calls Tryd.prog 30 #[.agg #[.bool true, .string (natS n), .int .i64 x]] w fun e w' => e = .returned (.tuple #[.float .f64 (rnd true n x (upBelow true n x)), .int .i64 0]) ∧ Below w.heap.size w w' := by
  by_cases h : 1024 ≤ rT n x
  · exact DBelow_far_t n x w hn h hG
  · by_cases hu : rQ n x ≤ x
    · exact DBelow_up_t n x w hn h hu hG
    · exact DBelow_dn_t n x w hn h hu hG
end Go.Proofs.YtjkonfopajihdaaDoor
set_option linter.unusedSimpArgs false
set_option linter.unusedVariables false
namespace Go.Proofs.YtjkonfopajihdaaDoor
open Go Go.RowKit Nt

set_option maxRecDepth 100000 in
set_option maxHeartbeats 2000000 in
theorem DyadShifts_bad (a : Dt) (k l : Int) (w : World) (ha : a.s.size ≤ 9223372036854775807) (hn : ¬ a.Ok) (hG : Globs glT w) :
    Calls Tryd.prog 9 #[.agg #[.bool a.g, .string a.s, .int .i64 a.x], .int .i64 k, .int .i64 l] w fun e w' => e = .returned (.bool true) ∧ Below w.heap.size w w' := by
  have K1 := Lib.hid (fun w => DShift_bad a k w ha hn)
  have K2 := Lib.hid (fun w => DFloor_bad a l w ha hn)
  have K3 := Lib.hid (fun w => rMayT_no a w ha hn)
  have T0 := OB.start w a
  have HG := Lib.hid hG
  clear ha hn hG
  go_enter Tryd.func9, Tryd.ntmps9
  go_wp2_with fail
  refine (K1.out _).mono ?_
  rintro e v1 ⟨rfl, hb⟩
  replace T0 := T0.step hb
  clear hb
  obtain ⟨p0, p1, p2, p3, p4, p5, p6⟩ := T0.2.facts
  go_wp2_with fail
  refine (K2.out _).mono ?_
  rintro e v2 ⟨rfl, hb⟩
  replace T0 := (T0.more (.cells #[.bool false, .string ⟨#[]⟩, .int .i64 0] 24)).step hb
  have X1 := (Box3.new v1 (.bool false) (.string ⟨#[]⟩) (.int .i64 0)).step hb
  obtain ⟨B1, hB1⟩ : ∃ B, B = v1.heap.size := ⟨_, rfl⟩
  rw [← hB1] at X1 ⊢
  clear hB1
  clear hb p0 p1 p2 p3 p4 p5 p6
  obtain ⟨p0, p1, p2, p3, p4, p5, p6⟩ := T0.2.facts
  obtain ⟨m0_0, m0_1, m0_2, m0_3, m0_4, m0_5, m0_6⟩ := X1.facts
  go_wp2_with fail
  refine (K3.out _).mono ?_
  rintro e v3 ⟨rfl, hb⟩
  replace X1 := (X1.more (.cells #[.bool false, .string ⟨#[]⟩, .int .i64 0] 24)).step hb
  replace T0 := (T0.more (.cells #[.bool false, .string ⟨#[]⟩, .int .i64 0] 24)).step hb
  have X2 := (Box3.new v2 (.bool false) (.string ⟨#[]⟩) (.int .i64 0)).step hb
  obtain ⟨B2, hB2⟩ : ∃ B, B = v2.heap.size := ⟨_, rfl⟩
  rw [← hB2] at X2 ⊢
  clear hB2
  clear hb p0 p1 p2 p3 p4 p5 p6 m0_0 m0_1 m0_2 m0_3 m0_4 m0_5 m0_6
  obtain ⟨p0, p1, p2, p3, p4, p5, p6⟩ := T0.2.facts
  obtain ⟨m0_0, m0_1, m0_2, m0_3, m0_4, m0_5, m0_6⟩ := X1.facts
  obtain ⟨m1_0, m1_1, m1_2, m1_3, m1_4, m1_5, m1_6⟩ := X2.facts
  go_wp2_with fail
  refine (nothing_c _).mono ?_
  rintro e v4 ⟨rfl, hb⟩
  replace X1 := X1.step hb
  replace X2 := X2.step hb
  replace T0 := T0.step hb
  clear hb p0 p1 p2 p3 p4 p5 p6 m0_0 m0_1 m0_2 m0_3 m0_4 m0_5 m0_6 m1_0 m1_1 m1_2 m1_3 m1_4 m1_5 m1_6
  obtain ⟨p0, p1, p2, p3, p4, p5, p6⟩ := T0.2.facts
  obtain ⟨m0_0, m0_1, m0_2, m0_3, m0_4, m0_5, m0_6⟩ := X1.facts
  obtain ⟨m1_0, m1_1, m1_2, m1_3, m1_4, m1_5, m1_6⟩ := X2.facts
  go_wp2_with fail
  refine (nothing_c _).mono ?_
  rintro e v5 ⟨rfl, hb⟩
  replace X1 := X1.step hb
  replace X2 := X2.step hb
  replace T0 := T0.step hb
  clear hb p0 p1 p2 p3 p4 p5 p6 m0_0 m0_1 m0_2 m0_3 m0_4 m0_5 m0_6 m1_0 m1_1 m1_2 m1_3 m1_4 m1_5 m1_6
  obtain ⟨p0, p1, p2, p3, p4, p5, p6⟩ := T0.2.facts
  obtain ⟨m0_0, m0_1, m0_2, m0_3, m0_4, m0_5, m0_6⟩ := X1.facts
  obtain ⟨m1_0, m1_1, m1_2, m1_3, m1_4, m1_5, m1_6⟩ := X2.facts
  go_wp2_with fail
  refine (awake3_c _ (HG.out.below T0.1 (Nat.le_refl _))).mono ?_
  rintro e v6 ⟨rfl, hb⟩
  replace X1 := X1.step hb
  replace X2 := X2.step hb
  replace T0 := T0.step hb
  clear hb p0 p1 p2 p3 p4 p5 p6 m0_0 m0_1 m0_2 m0_3 m0_4 m0_5 m0_6 m1_0 m1_1 m1_2 m1_3 m1_4 m1_5 m1_6
  obtain ⟨p0, p1, p2, p3, p4, p5, p6⟩ := T0.2.facts
  obtain ⟨m0_0, m0_1, m0_2, m0_3, m0_4, m0_5, m0_6⟩ := X1.facts
  obtain ⟨m1_0, m1_1, m1_2, m1_3, m1_4, m1_5, m1_6⟩ := X2.facts
  go_wp2_with fail
  go_ret
  exact ⟨rfl, T0.1⟩
set_option maxRecDepth 100000 in
set_option maxHeartbeats 2000000 in
theorem DyadShifts_ok (a : Dy) (k l : Int) (w : World) (ha : a.Ok) (hG : Globs glT w) :
    Calls Tryd.prog 9 #[.agg #[.bool a.g, .string (natS a.n), .int .i64 a.x], .int .i64 k, .int .i64 l] w fun e w' => e = .returned (.bool true) ∧ Below w.heap.size w w' := by
  have K1 := Lib.hid (fun w => DShift_c a k w ha)
  have K2 := Lib.hid (fun w => DFloor_c a l w ha)
  have K3 := Lib.hid (fun w => rMayT_ok a w ha)
  have K4 := Lib.hid (fun w => rShift3_c a k w ha)
  have K5 := Lib.hid (fun w => rFloor3_c a l w ha)
  unfold ShPost at K1 K4
  unfold FlPost3 at K2 K5
  have T0 := OB.start w a.t
  unfold Dy.t at T0
  have HG := Lib.hid hG
  clear ha hG
  generalize shD a k = D1 at *
  generalize shE a k = E1 at *
  generalize flD a l = D2 at *
  generalize flE a l = E2 at *
  go_enter Tryd.func9, Tryd.ntmps9
  go_wp2_with fail
  refine (K1.out _).mono ?_
  rintro e v1 ⟨rfl, hb⟩
  replace T0 := T0.step hb
  clear hb
  obtain ⟨p0, p1, p2, p3, p4, p5, p6⟩ := T0.2.facts
  unfold Dy.v
  go_wp2_with fail
  refine (K2.out _).mono ?_
  rintro e v2 ⟨rfl, hb⟩
  replace T0 := (T0.more (.cells #[.bool D1.g, .string (natS D1.n), .int .i64 D1.x] 24)).step hb
  have X1 := (Box3.new v1 (.bool D1.g) (.string (natS D1.n)) (.int .i64 D1.x)).step hb
  obtain ⟨B1, hB1⟩ : ∃ B, B = v1.heap.size := ⟨_, rfl⟩
  rw [← hB1] at X1 ⊢
  clear hB1
  clear hb p0 p1 p2 p3 p4 p5 p6
  obtain ⟨p0, p1, p2, p3, p4, p5, p6⟩ := T0.2.facts
  obtain ⟨m0_0, m0_1, m0_2, m0_3, m0_4, m0_5, m0_6⟩ := X1.facts
  unfold Dy.v
  go_wp2_with fail
  refine (K3.out _).mono ?_
  rintro e v3 ⟨rfl, hb⟩
  replace X1 := (X1.more (.cells #[.bool D2.g, .string (natS D2.n), .int .i64 D2.x] 24)).step hb
  replace T0 := (T0.more (.cells #[.bool D2.g, .string (natS D2.n), .int .i64 D2.x] 24)).step hb
  have X2 := (Box3.new v2 (.bool D2.g) (.string (natS D2.n)) (.int .i64 D2.x)).step hb
  obtain ⟨B2, hB2⟩ : ∃ B, B = v2.heap.size := ⟨_, rfl⟩
  rw [← hB2] at X2 ⊢
  clear hB2
  clear hb p0 p1 p2 p3 p4 p5 p6 m0_0 m0_1 m0_2 m0_3 m0_4 m0_5 m0_6
  obtain ⟨p0, p1, p2, p3, p4, p5, p6⟩ := T0.2.facts
  obtain ⟨m0_0, m0_1, m0_2, m0_3, m0_4, m0_5, m0_6⟩ := X1.facts
  obtain ⟨m1_0, m1_1, m1_2, m1_3, m1_4, m1_5, m1_6⟩ := X2.facts
  go_wp2_with fail
  refine (K4.out _).mono ?_
  rintro e v4 ⟨rfl, hb⟩
  replace X1 := X1.step hb
  replace X2 := X2.step hb
  replace T0 := T0.step hb
  clear hb p0 p1 p2 p3 p4 p5 p6 m0_0 m0_1 m0_2 m0_3 m0_4 m0_5 m0_6 m1_0 m1_1 m1_2 m1_3 m1_4 m1_5 m1_6
  obtain ⟨p0, p1, p2, p3, p4, p5, p6⟩ := T0.2.facts
  obtain ⟨m0_0, m0_1, m0_2, m0_3, m0_4, m0_5, m0_6⟩ := X1.facts
  obtain ⟨m1_0, m1_1, m1_2, m1_3, m1_4, m1_5, m1_6⟩ := X2.facts
  unfold Dy.v
  go_wp2_with fail
  refine (K5.out _).mono ?_
  rintro e v5 ⟨rfl, hb⟩
  replace X1 := (X1.more (.cells #[.bool D1.g, .string (natS D1.n), .int .i64 D1.x] 24)).step hb
  replace X2 := (X2.more (.cells #[.bool D1.g, .string (natS D1.n), .int .i64 D1.x] 24)).step hb
  replace T0 := (T0.more (.cells #[.bool D1.g, .string (natS D1.n), .int .i64 D1.x] 24)).step hb
  have X3 := (Box3.new v4 (.bool D1.g) (.string (natS D1.n)) (.int .i64 D1.x)).step hb
  obtain ⟨B3, hB3⟩ : ∃ B, B = v4.heap.size := ⟨_, rfl⟩
  rw [← hB3] at X3 ⊢
  clear hB3
  clear hb p0 p1 p2 p3 p4 p5 p6 m0_0 m0_1 m0_2 m0_3 m0_4 m0_5 m0_6 m1_0 m1_1 m1_2 m1_3 m1_4 m1_5 m1_6
  obtain ⟨p0, p1, p2, p3, p4, p5, p6⟩ := T0.2.facts
  obtain ⟨m0_0, m0_1, m0_2, m0_3, m0_4, m0_5, m0_6⟩ := X1.facts
  obtain ⟨m1_0, m1_1, m1_2, m1_3, m1_4, m1_5, m1_6⟩ := X2.facts
  obtain ⟨m2_0, m2_1, m2_2, m2_3, m2_4, m2_5, m2_6⟩ := X3.facts
  unfold Dy.v
  go_wp2_with fail
  refine (awake3_c _ (HG.out.below (T0.more _).1 (Nat.le_refl _))).mono ?_
  rintro e v6 ⟨rfl, hb⟩
  replace X1 := (X1.more (.cells #[.bool D2.g, .string (natS D2.n), .int .i64 D2.x] 24)).step hb
  replace X2 := (X2.more (.cells #[.bool D2.g, .string (natS D2.n), .int .i64 D2.x] 24)).step hb
  replace X3 := (X3.more (.cells #[.bool D2.g, .string (natS D2.n), .int .i64 D2.x] 24)).step hb
  replace T0 := (T0.more (.cells #[.bool D2.g, .string (natS D2.n), .int .i64 D2.x] 24)).step hb
  have X4 := (Box3.new v5 (.bool D2.g) (.string (natS D2.n)) (.int .i64 D2.x)).step hb
  obtain ⟨B4, hB4⟩ : ∃ B, B = v5.heap.size := ⟨_, rfl⟩
  rw [← hB4] at X4 ⊢
  clear hB4
  clear hb p0 p1 p2 p3 p4 p5 p6 m0_0 m0_1 m0_2 m0_3 m0_4 m0_5 m0_6 m1_0 m1_1 m1_2 m1_3 m1_4 m1_5 m1_6 m2_0 m2_1 m2_2 m2_3 m2_4 m2_5 m2_6
  obtain ⟨p0, p1, p2, p3, p4, p5, p6⟩ := T0.2.facts
  obtain ⟨m0_0, m0_1, m0_2, m0_3, m0_4, m0_5, m0_6⟩ := X1.facts
  obtain ⟨m1_0, m1_1, m1_2, m1_3, m1_4, m1_5, m1_6⟩ := X2.facts
  obtain ⟨m2_0, m2_1, m2_2, m2_3, m2_4, m2_5, m2_6⟩ := X3.facts
  obtain ⟨m3_0, m3_1, m3_2, m3_3, m3_4, m3_5, m3_6⟩ := X4.facts
  go_wp2_with fail
  go_ret
  exact ⟨rfl, T0.1⟩
theorem DyadShifts_law (g1 : Bool) (s1 : ByteArray) (x1 k l : Int) (w : World) (h1 : s1.size ≤ 9223372036854775807) (hG : Globs glT w) :
    Calls Tryd.prog 9 #[.agg #[.bool g1, .string s1, .int .i64 x1], .int .i64 k, .int .i64 l] w fun e w' => e = .returned (.bool true) ∧ Below w.heap.size w w' := by
  by_cases ha : (Dt.mk g1 s1 x1).Ok
  · obtain ⟨a, ha1, ha2⟩ := Dt.dy ha
    unfold Dy.t at ha2
    injection ha2 with e1 e2 e3
    subst e1 e2 e3
    exact DyadShifts_ok a k l w ha1 hG
  · exact DyadShifts_bad ⟨g1, s1, x1⟩ k l w h1 ha hG
end Go.Proofs.YtjkonfopajihdaaDoor
set_option linter.unusedSimpArgs false
set_option linter.unusedVariables false
namespace Go.Proofs.YtjkonfopajihdaaDoor
open Go Go.RowKit Nt

@[irreducible] def EE : Nat := 4194304
theorem EE_eq : EE = 4194304 := by unfold EE; rfl
/-- The value times 2 to the power EE. -/
def iv (d : Dy) : Int := sgnd d.g (d.n * 2 ^ (d.x + EE).toNat)
theorem iv_zero : iv Dy.zero = 0 := by
  unfold iv Dy.zero sgnd
  simp
theorem sgnd_abs (g : Bool) (m : Nat) : (sgnd g m).natAbs = m := by unfold sgnd; cases g <;> simp
theorem sgnd_neg {g : Bool} {m : Nat} (h : m ≠ 0) : decide (sgnd g m < 0) = g := by unfold sgnd; cases g <;> simp <;> omega
/-- What is made of a whole number over 2 to the power k. -/
def mkZ (z : Int) (k : Nat) : Dy := mkD (decide (z < 0)) z.natAbs (-(k : Int))
def mkZE (z : Int) (k : Nat) : Int := mkE z.natAbs (-(k : Int))
theorem mk_toZ (g : Bool) (n : Nat) (x : Int) (k : Nat) (h : -(k : Int) ≤ x) : mkD g n x = mkZ (sgnd g (n * 2 ^ (x + k).toNat)) k ∧ mkE n x = mkZE (sgnd g (n * 2 ^ (x + k).toNat)) k := by
  obtain ⟨j, hj⟩ : ∃ j, j = (x + k).toNat := ⟨_, rfl⟩
  rw [← hj]
  have e : -(k : Int) = x - (j : Int) := by omega
  have hs := mkD_shift g n j x
  unfold mkZ mkZE
  rw [sgnd_abs, e, hs.2]
  by_cases h0 : n = 0
  · subst h0; rw [Nat.zero_mul, mkD_zero, mkD_zero]; exact ⟨rfl, rfl⟩
  · have h1 : n * 2 ^ j ≠ 0 := Nat.mul_ne_zero h0 (Nat.pos_iff_ne_zero.1 (Nat.two_pow_pos j))
    rw [sgnd_neg h1, hs.1]; exact ⟨rfl, rfl⟩
theorem mkZ_scale (z : Int) (k m : Nat) : mkZ z k = mkZ (z * 2 ^ m) (k + m) ∧ mkZE z k = mkZE (z * 2 ^ m) (k + m) := by
  have hp : (0 : Int) < 2 ^ m := Int.pow_pos (by omega)
  have h := mk_toZ (decide (z < 0)) z.natAbs (-(k : Int)) (k + m) (by omega)
  have e : sgnd (decide (z < 0)) (z.natAbs * 2 ^ (-(k : Int) + ((k + m : Nat) : Int)).toNat) = z * 2 ^ m := by
    rw [show (-(k : Int) + ((k + m : Nat) : Int)).toNat = m by omega]
    unfold sgnd
    rw [Int.natCast_mul, Int.natCast_pow]
    by_cases hz : z < 0
    · rw [decide_eq_true hz, if_pos rfl, ← Int.neg_mul]
      rw [show -((z.natAbs : Nat) : Int) = z by omega]; rfl
    · rw [decide_eq_false hz, if_neg (by decide), show ((z.natAbs : Nat) : Int) = z by omega]; rfl
  rw [e] at h
  exact h
theorem mkZE_b (z : Int) (k : Nat) : mkZE z k = 0 ∨ mkZE z k = 4 := by
  unfold mkZE
  by_cases h : mkOk3 z.natAbs (-(k : Int))
  · exact Or.inl (mkE_ok h)
  · exact Or.inr (mkE_no h)
/-- A Dyad is made of its value. -/
theorem iv_mk {d : Dy} (h : d.Ok) : mkZ (iv d) EE = d ∧ mkZE (iv d) EE = 0 := by
  rcases h with rfl | h
  · rw [iv_zero]; unfold mkZ mkZE; exact ⟨mkD_zero _ _, mkE_zero _⟩
  · have h1 := mkD_self h
    have h2 := mk_toZ d.g d.n d.x EE (by rw [EE_eq]; have := h.2.2; omega)
    unfold iv
    rw [← h2.1, ← h2.2]; exact h1
theorem iv_inj {a b : Dy} (ha : a.Ok) (hb : b.Ok) (h : iv a = iv b) : a = b := by
  rw [← (iv_mk ha).1, h, (iv_mk hb).1]
/-- What is made where that may be has just that value. -/
theorem mk_iv {z : Int} (h : mkZE z EE = 0) : iv (mkZ z EE) = z := by
  have hk : mkOk3 z.natAbs (-(EE : Int)) := by
    by_cases c : mkOk3 z.natAbs (-(EE : Int))
    · exact c
    · unfold mkZE at h; rw [mkE_no c] at h; exact absurd h (by decide)
  unfold mkZ
  by_cases h0 : z.natAbs = 0
  · have : z = 0 := by omega
    subst this
    rw [show (0 : Int).natAbs = 0 from rfl, mkD_zero, iv_zero]
  · rw [mkD_ok h0 hk]
    unfold iv
    show sgnd (decide (z < 0)) (odN z.natAbs * 2 ^ (-(EE : Int) + (lowN z.natAbs : Int) + (EE : Int)).toNat) = z
    rw [show (-(EE : Int) + (lowN z.natAbs : Int) + (EE : Int)).toNat = lowN z.natAbs by omega, ← (odN_spec h0).2]
    unfold sgnd
    by_cases hz : z < 0
    · rw [decide_eq_true hz, if_pos rfl]; omega
    · rw [decide_eq_false hz, if_neg (by decide)]; omega
/-- And over another power. -/
theorem mk_iv2 {z : Int} {m : Nat} (h : mkZE z (EE + m) = 0) : iv (mkZ z (EE + m)) * 2 ^ m = z := by
  have hk : mkOk3 z.natAbs (-((EE + m : Nat) : Int)) := by
    by_cases c : mkOk3 z.natAbs (-((EE + m : Nat) : Int))
    · exact c
    · unfold mkZE at h; rw [mkE_no c] at h; exact absurd h (by decide)
  unfold mkZ
  by_cases h0 : z.natAbs = 0
  · have : z = 0 := by omega
    subst this
    rw [show (0 : Int).natAbs = 0 from rfl, mkD_zero, iv_zero, Int.zero_mul]
  · rw [mkD_ok h0 hk]
    have hx : -1048576 ≤ -((EE + m : Nat) : Int) + (lowN z.natAbs : Int) := by
      rcases hk with c | ⟨_, c, _⟩
      · exact absurd c h0
      · exact c
    obtain ⟨q, hq⟩ : ∃ q, lowN z.natAbs = q + m := ⟨lowN z.natAbs - m, by rw [EE_eq] at hx; omega⟩
    unfold iv
    show sgnd (decide (z < 0)) (odN z.natAbs * 2 ^ (-((EE + m : Nat) : Int) + (lowN z.natAbs : Int) + (EE : Int)).toNat) * 2 ^ m = z
    rw [show (-((EE + m : Nat) : Int) + (lowN z.natAbs : Int) + (EE : Int)).toNat = q by omega]
    have e : odN z.natAbs * 2 ^ q * 2 ^ m = z.natAbs := by rw [Nat.mul_assoc, ← Nat.pow_add, ← hq]; exact (odN_spec h0).2.symm
    have e2 : ((odN z.natAbs * 2 ^ q : Nat) : Int) * 2 ^ m = (z.natAbs : Int) := by
      have := congrArg (fun (x : Nat) => (x : Int)) e
      rw [Int.natCast_mul, Int.natCast_pow] at this
      exact this
    unfold sgnd
    by_cases hz : z < 0
    · rw [decide_eq_true hz, if_pos rfl, Int.neg_mul, e2]; omega
    · rw [decide_eq_false hz, if_neg (by decide), e2]; omega
theorem iv_neg (d : Dy) : iv (negD d) = - iv d := by
  unfold negD
  by_cases h : d.n = 0
  · rw [if_pos h]; unfold iv sgnd; rw [h, Nat.zero_mul]; cases d.g <;> rfl
  · rw [if_neg h]; unfold iv sgnd; cases d.g <;> simp
/-- A sum is made of the sum of the values. -/
theorem hi_iv {p q : Dy} (hp : p.Num) (hq : q.Num) (hle : q.x ≤ p.x) : hiD p q = mkZ (iv p + iv q) EE ∧ hiE p q = mkZE (iv p + iv q) EE := by
  obtain ⟨j, hj⟩ : ∃ j, j = (q.x + EE).toNat := ⟨_, rfl⟩
  have hqx := hq.2.2
  have hpx := hp.2.2
  have hjq : q.x = (j : Int) - (EE : Int) := by rw [EE_eq] at *; omega
  obtain ⟨i, hi⟩ : ∃ i, i = (p.x - q.x).toNat := ⟨_, rfl⟩
  have hpe : (p.x + EE).toNat = i + j := by omega
  have hup : upN p q = p.n * 2 ^ i := by rw [upN_eq, ← hi]
  have e1 := sum_mk p.g q.g (upN p q) q.n q.x
  have e2 := sum_abs p.g q.g (upN p q) q.n
  have h := mk_toZ (decide (sgnd p.g (upN p q) + sgnd q.g q.n < 0)) (sgnd p.g (upN p q) + sgnd q.g q.n).natAbs q.x EE (by rw [EE_eq]; omega)
  rw [← hj] at h
  rw [hiD_eq, hiE_eq, ← e1, ← e2, h.1, h.2]
  have hmain : sgnd (decide (sgnd p.g (upN p q) + sgnd q.g q.n < 0)) ((sgnd p.g (upN p q) + sgnd q.g q.n).natAbs * 2 ^ j) = iv p + iv q := by
    have hs : ∀ z : Int, sgnd (decide (z < 0)) (z.natAbs * 2 ^ j) = z * 2 ^ j := fun z => by
      unfold sgnd
      rw [Int.natCast_mul, Int.natCast_pow]
      by_cases hz : z < 0
      · rw [decide_eq_true hz, if_pos rfl, ← Int.neg_mul, show -((z.natAbs : Nat) : Int) = z by omega]; rfl
      · rw [decide_eq_false hz, if_neg (by decide), show ((z.natAbs : Nat) : Int) = z by omega]; rfl
    rw [hs, Int.add_mul]
    unfold iv
    rw [hpe, ← hj, hup]
    have hg : ∀ (g : Bool) (m : Nat), sgnd g m * 2 ^ j = sgnd g (m * 2 ^ j) := fun g m => by
      unfold sgnd
      rw [Int.natCast_mul, Int.natCast_pow]
      cases g
      · rfl
      · rw [if_pos rfl, if_pos rfl, Int.neg_mul]; rfl
    rw [hg, hg, Nat.mul_assoc, ← Nat.pow_add]
  rw [hmain]; exact ⟨rfl, rfl⟩
theorem add_iv {a b : Dy} (ha : a.Ok) (hb : b.Ok) : addD a b = mkZ (iv a + iv b) EE ∧ addE a b = mkZE (iv a + iv b) EE := by
  rcases ha with rfl | ha
  · have h := iv_mk hb
    rw [(add_zl (a := Dy.zero) (b := b) rfl).1, (add_zl (a := Dy.zero) (b := b) rfl).2, iv_zero, Int.zero_add]
    exact ⟨h.1.symm, h.2.symm⟩
  · rcases hb with rfl | hb
    · have h := iv_mk (Or.inr ha)
      rw [(add_zr (a := a) (b := Dy.zero) (odd_ne ha.2.1) rfl).1, (add_zr (a := a) (b := Dy.zero) (odd_ne ha.2.1) rfl).2, iv_zero, Int.add_zero]
      exact ⟨h.1.symm, h.2.symm⟩
    · by_cases h : a.x < b.x
      · rw [(add_lt (odd_ne ha.2.1) (odd_ne hb.2.1) h).1, (add_lt (odd_ne ha.2.1) (odd_ne hb.2.1) h).2, Int.add_comm]
        exact hi_iv hb ha (by omega)
      · rw [(add_ge (odd_ne ha.2.1) (odd_ne hb.2.1) h).1, (add_ge (odd_ne ha.2.1) (odd_ne hb.2.1) h).2]
        exact hi_iv ha hb (by omega)
theorem sgnd_mul (g h : Bool) (m n : Nat) : sgnd g m * sgnd h n = sgnd (g != h) (m * n) := by
  unfold sgnd; cases g <;> cases h <;> simp [Int.mul_neg, Int.neg_mul]
/-- A product is made of the product of the values. -/
theorem mul_iv {a b : Dy} (ha : a.Ok) (hb : b.Ok) : mulD a b = mkZ (iv a * iv b) (EE + EE) ∧ mulE a b = mkZE (iv a * iv b) (EE + EE) := by
  have hax : -1048576 ≤ a.x := by
    rcases ha with rfl | h
    · show (-1048576 : Int) ≤ 0; decide
    · exact h.2.2.1
  have hbx : -1048576 ≤ b.x := by
    rcases hb with rfl | h
    · show (-1048576 : Int) ≤ 0; decide
    · exact h.2.2.1
  have h := mk_toZ (a.g != b.g) (a.n * b.n) (a.x + b.x) (EE + EE) (by rw [EE_eq]; omega)
  rw [mulD_eq, mulE_eq, h.1, h.2]
  unfold iv
  rw [sgnd_mul, show (a.x + b.x + ((EE + EE : Nat) : Int)).toNat = (a.x + (EE : Int)).toNat + (b.x + (EE : Int)).toNat by rw [EE_eq]; omega, Nat.pow_add]
  have e : a.n * b.n * (2 ^ (a.x + (EE : Int)).toNat * 2 ^ (b.x + (EE : Int)).toNat) = a.n * 2 ^ (a.x + (EE : Int)).toNat * (b.n * 2 ^ (b.x + (EE : Int)).toNat) := by
    simp only [Nat.mul_assoc, Nat.mul_left_comm]
  rw [e]; exact ⟨rfl, rfl⟩
theorem sgnd_f (m : Nat) : sgnd false m = (m : Int) := rfl
theorem sgnd_t (m : Nat) : sgnd true m = -(m : Int) := rfl
def sgI (z : Int) : Int := if z < 0 then -1 else if 0 < z then 1 else 0
theorem iv_pos {d : Dy} (h : d.Num) : 0 < d.n * 2 ^ (d.x + (EE : Int)).toNat := Nat.mul_pos (Nat.pos_of_ne_zero (odd_ne h.2.1)) (Nat.two_pow_pos _)
theorem sgD_iv {d : Dy} (h : d.Ok) : sgD d = sgI (iv d) := by
  rcases h with rfl | h
  · rw [sgD_zero, iv_zero]; rfl
  · have hp := iv_pos h
    rw [sgD_num (odd_ne h.2.1)]
    unfold iv
    generalize d.n * 2 ^ (d.x + (EE : Int)).toNat = m at *
    unfold sgI
    cases d.g
    · rw [sgn_f, sgnd_f, if_neg (by omega), if_pos (by omega)]
    · rw [sgn_t, sgnd_t, if_pos (by omega)]
theorem cmp_mul (a b c : Nat) (hc : 0 < c) : cmpN (a * c) (b * c) = cmpN a b := by
  rcases Nat.lt_trichotomy a b with h | h | h
  · rw [cmpN_lt h, cmpN_lt (Nat.mul_lt_mul_of_pos_right h hc)]
  · rw [h, cmpN_eq, cmpN_eq]
  · rw [cmpN_gt h, cmpN_gt (Nat.mul_lt_mul_of_pos_right h hc)]
/-- The magnitudes' order is that of the values. -/
theorem mag_iv {a b : Dy} (ha : a.Num) (hb : b.Num) : magC a b = cmpN (a.n * 2 ^ (a.x + (EE : Int)).toNat) (b.n * 2 ^ (b.x + (EE : Int)).toNat) := by
  have hax := ha.2.2
  have hbx := hb.2.2
  obtain ⟨i, hi⟩ : ∃ i, i = (a.x + (EE : Int)).toNat := ⟨_, rfl⟩
  obtain ⟨j, hj⟩ : ∃ j, j = (b.x + (EE : Int)).toNat := ⟨_, rfl⟩
  have hie : a.x = (i : Int) - (EE : Int) := by rw [EE_eq] at *; omega
  have hje : b.x = (j : Int) - (EE : Int) := by rw [EE_eq] at *; omega
  have na := nd_mul_pow (j := i) (odd_ne ha.2.1)
  have nb := nd_mul_pow (j := j) (odd_ne hb.2.1)
  rw [← hi, ← hj]
  rcases Int.lt_trichotomy (topD a) (topD b) with h | h | h
  · rw [magC_lt h]
    rw [topD_eq, topD_eq] at h
    exact (cmpN_lt (lt_of_nd (b := 2) (by omega) (by omega))).symm
  · rw [magC_eq h, upN_eq, upN_eq]
    by_cases hx : j ≤ i
    · rw [show (a.x - b.x).toNat = i - j by omega, show (b.x - a.x).toNat = 0 by omega, Nat.pow_zero, Nat.mul_one, ← cmp_mul _ _ (2 ^ j) (Nat.two_pow_pos j), Nat.mul_assoc, ← Nat.pow_add, show i - j + j = i by omega]
    · rw [show (a.x - b.x).toNat = 0 by omega, show (b.x - a.x).toNat = j - i by omega, Nat.pow_zero, Nat.mul_one, ← cmp_mul _ _ (2 ^ i) (Nat.two_pow_pos i), Nat.mul_assoc, ← Nat.pow_add, show j - i + i = j by omega]
  · rw [magC_gt h]
    rw [topD_eq, topD_eq] at h
    exact (cmpN_gt (lt_of_nd (b := 2) (by omega) (by omega))).symm
/-- The order is that of the values. -/
theorem cmp_iv {a b : Dy} (ha : a.Ok) (hb : b.Ok) : cmpD a b = sgI (iv a - iv b) := by
  have sa := sgD_iv ha
  have sb := sgD_iv hb
  rcases Int.lt_trichotomy (sgD a) (sgD b) with h | h | h
  · rw [cmpD_lt h]
    rw [sa, sb] at h
    unfold sgI at h ⊢
    rw [if_pos (by split at h <;> split at h <;> (try split at h) <;> (try split at h) <;> omega)]
  · by_cases h0 : sgD a = 0
    · rw [cmpD_zero h h0, Dy.zero_of ha h0, Dy.zero_of hb (h ▸ h0), iv_zero]; rfl
    · rw [cmpD_eq h h0]
      have na := Dy.num_of ha h0
      have nb := Dy.num_of hb (h ▸ h0)
      rw [mag_iv na nb, sgD_num (odd_ne na.2.1)]
      have hg : sgnI a.g = sgnI b.g := by rw [← sgD_num (odd_ne na.2.1), ← sgD_num (odd_ne nb.2.1)]; exact h
      have hg2 : a.g = b.g := by
        revert hg
        cases a.g <;> cases b.g <;> simp [sgn_t, sgn_f]
      unfold iv
      rw [← hg2]
      generalize a.n * 2 ^ (a.x + (EE : Int)).toNat = m
      generalize b.n * 2 ^ (b.x + (EE : Int)).toNat = n
      unfold sgI
      rcases Nat.lt_trichotomy m n with c | c | c
      · rw [cmpN_lt c]
        cases a.g
        · rw [sgn_f, sgnd_f, sgnd_f, if_pos (by omega)]; rfl
        · rw [sgn_t, sgnd_t, sgnd_t, if_neg (by omega), if_pos (by omega)]; rfl
      · rw [c, cmpN_eq, Int.mul_zero, if_neg (by omega), if_neg (by omega)]
      · rw [cmpN_gt c]
        cases a.g
        · rw [sgn_f, sgnd_f, sgnd_f, if_neg (by omega), if_pos (by omega)]; rfl
        · rw [sgn_t, sgnd_t, sgnd_t, if_pos (by omega)]; rfl
  · rw [cmpD_gt h]
    rw [sa, sb] at h
    unfold sgI at h ⊢
    rw [if_neg (by split at h <;> split at h <;> (try split at h) <;> (try split at h) <;> omega), if_pos (by split at h <;> split at h <;> (try split at h) <;> (try split at h) <;> omega)]
end Go.Proofs.YtjkonfopajihdaaDoor
/-! What DyadRing says, of numbers alone. -/
set_option autoImplicit false
namespace Go.Proofs.YtjkonfopajihdaaDoor
open Go
theorem iv_add {a b : Dy} (ha : a.Ok) (hb : b.Ok) (h : addE a b = 0) : iv (addD a b) = iv a + iv b := by
  have e := add_iv ha hb
  rw [e.1]; rw [e.2] at h; exact mk_iv h
theorem iv_mul {a b : Dy} (ha : a.Ok) (hb : b.Ok) (h : mulE a b = 0) : iv (mulD a b) * 2 ^ EE = iv a * iv b := by
  have e := mul_iv ha hb
  rw [e.1]; rw [e.2] at h; exact mk_iv2 h
theorem add_comm3 {a b : Dy} (ha : a.Ok) (hb : b.Ok) : addD a b = addD b a ∧ addE a b = addE b a := by
  rw [(add_iv ha hb).1, (add_iv ha hb).2, (add_iv hb ha).1, (add_iv hb ha).2, Int.add_comm]; exact ⟨rfl, rfl⟩
theorem mul_comm3 {a b : Dy} (ha : a.Ok) (hb : b.Ok) : mulD a b = mulD b a ∧ mulE a b = mulE b a := by
  rw [(mul_iv ha hb).1, (mul_iv ha hb).2, (mul_iv hb ha).1, (mul_iv hb ha).2, Int.mul_comm]; exact ⟨rfl, rfl⟩
theorem sgI_zero {z : Int} : sgI z = 0 ↔ z = 0 := by
  unfold sgI
  by_cases h : z < 0
  · rw [if_pos h]; omega
  · rw [if_neg h]
    by_cases h2 : 0 < z
    · rw [if_pos h2]; omega
    · rw [if_neg h2]; omega
theorem mul_sg {a b : Dy} (ha : a.Ok) (hb : b.Ok) (h : mulE a b = 0) : sgD (mulD a b) = 0 ↔ (sgD a = 0 ∨ sgD b = 0) := by
  rw [sgD_iv ha, sgD_iv hb, sgD_iv (mulD_Ok a b), sgI_zero, sgI_zero, sgI_zero]
  have e := iv_mul ha hb h
  have hp : (2 : Int) ^ EE ≠ 0 := Int.pow_ne_zero (by decide)
  constructor
  · intro h0
    rw [h0, Int.zero_mul] at e
    exact Int.mul_eq_zero.mp e.symm
  · intro h0
    have : iv a * iv b = 0 := Int.mul_eq_zero.mpr h0
    rw [this] at e
    exact (Int.mul_eq_zero.mp e).resolve_right hp
theorem sub_back {a b : Dy} (ha : a.Ok) (hb : b.Ok) (h : addE a b = 0) : addD (addD a b) (negD b) = a ∧ addE (addD a b) (negD b) = 0 := by
  have e := add_iv (add_Ok ha hb) (negD_Ok hb)
  rw [e.1, e.2, iv_neg, iv_add ha hb h, show iv a + iv b + -iv b = iv a by omega]
  exact iv_mk ha
theorem sub_cmp {a b : Dy} (ha : a.Ok) (hb : b.Ok) (h : addE a (negD b) = 0) : sgD (addD a (negD b)) = cmpD a b := by
  rw [sgD_iv (add_Ok ha (negD_Ok hb)), iv_add ha (negD_Ok hb) h, iv_neg, cmp_iv ha hb, Int.sub_eq_add_neg]
theorem distr {a b c : Dy} (ha : a.Ok) (hb : b.Ok) (hc : c.Ok) (h1 : addE a b = 0) (h2 : mulE (addD a b) c = 0) (h3 : mulE a c = 0) (h4 : mulE b c = 0) (h5 : addE (mulD a c) (mulD b c) = 0) :
    mulD (addD a b) c = addD (mulD a c) (mulD b c) := by
  have hp : (2 : Int) ^ EE ≠ 0 := Int.pow_ne_zero (by decide)
  have e1 := iv_mul (add_Ok ha hb) hc h2
  rw [iv_add ha hb h1, Int.add_mul, ← iv_mul ha hc h3, ← iv_mul hb hc h4, ← Int.add_mul, ← iv_add (mulD_Ok a c) (mulD_Ok b c) h5] at e1
  exact iv_inj (mulD_Ok _ _) (add_Ok (mulD_Ok _ _) (mulD_Ok _ _)) (Int.eq_of_mul_eq_mul_right hp e1)
theorem cmp_le {a b : Dy} (ha : a.Ok) (hb : b.Ok) (h : iv a ≤ iv b) : cmpD a b ≤ 0 := by
  rw [cmp_iv ha hb]; unfold sgI
  by_cases h2 : iv a - iv b < 0
  · rw [if_pos h2]; decide
  · rw [if_neg h2, if_neg (by omega)]; decide
theorem cmp_gt {a b : Dy} (ha : a.Ok) (hb : b.Ok) (h : iv b < iv a) : 0 < cmpD a b := by
  rw [cmp_iv ha hb]; unfold sgI
  rw [if_neg (by omega), if_pos (by omega)]; decide
/-- A number that Make makes, by its value. -/
theorem iv_made {g : Bool} {n : Nat} {x : Int} (hx : -1048576 ≤ x) (h : mkE n x = 0) : iv (mkD g n x) = sgnd g (n * 2 ^ (x + (EE : Int)).toNat) := by
  have e := mk_toZ g n x EE (by rw [EE_eq]; omega)
  rw [e.1]; rw [e.2] at h; exact mk_iv h
theorem made_x {g : Bool} {n : Nat} {x : Int} (h : mkE n x = 0) : mkD g n x = Dy.zero ∨ x ≤ (mkD g n x).x := by
  by_cases h0 : n = 0
  · left; rw [h0, mkD_zero]
  · right
    have hk : mkOk3 n x := Classical.byContradiction fun c => absurd (h.symm.trans (mkE_no c)) (by decide)
    rw [mkD_ok h0 hk]
    show x ≤ x + (lowN n : Int)
    omega
theorem fl_nums (n Q P : Nat) (ho : n % 2 = 1) (hQ : Q % 2 = 0) (hQ0 : 0 < Q) (hP : 0 < P) :
    n / Q * (Q * P) ≤ n * P ∧ n * P < n / Q * (Q * P) + Q * P ∧ n / Q * (Q * P) < n * P := by
  have h1 : n / Q * Q + n % Q = n := by rw [Nat.mul_comm]; exact Nat.div_add_mod n Q
  have h2 := Nat.mod_lt n hQ0
  have h3 : 0 < n % Q := by
    apply Nat.pos_of_ne_zero
    intro c
    rw [c, Nat.add_zero] at h1
    have : n % 2 = 0 := by rw [← h1, Nat.mul_mod, hQ, Nat.mul_zero, Nat.zero_mod]
    omega
  have e : n * P = n / Q * (Q * P) + n % Q * P := by
    conv => lhs; rw [← h1, Nat.add_mul, Nat.mul_assoc]
  have l1 : n % Q * P < Q * P := Nat.mul_lt_mul_of_pos_right h2 hP
  have l2 : 0 < n % Q * P := Nat.mul_pos h3 hP
  rw [e]
  refine ⟨Nat.le_add_right _ _, Nat.add_lt_add_left l1 _, Nat.lt_add_of_pos_right l2⟩
theorem fl_iv {a : Dy} {k : Int} (ha : a.Ok) (h : flE a k = 0) (h1 : mkE 1 k = 0) : iv (flD a k) ≤ iv a ∧ iv a < iv (flD a k) + iv (mkD false 1 k) ∧ (flD a k = Dy.zero ∨ k ≤ (flD a k).x) := by
  by_cases hr : k < -1048576 ∨ 1048576 < k
  · rw [(fl_out hr).2] at h; exact absurd h (by decide)
  · have hk : -1048576 ≤ k := by omega
    rw [iv_made hk h1, sgnd_f]
    by_cases h2 : a.n = 0 ∨ k ≤ a.x
    · rw [(fl_self hr h2).1]
      have hp : 0 < 1 * 2 ^ (k + (EE : Int)).toNat := Nat.mul_pos (by decide) (Nat.two_pow_pos _)
      generalize 1 * 2 ^ (k + (EE : Int)).toNat = q at *
      refine ⟨Int.le_refl _, by omega, ?_⟩
      rcases ha with ha | ha
      · exact Or.inl ha
      · rcases h2 with h2 | h2
        · exact absurd h2 (odd_ne ha.2.1)
        · exact Or.inr h2
    · have hN : a.Num := by
        rcases ha with rfl | ha
        · exact absurd (Or.inl rfl) h2
        · exact ha
      have hx : a.x < k := by omega
      rw [(fl_mk hr h2).2] at h
      rw [(fl_mk hr h2).1]
      refine (and_assoc.mp ⟨?_, made_x h⟩)
      rw [iv_made hk h]
      unfold iv flN
      have hx1 := hN.2.2.1
      obtain ⟨j, hj⟩ : ∃ j, j = (k - a.x).toNat := ⟨_, rfl⟩
      have hj0 : 0 < j := by omega
      rw [show (k + (EE : Int)).toNat = j + (a.x + (EE : Int)).toNat by rw [EE_eq]; omega, Nat.pow_add, ← hj]
      have hQ : 2 ^ j % 2 = 0 := by
        obtain ⟨i, rfl⟩ : ∃ i, j = i + 1 := ⟨j - 1, by omega⟩
        rw [Nat.pow_succ, Nat.mul_mod_left]
      have F := fl_nums a.n (2 ^ j) (2 ^ (a.x + (EE : Int)).toNat) hN.2.1 hQ (Nat.two_pow_pos _) (Nat.two_pow_pos _)
      clear h hx hj hQ
      generalize 2 ^ j = Q at *
      generalize 2 ^ (a.x + (EE : Int)).toNat = P at *
      cases a.g
      · rw [sgnd_f, sgnd_f, if_neg (by decide), Nat.add_zero, Nat.one_mul]
        generalize a.n / Q * (Q * P) = A at *
        generalize a.n * P = B at *
        generalize Q * P = C at *
        omega
      · rw [sgnd_t, sgnd_t, if_pos rfl, Nat.one_mul, Nat.add_mul, Nat.one_mul]
        generalize a.n / Q * (Q * P) = A at *
        generalize a.n * P = B at *
        generalize Q * P = C at *
        omega
theorem ring_floor {a : Dy} {k : Int} (ha : a.Ok) (h : flE a k = 0) (h1 : mkE 1 k = 0) (h2 : addE (flD a k) (mkD false 1 k) = 0) (hl : (flD a k).Ok) :
    cmpD (flD a k) a ≤ 0 ∧ 0 < cmpD (addD (flD a k) (mkD false 1 k)) a ∧ (flD a k = Dy.zero ∨ k ≤ (flD a k).x) := by
  have F := fl_iv ha h h1
  have ho := mkD_Ok false 1 k
  refine ⟨cmp_le hl ha F.1, cmp_gt (add_Ok hl ho) ha ?_, F.2.2⟩
  rw [iv_add hl ho h2]; exact F.2.1
end Go.Proofs.YtjkonfopajihdaaDoor
namespace Go.Proofs.YtjkonfopajihdaaDoor.Bt.Ff
open Ieee

theorem cut_exact (s : Bool) (n : Nat) : Toward.even.cut s n 0 = n := by
  unfold Toward.cut
  simp [Nat.mod_one]
theorem nearest_mid (f : Format) (s : Bool) (m : Nat) (p : Int) (h0 : m ≠ 0) (hl : max (p + m.log2 - f.fractionBits) f.leastPlace = p) :
    f.nearest s m p = f.word s (min ((p - f.leastPlace).toNat * f.binade + m) f.infRung) := by
  unfold Format.nearest
  rw [if_neg h0]
  simp only [hl, Int.sub_self, Int.toNat_zero, Nat.shiftLeft_zero, cut_exact]
/-- A finite word, read and written, is itself. -/
theorem write_read (f : Format) (hf : f.binade = 2 ^ f.fractionBits) (x : Nat) (hx : x / f.signWeight < 2) (hfin : x % f.signWeight < f.infRung) : f.write (f.read x) = x := by
  have hbp : 0 < f.binade := by rw [hf]; exact Nat.two_pow_pos _
  have hw : x = f.word (x / f.signWeight % 2 == 1) (x % f.signWeight) := by
    unfold Format.word
    have hd := Nat.div_add_mod x f.signWeight
    by_cases h : x / f.signWeight = 1
    · rw [h]; simp; rw [h] at hd; omega
    · have h0 : x / f.signWeight = 0 := by
        clear hd; generalize x / f.signWeight = q at hx h; omega
      rw [h0] at hd ⊢; simp; rw [Nat.mul_zero] at hd; omega
  unfold Format.read
  simp only
  by_cases h : x % f.signWeight < f.binade
  · rw [if_pos h]
    show f.nearest _ _ _ = x
    by_cases z : x % f.signWeight = 0
    · unfold Format.nearest; rw [if_pos z]; conv => rhs; rw [hw]
      rw [z]
    · have hl : (x % f.signWeight).log2 < f.fractionBits := (Nat.log2_lt z).2 (by rw [← hf]; exact h)
      rw [nearest_mid f _ _ _ z (by omega)]
      conv => rhs; rw [hw]
      congr 1
      rw [Int.sub_self]; simp; omega
  · rw [if_neg h, if_pos hfin]
    show f.nearest _ _ _ = x
    have hm := Nat.mod_lt (x % f.signWeight) hbp
    have z : f.binade + x % f.signWeight % f.binade ≠ 0 := by omega
    have hl1 : (f.binade + x % f.signWeight % f.binade).log2 = f.fractionBits := by
      rw [Nat.log2_eq_iff z, ← hf]
      refine ⟨by omega, ?_⟩
      rw [Nat.pow_succ, ← hf]; omega
    rw [nearest_mid f _ _ _ z (by rw [hl1]; omega)]
    conv => rhs; rw [hw]
    congr 1
    have hd := Nat.div_add_mod (x % f.signWeight) f.binade
    have hq : 1 ≤ x % f.signWeight / f.binade := (Nat.one_le_div_iff hbp).2 (by omega)
    have e : (f.leastPlace + ((x % f.signWeight / f.binade - 1 : Nat) : Int) - f.leastPlace).toNat = x % f.signWeight / f.binade - 1 := by omega
    rw [e]
    have e2 : (x % f.signWeight / f.binade - 1) * f.binade + (f.binade + x % f.signWeight % f.binade) = x % f.signWeight := by
      have : (x % f.signWeight / f.binade - 1) * f.binade + f.binade = x % f.signWeight / f.binade * f.binade := by
        rw [← Nat.succ_mul]; congr 1; omega
      rw [Nat.mul_comm] at hd
      omega
    rw [e2]; omega
theorem log2_shl {m : Nat} (h : m ≠ 0) (k : Nat) : (m <<< k).log2 = m.log2 + k := by
  have hp := Nat.two_pow_pos k
  rw [Nat.shiftLeft_eq, Nat.log2_eq_iff (by intro c; rcases Nat.mul_eq_zero.1 c with c | c <;> omega)]
  have h1 := (Nat.log2_eq_iff h).1 rfl
  refine ⟨?_, ?_⟩
  · rw [Nat.pow_add]; exact Nat.mul_le_mul_right _ h1.1
  · rw [show m.log2 + k + 1 = m.log2 + 1 + k by omega, Nat.pow_add]; exact Nat.mul_lt_mul_of_pos_right h1.2 hp
theorem cut_scale (s : Bool) {n : Nat} (h : n ≠ 0) (d k : Nat) : Toward.even.cut s (n <<< k) (d + k) = Toward.even.cut s n d := by
  have hp := Nat.two_pow_pos k
  unfold Toward.cut
  simp only [log2_shl h]
  rw [show min (d + k) (n.log2 + k + 2) = min d (n.log2 + 2) + k by omega]
  generalize min d (n.log2 + 2) = g
  simp only [Nat.shiftLeft_eq, Nat.one_mul, Nat.pow_add]
  have hg := Nat.two_pow_pos g
  rw [Nat.mul_div_mul_right _ _ hp, Nat.mul_mod_mul_right]
  have e1 : decide (2 ^ g * 2 ^ k < 2 * (n % 2 ^ g * 2 ^ k)) = decide (2 ^ g < 2 * (n % 2 ^ g)) := by
    rw [← Nat.mul_assoc, decide_eq_decide]; exact Nat.mul_lt_mul_right hp
  have e2 : (2 ^ g * 2 ^ k == 2 * (n % 2 ^ g * 2 ^ k)) = (2 ^ g == 2 * (n % 2 ^ g)) := by
    rw [← Nat.mul_assoc, Bool.eq_iff_iff, beq_iff_eq, beq_iff_eq]; exact Nat.mul_left_inj (by omega)
  rw [e1, e2]
/-- The same number by another place. -/
theorem nearest_shift (f : Format) (s : Bool) (m k : Nat) (e : Int) : f.nearest s (m <<< k) (e - k) = f.nearest s m e := by
  by_cases h : m = 0
  · subst h; unfold Format.nearest; rw [if_pos (by simp), if_pos rfl]
  · have h' : m <<< k ≠ 0 := by rw [Nat.shiftLeft_eq]; have := Nat.two_pow_pos k; intro c; rcases Nat.mul_eq_zero.1 c with c | c <;> omega
    unfold Format.nearest
    rw [if_neg h, if_neg h']
    simp only [log2_shl h]
    rw [show e - (k : Int) + ((m.log2 + k : Nat) : Int) - (f.fractionBits : Int) = e + (m.log2 : Int) - (f.fractionBits : Int) by omega]
    generalize max (e + (m.log2 : Int) - (f.fractionBits : Int)) f.leastPlace = last
    have key : Toward.even.cut s (m <<< k <<< (e - k - last).toNat) (last - (e - k)).toNat = Toward.even.cut s (m <<< (e - last).toNat) (last - e).toNat := by
      by_cases c1 : last ≤ e - k
      · rw [show (last - (e - k)).toNat = 0 by omega, show (last - e).toNat = 0 by omega, cut_exact, cut_exact, ← Nat.shiftLeft_add]
        congr 1; omega
      · by_cases c2 : last ≤ e
        · rw [show (e - k - last).toNat = 0 by omega, show (last - e).toNat = 0 by omega, cut_exact, Nat.shiftLeft_zero]
          have e3 : k = (e - last).toNat + (last - (e - k)).toNat := by omega
          have hm : m <<< (e - last).toNat ≠ 0 := by rw [Nat.shiftLeft_eq]; have := Nat.two_pow_pos (e - last).toNat; intro c; rcases Nat.mul_eq_zero.1 c with c | c <;> omega
          have q := cut_scale s hm 0 (last - (e - k)).toNat
          rw [Nat.zero_add, cut_exact, ← Nat.shiftLeft_add, ← e3] at q
          exact q
        · rw [show (e - k - last).toNat = 0 by omega, show (e - last).toNat = 0 by omega, Nat.shiftLeft_zero, Nat.shiftLeft_zero]
          rw [show (last - (e - k)).toNat = (last - e).toNat + k by omega]
          exact cut_scale s h _ k
    rw [key]
theorem shl_bd {m : Nat} (h : m ≠ 0) (hl : m.log2 ≤ 52) : 4503599627370496 ≤ m <<< (52 - m.log2) ∧ m <<< (52 - m.log2) < 9007199254740992 := by
  have h1 := (Nat.log2_eq_iff h).1 rfl
  have hp := Nat.two_pow_pos (52 - m.log2)
  rw [Nat.shiftLeft_eq]
  have e1 : 2 ^ m.log2 * 2 ^ (52 - m.log2) = 4503599627370496 := by rw [← Nat.pow_add, show m.log2 + (52 - m.log2) = 52 by omega]
  have e2 : 2 ^ (m.log2 + 1) * 2 ^ (52 - m.log2) = 9007199254740992 := by rw [← Nat.pow_add, show m.log2 + 1 + (52 - m.log2) = 53 by omega]
  refine ⟨?_, ?_⟩
  · rw [← e1]; exact Nat.mul_le_mul_right _ h1.1
  · rw [← e2]; exact Nat.mul_lt_mul_of_pos_right h1.2 hp
theorem word_rs (s : Bool) {r : Nat} (h : r < 9223372036854775808) : rung (double.word s r) = r ∧ sgn (double.word s r) = s := by
  unfold Format.word rung sgn; rw [sw]
  cases s
  · rw [if_neg (by decide)]; exact ⟨by omega, by rw [beq_eq_false_iff_ne]; omega⟩
  · rw [if_pos rfl]; exact ⟨by omega, by rw [beq_iff_eq]; omega⟩
/-- A number that double has, written and read. -/
theorem double_exact (s : Bool) {m : Nat} {e : Int} (h : m ≠ 0) (hl : m.log2 ≤ 52) (h1 : -1022 ≤ e + m.log2) (h2 : e + m.log2 ≤ 1023) :
    double.read (double.nearest s m e) = .number s (m <<< (52 - m.log2)) (e - ((52 - m.log2 : Nat) : Int)) := by
  obtain ⟨b1, b2⟩ := shl_bd h hl
  have hne : m <<< (52 - m.log2) ≠ 0 := by omega
  have hlog : (m <<< (52 - m.log2)).log2 = 52 := by rw [log2_shl h]; omega
  rw [← nearest_shift double s m (52 - m.log2) e]
  rw [nearest_mid double s _ _ hne (by rw [hlog, lp, show double.fractionBits = 52 from rfl]; omega)]
  rw [lp, bin, infr]
  generalize m <<< (52 - m.log2) = M at *
  obtain ⟨q, hq⟩ : ∃ q : Nat, e - ((52 - m.log2 : Nat) : Int) = -1074 + (q : Int) := ⟨(e - ((52 - m.log2 : Nat) : Int) + 1074).toNat, by omega⟩
  have hq2 : q ≤ 2045 := by omega
  rw [hq, show (-1074 + (q : Int) - -1074).toNat = q by omega]
  have hmin : min (q * 4503599627370496 + M) 9218868437227405312 = q * 4503599627370496 + M := by omega
  rw [hmin]
  obtain ⟨r1, r2⟩ := word_rs s (r := q * 4503599627370496 + M) (by omega)
  rw [read_eq, r1, r2, if_neg (by omega), if_pos (by omega)]
  congr 1
  · omega
  · omega
theorem single_facts : single.signWeight = 2147483648 ∧ single.infRung = 2139095040 ∧ single.binade = 8388608 ∧ single.leastPlace = -149 ∧ single.fractionBits = 23 := by decide
/-- A finite word of single, widened and narrowed. -/
theorem widen_fin {y : Nat} (hy : y < 4294967296) (hf : y % 2147483648 < 2139095040) :
    ∃ s m e, single.read y = .number s m e ∧ ∃ M p, double.read (double.write (.number s m e)) = .number s M p ∧ single.write (.number s M p) = y := by
  obtain ⟨f1, f2, f3, f4, f5⟩ := single_facts
  have hwr := write_read single rfl y (by rw [f1]; omega) (by rw [f1, f2]; exact hf)
  have hread : single.read y = if y % 2147483648 < 8388608 then .number (y / 2147483648 % 2 == 1) (y % 2147483648) (-149)
      else .number (y / 2147483648 % 2 == 1) (8388608 + y % 2147483648 % 8388608) (-149 + ((y % 2147483648 / 8388608 - 1 : Nat) : Int)) := by
    unfold Format.read; rw [f1, f2, f3, f4]; simp only
    by_cases h : y % 2147483648 < 8388608
    · rw [if_pos h, if_pos h]
    · rw [if_neg h, if_neg h, if_pos hf]
  rw [hread] at hwr ⊢
  obtain ⟨s, m, e, hn, hm, he1, he2⟩ : ∃ s m e, (if y % 2147483648 < 8388608 then Datum.number (y / 2147483648 % 2 == 1) (y % 2147483648) (-149)
      else .number (y / 2147483648 % 2 == 1) (8388608 + y % 2147483648 % 8388608) (-149 + ((y % 2147483648 / 8388608 - 1 : Nat) : Int))) = .number s m e ∧ m < 16777216 ∧ -149 ≤ e ∧ e ≤ 106 := by
    by_cases h : y % 2147483648 < 8388608
    · rw [if_pos h]; exact ⟨_, _, _, rfl, by omega, by omega, by omega⟩
    · rw [if_neg h]; exact ⟨_, _, _, rfl, by omega, by omega, by omega⟩
  rw [hn] at hwr ⊢
  refine ⟨s, m, e, rfl, ?_⟩
  by_cases z : m = 0
  · subst z
    refine ⟨0, -1074, ?_, ?_⟩
    · show double.read (double.nearest s 0 e) = _
      unfold Format.nearest; rw [if_pos rfl]
      obtain ⟨r1, r2⟩ := word_rs s (r := 0) (by decide)
      rw [read_eq, r1, r2, if_pos (by decide)]
    · rw [← hwr]; show single.nearest s 0 _ = single.nearest s 0 _
      unfold Format.nearest; rw [if_pos rfl, if_pos rfl]
  · have hlog : m.log2 ≤ 23 := by have := (Nat.log2_lt z (k := 24)).2 (by omega); omega
    refine ⟨_, _, double_exact s z (by omega) (by omega) (by omega), ?_⟩
    rw [← hwr]; exact nearest_shift single s m _ e
end Go.Proofs.YtjkonfopajihdaaDoor.Bt.Ff
set_option linter.unusedSimpArgs false
set_option linter.unusedVariables false
namespace Go.Proofs.YtjkonfopajihdaaDoor
open Go Go.RowKit Nt
open Ieee in
theorem dbl : double.signWeight = 9223372036854775808 ∧ double.infRung = 9218868437227405312 ∧ double.binade = 4503599627370496 ∧ double.leastPlace = -1074 ∧ double.fractionBits = 52 := by decide
open Ieee in
theorem word_wf (g : Bool) (r : Nat) : double.word g r = Bt.wf g r := by
  rw [Bt.wf_eq, Bt.topped_eq]; unfold Format.word; rw [dbl.1]
theorem log2_nd {n : Nat} (h : n ≠ 0) : nd 2 n = n.log2 + 1 := by
  have h1 : 2 ^ n.log2 ≤ n := Nat.log2_self_le h
  have h2 : n < 2 ^ (n.log2 + 1) := Nat.lt_log2_self
  exact nd_unique (b := 2) (by omega) h1 h2
open Ieee in
/-- Cut to the nearest one. -/
theorem cut_near (g : Bool) {n k : Nat} (h0 : n ≠ 0) (hk : 0 < k) : Toward.even.cut g n k = n / 2 ^ k + (if (2 + cmpN (n % 2 ^ k * 2) (2 ^ k) = 3 ∨ (2 + cmpN (n % 2 ^ k * 2) (2 ^ k) = 2 ∧ n / 2 ^ k % 2 = 1)) then 1 else 0) := by
  have hl : n < 2 ^ (n.log2 + 1) := Nat.lt_log2_self
  unfold Toward.cut
  simp only [Nat.one_shiftLeft]
  by_cases hb : k ≤ n.log2 + 2
  · rw [Nat.min_eq_left hb]
    generalize n % 2 ^ k = R
    generalize n / 2 ^ k = M
    generalize 2 ^ k = K
    rcases Nat.lt_trichotomy (R * 2) K with c | c | c
    · rw [cmpN_lt c, if_neg (by omega)]
      rw [show (decide (K < 2 * R) || K == 2 * R && M % 2 == 1) = false from by
        rw [decide_eq_false (by omega), show (K == 2 * R) = false from beq_eq_false_iff_ne.2 (by omega)]; rfl]
      rfl
    · rw [← c, cmpN_eq]
      by_cases ho : M % 2 = 1
      · rw [if_pos (by omega)]
        rw [show (decide (R * 2 < 2 * R) || R * 2 == 2 * R && M % 2 == 1) = true from by
          rw [ho, Nat.mul_comm]; simp]
        rfl
      · rw [if_neg (by omega)]
        rw [show (decide (R * 2 < 2 * R) || R * 2 == 2 * R && M % 2 == 1) = false from by
          rw [decide_eq_false (by omega), show (M % 2 == 1) = false from beq_eq_false_iff_ne.2 ho]; simp]
        rfl
    · rw [cmpN_gt c, if_pos (by omega)]
      rw [show (decide (K < 2 * R) || K == 2 * R && M % 2 == 1) = true from by
        rw [decide_eq_true (by omega)]; rfl]
      rfl
  · rw [Nat.min_eq_right (by omega)]
    have h1 : 2 ^ (n.log2 + 2) = 2 * 2 ^ (n.log2 + 1) := by rw [Nat.pow_succ 2 (n.log2 + 1)]; omega
    have h2 : 2 ^ (n.log2 + 2) ≤ 2 ^ k := Nat.pow_le_pow_right (by omega) (by omega)
    rw [Nat.mod_eq_of_lt (show n < 2 ^ (n.log2 + 2) by omega), Nat.div_eq_of_lt (show n < 2 ^ (n.log2 + 2) by omega), Nat.mod_eq_of_lt (show n < 2 ^ k by omega), Nat.div_eq_of_lt (show n < 2 ^ k by omega), cmpN_lt (by omega), if_neg (by omega)]
    generalize 2 ^ (n.log2 + 2) = K at *
    rw [show (decide (K < 2 * n) || K == 2 * n && 0 % 2 == 1) = false from by
      rw [decide_eq_false (by omega), show (0 % 2 == 1) = false from rfl]; simp]
    rfl
open Ieee in
theorem near_rnd (g : Bool) {n : Nat} {x : Int} (h0 : n ≠ 0) : double.nearest g n x = rnd g n x (upNear n x) := by
  have hl := log2_nd h0
  have ht : rT n x = x + n.log2 := by unfold rT; rw [hl]; omega
  unfold Format.nearest
  rw [if_neg h0, dbl.2.2.2.2, dbl.2.2.2.1, dbl.2.2.1, dbl.2.1]
  simp only []
  rw [show x + (n.log2 : Int) - (52 : Nat) = rT n x - 52 by rw [ht]; rfl, word_wf]
  by_cases hf : 1024 ≤ rT n x
  · obtain ⟨e1, e2, e3⟩ := rQ_far hf
    rw [upNear_t (Or.inl e3), rnd_t, e1, e2, pk_eq]
    congr 1
    rw [show max (rT n x - 52) (-1074) = rT n x - 52 by omega]
    have hk : 4503599627370496 ≤ Toward.even.cut g (n <<< (x - (rT n x - 52)).toNat) (rT n x - 52 - x).toNat := by
      have l1 : 2 ^ n.log2 ≤ n := Nat.log2_self_le h0
      have p52 : (2 : Nat) ^ 52 = 4503599627370496 := by decide
      by_cases hs : n.log2 ≤ 52
      · rw [show (rT n x - 52 - x).toNat = 0 by omega, Bt.Ff.cut_exact, Nat.shiftLeft_eq, show (x - (rT n x - 52)).toNat = 52 - n.log2 by omega]
        have : 2 ^ n.log2 * 2 ^ (52 - n.log2) = 2 ^ 52 := by rw [← Nat.pow_add]; congr 1; omega
        have := Nat.mul_le_mul_right (2 ^ (52 - n.log2)) l1
        omega
      · rw [show (x - (rT n x - 52)).toNat = 0 by omega, Nat.shiftLeft_zero, cut_near g h0 (by omega), show (rT n x - 52 - x).toNat = n.log2 - 52 by omega]
        have h3 : 4503599627370496 ≤ n / 2 ^ (n.log2 - 52) := by
          rw [Nat.le_div_iff_mul_le (Nat.two_pow_pos _), ← p52, ← Nat.pow_add, show 52 + (n.log2 - 52) = n.log2 by omega]
          exact l1
        omega
    generalize Toward.even.cut g (n <<< (x - (rT n x - 52)).toNat) (rT n x - 52 - x).toNat = C at *
    omega
  · have hq := rQ_near hf
    have hqb := rQ_b n x
    have hmb := (rM_b (x := x) h0).1
    rw [← hq]
    have key : ∀ (A M : Nat), A ≤ 2045 → M ≤ 9007199254740992 → min (A * 4503599627370496 + M) 9218868437227405312 = A * 4503599627370496 + M := fun A M h1 h2 => Nat.min_eq_left (by omega)
    have hA : (rQ n x + 1074).toNat ≤ 2045 := by omega
    by_cases hu : rQ n x ≤ x
    · obtain ⟨e1, e2⟩ := rM_up hf hu
      rw [upNear_f (by rw [e2]; omega), rnd_f, pk_eq, show (rQ n x - x).toNat = 0 by omega, Bt.Ff.cut_exact, Nat.shiftLeft_eq, ← e1, show rQ n x - (-1074) = rQ n x + 1074 by omega, key _ _ hA (by omega)]
    · obtain ⟨e1, e2⟩ := rM_dn hf hu
      rw [show (x - rQ n x).toNat = 0 by omega, Nat.shiftLeft_zero, cut_near g h0 (by omega), ← e1, ← e2, show rQ n x - (-1074) = rQ n x + 1074 by omega]
      by_cases hup : rW n x = 3 ∨ (rW n x = 2 ∧ rM n x % 2 = 1)
      · rw [upNear_t hup, rnd_t, pk_eq, if_pos hup, key _ _ hA (by omega)]
      · rw [upNear_f hup, rnd_f, pk_eq, if_neg hup, Nat.add_zero, key _ _ hA (by omega)]
/-- Of any Dyad that may be, the nearest word. -/
@[irreducible] def rdN (d : Dy) : Nat := if d.n = 0 then 0 else rnd d.g d.n d.x (upNear d.n d.x)
theorem rdN_zero : rdN Dy.zero = 0 := by unfold rdN; rfl
theorem rdN_num {d : Dy} (h : d.n ≠ 0) : rdN d = rnd d.g d.n d.x (upNear d.n d.x) := by unfold rdN; rw [if_neg h]
open Ieee in
theorem rdN_mk {g : Bool} {n : Nat} {x : Int} (h0 : n ≠ 0) (h : mkOk3 n x) : rdN (mkD g n x) = double.nearest g n x ∧ mkD g n x ≠ Dy.zero := by
  obtain ⟨_, h2⟩ := odN_spec h0
  have h3 := odN_pos h0
  rw [mkD_ok h0 h]
  refine ⟨?_, fun c => h3 (congrArg Dy.n c)⟩
  rw [rdN_num h3]
  show rnd g (odN n) (x + lowN n) _ = _
  rw [← near_rnd g h3, ← Bt.Ff.nearest_shift double g (odN n) (lowN n) (x + lowN n), Nat.shiftLeft_eq, ← h2, show x + (lowN n : Int) - (lowN n : Int) = x by omega]
end Go.Proofs.YtjkonfopajihdaaDoor
set_option linter.unusedSimpArgs false
set_option linter.unusedVariables false
namespace Go.Proofs.YtjkonfopajihdaaDoor
open Go Go.RowKit Nt

/-- Equal as Go's floats. -/
@[irreducible] def feq (a b : Nat) : Bool := Ieee.double.order a b == some Ordering.eq
theorem wf_rung (g : Bool) {r : Nat} (h : r ≤ 9218868437227405312) : Bt.Ff.rung (Bt.wf g r) = r ∧ Bt.Ff.sgn (Bt.wf g r) = g := by
  rw [← word_wf]; exact Bt.Ff.word_rs g (by omega)
theorem feq_iff {a b : Nat} (ha : ¬ Bt.Ff.isn a) (hb : ¬ Bt.Ff.isn b) (h : Bt.Ff.srung a = Bt.Ff.srung b) : feq a b = true := by
  unfold feq
  rw [Bt.Ff.order_eq, if_neg (by rintro (c | c); exact ha c; exact hb c), h]
  simp only [compare, compareOfLessAndEq]
  simp
theorem wf_isn (g : Bool) {r : Nat} (h : r ≤ 9218868437227405312) : ¬ Bt.Ff.isn (Bt.wf g r) := by unfold Bt.Ff.isn; rw [(wf_rung g h).1]; omega
theorem feq_wf (g : Bool) {r : Nat} (h : r ≤ 9218868437227405312) : feq (Bt.wf g r) (Bt.wf g r) = true := feq_iff (wf_isn g h) (wf_isn g h) rfl
theorem feq_zero3 (g : Bool) : feq 0 (Bt.wf g 0) = true := by
  have e : (0 : Nat) = Bt.wf false 0 := (wf_f 0).symm
  refine feq_iff (by rw [e]; exact wf_isn false (by omega)) (wf_isn g (by omega)) ?_
  unfold Bt.Ff.srung
  have h1 := wf_rung g (r := 0) (by omega)
  have h2 := wf_rung false (r := 0) (by omega)
  rw [← e] at h2
  rw [h1.1, h1.2, h2.1, h2.2]
  cases g <;> rfl
open Ieee in
theorem nearest_wf (g : Bool) (n : Nat) (x : Int) : ∃ r, r ≤ 9218868437227405312 ∧ double.nearest g n x = Bt.wf g r := by
  by_cases h0 : n = 0
  · subst h0; exact ⟨0, by omega, by unfold Format.nearest; rw [if_pos rfl, word_wf]⟩
  · rw [near_rnd g h0]
    have hb := (rM_b (x := x) h0).1
    cases upNear n x with
    | true => exact ⟨_, pk_lt (by omega) (rQ_b n x).2, rnd_t g n x⟩
    | false => exact ⟨_, pk_lt (by omega) (rQ_b n x).2, rnd_f g n x⟩
open Ieee in
/-- A number, written, beside the Dyad, rounded. -/
theorem near_facts {s g : Bool} {n : Nat} {x : Int} (h : mkOk3 n x) (hs : n ≠ 0 → s = g) : feq (rdN (mkD g n x)) (double.nearest s n x) = true ∧ (mkD g n x ≠ Dy.zero → rdN (mkD g n x) = double.nearest s n x) := by
  by_cases h0 : n = 0
  · subst h0
    rw [mkD_zero, rdN_zero]
    refine ⟨?_, fun c => absurd rfl c⟩
    unfold Format.nearest
    rw [if_pos rfl, word_wf]
    exact feq_zero3 s
  · rw [hs h0, (rdN_mk h0 h).1]
    obtain ⟨r, hr, e⟩ := nearest_wf g n x
    rw [e]
    exact ⟨feq_wf g hr, fun _ => rfl⟩
theorem mkOk3_of {n : Nat} {x : Int} (hn : nd 2 n ≤ 100000) (h1 : -1048576 ≤ x) (h2 : x ≤ 900000) : mkOk3 n x := by
  by_cases h0 : n = 0
  · exact Or.inl h0
  · have h3 := nd_odN h0
    have h4 : nd 256 (odN n) ≤ 16384 := (bits_le _ _).1 (by omega)
    exact Or.inr ⟨h4, by omega, by omega⟩
/-- The sum over the lower place. -/
def tot (g1 : Bool) (n1 : Nat) (x1 : Int) (g2 : Bool) (n2 : Nat) (x2 : Int) : Int := Ieee.signed g1 n1 (x1 - min x1 x2).toNat + Ieee.signed g2 n2 (x2 - min x1 x2).toNat
theorem signed_sgnd (g : Bool) (m k : Nat) : Ieee.signed g m k = sgnd g (m * 2 ^ k) := by
  unfold Ieee.signed sgnd; rw [Nat.shiftLeft_eq]
theorem sgnd_scale (g : Bool) (m k : Nat) : sgnd g (m * k) = sgnd g m * (k : Int) := by
  unfold sgnd; cases g <;> simp [Int.natCast_mul, Int.neg_mul]
theorem sgnd_self (T : Int) (k : Nat) : sgnd (decide (T < 0)) (T.natAbs * k) = T * (k : Int) := by
  rw [sgnd_scale]; congr 1
  unfold sgnd
  by_cases h : T < 0
  · rw [decide_eq_true h, if_pos rfl]; omega
  · rw [decide_eq_false h, if_neg (by decide)]; omega
theorem sum_mk3 {g1 g2 : Bool} {n1 n2 : Nat} {x1 x2 : Int} (h1 : mkE n1 x1 = 0) (h2 : mkE n2 x2 = 0) (b1 : -1048576 ≤ x1) (b2 : -1048576 ≤ x2) :
    addD (mkD g1 n1 x1) (mkD g2 n2 x2) = mkD (decide (tot g1 n1 x1 g2 n2 x2 < 0)) (tot g1 n1 x1 g2 n2 x2).natAbs (min x1 x2) ∧ addE (mkD g1 n1 x1) (mkD g2 n2 x2) = mkE (tot g1 n1 x1 g2 n2 x2).natAbs (min x1 x2) := by
  have e := add_iv (mkD_Ok g1 n1 x1) (mkD_Ok g2 n2 x2)
  rw [iv_made b1 h1, iv_made b2 h2] at e
  have hE := EE_eq
  have t := mk_toZ (decide (tot g1 n1 x1 g2 n2 x2 < 0)) (tot g1 n1 x1 g2 n2 x2).natAbs (min x1 x2) EE (by omega)
  rw [sgnd_self] at t
  have key : sgnd g1 (n1 * 2 ^ (x1 + (EE : Int)).toNat) + sgnd g2 (n2 * 2 ^ (x2 + (EE : Int)).toNat) = tot g1 n1 x1 g2 n2 x2 * ((2 ^ (min x1 x2 + (EE : Int)).toNat : Nat) : Int) := by
    unfold tot
    rw [signed_sgnd, signed_sgnd, Int.add_mul, ← sgnd_scale, ← sgnd_scale, Nat.mul_assoc, Nat.mul_assoc, ← Nat.pow_add, ← Nat.pow_add, show (x1 - min x1 x2).toNat + (min x1 x2 + (EE : Int)).toNat = (x1 + (EE : Int)).toNat by omega, show (x2 - min x1 x2).toNat + (min x1 x2 + (EE : Int)).toNat = (x2 + (EE : Int)).toNat by omega]
  rw [key] at e
  exact ⟨e.1.trans t.1.symm, e.2.trans t.2.symm⟩
theorem mul_mk3 {g1 g2 : Bool} {n1 n2 : Nat} {x1 x2 : Int} (h1 : mkE n1 x1 = 0) (h2 : mkE n2 x2 = 0) (b1 : -1048576 ≤ x1) (b2 : -1048576 ≤ x2) :
    mulD (mkD g1 n1 x1) (mkD g2 n2 x2) = mkD (g1 != g2) (n1 * n2) (x1 + x2) ∧ mulE (mkD g1 n1 x1) (mkD g2 n2 x2) = mkE (n1 * n2) (x1 + x2) := by
  have e := mul_iv (mkD_Ok g1 n1 x1) (mkD_Ok g2 n2 x2)
  rw [iv_made b1 h1, iv_made b2 h2, sgnd_mul] at e
  have hE := EE_eq
  have t := mk_toZ (g1 != g2) (n1 * n2) (x1 + x2) (EE + EE) (by omega)
  rw [show n1 * n2 * 2 ^ (x1 + x2 + ((EE + EE : Nat) : Int)).toNat = n1 * 2 ^ (x1 + (EE : Int)).toNat * (n2 * 2 ^ (x2 + (EE : Int)).toNat) by
    rw [show (x1 + x2 + ((EE + EE : Nat) : Int)).toNat = (x1 + (EE : Int)).toNat + (x2 + (EE : Int)).toNat by omega, Nat.pow_add]
    generalize 2 ^ (x1 + (EE : Int)).toNat = A
    generalize 2 ^ (x2 + (EE : Int)).toNat = B
    rw [Nat.mul_assoc, Nat.mul_assoc]; congr 1; rw [Nat.mul_left_comm]] at t
  exact ⟨e.1.trans t.1.symm, e.2.trans t.2.symm⟩
theorem tot_nd {g1 g2 : Bool} {n1 n2 : Nat} {x1 x2 : Int} {A : Nat} (h1 : n1 * 2 ^ (x1 - min x1 x2).toNat < 2 ^ A) (h2 : n2 * 2 ^ (x2 - min x1 x2).toNat < 2 ^ A) : nd 2 (tot g1 n1 x1 g2 n2 x2).natAbs ≤ A + 1 := by
  refine nd_le (by omega) ?_
  unfold tot
  rw [signed_sgnd, signed_sgnd, Nat.pow_succ]
  revert h1 h2
  generalize n1 * 2 ^ (x1 - min x1 x2).toNat = P
  generalize n2 * 2 ^ (x2 - min x1 x2).toNat = Q
  generalize 2 ^ A = K
  intro h1 h2
  unfold sgnd
  cases g1 <;> cases g2 <;> simp <;> omega
theorem pow_bd {n k a A : Nat} (h : n < 2 ^ a) (hk : a + k ≤ A) : n * 2 ^ k < 2 ^ A :=
  Nat.lt_of_lt_of_le (Nat.mul_lt_mul_of_pos_right h (Nat.two_pow_pos k)) (by rw [← Nat.pow_add]; exact Nat.pow_le_pow_right (by omega) hk)
/-! Of floats. -/
theorem read_pm {x : Nat} (hf : Bt.finB x = true) : Ieee.double.read x = .number (Bt.Ff.sgn x) (Bt.pm x) (Bt.pex x) := by
  have hr : Bt.Ff.rung x < 9218868437227405312 := by unfold Bt.finB at hf; exact of_decide_eq_true hf
  rw [Bt.Ff.read_eq]
  by_cases h : Bt.Ff.rung x < 4503599627370496
  · rw [if_pos h, Bt.pm_sub h, Bt.pex_sub h]
  · rw [if_neg h, if_pos hr, Bt.pm_nor h, Bt.pex_nor h]
    unfold Bt.frac; rfl
def flt (x : Nat) : Dy := mkD (Bt.Ff.sgn x) (Bt.pm x) (Bt.pex x)
theorem flt_Ok (x : Nat) : (flt x).Ok := mkD_Ok _ _ _
@[irreducible] def goS (x y : Nat) : Nat := (Ieee.double.add x y).getD 0
@[irreducible] def goM (x y : Nat) : Nat := (Ieee.double.mul x y).getD 0
@[irreducible] def goF (x y z : Nat) : Nat := (Ieee.double.fma x y z).getD 0
theorem pm53 (x : Nat) : Bt.pm x < 2 ^ 53 := Nat.lt_of_lt_of_le (Bt.pm_lt x) (by decide)
section
variable {x y z : Nat} (hx : x < 18446744073709551616) (hy : y < 18446744073709551616) (hz : z < 18446744073709551616) (fx : Bt.finB x = true) (fy : Bt.finB y = true) (fz : Bt.finB z = true)
include hx hy fx fy
theorem go_sum : Ieee.double.add x y = some (goS x y) ∧ addE (flt x) (flt y) = 0 ∧ feq (rdN (addD (flt x) (flt y))) (goS x y) = true ∧ (addD (flt x) (flt y) ≠ Dy.zero → rdN (addD (flt x) (flt y)) = goS x y) := by
  have b1 := pex_bounds hx fx
  have b2 := pex_bounds hy fy
  have e := sum_mk3 (g1 := Bt.Ff.sgn x) (g2 := Bt.Ff.sgn y) (mkE_ok (float_ok hx fx)) (mkE_ok (float_ok hy fy)) (by omega) (by omega)
  obtain ⟨A, hA⟩ : ∃ A, A = 5000 := ⟨_, rfl⟩
  have t := tot_nd (g1 := Bt.Ff.sgn x) (g2 := Bt.Ff.sgn y) (x1 := Bt.pex x) (x2 := Bt.pex y) (A := A) (pow_bd (pm53 x) (by omega)) (pow_bd (pm53 y) (by omega))
  have hk := mkOk3_of (x := min (Bt.pex x) (Bt.pex y)) (Nat.le_trans t (by omega)) (by omega) (by omega)
  have g : Ieee.double.add x y = some (Ieee.double.nearest (if tot (Bt.Ff.sgn x) (Bt.pm x) (Bt.pex x) (Bt.Ff.sgn y) (Bt.pm y) (Bt.pex y) = 0 then Bt.Ff.sgn x && Bt.Ff.sgn y else tot (Bt.Ff.sgn x) (Bt.pm x) (Bt.pex x) (Bt.Ff.sgn y) (Bt.pm y) (Bt.pex y) < 0) (tot (Bt.Ff.sgn x) (Bt.pm x) (Bt.pex x) (Bt.Ff.sgn y) (Bt.pm y) (Bt.pex y)).natAbs (min (Bt.pex x) (Bt.pex y))) := by
    unfold Ieee.Format.add
    rw [read_pm fx, read_pm fy]
    rfl
  have e0 := Option.some.inj ((show some (goS x y) = Ieee.double.add x y from by unfold goS; rw [g]; rfl).trans g)
  refine ⟨g.trans (by rw [e0]), ?_, ?_⟩
  · show addE (mkD _ _ _) (mkD _ _ _) = 0
    rw [e.2]; exact mkE_ok hk
  · show feq (rdN (addD (mkD _ _ _) (mkD _ _ _))) _ = true ∧ (addD (mkD _ _ _) (mkD _ _ _) ≠ _ → rdN (addD (mkD _ _ _) (mkD _ _ _)) = _)
    rw [e.1, e0]
    exact near_facts hk (fun c => by rw [if_neg (fun d => c (by rw [d]; rfl))])
theorem go_prod : Ieee.double.mul x y = some (goM x y) ∧ mulE (flt x) (flt y) = 0 ∧ feq (rdN (mulD (flt x) (flt y))) (goM x y) = true ∧ (mulD (flt x) (flt y) ≠ Dy.zero → rdN (mulD (flt x) (flt y)) = goM x y) := by
  have b1 := pex_bounds hx fx
  have b2 := pex_bounds hy fy
  have e := mul_mk3 (g1 := Bt.Ff.sgn x) (g2 := Bt.Ff.sgn y) (mkE_ok (float_ok hx fx)) (mkE_ok (float_ok hy fy)) (by omega) (by omega)
  have t : nd 2 (Bt.pm x * Bt.pm y) ≤ 106 := nd_le (by omega) (Nat.lt_of_lt_of_le (Nat.mul_lt_mul'' (pm53 x) (pm53 y)) (by rw [← Nat.pow_add]; exact Nat.le_refl _))
  have hk := mkOk3_of (x := Bt.pex x + Bt.pex y) (Nat.le_trans t (by omega)) (by omega) (by omega)
  have g : Ieee.double.mul x y = some (Ieee.double.nearest (Bt.Ff.sgn x ^^ Bt.Ff.sgn y) (Bt.pm x * Bt.pm y) (Bt.pex x + Bt.pex y)) := by
    unfold Ieee.Format.mul
    rw [read_pm fx, read_pm fy]
    rfl
  have e0 := Option.some.inj ((show some (goM x y) = Ieee.double.mul x y from by unfold goM; rw [g]; rfl).trans g)
  refine ⟨g.trans (by rw [e0]), ?_, ?_⟩
  · show mulE (mkD _ _ _) (mkD _ _ _) = 0
    rw [e.2]; exact mkE_ok hk
  · show feq (rdN (mulD (mkD _ _ _) (mkD _ _ _))) _ = true ∧ (mulD (mkD _ _ _) (mkD _ _ _) ≠ _ → rdN (mulD (mkD _ _ _) (mkD _ _ _)) = _)
    rw [e.1, e0]
    exact near_facts hk (fun c => by cases Bt.Ff.sgn x <;> cases Bt.Ff.sgn y <;> rfl)
theorem goS_isn : ¬ Bt.Ff.isn (goS x y) := by
  have h := (go_sum hx hy fx fy).1
  unfold Ieee.Format.add at h
  rw [read_pm fx, read_pm fy] at h
  obtain ⟨r, hr, e⟩ := nearest_wf (if tot (Bt.Ff.sgn x) (Bt.pm x) (Bt.pex x) (Bt.Ff.sgn y) (Bt.pm y) (Bt.pex y) = 0 then Bt.Ff.sgn x && Bt.Ff.sgn y else tot (Bt.Ff.sgn x) (Bt.pm x) (Bt.pex x) (Bt.Ff.sgn y) (Bt.pm y) (Bt.pex y) < 0) (tot (Bt.Ff.sgn x) (Bt.pm x) (Bt.pex x) (Bt.Ff.sgn y) (Bt.pm y) (Bt.pex y)).natAbs (min (Bt.pex x) (Bt.pex y))
  have e2 := Option.some.inj h.symm
  have e3 : goS x y = Bt.wf _ r := e2.trans e
  rw [e3]; exact wf_isn _ hr
theorem goM_isn : ¬ Bt.Ff.isn (goM x y) := by
  have h := (go_prod hx hy fx fy).1
  unfold Ieee.Format.mul at h
  rw [read_pm fx, read_pm fy] at h
  obtain ⟨r, hr, e⟩ := nearest_wf (Bt.Ff.sgn x ^^ Bt.Ff.sgn y) (Bt.pm x * Bt.pm y) (Bt.pex x + Bt.pex y)
  have e2 := Option.some.inj h.symm
  have e3 : goM x y = Bt.wf _ r := e2.trans e
  rw [e3]; exact wf_isn _ hr
include hz fz
theorem go_fma : Ieee.double.fma x y z = some (goF x y z) ∧ addE (mulD (flt x) (flt y)) (flt z) = 0 ∧ feq (rdN (addD (mulD (flt x) (flt y)) (flt z))) (goF x y z) = true ∧ (addD (mulD (flt x) (flt y)) (flt z) ≠ Dy.zero → rdN (addD (mulD (flt x) (flt y)) (flt z)) = goF x y z) := by
  have b1 := pex_bounds hx fx
  have b2 := pex_bounds hy fy
  have b3 := pex_bounds hz fz
  have e1 := (mul_mk3 (g1 := Bt.Ff.sgn x) (g2 := Bt.Ff.sgn y) (mkE_ok (float_ok hx fx)) (mkE_ok (float_ok hy fy)) (by omega) (by omega)).1
  have hp : Bt.pm x * Bt.pm y < 2 ^ 106 := Nat.lt_of_lt_of_le (Nat.mul_lt_mul'' (pm53 x) (pm53 y)) (by rw [← Nat.pow_add]; exact Nat.le_refl _)
  have k1 := mkOk3_of (x := Bt.pex x + Bt.pex y) (Nat.le_trans (nd_le (b := 2) (by omega) hp) (by omega)) (by omega) (by omega)
  have e := sum_mk3 (g1 := Bt.Ff.sgn x != Bt.Ff.sgn y) (g2 := Bt.Ff.sgn z) (mkE_ok k1) (mkE_ok (float_ok hz fz)) (by omega) (by omega)
  obtain ⟨A, hA⟩ : ∃ A, A = 9000 := ⟨_, rfl⟩
  have t := tot_nd (g1 := Bt.Ff.sgn x != Bt.Ff.sgn y) (g2 := Bt.Ff.sgn z) (x1 := Bt.pex x + Bt.pex y) (x2 := Bt.pex z) (A := A) (pow_bd hp (by omega)) (pow_bd (pm53 z) (by omega))
  have hk := mkOk3_of (x := min (Bt.pex x + Bt.pex y) (Bt.pex z)) (Nat.le_trans t (by omega)) (by omega) (by omega)
  have g : Ieee.double.fma x y z = some (Ieee.double.nearest (if tot (Bt.Ff.sgn x ^^ Bt.Ff.sgn y) (Bt.pm x * Bt.pm y) (Bt.pex x + Bt.pex y) (Bt.Ff.sgn z) (Bt.pm z) (Bt.pex z) = 0 then (Bt.Ff.sgn x ^^ Bt.Ff.sgn y) && Bt.Ff.sgn z else tot (Bt.Ff.sgn x ^^ Bt.Ff.sgn y) (Bt.pm x * Bt.pm y) (Bt.pex x + Bt.pex y) (Bt.Ff.sgn z) (Bt.pm z) (Bt.pex z) < 0) (tot (Bt.Ff.sgn x ^^ Bt.Ff.sgn y) (Bt.pm x * Bt.pm y) (Bt.pex x + Bt.pex y) (Bt.Ff.sgn z) (Bt.pm z) (Bt.pex z)).natAbs (min (Bt.pex x + Bt.pex y) (Bt.pex z))) := by
    unfold Ieee.Format.fma
    rw [read_pm fx, read_pm fy, read_pm fz]
    rfl
  have hne : (Bt.Ff.sgn x ^^ Bt.Ff.sgn y) = (Bt.Ff.sgn x != Bt.Ff.sgn y) := by cases Bt.Ff.sgn x <;> cases Bt.Ff.sgn y <;> rfl
  rw [hne] at g
  have e0 := Option.some.inj ((show some (goF x y z) = Ieee.double.fma x y z from by unfold goF; rw [g]; rfl).trans g)
  have ef : mulD (flt x) (flt y) = mkD (Bt.Ff.sgn x != Bt.Ff.sgn y) (Bt.pm x * Bt.pm y) (Bt.pex x + Bt.pex y) := e1
  rw [ef]
  refine ⟨g.trans (by rw [e0]), ?_, ?_⟩
  · show addE (mkD _ _ _) (mkD _ _ _) = 0
    rw [e.2]; exact mkE_ok hk
  · show feq (rdN (addD (mkD _ _ _) (mkD _ _ _))) _ = true ∧ (addD (mkD _ _ _) (mkD _ _ _) ≠ _ → rdN (addD (mkD _ _ _) (mkD _ _ _)) = _)
    rw [e.1, e0]
    exact near_facts hk (fun c => by rw [if_neg (fun d => c (by rw [d]; rfl))])
end
theorem goF_isn {x y z : Nat} (_hx : x < 18446744073709551616) (_hy : y < 18446744073709551616) (_hz : z < 18446744073709551616) (fx : Bt.finB x = true) (fy : Bt.finB y = true) (fz : Bt.finB z = true) : ¬ Bt.Ff.isn (goF x y z) := by
  unfold goF Ieee.Format.fma
  rw [read_pm fx, read_pm fy, read_pm fz]
  obtain ⟨r, hr, e⟩ := nearest_wf (if tot (Bt.Ff.sgn x ^^ Bt.Ff.sgn y) (Bt.pm x * Bt.pm y) (Bt.pex x + Bt.pex y) (Bt.Ff.sgn z) (Bt.pm z) (Bt.pex z) = 0 then (Bt.Ff.sgn x ^^ Bt.Ff.sgn y) && Bt.Ff.sgn z else tot (Bt.Ff.sgn x ^^ Bt.Ff.sgn y) (Bt.pm x * Bt.pm y) (Bt.pex x + Bt.pex y) (Bt.Ff.sgn z) (Bt.pm z) (Bt.pex z) < 0) (tot (Bt.Ff.sgn x ^^ Bt.Ff.sgn y) (Bt.pm x * Bt.pm y) (Bt.pex x + Bt.pex y) (Bt.Ff.sgn z) (Bt.pm z) (Bt.pex z)).natAbs (min (Bt.pex x + Bt.pex y) (Bt.pex z))
  have e3 : Bt.Ff.isn (Ieee.double.nearest _ _ _) → False := fun c => by rw [e] at c; exact wf_isn _ hr c
  exact fun c => e3 c
end Go.Proofs.YtjkonfopajihdaaDoor
