/- Texts put together: G19 Post DP GP. -/
import Derived.Test.YtciidbldnjfooaaGreatDoorQ6
import Derived.Below
import Derived.ChangeSame
import Derived.Test.YtciidbldnjfooaaGreatDoorRows
import Derived.ProofKit
import Derived.Lib.SmallJoins
import Derived.OpenShut
import Derived.ShutString
import Derived.Deep.Strs
set_option linter.unusedVariables false
set_option linter.unusedSimpArgs false
namespace Go.Proofs.YtciidbldnjfooaaGreatDoor
open Go Go.RowKit Nt


@[reducible] def lDisc_ok_f : FuncId := 29
@[reducible] def lDisc_ok_a : List AV := [.agg [.sym 0, .sym 1, .sym 2, .sym 3, .sym 4, .sym 5], .agg [.lit (.bool false), .sym 6, .sym 7]]
@[reducible] noncomputable def lDisc_ok_k (b1 : Bool) : Know := ⟨[([0, 16, 3], [.sym 8, .lit (.int .i64 0)], .lit (.bool b1))],
  [(41, [.agg [.sym 0, .sym 1, .sym 2]], .lit (.bool true)),
  (41, [.agg [.sym 3, .sym 4, .sym 5]], .lit (.bool true)),
  (41, [.agg [.lit (.bool false), .sym 6, .sym 7]], .lit (.bool true)),
  (56, [.agg [.lit (.bool false), .sym 6, .sym 7]], .sym 8)]⟩
theorem lDisc_ok_r1 : @comes (lDisc_ok_k true) Tryz.prog glT 3000 lDisc_ok_f lDisc_ok_a = some (.lit (.bool true)) := by kernel_rfl

set_option maxRecDepth 100000 in
set_option maxHeartbeats 4000000 in
theorem lDisc_ok (c : Gs) (rn : Nat) (rx : Int) (w : World) (hc : c.Ok) (hr : (Dy.mk false rn rx).Ok) (hG : Globs glT w) : Calls Tryz.prog 29 #[.agg #[.bool c.re.g, .string (natS c.re.n), .int .i64 c.re.x, .bool c.im.g, .string (natS c.im.n), .int .i64 c.im.x], .agg #[.bool false, .string (natS (Dy.mk false rn rx).n), .int .i64 (Dy.mk false rn rx).x]] w fun e w' => e = .returned (.bool true) ∧ Below w.heap.size w w' := by
  obtain ⟨b1, i1⟩ := bex (sgD (Dy.mk false rn rx) ≥ 0)
  letI : Env := mkEnv glT [.bool c.re.g, .string (natS c.re.n), .int .i64 c.re.x, .bool c.im.g, .string (natS c.im.n), .int .i64 c.im.x, .string (natS (Dy.mk false rn rx).n), .int .i64 (Dy.mk false rn rx).x, .int .i64 (sgD (Dy.mk false rn rx))] rfl
  have hops : OpsT Tryz.prog (@Know.ops (lDisc_ok_k b1)) := ⟨opt_geq_i rfl rfl i1,
    trivial⟩
  have hcalls : CallsT Tryz.prog (@Know.calls (lDisc_ok_k b1)) := ⟨callt rfl rfl fun w hG => rMayT_ok c.re w hc.1,
    callt rfl rfl fun w hG => rMayT_ok c.im w hc.2,
    callt rfl rfl fun w hG => rMayT_ok (Dy.mk false rn rx) w hr,
    callt rfl rfl fun w hG => rSignD3_c (Dy.mk false rn rx) hr w,
    trivial⟩
  have fin : ∀ v, @comes (lDisc_ok_k b1) Tryz.prog glT 3000 lDisc_ok_f lDisc_ok_a = some v → ground v = true → Ending.returned (gval v) = .returned (.bool true) → Calls Tryz.prog 29 #[.agg #[.bool c.re.g, .string (natS c.re.n), .int .i64 c.re.x, .bool c.im.g, .string (natS c.im.n), .int .i64 c.im.x], .agg #[.bool false, .string (natS (Dy.mk false rn rx).n), .int .i64 (Dy.mk false rn rx).x]] w fun e w' => e = .returned (.bool true) ∧ Below w.heap.size w w' := fun v h1 h2 h3 => (@sym_ok _ (lDisc_ok_k b1) _ (@KnowOk.of _ (lDisc_ok_k b1) _ hops hcalls) (by kernel_rfl) _ _ _ _ h1 rfl h2 _ hG).mono fun e w' h => ⟨h.1.trans h3, h.2⟩
  clear hops hcalls
  cases b1 with
  | true =>
    have h1 : sgD (Dy.mk false rn rx) ≥ 0 := i1.1 rfl
    exact fin _ (lDisc_ok_r1) rfl rfl
  | false =>
    exact absurd (i1.2 ((sg_nn hr).2 rfl)) Bool.false_ne_true

@[reducible] def lDisc_n1_f : FuncId := 29
@[reducible] def lDisc_n1_a : List AV := [.agg [.sym 0, .sym 1, .sym 2, .sym 3, .sym 4, .sym 5], .agg [.sym 6, .sym 7, .sym 8]]
@[reducible] noncomputable def lDisc_n1_k (b1 b2 : Bool) : Know := ⟨[],
  [(41, [.agg [.sym 0, .sym 1, .sym 2]], .lit (.bool b1)),
  (41, [.agg [.sym 3, .sym 4, .sym 5]], .lit (.bool b2)),
  (41, [.agg [.sym 6, .sym 7, .sym 8]], .lit (.bool false))]⟩
theorem lDisc_n1_r1 : @comes (lDisc_n1_k true true) Tryz.prog glT 3000 lDisc_n1_f lDisc_n1_a = some (.lit (.bool false)) := by kernel_rfl
theorem lDisc_n1_r2 : @comes (lDisc_n1_k true false) Tryz.prog glT 3000 lDisc_n1_f lDisc_n1_a = some (.lit (.bool false)) := by kernel_rfl
theorem lDisc_n1_r3 (b2 : Bool) : @comes (lDisc_n1_k false b2) Tryz.prog glT 3000 lDisc_n1_f lDisc_n1_a = some (.lit (.bool false)) := by kernel_rfl

set_option maxRecDepth 100000 in
set_option maxHeartbeats 4000000 in
theorem lDisc_n1 (c : Gt) (r : Dt) (w : World) (zc : c.Small) (zr : r.s.size ≤ 9223372036854775807) (hnr : ¬ r.Ok) (hG : Globs glT w) : Calls Tryz.prog 29 #[.agg #[.bool c.re.g, .string c.re.s, .int .i64 c.re.x, .bool c.im.g, .string c.im.s, .int .i64 c.im.x], .agg #[.bool r.g, .string r.s, .int .i64 r.x]] w fun e w' => e = .returned (.bool false) ∧ Below w.heap.size w w' := by
  obtain ⟨b1, i1⟩ := bex (c.re.Ok)
  obtain ⟨b2, i2⟩ := bex (c.im.Ok)
  letI : Env := mkEnv glT [.bool c.re.g, .string c.re.s, .int .i64 c.re.x, .bool c.im.g, .string c.im.s, .int .i64 c.im.x, .bool r.g, .string r.s, .int .i64 r.x] rfl
  have hops : OpsT Tryz.prog (@Know.ops (lDisc_n1_k b1 b2)) := trivial
  have hcalls : CallsT Tryz.prog (@Know.calls (lDisc_n1_k b1 b2)) := ⟨callt rfl rfl fun w hG => rMay_i c.re w zc.1 i1,
    callt rfl rfl fun w hG => rMay_i c.im w zc.2 i2,
    callt rfl rfl fun w hG => rMayT_no r w zr hnr,
    trivial⟩
  have fin : ∀ v, @comes (lDisc_n1_k b1 b2) Tryz.prog glT 3000 lDisc_n1_f lDisc_n1_a = some v → ground v = true → Ending.returned (gval v) = .returned (.bool false) → Calls Tryz.prog 29 #[.agg #[.bool c.re.g, .string c.re.s, .int .i64 c.re.x, .bool c.im.g, .string c.im.s, .int .i64 c.im.x], .agg #[.bool r.g, .string r.s, .int .i64 r.x]] w fun e w' => e = .returned (.bool false) ∧ Below w.heap.size w w' := fun v h1 h2 h3 => (@sym_ok _ (lDisc_n1_k b1 b2) _ (@KnowOk.of _ (lDisc_n1_k b1 b2) _ hops hcalls) (by kernel_rfl) _ _ _ _ h1 rfl h2 _ hG).mono fun e w' h => ⟨h.1.trans h3, h.2⟩
  clear hops hcalls
  cases b1 with
  | true =>
    have h1 : c.re.Ok := i1.1 rfl
    cases b2 with
    | true =>
      have h2 : c.im.Ok := i2.1 rfl
      exact fin _ (lDisc_n1_r1) rfl rfl
    | false =>
      have h2 : ¬ (c.im.Ok) := fun c => Bool.false_ne_true (i2.2 c)
      exact fin _ (lDisc_n1_r2) rfl rfl
  | false =>
    have h1 : ¬ (c.re.Ok) := fun c => Bool.false_ne_true (i1.2 c)
    exact fin _ (lDisc_n1_r3 b2) rfl rfl

@[reducible] def lDisc_n2_f : FuncId := 29
@[reducible] def lDisc_n2_a : List AV := [.agg [.sym 0, .sym 1, .sym 2, .sym 3, .sym 4, .sym 5], .agg [.sym 6, .sym 7, .sym 8]]
@[reducible] noncomputable def lDisc_n2_k (b1 b2 b3 : Bool) : Know := ⟨[([0, 16, 3], [.sym 9, .lit (.int .i64 0)], .lit (.bool b3))],
  [(41, [.agg [.sym 0, .sym 1, .sym 2]], .lit (.bool b1)),
  (41, [.agg [.sym 3, .sym 4, .sym 5]], .lit (.bool b2)),
  (41, [.agg [.sym 6, .sym 7, .sym 8]], .lit (.bool true)),
  (56, [.agg [.sym 6, .sym 7, .sym 8]], .sym 9)]⟩
theorem lDisc_n2_r1 : @comes (lDisc_n2_k true true false) Tryz.prog glT 3000 lDisc_n2_f lDisc_n2_a = some (.lit (.bool false)) := by kernel_rfl
theorem lDisc_n2_r2 (b3 : Bool) : @comes (lDisc_n2_k true false b3) Tryz.prog glT 3000 lDisc_n2_f lDisc_n2_a = some (.lit (.bool false)) := by kernel_rfl
theorem lDisc_n2_r3 (b2 b3 : Bool) : @comes (lDisc_n2_k false b2 b3) Tryz.prog glT 3000 lDisc_n2_f lDisc_n2_a = some (.lit (.bool false)) := by kernel_rfl

set_option maxRecDepth 100000 in
set_option maxHeartbeats 4000000 in
theorem lDisc_n2 (c : Gt) (r : Dy) (w : World) (zc : c.Small) (hr : r.Ok) (hn : ¬ (c.Ok ∧ r.g = false)) (hG : Globs glT w) : Calls Tryz.prog 29 #[.agg #[.bool c.re.g, .string c.re.s, .int .i64 c.re.x, .bool c.im.g, .string c.im.s, .int .i64 c.im.x], .agg #[.bool r.g, .string (natS r.n), .int .i64 r.x]] w fun e w' => e = .returned (.bool false) ∧ Below w.heap.size w w' := by
  obtain ⟨b1, i1⟩ := bex (c.re.Ok)
  obtain ⟨b2, i2⟩ := bex (c.im.Ok)
  obtain ⟨b3, i3⟩ := bex (sgD r ≥ 0)
  letI : Env := mkEnv glT [.bool c.re.g, .string c.re.s, .int .i64 c.re.x, .bool c.im.g, .string c.im.s, .int .i64 c.im.x, .bool r.g, .string (natS r.n), .int .i64 r.x, .int .i64 (sgD r)] rfl
  have hops : OpsT Tryz.prog (@Know.ops (lDisc_n2_k b1 b2 b3)) := ⟨opt_geq_i rfl rfl i3,
    trivial⟩
  have hcalls : CallsT Tryz.prog (@Know.calls (lDisc_n2_k b1 b2 b3)) := ⟨callt rfl rfl fun w hG => rMay_i c.re w zc.1 i1,
    callt rfl rfl fun w hG => rMay_i c.im w zc.2 i2,
    callt rfl rfl fun w hG => rMayT_ok r w hr,
    callt rfl rfl fun w hG => rSignD3_c r hr w,
    trivial⟩
  have fin : ∀ v, @comes (lDisc_n2_k b1 b2 b3) Tryz.prog glT 3000 lDisc_n2_f lDisc_n2_a = some v → ground v = true → Ending.returned (gval v) = .returned (.bool false) → Calls Tryz.prog 29 #[.agg #[.bool c.re.g, .string c.re.s, .int .i64 c.re.x, .bool c.im.g, .string c.im.s, .int .i64 c.im.x], .agg #[.bool r.g, .string (natS r.n), .int .i64 r.x]] w fun e w' => e = .returned (.bool false) ∧ Below w.heap.size w w' := fun v h1 h2 h3 => (@sym_ok _ (lDisc_n2_k b1 b2 b3) _ (@KnowOk.of _ (lDisc_n2_k b1 b2 b3) _ hops hcalls) (by kernel_rfl) _ _ _ _ h1 rfl h2 _ hG).mono fun e w' h => ⟨h.1.trans h3, h.2⟩
  clear hops hcalls
  cases b1 with
  | true =>
    have h1 : c.re.Ok := i1.1 rfl
    cases b2 with
    | true =>
      have h2 : c.im.Ok := i2.1 rfl
      cases b3 with
      | true =>
        exact absurd (i3.1 rfl) (fun c => hn ⟨⟨h1, h2⟩, (sg_nn hr).1 c⟩)
      | false =>
        have h3 : ¬ (sgD r ≥ 0) := fun c => Bool.false_ne_true (i3.2 c)
        exact fin _ (lDisc_n2_r1) rfl rfl
    | false =>
      have h2 : ¬ (c.im.Ok) := fun c => Bool.false_ne_true (i2.2 c)
      exact fin _ (lDisc_n2_r2 b3) rfl rfl
  | false =>
    have h1 : ¬ (c.re.Ok) := fun c => Bool.false_ne_true (i1.2 c)
    exact fin _ (lDisc_n2_r3 b2 b3) rfl rfl

theorem lDisc_no (c : Gt) (r : Dt) (w : World) (zc : c.Small) (zr : r.s.size ≤ 9223372036854775807) (hn : ¬ (c.Ok ∧ r.Pos)) (hG : Globs glT w) : Calls Tryz.prog 29 #[.agg #[.bool c.re.g, .string c.re.s, .int .i64 c.re.x, .bool c.im.g, .string c.im.s, .int .i64 c.im.x], .agg #[.bool r.g, .string r.s, .int .i64 r.x]] w fun e w' => e = .returned (.bool false) ∧ Below w.heap.size w w' := by
  by_cases h : r.Ok
  · obtain ⟨d, h1, rfl⟩ := Dt.dy h
    exact lDisc_n2 c d w zc h1 (fun k => hn ⟨k.1, h, k.2⟩) hG
  · exact lDisc_n1 c r w zc zr h hG
@[reducible] def GaussDiscs_a_f : FuncId := 5
@[reducible] def GaussDiscs_a_a : List AV := [.agg [.sym 0, .sym 1, .sym 2, .sym 3, .sym 4, .sym 5], .agg [.sym 6, .sym 7, .sym 8, .sym 9, .sym 10, .sym 11], .agg [.lit (.bool false), .sym 12, .sym 13], .agg [.sym 14, .sym 15, .sym 16, .sym 17, .sym 18, .sym 19], .agg [.lit (.bool false), .sym 20, .sym 21]]
@[reducible] noncomputable def GaussDiscs_a_k (b1 b2 b3 : Bool) : Know := ⟨[([0, 12, 3], [.sym 22, .sym 22], .lit (.bool false)),
  ([0, 11, 3], [.sym 23, .sym 23], .lit (.bool true)),
  ([0, 11, 3], [.sym 24, .sym 24], .lit (.bool true))],
  [(26, [.agg [.sym 0, .sym 1, .sym 2, .sym 3, .sym 4, .sym 5], .agg [.sym 6, .sym 7, .sym 8, .sym 9, .sym 10, .sym 11], .agg [.lit (.bool false), .sym 12, .sym 13]], .tup [.lit (.bool b1), .sym 22]),
  (27, [.agg [.sym 6, .sym 7, .sym 8, .sym 9, .sym 10, .sym 11], .agg [.lit (.bool false), .sym 12, .sym 13], .agg [.sym 14, .sym 15, .sym 16, .sym 17, .sym 18, .sym 19], .agg [.lit (.bool false), .sym 20, .sym 21]], .tup [.lit (.bool b2), .sym 23]),
  (28, [.agg [.sym 6, .sym 7, .sym 8, .sym 9, .sym 10, .sym 11], .agg [.lit (.bool false), .sym 12, .sym 13], .agg [.sym 14, .sym 15, .sym 16, .sym 17, .sym 18, .sym 19], .agg [.lit (.bool false), .sym 20, .sym 21]], .tup [.lit (.bool b3), .sym 24]),
  (29, [.agg [.sym 6, .sym 7, .sym 8, .sym 9, .sym 10, .sym 11], .agg [.lit (.bool false), .sym 12, .sym 13]], .lit (.bool true)),
  (41, [.agg [.sym 0, .sym 1, .sym 2]], .lit (.bool true)),
  (41, [.agg [.sym 3, .sym 4, .sym 5]], .lit (.bool true)),
  (30, [.agg [.sym 0, .sym 1, .sym 2, .sym 3, .sym 4, .sym 5], .agg [.sym 6, .sym 7, .sym 8, .sym 9, .sym 10, .sym 11], .agg [.lit (.bool false), .sym 12, .sym 13]], .tup [.lit (.bool b1), .sym 22]),
  (29, [.agg [.sym 14, .sym 15, .sym 16, .sym 17, .sym 18, .sym 19], .agg [.lit (.bool false), .sym 20, .sym 21]], .lit (.bool true)),
  (31, [.agg [.sym 6, .sym 7, .sym 8, .sym 9, .sym 10, .sym 11], .agg [.lit (.bool false), .sym 12, .sym 13], .agg [.sym 14, .sym 15, .sym 16, .sym 17, .sym 18, .sym 19], .agg [.lit (.bool false), .sym 20, .sym 21]], .tup [.lit (.bool b2), .sym 23]),
  (32, [.agg [.sym 6, .sym 7, .sym 8, .sym 9, .sym 10, .sym 11], .agg [.lit (.bool false), .sym 12, .sym 13], .agg [.sym 14, .sym 15, .sym 16, .sym 17, .sym 18, .sym 19], .agg [.lit (.bool false), .sym 20, .sym 21]], .tup [.lit (.bool b3), .sym 24]),
  (14, [], .lit (.bool true))]⟩
theorem GaussDiscs_a_r1 : @comes (GaussDiscs_a_k true true true) Tryz.prog glT 3000 GaussDiscs_a_f GaussDiscs_a_a = some (.lit (.bool true)) := by kernel_rfl
theorem GaussDiscs_a_r2 : @comes (GaussDiscs_a_k true true false) Tryz.prog glT 3000 GaussDiscs_a_f GaussDiscs_a_a = some (.lit (.bool true)) := by kernel_rfl
theorem GaussDiscs_a_r3 : @comes (GaussDiscs_a_k true false true) Tryz.prog glT 3000 GaussDiscs_a_f GaussDiscs_a_a = some (.lit (.bool true)) := by kernel_rfl
theorem GaussDiscs_a_r4 : @comes (GaussDiscs_a_k true false false) Tryz.prog glT 3000 GaussDiscs_a_f GaussDiscs_a_a = some (.lit (.bool true)) := by kernel_rfl
theorem GaussDiscs_a_r5 : @comes (GaussDiscs_a_k false true true) Tryz.prog glT 3000 GaussDiscs_a_f GaussDiscs_a_a = some (.lit (.bool true)) := by kernel_rfl
theorem GaussDiscs_a_r6 : @comes (GaussDiscs_a_k false true false) Tryz.prog glT 3000 GaussDiscs_a_f GaussDiscs_a_a = some (.lit (.bool true)) := by kernel_rfl
theorem GaussDiscs_a_r7 : @comes (GaussDiscs_a_k false false true) Tryz.prog glT 3000 GaussDiscs_a_f GaussDiscs_a_a = some (.lit (.bool true)) := by kernel_rfl
theorem GaussDiscs_a_r8 : @comes (GaussDiscs_a_k false false false) Tryz.prog glT 3000 GaussDiscs_a_f GaussDiscs_a_a = some (.lit (.bool true)) := by kernel_rfl

set_option maxRecDepth 100000 in
set_option maxHeartbeats 4000000 in
theorem GaussDiscs_a (g : Gs) (c : Gs) (rn : Nat) (rx : Int) (d : Gs) (sn : Nat) (sx : Int) (w : World) (og : g.Ok) (oc : c.Ok) (hr : (Dy.mk false rn rx).Ok) (od : d.Ok) (hs : (Dy.mk false sn sx).Ok) (hG : Globs glT w) : Calls Tryz.prog 5 #[.agg #[.bool g.re.g, .string (natS g.re.n), .int .i64 g.re.x, .bool g.im.g, .string (natS g.im.n), .int .i64 g.im.x], .agg #[.bool c.re.g, .string (natS c.re.n), .int .i64 c.re.x, .bool c.im.g, .string (natS c.im.n), .int .i64 c.im.x], .agg #[.bool false, .string (natS (Dy.mk false rn rx).n), .int .i64 (Dy.mk false rn rx).x], .agg #[.bool d.re.g, .string (natS d.re.n), .int .i64 d.re.x, .bool d.im.g, .string (natS d.im.n), .int .i64 d.im.x], .agg #[.bool false, .string (natS (Dy.mk false sn sx).n), .int .i64 (Dy.mk false sn sx).x]] w fun e w' => e = .returned (.bool true) ∧ Below w.heap.size w w' := by
  obtain ⟨b1, i1⟩ := bex (inB g c (Dy.mk false rn rx) = true)
  obtain ⟨b2, i2⟩ := bex (withB c (Dy.mk false rn rx) d (Dy.mk false sn sx) = true)
  obtain ⟨b3, i3⟩ := bex (apartB c (Dy.mk false rn rx) d (Dy.mk false sn sx) = true)
  letI : Env := mkEnv glT [.bool g.re.g, .string (natS g.re.n), .int .i64 g.re.x, .bool g.im.g, .string (natS g.im.n), .int .i64 g.im.x, .bool c.re.g, .string (natS c.re.n), .int .i64 c.re.x, .bool c.im.g, .string (natS c.im.n), .int .i64 c.im.x, .string (natS (Dy.mk false rn rx).n), .int .i64 (Dy.mk false rn rx).x, .bool d.re.g, .string (natS d.re.n), .int .i64 d.re.x, .bool d.im.g, .string (natS d.im.n), .int .i64 d.im.x, .string (natS (Dy.mk false sn sx).n), .int .i64 (Dy.mk false sn sx).x, .int .i64 (inE g c (Dy.mk false rn rx)), .int .i64 (withE c (Dy.mk false rn rx) d (Dy.mk false sn sx)), .int .i64 (apartE c (Dy.mk false rn rx) d (Dy.mk false sn sx))] rfl
  have hops : OpsT Tryz.prog (@Know.ops (GaussDiscs_a_k b1 b2 b3)) := ⟨opt_neq_f rfl rfl rfl,
    opt_eql_t rfl rfl rfl,
    opt_eql_t rfl rfl rfl,
    trivial⟩
  have hcalls : CallsT Tryz.prog (@Know.calls (GaussDiscs_a_k b1 b2 b3)) := ⟨callt rfl rfl fun w hG => GIn_pi g c rn rx w og oc hr i1 hG,
    callt rfl rfl fun w hG => GWithin_pi c rn rx d sn sx w oc hr od hs i2 hG,
    callt rfl rfl fun w hG => GApart_pi c rn rx d sn sx w oc hr od hs i3 hG,
    callt rfl rfl fun w hG => lDisc_ok c rn rx w oc hr hG,
    callt rfl rfl fun w hG => rMayT_ok g.re w og.1,
    callt rfl rfl fun w hG => rMayT_ok g.im w og.2,
    callt rfl rfl fun w hG => rGIn_pi g c rn rx w og oc hr i1 hG,
    callt rfl rfl fun w hG => lDisc_ok d sn sx w od hs hG,
    callt rfl rfl fun w hG => rGWithin_pi c rn rx d sn sx w oc hr od hs i2 hG,
    callt rfl rfl fun w hG => rGApart_pi c rn rx d sn sx w oc hr od hs i3 hG,
    callt rfl rfl fun w hG => awake6_c w hG,
    trivial⟩
  have fin : ∀ v, @comes (GaussDiscs_a_k b1 b2 b3) Tryz.prog glT 3000 GaussDiscs_a_f GaussDiscs_a_a = some v → ground v = true → Ending.returned (gval v) = .returned (.bool true) → Calls Tryz.prog 5 #[.agg #[.bool g.re.g, .string (natS g.re.n), .int .i64 g.re.x, .bool g.im.g, .string (natS g.im.n), .int .i64 g.im.x], .agg #[.bool c.re.g, .string (natS c.re.n), .int .i64 c.re.x, .bool c.im.g, .string (natS c.im.n), .int .i64 c.im.x], .agg #[.bool false, .string (natS (Dy.mk false rn rx).n), .int .i64 (Dy.mk false rn rx).x], .agg #[.bool d.re.g, .string (natS d.re.n), .int .i64 d.re.x, .bool d.im.g, .string (natS d.im.n), .int .i64 d.im.x], .agg #[.bool false, .string (natS (Dy.mk false sn sx).n), .int .i64 (Dy.mk false sn sx).x]] w fun e w' => e = .returned (.bool true) ∧ Below w.heap.size w w' := fun v h1 h2 h3 => (@sym_ok _ (GaussDiscs_a_k b1 b2 b3) _ (@KnowOk.of _ (GaussDiscs_a_k b1 b2 b3) _ hops hcalls) (by kernel_rfl) _ _ _ _ h1 rfl h2 _ hG).mono fun e w' h => ⟨h.1.trans h3, h.2⟩
  clear hops hcalls
  cases b1 with
  | true =>
    have h1 : inB g c (Dy.mk false rn rx) = true := i1.1 rfl
    cases b2 with
    | true =>
      have h2 : withB c (Dy.mk false rn rx) d (Dy.mk false sn sx) = true := i2.1 rfl
      cases b3 with
      | true =>
        have h3 : apartB c (Dy.mk false rn rx) d (Dy.mk false sn sx) = true := i3.1 rfl
        exact fin _ (GaussDiscs_a_r1) rfl rfl
      | false =>
        have h3 : ¬ (apartB c (Dy.mk false rn rx) d (Dy.mk false sn sx) = true) := fun c => Bool.false_ne_true (i3.2 c)
        exact fin _ (GaussDiscs_a_r2) rfl rfl
    | false =>
      have h2 : ¬ (withB c (Dy.mk false rn rx) d (Dy.mk false sn sx) = true) := fun c => Bool.false_ne_true (i2.2 c)
      cases b3 with
      | true =>
        have h3 : apartB c (Dy.mk false rn rx) d (Dy.mk false sn sx) = true := i3.1 rfl
        exact fin _ (GaussDiscs_a_r3) rfl rfl
      | false =>
        have h3 : ¬ (apartB c (Dy.mk false rn rx) d (Dy.mk false sn sx) = true) := fun c => Bool.false_ne_true (i3.2 c)
        exact fin _ (GaussDiscs_a_r4) rfl rfl
  | false =>
    have h1 : ¬ (inB g c (Dy.mk false rn rx) = true) := fun c => Bool.false_ne_true (i1.2 c)
    cases b2 with
    | true =>
      have h2 : withB c (Dy.mk false rn rx) d (Dy.mk false sn sx) = true := i2.1 rfl
      cases b3 with
      | true =>
        have h3 : apartB c (Dy.mk false rn rx) d (Dy.mk false sn sx) = true := i3.1 rfl
        exact fin _ (GaussDiscs_a_r5) rfl rfl
      | false =>
        have h3 : ¬ (apartB c (Dy.mk false rn rx) d (Dy.mk false sn sx) = true) := fun c => Bool.false_ne_true (i3.2 c)
        exact fin _ (GaussDiscs_a_r6) rfl rfl
    | false =>
      have h2 : ¬ (withB c (Dy.mk false rn rx) d (Dy.mk false sn sx) = true) := fun c => Bool.false_ne_true (i2.2 c)
      cases b3 with
      | true =>
        have h3 : apartB c (Dy.mk false rn rx) d (Dy.mk false sn sx) = true := i3.1 rfl
        exact fin _ (GaussDiscs_a_r7) rfl rfl
      | false =>
        have h3 : ¬ (apartB c (Dy.mk false rn rx) d (Dy.mk false sn sx) = true) := fun c => Bool.false_ne_true (i3.2 c)
        exact fin _ (GaussDiscs_a_r8) rfl rfl

@[reducible] def GaussDiscs_b_f : FuncId := 5
@[reducible] def GaussDiscs_b_a : List AV := [.agg [.sym 0, .sym 1, .sym 2, .sym 3, .sym 4, .sym 5], .agg [.sym 6, .sym 7, .sym 8, .sym 9, .sym 10, .sym 11], .agg [.lit (.bool false), .sym 12, .sym 13], .agg [.sym 14, .sym 15, .sym 16, .sym 17, .sym 18, .sym 19], .agg [.sym 20, .sym 21, .sym 22]]
@[reducible] noncomputable def GaussDiscs_b_k (b1 : Bool) : Know := ⟨[([0, 12, 3], [.sym 23, .sym 23], .lit (.bool false))],
  [(26, [.agg [.sym 0, .sym 1, .sym 2, .sym 3, .sym 4, .sym 5], .agg [.sym 6, .sym 7, .sym 8, .sym 9, .sym 10, .sym 11], .agg [.lit (.bool false), .sym 12, .sym 13]], .tup [.lit (.bool b1), .sym 23]),
  (27, [.agg [.sym 6, .sym 7, .sym 8, .sym 9, .sym 10, .sym 11], .agg [.lit (.bool false), .sym 12, .sym 13], .agg [.sym 14, .sym 15, .sym 16, .sym 17, .sym 18, .sym 19], .agg [.sym 20, .sym 21, .sym 22]], .lit (.tuple #[.bool false, .int .i64 2])),
  (28, [.agg [.sym 6, .sym 7, .sym 8, .sym 9, .sym 10, .sym 11], .agg [.lit (.bool false), .sym 12, .sym 13], .agg [.sym 14, .sym 15, .sym 16, .sym 17, .sym 18, .sym 19], .agg [.sym 20, .sym 21, .sym 22]], .lit (.tuple #[.bool false, .int .i64 2])),
  (29, [.agg [.sym 6, .sym 7, .sym 8, .sym 9, .sym 10, .sym 11], .agg [.lit (.bool false), .sym 12, .sym 13]], .lit (.bool true)),
  (41, [.agg [.sym 0, .sym 1, .sym 2]], .lit (.bool true)),
  (41, [.agg [.sym 3, .sym 4, .sym 5]], .lit (.bool true)),
  (30, [.agg [.sym 0, .sym 1, .sym 2, .sym 3, .sym 4, .sym 5], .agg [.sym 6, .sym 7, .sym 8, .sym 9, .sym 10, .sym 11], .agg [.lit (.bool false), .sym 12, .sym 13]], .tup [.lit (.bool b1), .sym 23]),
  (29, [.agg [.sym 14, .sym 15, .sym 16, .sym 17, .sym 18, .sym 19], .agg [.sym 20, .sym 21, .sym 22]], .lit (.bool false)),
  (14, [], .lit (.bool true))]⟩
theorem GaussDiscs_b_r1 : @comes (GaussDiscs_b_k true) Tryz.prog glT 3000 GaussDiscs_b_f GaussDiscs_b_a = some (.lit (.bool true)) := by kernel_rfl
theorem GaussDiscs_b_r2 : @comes (GaussDiscs_b_k false) Tryz.prog glT 3000 GaussDiscs_b_f GaussDiscs_b_a = some (.lit (.bool true)) := by kernel_rfl

set_option maxRecDepth 100000 in
set_option maxHeartbeats 4000000 in
theorem GaussDiscs_b (g : Gs) (c : Gs) (rn : Nat) (rx : Int) (d : Gt) (s : Dt) (w : World) (og : g.Ok) (oc : c.Ok) (hr : (Dy.mk false rn rx).Ok) (zd : d.Small) (zs : s.s.size ≤ 9223372036854775807) (nd : ¬ (d.Ok ∧ s.Pos)) (hG : Globs glT w) : Calls Tryz.prog 5 #[.agg #[.bool g.re.g, .string (natS g.re.n), .int .i64 g.re.x, .bool g.im.g, .string (natS g.im.n), .int .i64 g.im.x], .agg #[.bool c.re.g, .string (natS c.re.n), .int .i64 c.re.x, .bool c.im.g, .string (natS c.im.n), .int .i64 c.im.x], .agg #[.bool false, .string (natS (Dy.mk false rn rx).n), .int .i64 (Dy.mk false rn rx).x], .agg #[.bool d.re.g, .string d.re.s, .int .i64 d.re.x, .bool d.im.g, .string d.im.s, .int .i64 d.im.x], .agg #[.bool s.g, .string s.s, .int .i64 s.x]] w fun e w' => e = .returned (.bool true) ∧ Below w.heap.size w w' := by
  obtain ⟨b1, i1⟩ := bex (inB g c (Dy.mk false rn rx) = true)
  letI : Env := mkEnv glT [.bool g.re.g, .string (natS g.re.n), .int .i64 g.re.x, .bool g.im.g, .string (natS g.im.n), .int .i64 g.im.x, .bool c.re.g, .string (natS c.re.n), .int .i64 c.re.x, .bool c.im.g, .string (natS c.im.n), .int .i64 c.im.x, .string (natS (Dy.mk false rn rx).n), .int .i64 (Dy.mk false rn rx).x, .bool d.re.g, .string d.re.s, .int .i64 d.re.x, .bool d.im.g, .string d.im.s, .int .i64 d.im.x, .bool s.g, .string s.s, .int .i64 s.x, .int .i64 (inE g c (Dy.mk false rn rx))] rfl
  have hops : OpsT Tryz.prog (@Know.ops (GaussDiscs_b_k b1)) := ⟨opt_neq_f rfl rfl rfl,
    trivial⟩
  have hcalls : CallsT Tryz.prog (@Know.calls (GaussDiscs_b_k b1)) := ⟨callt rfl rfl fun w hG => GIn_pi g c rn rx w og oc hr i1 hG,
    callt rfl rfl fun w hG => GWithin_bad c.t (Dy.mk false rn rx).t d s w (gs_small oc) (dyt_small hr) zd zs (fun h => nd h.2) hG,
    callt rfl rfl fun w hG => GApart_bad c.t (Dy.mk false rn rx).t d s w (gs_small oc) (dyt_small hr) zd zs (fun h => nd h.2) hG,
    callt rfl rfl fun w hG => lDisc_ok c rn rx w oc hr hG,
    callt rfl rfl fun w hG => rMayT_ok g.re w og.1,
    callt rfl rfl fun w hG => rMayT_ok g.im w og.2,
    callt rfl rfl fun w hG => rGIn_pi g c rn rx w og oc hr i1 hG,
    callt rfl rfl fun w hG => lDisc_no d s w zd zs nd hG,
    callt rfl rfl fun w hG => awake6_c w hG,
    trivial⟩
  have fin : ∀ v, @comes (GaussDiscs_b_k b1) Tryz.prog glT 3000 GaussDiscs_b_f GaussDiscs_b_a = some v → ground v = true → Ending.returned (gval v) = .returned (.bool true) → Calls Tryz.prog 5 #[.agg #[.bool g.re.g, .string (natS g.re.n), .int .i64 g.re.x, .bool g.im.g, .string (natS g.im.n), .int .i64 g.im.x], .agg #[.bool c.re.g, .string (natS c.re.n), .int .i64 c.re.x, .bool c.im.g, .string (natS c.im.n), .int .i64 c.im.x], .agg #[.bool false, .string (natS (Dy.mk false rn rx).n), .int .i64 (Dy.mk false rn rx).x], .agg #[.bool d.re.g, .string d.re.s, .int .i64 d.re.x, .bool d.im.g, .string d.im.s, .int .i64 d.im.x], .agg #[.bool s.g, .string s.s, .int .i64 s.x]] w fun e w' => e = .returned (.bool true) ∧ Below w.heap.size w w' := fun v h1 h2 h3 => (@sym_ok _ (GaussDiscs_b_k b1) _ (@KnowOk.of _ (GaussDiscs_b_k b1) _ hops hcalls) (by kernel_rfl) _ _ _ _ h1 rfl h2 _ hG).mono fun e w' h => ⟨h.1.trans h3, h.2⟩
  clear hops hcalls
  cases b1 with
  | true =>
    have h1 : inB g c (Dy.mk false rn rx) = true := i1.1 rfl
    exact fin _ (GaussDiscs_b_r1) rfl rfl
  | false =>
    have h1 : ¬ (inB g c (Dy.mk false rn rx) = true) := fun c => Bool.false_ne_true (i1.2 c)
    exact fin _ (GaussDiscs_b_r2) rfl rfl

@[reducible] def GaussDiscs_c_f : FuncId := 5
@[reducible] def GaussDiscs_c_a : List AV := [.agg [.sym 0, .sym 1, .sym 2, .sym 3, .sym 4, .sym 5], .agg [.sym 6, .sym 7, .sym 8, .sym 9, .sym 10, .sym 11], .agg [.lit (.bool false), .sym 12, .sym 13], .agg [.sym 14, .sym 15, .sym 16, .sym 17, .sym 18, .sym 19], .agg [.lit (.bool false), .sym 20, .sym 21]]
@[reducible] noncomputable def GaussDiscs_c_k (b1 b2 b3 b4 : Bool) : Know := ⟨[([0, 11, 3], [.sym 22, .sym 22], .lit (.bool true)),
  ([0, 11, 3], [.sym 23, .sym 23], .lit (.bool true))],
  [(26, [.agg [.sym 0, .sym 1, .sym 2, .sym 3, .sym 4, .sym 5], .agg [.sym 6, .sym 7, .sym 8, .sym 9, .sym 10, .sym 11], .agg [.lit (.bool false), .sym 12, .sym 13]], .lit (.tuple #[.bool false, .int .i64 2])),
  (27, [.agg [.sym 6, .sym 7, .sym 8, .sym 9, .sym 10, .sym 11], .agg [.lit (.bool false), .sym 12, .sym 13], .agg [.sym 14, .sym 15, .sym 16, .sym 17, .sym 18, .sym 19], .agg [.lit (.bool false), .sym 20, .sym 21]], .tup [.lit (.bool b1), .sym 22]),
  (28, [.agg [.sym 6, .sym 7, .sym 8, .sym 9, .sym 10, .sym 11], .agg [.lit (.bool false), .sym 12, .sym 13], .agg [.sym 14, .sym 15, .sym 16, .sym 17, .sym 18, .sym 19], .agg [.lit (.bool false), .sym 20, .sym 21]], .tup [.lit (.bool b2), .sym 23]),
  (29, [.agg [.sym 6, .sym 7, .sym 8, .sym 9, .sym 10, .sym 11], .agg [.lit (.bool false), .sym 12, .sym 13]], .lit (.bool true)),
  (41, [.agg [.sym 0, .sym 1, .sym 2]], .lit (.bool b3)),
  (41, [.agg [.sym 3, .sym 4, .sym 5]], .lit (.bool b4)),
  (29, [.agg [.sym 14, .sym 15, .sym 16, .sym 17, .sym 18, .sym 19], .agg [.lit (.bool false), .sym 20, .sym 21]], .lit (.bool true)),
  (31, [.agg [.sym 6, .sym 7, .sym 8, .sym 9, .sym 10, .sym 11], .agg [.lit (.bool false), .sym 12, .sym 13], .agg [.sym 14, .sym 15, .sym 16, .sym 17, .sym 18, .sym 19], .agg [.lit (.bool false), .sym 20, .sym 21]], .tup [.lit (.bool b1), .sym 22]),
  (32, [.agg [.sym 6, .sym 7, .sym 8, .sym 9, .sym 10, .sym 11], .agg [.lit (.bool false), .sym 12, .sym 13], .agg [.sym 14, .sym 15, .sym 16, .sym 17, .sym 18, .sym 19], .agg [.lit (.bool false), .sym 20, .sym 21]], .tup [.lit (.bool b2), .sym 23]),
  (14, [], .lit (.bool true))]⟩
theorem GaussDiscs_c_r1 : @comes (GaussDiscs_c_k true true true false) Tryz.prog glT 3000 GaussDiscs_c_f GaussDiscs_c_a = some (.lit (.bool true)) := by kernel_rfl
theorem GaussDiscs_c_r2 : @comes (GaussDiscs_c_k true false true false) Tryz.prog glT 3000 GaussDiscs_c_f GaussDiscs_c_a = some (.lit (.bool true)) := by kernel_rfl
theorem GaussDiscs_c_r3 : @comes (GaussDiscs_c_k false true true false) Tryz.prog glT 3000 GaussDiscs_c_f GaussDiscs_c_a = some (.lit (.bool true)) := by kernel_rfl
theorem GaussDiscs_c_r4 : @comes (GaussDiscs_c_k false false true false) Tryz.prog glT 3000 GaussDiscs_c_f GaussDiscs_c_a = some (.lit (.bool true)) := by kernel_rfl
theorem GaussDiscs_c_r5 (b4 : Bool) : @comes (GaussDiscs_c_k true true false b4) Tryz.prog glT 3000 GaussDiscs_c_f GaussDiscs_c_a = some (.lit (.bool true)) := by kernel_rfl
theorem GaussDiscs_c_r6 (b4 : Bool) : @comes (GaussDiscs_c_k true false false b4) Tryz.prog glT 3000 GaussDiscs_c_f GaussDiscs_c_a = some (.lit (.bool true)) := by kernel_rfl
theorem GaussDiscs_c_r7 (b4 : Bool) : @comes (GaussDiscs_c_k false true false b4) Tryz.prog glT 3000 GaussDiscs_c_f GaussDiscs_c_a = some (.lit (.bool true)) := by kernel_rfl
theorem GaussDiscs_c_r8 (b4 : Bool) : @comes (GaussDiscs_c_k false false false b4) Tryz.prog glT 3000 GaussDiscs_c_f GaussDiscs_c_a = some (.lit (.bool true)) := by kernel_rfl

set_option maxRecDepth 100000 in
set_option maxHeartbeats 4000000 in
theorem GaussDiscs_c (g : Gt) (c : Gs) (rn : Nat) (rx : Int) (d : Gs) (sn : Nat) (sx : Int) (w : World) (zg : g.Small) (ng : ¬ g.Ok) (oc : c.Ok) (hr : (Dy.mk false rn rx).Ok) (od : d.Ok) (hs : (Dy.mk false sn sx).Ok) (hG : Globs glT w) : Calls Tryz.prog 5 #[.agg #[.bool g.re.g, .string g.re.s, .int .i64 g.re.x, .bool g.im.g, .string g.im.s, .int .i64 g.im.x], .agg #[.bool c.re.g, .string (natS c.re.n), .int .i64 c.re.x, .bool c.im.g, .string (natS c.im.n), .int .i64 c.im.x], .agg #[.bool false, .string (natS (Dy.mk false rn rx).n), .int .i64 (Dy.mk false rn rx).x], .agg #[.bool d.re.g, .string (natS d.re.n), .int .i64 d.re.x, .bool d.im.g, .string (natS d.im.n), .int .i64 d.im.x], .agg #[.bool false, .string (natS (Dy.mk false sn sx).n), .int .i64 (Dy.mk false sn sx).x]] w fun e w' => e = .returned (.bool true) ∧ Below w.heap.size w w' := by
  obtain ⟨b1, i1⟩ := bex (withB c (Dy.mk false rn rx) d (Dy.mk false sn sx) = true)
  obtain ⟨b2, i2⟩ := bex (apartB c (Dy.mk false rn rx) d (Dy.mk false sn sx) = true)
  obtain ⟨b3, i3⟩ := bex (g.re.Ok)
  obtain ⟨b4, i4⟩ := bex (g.im.Ok)
  letI : Env := mkEnv glT [.bool g.re.g, .string g.re.s, .int .i64 g.re.x, .bool g.im.g, .string g.im.s, .int .i64 g.im.x, .bool c.re.g, .string (natS c.re.n), .int .i64 c.re.x, .bool c.im.g, .string (natS c.im.n), .int .i64 c.im.x, .string (natS (Dy.mk false rn rx).n), .int .i64 (Dy.mk false rn rx).x, .bool d.re.g, .string (natS d.re.n), .int .i64 d.re.x, .bool d.im.g, .string (natS d.im.n), .int .i64 d.im.x, .string (natS (Dy.mk false sn sx).n), .int .i64 (Dy.mk false sn sx).x, .int .i64 (withE c (Dy.mk false rn rx) d (Dy.mk false sn sx)), .int .i64 (apartE c (Dy.mk false rn rx) d (Dy.mk false sn sx))] rfl
  have hops : OpsT Tryz.prog (@Know.ops (GaussDiscs_c_k b1 b2 b3 b4)) := ⟨opt_eql_t rfl rfl rfl,
    opt_eql_t rfl rfl rfl,
    trivial⟩
  have hcalls : CallsT Tryz.prog (@Know.calls (GaussDiscs_c_k b1 b2 b3 b4)) := ⟨callt rfl rfl fun w hG => GIn_bad g c.t (Dy.mk false rn rx).t w zg (gs_small oc) (dyt_small hr) (fun h => ng h.1) hG,
    callt rfl rfl fun w hG => GWithin_pi c rn rx d sn sx w oc hr od hs i1 hG,
    callt rfl rfl fun w hG => GApart_pi c rn rx d sn sx w oc hr od hs i2 hG,
    callt rfl rfl fun w hG => lDisc_ok c rn rx w oc hr hG,
    callt rfl rfl fun w hG => rMay_i g.re w zg.1 i3,
    callt rfl rfl fun w hG => rMay_i g.im w zg.2 i4,
    callt rfl rfl fun w hG => lDisc_ok d sn sx w od hs hG,
    callt rfl rfl fun w hG => rGWithin_pi c rn rx d sn sx w oc hr od hs i1 hG,
    callt rfl rfl fun w hG => rGApart_pi c rn rx d sn sx w oc hr od hs i2 hG,
    callt rfl rfl fun w hG => awake6_c w hG,
    trivial⟩
  have fin : ∀ v, @comes (GaussDiscs_c_k b1 b2 b3 b4) Tryz.prog glT 3000 GaussDiscs_c_f GaussDiscs_c_a = some v → ground v = true → Ending.returned (gval v) = .returned (.bool true) → Calls Tryz.prog 5 #[.agg #[.bool g.re.g, .string g.re.s, .int .i64 g.re.x, .bool g.im.g, .string g.im.s, .int .i64 g.im.x], .agg #[.bool c.re.g, .string (natS c.re.n), .int .i64 c.re.x, .bool c.im.g, .string (natS c.im.n), .int .i64 c.im.x], .agg #[.bool false, .string (natS (Dy.mk false rn rx).n), .int .i64 (Dy.mk false rn rx).x], .agg #[.bool d.re.g, .string (natS d.re.n), .int .i64 d.re.x, .bool d.im.g, .string (natS d.im.n), .int .i64 d.im.x], .agg #[.bool false, .string (natS (Dy.mk false sn sx).n), .int .i64 (Dy.mk false sn sx).x]] w fun e w' => e = .returned (.bool true) ∧ Below w.heap.size w w' := fun v h1 h2 h3 => (@sym_ok _ (GaussDiscs_c_k b1 b2 b3 b4) _ (@KnowOk.of _ (GaussDiscs_c_k b1 b2 b3 b4) _ hops hcalls) (by kernel_rfl) _ _ _ _ h1 rfl h2 _ hG).mono fun e w' h => ⟨h.1.trans h3, h.2⟩
  clear hops hcalls
  cases b3 with
  | true =>
    have h3 : g.re.Ok := i3.1 rfl
    cases b1 with
    | true =>
      have h1 : withB c (Dy.mk false rn rx) d (Dy.mk false sn sx) = true := i1.1 rfl
      cases b2 with
      | true =>
        have h2 : apartB c (Dy.mk false rn rx) d (Dy.mk false sn sx) = true := i2.1 rfl
        cases b4 with
        | true =>
          exact absurd (i4.1 rfl) (fun c => ng ⟨h3, c⟩)
        | false =>
          have h4 : ¬ (g.im.Ok) := fun c => Bool.false_ne_true (i4.2 c)
          exact fin _ (GaussDiscs_c_r1) rfl rfl
      | false =>
        have h2 : ¬ (apartB c (Dy.mk false rn rx) d (Dy.mk false sn sx) = true) := fun c => Bool.false_ne_true (i2.2 c)
        cases b4 with
        | true =>
          exact absurd (i4.1 rfl) (fun c => ng ⟨h3, c⟩)
        | false =>
          have h4 : ¬ (g.im.Ok) := fun c => Bool.false_ne_true (i4.2 c)
          exact fin _ (GaussDiscs_c_r2) rfl rfl
    | false =>
      have h1 : ¬ (withB c (Dy.mk false rn rx) d (Dy.mk false sn sx) = true) := fun c => Bool.false_ne_true (i1.2 c)
      cases b2 with
      | true =>
        have h2 : apartB c (Dy.mk false rn rx) d (Dy.mk false sn sx) = true := i2.1 rfl
        cases b4 with
        | true =>
          exact absurd (i4.1 rfl) (fun c => ng ⟨h3, c⟩)
        | false =>
          have h4 : ¬ (g.im.Ok) := fun c => Bool.false_ne_true (i4.2 c)
          exact fin _ (GaussDiscs_c_r3) rfl rfl
      | false =>
        have h2 : ¬ (apartB c (Dy.mk false rn rx) d (Dy.mk false sn sx) = true) := fun c => Bool.false_ne_true (i2.2 c)
        cases b4 with
        | true =>
          exact absurd (i4.1 rfl) (fun c => ng ⟨h3, c⟩)
        | false =>
          have h4 : ¬ (g.im.Ok) := fun c => Bool.false_ne_true (i4.2 c)
          exact fin _ (GaussDiscs_c_r4) rfl rfl
  | false =>
    have h3 : ¬ (g.re.Ok) := fun c => Bool.false_ne_true (i3.2 c)
    cases b1 with
    | true =>
      have h1 : withB c (Dy.mk false rn rx) d (Dy.mk false sn sx) = true := i1.1 rfl
      cases b2 with
      | true =>
        have h2 : apartB c (Dy.mk false rn rx) d (Dy.mk false sn sx) = true := i2.1 rfl
        exact fin _ (GaussDiscs_c_r5 b4) rfl rfl
      | false =>
        have h2 : ¬ (apartB c (Dy.mk false rn rx) d (Dy.mk false sn sx) = true) := fun c => Bool.false_ne_true (i2.2 c)
        exact fin _ (GaussDiscs_c_r6 b4) rfl rfl
    | false =>
      have h1 : ¬ (withB c (Dy.mk false rn rx) d (Dy.mk false sn sx) = true) := fun c => Bool.false_ne_true (i1.2 c)
      cases b2 with
      | true =>
        have h2 : apartB c (Dy.mk false rn rx) d (Dy.mk false sn sx) = true := i2.1 rfl
        exact fin _ (GaussDiscs_c_r7 b4) rfl rfl
      | false =>
        have h2 : ¬ (apartB c (Dy.mk false rn rx) d (Dy.mk false sn sx) = true) := fun c => Bool.false_ne_true (i2.2 c)
        exact fin _ (GaussDiscs_c_r8 b4) rfl rfl

@[reducible] def GaussDiscs_d_f : FuncId := 5
@[reducible] def GaussDiscs_d_a : List AV := [.agg [.sym 0, .sym 1, .sym 2, .sym 3, .sym 4, .sym 5], .agg [.sym 6, .sym 7, .sym 8, .sym 9, .sym 10, .sym 11], .agg [.lit (.bool false), .sym 12, .sym 13], .agg [.sym 14, .sym 15, .sym 16, .sym 17, .sym 18, .sym 19], .agg [.sym 20, .sym 21, .sym 22]]
@[reducible] noncomputable def GaussDiscs_d_k (b1 b2 : Bool) : Know := ⟨[],
  [(26, [.agg [.sym 0, .sym 1, .sym 2, .sym 3, .sym 4, .sym 5], .agg [.sym 6, .sym 7, .sym 8, .sym 9, .sym 10, .sym 11], .agg [.lit (.bool false), .sym 12, .sym 13]], .lit (.tuple #[.bool false, .int .i64 2])),
  (27, [.agg [.sym 6, .sym 7, .sym 8, .sym 9, .sym 10, .sym 11], .agg [.lit (.bool false), .sym 12, .sym 13], .agg [.sym 14, .sym 15, .sym 16, .sym 17, .sym 18, .sym 19], .agg [.sym 20, .sym 21, .sym 22]], .lit (.tuple #[.bool false, .int .i64 2])),
  (28, [.agg [.sym 6, .sym 7, .sym 8, .sym 9, .sym 10, .sym 11], .agg [.lit (.bool false), .sym 12, .sym 13], .agg [.sym 14, .sym 15, .sym 16, .sym 17, .sym 18, .sym 19], .agg [.sym 20, .sym 21, .sym 22]], .lit (.tuple #[.bool false, .int .i64 2])),
  (29, [.agg [.sym 6, .sym 7, .sym 8, .sym 9, .sym 10, .sym 11], .agg [.lit (.bool false), .sym 12, .sym 13]], .lit (.bool true)),
  (41, [.agg [.sym 0, .sym 1, .sym 2]], .lit (.bool b1)),
  (41, [.agg [.sym 3, .sym 4, .sym 5]], .lit (.bool b2)),
  (29, [.agg [.sym 14, .sym 15, .sym 16, .sym 17, .sym 18, .sym 19], .agg [.sym 20, .sym 21, .sym 22]], .lit (.bool false)),
  (14, [], .lit (.bool true))]⟩
theorem GaussDiscs_d_r1 : @comes (GaussDiscs_d_k true false) Tryz.prog glT 3000 GaussDiscs_d_f GaussDiscs_d_a = some (.lit (.bool true)) := by kernel_rfl
theorem GaussDiscs_d_r2 (b2 : Bool) : @comes (GaussDiscs_d_k false b2) Tryz.prog glT 3000 GaussDiscs_d_f GaussDiscs_d_a = some (.lit (.bool true)) := by kernel_rfl

set_option maxRecDepth 100000 in
set_option maxHeartbeats 4000000 in
theorem GaussDiscs_d (g : Gt) (c : Gs) (rn : Nat) (rx : Int) (d : Gt) (s : Dt) (w : World) (zg : g.Small) (ng : ¬ g.Ok) (oc : c.Ok) (hr : (Dy.mk false rn rx).Ok) (zd : d.Small) (zs : s.s.size ≤ 9223372036854775807) (nd : ¬ (d.Ok ∧ s.Pos)) (hG : Globs glT w) : Calls Tryz.prog 5 #[.agg #[.bool g.re.g, .string g.re.s, .int .i64 g.re.x, .bool g.im.g, .string g.im.s, .int .i64 g.im.x], .agg #[.bool c.re.g, .string (natS c.re.n), .int .i64 c.re.x, .bool c.im.g, .string (natS c.im.n), .int .i64 c.im.x], .agg #[.bool false, .string (natS (Dy.mk false rn rx).n), .int .i64 (Dy.mk false rn rx).x], .agg #[.bool d.re.g, .string d.re.s, .int .i64 d.re.x, .bool d.im.g, .string d.im.s, .int .i64 d.im.x], .agg #[.bool s.g, .string s.s, .int .i64 s.x]] w fun e w' => e = .returned (.bool true) ∧ Below w.heap.size w w' := by
  obtain ⟨b1, i1⟩ := bex (g.re.Ok)
  obtain ⟨b2, i2⟩ := bex (g.im.Ok)
  letI : Env := mkEnv glT [.bool g.re.g, .string g.re.s, .int .i64 g.re.x, .bool g.im.g, .string g.im.s, .int .i64 g.im.x, .bool c.re.g, .string (natS c.re.n), .int .i64 c.re.x, .bool c.im.g, .string (natS c.im.n), .int .i64 c.im.x, .string (natS (Dy.mk false rn rx).n), .int .i64 (Dy.mk false rn rx).x, .bool d.re.g, .string d.re.s, .int .i64 d.re.x, .bool d.im.g, .string d.im.s, .int .i64 d.im.x, .bool s.g, .string s.s, .int .i64 s.x] rfl
  have hops : OpsT Tryz.prog (@Know.ops (GaussDiscs_d_k b1 b2)) := trivial
  have hcalls : CallsT Tryz.prog (@Know.calls (GaussDiscs_d_k b1 b2)) := ⟨callt rfl rfl fun w hG => GIn_bad g c.t (Dy.mk false rn rx).t w zg (gs_small oc) (dyt_small hr) (fun h => ng h.1) hG,
    callt rfl rfl fun w hG => GWithin_bad c.t (Dy.mk false rn rx).t d s w (gs_small oc) (dyt_small hr) zd zs (fun h => nd h.2) hG,
    callt rfl rfl fun w hG => GApart_bad c.t (Dy.mk false rn rx).t d s w (gs_small oc) (dyt_small hr) zd zs (fun h => nd h.2) hG,
    callt rfl rfl fun w hG => lDisc_ok c rn rx w oc hr hG,
    callt rfl rfl fun w hG => rMay_i g.re w zg.1 i1,
    callt rfl rfl fun w hG => rMay_i g.im w zg.2 i2,
    callt rfl rfl fun w hG => lDisc_no d s w zd zs nd hG,
    callt rfl rfl fun w hG => awake6_c w hG,
    trivial⟩
  have fin : ∀ v, @comes (GaussDiscs_d_k b1 b2) Tryz.prog glT 3000 GaussDiscs_d_f GaussDiscs_d_a = some v → ground v = true → Ending.returned (gval v) = .returned (.bool true) → Calls Tryz.prog 5 #[.agg #[.bool g.re.g, .string g.re.s, .int .i64 g.re.x, .bool g.im.g, .string g.im.s, .int .i64 g.im.x], .agg #[.bool c.re.g, .string (natS c.re.n), .int .i64 c.re.x, .bool c.im.g, .string (natS c.im.n), .int .i64 c.im.x], .agg #[.bool false, .string (natS (Dy.mk false rn rx).n), .int .i64 (Dy.mk false rn rx).x], .agg #[.bool d.re.g, .string d.re.s, .int .i64 d.re.x, .bool d.im.g, .string d.im.s, .int .i64 d.im.x], .agg #[.bool s.g, .string s.s, .int .i64 s.x]] w fun e w' => e = .returned (.bool true) ∧ Below w.heap.size w w' := fun v h1 h2 h3 => (@sym_ok _ (GaussDiscs_d_k b1 b2) _ (@KnowOk.of _ (GaussDiscs_d_k b1 b2) _ hops hcalls) (by kernel_rfl) _ _ _ _ h1 rfl h2 _ hG).mono fun e w' h => ⟨h.1.trans h3, h.2⟩
  clear hops hcalls
  cases b1 with
  | true =>
    have h1 : g.re.Ok := i1.1 rfl
    cases b2 with
    | true =>
      exact absurd (i2.1 rfl) (fun c => ng ⟨h1, c⟩)
    | false =>
      have h2 : ¬ (g.im.Ok) := fun c => Bool.false_ne_true (i2.2 c)
      exact fin _ (GaussDiscs_d_r1) rfl rfl
  | false =>
    have h1 : ¬ (g.re.Ok) := fun c => Bool.false_ne_true (i1.2 c)
    exact fin _ (GaussDiscs_d_r2 b2) rfl rfl

@[reducible] def GaussDiscs_e_f : FuncId := 5
@[reducible] def GaussDiscs_e_a : List AV := [.agg [.sym 0, .sym 1, .sym 2, .sym 3, .sym 4, .sym 5], .agg [.sym 6, .sym 7, .sym 8, .sym 9, .sym 10, .sym 11], .agg [.sym 12, .sym 13, .sym 14], .agg [.sym 15, .sym 16, .sym 17, .sym 18, .sym 19, .sym 20], .agg [.lit (.bool false), .sym 21, .sym 22]]
@[reducible] noncomputable def GaussDiscs_e_k : Know := ⟨[],
  [(26, [.agg [.sym 0, .sym 1, .sym 2, .sym 3, .sym 4, .sym 5], .agg [.sym 6, .sym 7, .sym 8, .sym 9, .sym 10, .sym 11], .agg [.sym 12, .sym 13, .sym 14]], .lit (.tuple #[.bool false, .int .i64 2])),
  (27, [.agg [.sym 6, .sym 7, .sym 8, .sym 9, .sym 10, .sym 11], .agg [.sym 12, .sym 13, .sym 14], .agg [.sym 15, .sym 16, .sym 17, .sym 18, .sym 19, .sym 20], .agg [.lit (.bool false), .sym 21, .sym 22]], .lit (.tuple #[.bool false, .int .i64 2])),
  (28, [.agg [.sym 6, .sym 7, .sym 8, .sym 9, .sym 10, .sym 11], .agg [.sym 12, .sym 13, .sym 14], .agg [.sym 15, .sym 16, .sym 17, .sym 18, .sym 19, .sym 20], .agg [.lit (.bool false), .sym 21, .sym 22]], .lit (.tuple #[.bool false, .int .i64 2])),
  (29, [.agg [.sym 6, .sym 7, .sym 8, .sym 9, .sym 10, .sym 11], .agg [.sym 12, .sym 13, .sym 14]], .lit (.bool false)),
  (14, [], .lit (.bool true))]⟩
theorem GaussDiscs_e_r1 : @comes GaussDiscs_e_k Tryz.prog glT 3000 GaussDiscs_e_f GaussDiscs_e_a = some (.lit (.bool true)) := by kernel_rfl

set_option maxRecDepth 100000 in
set_option maxHeartbeats 4000000 in
theorem GaussDiscs_e (g : Gt) (c : Gt) (r : Dt) (d : Gs) (sn : Nat) (sx : Int) (w : World) (zg : g.Small) (zc : c.Small) (zr : r.s.size ≤ 9223372036854775807) (nc : ¬ (c.Ok ∧ r.Pos)) (od : d.Ok) (hs : (Dy.mk false sn sx).Ok) (hG : Globs glT w) : Calls Tryz.prog 5 #[.agg #[.bool g.re.g, .string g.re.s, .int .i64 g.re.x, .bool g.im.g, .string g.im.s, .int .i64 g.im.x], .agg #[.bool c.re.g, .string c.re.s, .int .i64 c.re.x, .bool c.im.g, .string c.im.s, .int .i64 c.im.x], .agg #[.bool r.g, .string r.s, .int .i64 r.x], .agg #[.bool d.re.g, .string (natS d.re.n), .int .i64 d.re.x, .bool d.im.g, .string (natS d.im.n), .int .i64 d.im.x], .agg #[.bool false, .string (natS (Dy.mk false sn sx).n), .int .i64 (Dy.mk false sn sx).x]] w fun e w' => e = .returned (.bool true) ∧ Below w.heap.size w w' := by
  letI : Env := mkEnv glT [.bool g.re.g, .string g.re.s, .int .i64 g.re.x, .bool g.im.g, .string g.im.s, .int .i64 g.im.x, .bool c.re.g, .string c.re.s, .int .i64 c.re.x, .bool c.im.g, .string c.im.s, .int .i64 c.im.x, .bool r.g, .string r.s, .int .i64 r.x, .bool d.re.g, .string (natS d.re.n), .int .i64 d.re.x, .bool d.im.g, .string (natS d.im.n), .int .i64 d.im.x, .string (natS (Dy.mk false sn sx).n), .int .i64 (Dy.mk false sn sx).x] rfl
  have hops : OpsT Tryz.prog (@Know.ops GaussDiscs_e_k) := trivial
  have hcalls : CallsT Tryz.prog (@Know.calls GaussDiscs_e_k) := ⟨callt rfl rfl fun w hG => GIn_bad g c r w zg zc zr (fun h => nc ⟨h.2.1, h.2.2⟩) hG,
    callt rfl rfl fun w hG => GWithin_bad c r d.t (Dy.mk false sn sx).t w zc zr (gs_small od) (dyt_small hs) (fun h => nc h.1) hG,
    callt rfl rfl fun w hG => GApart_bad c r d.t (Dy.mk false sn sx).t w zc zr (gs_small od) (dyt_small hs) (fun h => nc h.1) hG,
    callt rfl rfl fun w hG => lDisc_no c r w zc zr nc hG,
    callt rfl rfl fun w hG => awake6_c w hG,
    trivial⟩
  have fin : ∀ v, @comes GaussDiscs_e_k Tryz.prog glT 3000 GaussDiscs_e_f GaussDiscs_e_a = some v → ground v = true → Ending.returned (gval v) = .returned (.bool true) → Calls Tryz.prog 5 #[.agg #[.bool g.re.g, .string g.re.s, .int .i64 g.re.x, .bool g.im.g, .string g.im.s, .int .i64 g.im.x], .agg #[.bool c.re.g, .string c.re.s, .int .i64 c.re.x, .bool c.im.g, .string c.im.s, .int .i64 c.im.x], .agg #[.bool r.g, .string r.s, .int .i64 r.x], .agg #[.bool d.re.g, .string (natS d.re.n), .int .i64 d.re.x, .bool d.im.g, .string (natS d.im.n), .int .i64 d.im.x], .agg #[.bool false, .string (natS (Dy.mk false sn sx).n), .int .i64 (Dy.mk false sn sx).x]] w fun e w' => e = .returned (.bool true) ∧ Below w.heap.size w w' := fun v h1 h2 h3 => (@sym_ok _ GaussDiscs_e_k _ (@KnowOk.of _ GaussDiscs_e_k _ hops hcalls) (by kernel_rfl) _ _ _ _ h1 rfl h2 _ hG).mono fun e w' h => ⟨h.1.trans h3, h.2⟩
  clear hops hcalls
  exact fin _ (GaussDiscs_e_r1) rfl rfl

@[reducible] def GaussDiscs_f_f : FuncId := 5
@[reducible] def GaussDiscs_f_a : List AV := [.agg [.sym 0, .sym 1, .sym 2, .sym 3, .sym 4, .sym 5], .agg [.sym 6, .sym 7, .sym 8, .sym 9, .sym 10, .sym 11], .agg [.sym 12, .sym 13, .sym 14], .agg [.sym 15, .sym 16, .sym 17, .sym 18, .sym 19, .sym 20], .agg [.sym 21, .sym 22, .sym 23]]
@[reducible] noncomputable def GaussDiscs_f_k : Know := ⟨[],
  [(26, [.agg [.sym 0, .sym 1, .sym 2, .sym 3, .sym 4, .sym 5], .agg [.sym 6, .sym 7, .sym 8, .sym 9, .sym 10, .sym 11], .agg [.sym 12, .sym 13, .sym 14]], .lit (.tuple #[.bool false, .int .i64 2])),
  (27, [.agg [.sym 6, .sym 7, .sym 8, .sym 9, .sym 10, .sym 11], .agg [.sym 12, .sym 13, .sym 14], .agg [.sym 15, .sym 16, .sym 17, .sym 18, .sym 19, .sym 20], .agg [.sym 21, .sym 22, .sym 23]], .lit (.tuple #[.bool false, .int .i64 2])),
  (28, [.agg [.sym 6, .sym 7, .sym 8, .sym 9, .sym 10, .sym 11], .agg [.sym 12, .sym 13, .sym 14], .agg [.sym 15, .sym 16, .sym 17, .sym 18, .sym 19, .sym 20], .agg [.sym 21, .sym 22, .sym 23]], .lit (.tuple #[.bool false, .int .i64 2])),
  (29, [.agg [.sym 6, .sym 7, .sym 8, .sym 9, .sym 10, .sym 11], .agg [.sym 12, .sym 13, .sym 14]], .lit (.bool false)),
  (14, [], .lit (.bool true))]⟩
theorem GaussDiscs_f_r1 : @comes GaussDiscs_f_k Tryz.prog glT 3000 GaussDiscs_f_f GaussDiscs_f_a = some (.lit (.bool true)) := by kernel_rfl

set_option maxRecDepth 100000 in
set_option maxHeartbeats 4000000 in
theorem GaussDiscs_f (g : Gt) (c : Gt) (r : Dt) (d : Gt) (s : Dt) (w : World) (zg : g.Small) (zc : c.Small) (zr : r.s.size ≤ 9223372036854775807) (nc : ¬ (c.Ok ∧ r.Pos)) (zd : d.Small) (zs : s.s.size ≤ 9223372036854775807) (nd : ¬ (d.Ok ∧ s.Pos)) (hG : Globs glT w) : Calls Tryz.prog 5 #[.agg #[.bool g.re.g, .string g.re.s, .int .i64 g.re.x, .bool g.im.g, .string g.im.s, .int .i64 g.im.x], .agg #[.bool c.re.g, .string c.re.s, .int .i64 c.re.x, .bool c.im.g, .string c.im.s, .int .i64 c.im.x], .agg #[.bool r.g, .string r.s, .int .i64 r.x], .agg #[.bool d.re.g, .string d.re.s, .int .i64 d.re.x, .bool d.im.g, .string d.im.s, .int .i64 d.im.x], .agg #[.bool s.g, .string s.s, .int .i64 s.x]] w fun e w' => e = .returned (.bool true) ∧ Below w.heap.size w w' := by
  letI : Env := mkEnv glT [.bool g.re.g, .string g.re.s, .int .i64 g.re.x, .bool g.im.g, .string g.im.s, .int .i64 g.im.x, .bool c.re.g, .string c.re.s, .int .i64 c.re.x, .bool c.im.g, .string c.im.s, .int .i64 c.im.x, .bool r.g, .string r.s, .int .i64 r.x, .bool d.re.g, .string d.re.s, .int .i64 d.re.x, .bool d.im.g, .string d.im.s, .int .i64 d.im.x, .bool s.g, .string s.s, .int .i64 s.x] rfl
  have hops : OpsT Tryz.prog (@Know.ops GaussDiscs_f_k) := trivial
  have hcalls : CallsT Tryz.prog (@Know.calls GaussDiscs_f_k) := ⟨callt rfl rfl fun w hG => GIn_bad g c r w zg zc zr (fun h => nc ⟨h.2.1, h.2.2⟩) hG,
    callt rfl rfl fun w hG => GWithin_bad c r d s w zc zr zd zs (fun h => nc h.1) hG,
    callt rfl rfl fun w hG => GApart_bad c r d s w zc zr zd zs (fun h => nc h.1) hG,
    callt rfl rfl fun w hG => lDisc_no c r w zc zr nc hG,
    callt rfl rfl fun w hG => awake6_c w hG,
    trivial⟩
  have fin : ∀ v, @comes GaussDiscs_f_k Tryz.prog glT 3000 GaussDiscs_f_f GaussDiscs_f_a = some v → ground v = true → Ending.returned (gval v) = .returned (.bool true) → Calls Tryz.prog 5 #[.agg #[.bool g.re.g, .string g.re.s, .int .i64 g.re.x, .bool g.im.g, .string g.im.s, .int .i64 g.im.x], .agg #[.bool c.re.g, .string c.re.s, .int .i64 c.re.x, .bool c.im.g, .string c.im.s, .int .i64 c.im.x], .agg #[.bool r.g, .string r.s, .int .i64 r.x], .agg #[.bool d.re.g, .string d.re.s, .int .i64 d.re.x, .bool d.im.g, .string d.im.s, .int .i64 d.im.x], .agg #[.bool s.g, .string s.s, .int .i64 s.x]] w fun e w' => e = .returned (.bool true) ∧ Below w.heap.size w w' := fun v h1 h2 h3 => (@sym_ok _ GaussDiscs_f_k _ (@KnowOk.of _ GaussDiscs_f_k _ hops hcalls) (by kernel_rfl) _ _ _ _ h1 rfl h2 _ hG).mono fun e w' h => ⟨h.1.trans h3, h.2⟩
  clear hops hcalls
  exact fin _ (GaussDiscs_f_r1) rfl rfl

theorem GaussDiscs_law (g c : Gt) (r : Dt) (d : Gt) (s : Dt) (w : World) (zg : g.Small) (zc : c.Small) (zr : r.s.size ≤ 9223372036854775807) (zd : d.Small) (zs : s.s.size ≤ 9223372036854775807) (hG : Globs glT w) : Calls Tryz.prog 5 #[.agg #[.bool g.re.g, .string g.re.s, .int .i64 g.re.x, .bool g.im.g, .string g.im.s, .int .i64 g.im.x], .agg #[.bool c.re.g, .string c.re.s, .int .i64 c.re.x, .bool c.im.g, .string c.im.s, .int .i64 c.im.x], .agg #[.bool r.g, .string r.s, .int .i64 r.x], .agg #[.bool d.re.g, .string d.re.s, .int .i64 d.re.x, .bool d.im.g, .string d.im.s, .int .i64 d.im.x], .agg #[.bool s.g, .string s.s, .int .i64 s.x]] w fun e w' => e = .returned (.bool true) ∧ Below w.heap.size w w' := by
  by_cases hc : c.Ok ∧ r.Pos
  · obtain ⟨c, oc, rfl⟩ := Gt.gs hc.1
    obtain ⟨rn, rx, _, hr, rfl⟩ := Dt.pos_d hc.2
    by_cases hg : g.Ok
    · obtain ⟨g, og, rfl⟩ := Gt.gs hg
      by_cases hd : d.Ok ∧ s.Pos
      · obtain ⟨d, od, rfl⟩ := Gt.gs hd.1
        obtain ⟨sn, sx, _, hs, rfl⟩ := Dt.pos_d hd.2
        exact GaussDiscs_a g c rn rx d sn sx w og oc hr od hs hG
      · exact GaussDiscs_b g c rn rx d s w og oc hr zd zs hd hG
    · by_cases hd : d.Ok ∧ s.Pos
      · obtain ⟨d, od, rfl⟩ := Gt.gs hd.1
        obtain ⟨sn, sx, _, hs, rfl⟩ := Dt.pos_d hd.2
        exact GaussDiscs_c g c rn rx d sn sx w zg hg oc hr od hs hG
      · exact GaussDiscs_d g c rn rx d s w zg hg oc hr zd zs hd hG
  · by_cases hd : d.Ok ∧ s.Pos
    · obtain ⟨d, od, rfl⟩ := Gt.gs hd.1
      obtain ⟨sn, sx, _, hs, rfl⟩ := Dt.pos_d hd.2
      exact GaussDiscs_e g c r d sn sx w zg zc zr hc od hs hG
    · exact GaussDiscs_f g c r d s w zg zc zr hc zd zs hd hG
end Go.Proofs.YtciidbldnjfooaaGreatDoor
namespace Go.Proofs.YtciidbldnjfooaaGreatDoor
open Go Go.RowKit Go.WideShapes Go.ChangeShapes
variable {H : Type} {enc : TypeId × Value → H} {P : Program}

theorem postBelow {f : Func} {s : ChangeSpec} {apart fresh handsOn again : Bool} {W W' : World} {args : Array Value} {v : Value} {ds gs : List (DataW H)} {places pa pv : List MemPlace}
    (whole : DataW.Whole enc P f.params.toList s.vars apart W args.toList ds gs places)
    (res : ∀ (b : Nat) (sp : Nat → Bool) (hd : Bool), DataW.TrodAll enc P W' b sp hd f.resultTypes.toList (v.resultList f.resultTypes.size) (s.fn H (ds ++ gs)).results [])
    (left : ∀ sp : Nat → Bool, (∀ p ∈ places, sp p.block = true) → DataW.TrodAll enc P W' 0 sp true f.params.toList args.toList (s.fn H (ds ++ gs)).args pa)
    (vars : ∀ sp : Nat → Bool, (∀ p ∈ places, sp p.block = true) → DataW.TrodVars enc P W' sp s.vars (s.fn H (ds ++ gs)).vars pv)
    (split : places = pa ++ pv) (below : Below W.heap.size W W')
    (ok : ∀ (j : Nat) (t : TypeId) (r : Value), f.resultTypes[j]? = some t → (v.resultList f.resultTypes.size)[j]? = some r → Value.okWide P W' .any 0 t r) :
    s.post enc P f apart fresh handsOn again W args v W' := by
  have old : ∀ p ∈ places, p.block < W.heap.size := fun p hp => whole.lt p hp
  have same : ∀ p ∈ places, (fun b => decide (b < W.heap.size)) p.block = true := fun p hp => decide_eq_true (old p hp)
  have kept : W.keptBut W' (fun p => p ∈ places ∧ p ∈ pa ++ pv) :=
    World.keptBut_mono (fun p hp => ⟨hp, split ▸ hp⟩) (below.frame (· ∈ places))
  have free : ∀ b off, MemPlace.cell b off ∈ pa ++ pv → W'.frozen? ⟨b, off, none⟩ = false := fun b off hp => by
    have hin : MemPlace.cell b off ∈ places := split ▸ hp
    rw [below.frozen (p := ⟨b, off, none⟩) (old _ hin)]
    obtain ⟨_, _, _, _, _, hz, _⟩ := whole
    exact hz b off hin
  have apartNow : apart = true → (pa ++ pv).Nodup := fun ha => by
    obtain ⟨_, _, _, _, _, _, hn⟩ := whole
    exact split ▸ hn ha
  refine ⟨ds, gs, places, [], pa, pv, whole, res _ _ _, left _ same, vars _ same, ?_, fun _ => ⟨ok, _, _, ([] ++ pa) ++ pv, ⟨[] ++ pa, pv, trodAll_append (left _ (fun _ _ => rfl)) (res _ _ _), vars _ (fun _ _ => rfl), rfl, ?_, ?_⟩, ?_⟩⟩
  · exact World.keptBut_mono (fun p hp => ⟨hp.1, Or.inr (List.mem_append.1 hp.2)⟩) kept
  · intro b off hp; exact free b off (by simpa using hp)
  · intro ha; simpa using apartNow ha
  · intro p hp _; rw [split]; simpa using hp
end Go.Proofs.YtciidbldnjfooaaGreatDoor
set_option linter.unusedVariables false
namespace Go.Proofs.YtciidbldnjfooaaGreatDoor
open Go.ChangeShapes Go.WideShapes Go.ChangeAt Go.RowKit Go.Joins
variable {H : Type} {enc : TypeId × Value → H}
/-- A Dyad's datum. -/
def dyadD (H : Type) (g : Bool) (s : ByteArray) (x : Int) : DataW H := .agg [.lit (.bool g), .lit (.string s.data.toList), .lit (.int .i64 x)]
set_option maxRecDepth 100000 in
theorem open_dyad {w : World} {base : Nat} {spare : Nat → Bool} {held : Bool} {r : Go.Reach} {b0 : Nat} {v : Value} {d : DataW H} {p : List MemPlace}
    (hv : Value.okWide Tryz.prog w r b0 24 v) (h : DataW.Trod enc Tryz.prog w base spare held 24 v d p) :
    ∃ (g : Bool) (s : ByteArray) (x : Int), v = .agg #[.bool g, .string s, .int .i64 x] ∧ d = dyadD H g s x ∧ p = [] ∧ s.size ≤ maxLen ∧ (Lit.int .i64 x).wf = true := by
  obtain ⟨c0, c1, c2, y0, y1, y2, m, rfl, rfl, rfl, hy0, hy1, hy2⟩ := open_agg3 Tryz.underlying24 (by kernel_rfl) (by kernel_rfl) hv h
  obtain ⟨g, e0, rfl⟩ := DataW.trod_bool Tryz.underlying4 hy0
  obtain ⟨s, e1, rfl, hs⟩ := DataW.trod_string Tryz.underlying22 hy1
  obtain ⟨x, e2, rfl, wx⟩ := DataW.trod_int Tryz.underlying3 hy2
  simp at e0 e1 e2
  subst e0 e1 e2
  exact ⟨g, s, x, rfl, rfl, rfl, hs, wx⟩
set_option maxRecDepth 100000 in
theorem shut_dyad {W' : World} {b : Nat} {sp : Nat → Bool} {hd : Bool} {g : Bool} {s : ByteArray} {x : Int} (hs : s.size ≤ maxLen) (wx : (Lit.int .i64 x).wf = true) :
    DataW.Trod enc Tryz.prog W' b sp hd 24 (.agg #[.bool g, .string s, .int .i64 x]) (dyadD H g s x) [] := by
  simpa [dyadD] using shut_agg3 (enc := enc) (w := W') (base := b) (spare := sp) (held := hd) (y0 := (.lit (.bool g), [])) (y1 := (.lit (.string s.data.toList), [])) (y2 := (.lit (.int .i64 x), [])) Tryz.underlying24 (by kernel_rfl) (by kernel_rfl) ⟨1, by simp [DataW.trod, Tryz.underlying4]⟩ ⟨1, by simp [DataW.trod, Tryz.underlying22, hs]⟩ ⟨1, by simp [DataW.trod, Tryz.underlying3, wx]⟩
theorem int64_bounds {x : Int} (h : (Lit.int .i64 x).wf = true) : -9223372036854775808 ≤ x ∧ x ≤ 9223372036854775807 := by
  unfold Lit.wf at h
  rw [Bool.and_eq_true, decide_eq_true_iff, decide_eq_true_iff] at h
  exact h
theorem float_bound {b : Nat} (h : (Lit.float .f64 b).wf = true) : b < 18446744073709551616 := by
  unfold Lit.wf at h
  exact of_decide_eq_true h
end Go.Proofs.YtciidbldnjfooaaGreatDoor
set_option linter.unusedVariables false
set_option linter.unusedSimpArgs false
namespace Go.Proofs.YtciidbldnjfooaaGreatDoor
open Go.ChangeShapes Go.WideShapes Go.ChangeAt Go.RowKit Go.Joins Go.Deep Go.ChangeMaps
variable {H : Type} {enc : TypeId × Value → H}
def gaussD (H : Type) (g : Bool) (s : ByteArray) (x : Int) (k : Bool) (r : ByteArray) (y : Int) : DataW H := .agg [dyadD H g s x, dyadD H k r y]
theorem array6 {α : Type} {cs : Array α} (h : cs.size = 6) : ∃ c0 c1 c2 c3 c4 c5, cs = #[c0, c1, c2, c3, c4, c5] := by
  obtain ⟨l⟩ := cs
  match l, h with
  | [c0, c1, c2, c3, c4, c5], _ => exact ⟨c0, c1, c2, c3, c4, c5, rfl⟩
theorem cDyad : Tryz.prog.cellsOf 24 = 3 := by kernel_rfl
theorem cGauss : Tryz.prog.cellsOf 26 = 6 := by kernel_rfl
theorem cBool1 : Tryz.prog.cellsOf 4 = 1 := by kernel_rfl
theorem cNat1 : Tryz.prog.cellsOf 22 = 1 := by kernel_rfl
theorem cInt1 : Tryz.prog.cellsOf 3 = 1 := by kernel_rfl
set_option maxRecDepth 100000 in
theorem trod_dyad {w : World} {base : Nat} {spare : Nat → Bool} {held : Bool} {n : Nat} {c0 c1 c2 : Value} {y : DataW H × List MemPlace} (h : DataW.trod enc Tryz.prog w base spare held n 24 [c0, c1, c2] = some y) :
    ∃ (g : Bool) (s : ByteArray) (x : Int), c0 = .bool g ∧ c1 = .string s ∧ c2 = .int .i64 x ∧ y = (dyadD H g s x, []) ∧ s.size ≤ maxLen ∧ (Lit.int .i64 x).wf = true := by
  obtain ⟨y0, y1, y2, m, rfl, _, h0, h1, h2⟩ := trod_struct3 Tryz.underlying24 h
  simp only [cBool1, cNat1, cInt1, List.drop_zero, List.take_succ_cons, List.take_zero, List.drop_succ_cons] at h0 h1 h2
  obtain ⟨g, e0, rfl⟩ := DataW.trod_bool Tryz.underlying4 h0
  obtain ⟨s, e1, rfl, hs⟩ := DataW.trod_string Tryz.underlying22 h1
  obtain ⟨x, e2, rfl, wx⟩ := DataW.trod_int Tryz.underlying3 h2
  simp at e0 e1 e2
  subst e0 e1 e2
  exact ⟨g, s, x, rfl, rfl, rfl, rfl, hs, wx⟩
set_option maxRecDepth 100000 in
theorem open_gauss {w : World} {base : Nat} {spare : Nat → Bool} {held : Bool} {r : Go.Reach} {b0 : Nat} {v : Value} {d : DataW H} {p : List MemPlace}
    (hv : Value.okWide Tryz.prog w r b0 26 v) (h : DataW.Trod enc Tryz.prog w base spare held 26 v d p) :
    ∃ (g : Bool) (s : ByteArray) (x : Int) (k : Bool) (q : ByteArray) (y : Int), v = .agg #[.bool g, .string s, .int .i64 x, .bool k, .string q, .int .i64 y] ∧ d = gaussD H g s x k q y ∧ p = [] ∧ (s.size ≤ maxLen ∧ (Lit.int .i64 x).wf = true) ∧ (q.size ≤ maxLen ∧ (Lit.int .i64 y).wf = true) := by
  obtain ⟨cs, rfl, hsz⟩ := okWide_struct Tryz.underlying26 hv
  obtain ⟨c0, c1, c2, c3, c4, c5, rfl⟩ := array6 (hsz.trans cGauss)
  obtain ⟨fuel, hf⟩ := h
  obtain ⟨y0, y1, n, hx, _, h0, h1⟩ := trod_struct2 Tryz.underlying26 hf
  simp only [Value.cells, cDyad, List.drop_zero, List.take_succ_cons, List.take_zero, List.drop_succ_cons] at h0 h1
  obtain ⟨g, s, x, rfl, rfl, rfl, rfl, hs, wx⟩ := trod_dyad h0
  obtain ⟨k, q, y, rfl, rfl, rfl, rfl, hq, wy⟩ := trod_dyad h1
  simp only [Prod.mk.injEq] at hx
  obtain ⟨hd, hp⟩ := hx
  exact ⟨g, s, x, k, q, y, rfl, hd, hp, ⟨hs, wx⟩, ⟨hq, wy⟩⟩
theorem shut_trod_dyad {W' : World} {b : Nat} {sp : Nat → Bool} {hd : Bool} {g : Bool} {s : ByteArray} {x : Int} (hs : s.size ≤ maxLen) (wx : (Lit.int .i64 x).wf = true) (n : Nat) :
    DataW.trod enc Tryz.prog W' b sp hd (n + 2) 24 [.bool g, .string s, .int .i64 x] = some (dyadD H g s x, []) := by
  have := trod_struct3_mk (enc := enc) (w := W') (base := b) (spare := sp) (held := hd) (n := n + 1) (cs := [.bool g, .string s, .int .i64 x]) (y0 := (.lit (.bool g), [])) (y1 := (.lit (.string s.data.toList), [])) (y2 := (.lit (.int .i64 x), [])) Tryz.underlying24 (by rw [cDyad]; rfl)
    (by simp [cBool1, DataW.trod, Tryz.underlying4]) (by simp [cNat1, DataW.trod, Tryz.underlying22, hs]) (by simp [cInt1, DataW.trod, Tryz.underlying3, wx])
  simpa [dyadD] using this
set_option maxRecDepth 100000 in
theorem shut_gauss {W' : World} {b : Nat} {sp : Nat → Bool} {hd : Bool} {g : Bool} {s : ByteArray} {x : Int} {k : Bool} {q : ByteArray} {y : Int} (h1 : s.size ≤ maxLen ∧ (Lit.int .i64 x).wf = true) (h2 : q.size ≤ maxLen ∧ (Lit.int .i64 y).wf = true) :
    DataW.Trod enc Tryz.prog W' b sp hd 26 (.agg #[.bool g, .string s, .int .i64 x, .bool k, .string q, .int .i64 y]) (gaussD H g s x k q y) [] := by
  refine ⟨3, ?_⟩
  have := trod_struct2_mk (enc := enc) (w := W') (base := b) (spare := sp) (held := hd) (n := 2) (cs := [.bool g, .string s, .int .i64 x, .bool k, .string q, .int .i64 y]) (y0 := (dyadD H g s x, [])) (y1 := (dyadD H k q y, [])) Tryz.underlying26 (by rw [cGauss]; rfl)
    (by simp only [cDyad, List.drop_zero, List.take_succ_cons, List.take_zero, List.drop_succ_cons]; exact shut_trod_dyad h1.1 h1.2 0) (by simp only [cDyad, List.drop_zero, List.take_succ_cons, List.take_zero, List.drop_succ_cons]; exact shut_trod_dyad h2.1 h2.2 0)
  simpa [gaussD, Value.cells] using this
end Go.Proofs.YtciidbldnjfooaaGreatDoor
