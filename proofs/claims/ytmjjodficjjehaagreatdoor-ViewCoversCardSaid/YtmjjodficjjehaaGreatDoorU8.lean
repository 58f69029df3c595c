/- Texts put together: V1 Aw24 V4 VC1 VR1 VR2 Al06 Aw06 G4 G5 G6 G9 VR5 GBX GBox VR6 VR7 D82 VR3. -/
import Derived.Test.YtmjjodficjjehaaGreatDoorU7
import Derived.Test.YtmjjodficjjehaaGreatDoorU6
import Derived.Test.YtmjjodficjjehaaGreatDoorU5
set_option linter.unusedVariables false
set_option linter.unusedSimpArgs false
namespace Go.Proofs.YtmjjodficjjehaaGreatDoor
open Go Go.RowKit Nt
@[irreducible] def pw (x : Int) : Dy := mkD false 1 x
theorem pw_Ok (x : Int) : (pw x).Ok := by unfold pw; exact mkD_Ok _ _ _
theorem mkOk_pw {x : Int} (h1 : -100000 ≤ x) (h2 : x ≤ 100000) : mkOk3 1 x := by
  have h3 : odN 1 = 1 := odN_odd (by decide)
  have h4 : lowN 1 = 0 := lowN_odd (by decide)
  refine Or.inr ⟨?_, ?_, ?_⟩
  · rw [h3]; exact Nat.le_trans (nd_le (k := 1) (by omega) (by decide)) (by decide)
  · rw [h4]; omega
  · rw [h4]; omega
theorem pw_two (x : Int) : mkD false 2 (x - 1) = pw x ∧ mkE 2 (x - 1) = mkE 1 x := by
  have h := mkD_shift false 1 1 x
  unfold pw
  exact h
theorem pw_E {x : Int} (h1 : -100000 ≤ x) (h2 : x ≤ 100000) : mkE 1 x = 0 := mkE_ok (mkOk_pw h1 h2)
theorem DOf_pw (e : Int) (he : -100000 ≤ e ∧ e ≤ 100000) (w : World) : Calls Tryz.prog 111 #[.int .i64 1, .int .i64 e] w fun e' w' => e' = .returned (.tuple #[.agg #[.bool (pw e).g, .string (natS (pw e).n), .int .i64 (pw e).x], .int .i64 0]) ∧ Below w.heap.size w w' := by
  have h := DOf_c 1 e w (by omega) (by omega)
  unfold MkPost at h
  rw [show decide ((1 : Int) < 0) = false from rfl, show (1 : Int).natAbs = 1 from rfl, pw_E he.1 he.2] at h
  unfold pw
  exact h
theorem DOf_pw2 (e : Int) (he : -90000 ≤ e ∧ e ≤ 90000) (w : World) : Calls Tryz.prog 111 #[.int .i64 2, .int .i64 (e - 1)] w fun e' w' => e' = .returned (.tuple #[.agg #[.bool (pw e).g, .string (natS (pw e).n), .int .i64 (pw e).x], .int .i64 0]) ∧ Below w.heap.size w w' := by
  have h := DOf_c 2 (e - 1) w (by omega) (by omega)
  unfold MkPost at h
  rw [show decide ((2 : Int) < 0) = false from rfl, show (2 : Int).natAbs = 2 from rfl, (pw_two e).1, (pw_two e).2, pw_E (by omega) (by omega)] at h
  exact h
theorem rOf_pw (e : Int) (he : -100000 ≤ e ∧ e ≤ 100000) (w : World) : Calls Tryz.prog 90 #[.int .i64 1, .int .i64 e] w fun e' w' => e' = .returned (.tuple #[.agg #[.bool (pw e).g, .string (natS (pw e).n), .int .i64 (pw e).x], .int .i64 0]) ∧ Below w.heap.size w w' := by
  have h := rOfD3_c 1 e w (by omega) (by omega)
  unfold MkPost at h
  rw [show decide ((1 : Int) < 0) = false from rfl, show (1 : Int).natAbs = 1 from rfl, pw_E he.1 he.2] at h
  unfold pw
  exact h
section
variable [Env]
theorem vopt_sub {P : Program} {t : TypeId} {a b r : AV} {x y z : Int} (ha : gval a = .int .i64 x) (hb : gval b = .int .i64 y) (hr : ground r = true) (hv : gval r = .int .i64 z) (h : x - y = z) (h1 : -9223372036854775808 ≤ z ∧ z ≤ 9223372036854775807) : OpT P [0, 1, t] [a, b] r :=
  opt_int (op := .sub) ha hb hr hv fun w => by
    have : IntKind.i64.wrap (x - y) = z := by rw [h]; exact IntWalk.i64_in _ h1
    simp [binOp, Op.intArith, this]
end
@[reducible] def halves_2_f : FuncId := 74
@[reducible] def halves_2_a : List AV := [.lit (.int .i64 2), .sym 0]
@[reducible] noncomputable def halves_2_k : Know := ⟨[([0, 1, 3], [.sym 0, .lit (.int .i64 1)], .sym 1)],
  [(111, [.lit (.int .i64 2), .sym 1], .tup [.agg [.sym 2, .sym 3, .sym 4], .lit (.int .i64 0)])]⟩
theorem halves_2_r1 : @comes halves_2_k Tryz.prog glT 3000 halves_2_f halves_2_a = some (.agg [.sym 2, .sym 3, .sym 4]) := by kernel_rfl
set_option maxRecDepth 100000 in
set_option maxHeartbeats 4000000 in
theorem halves_2 (y : Int) (w : World) (he : -9000 ≤ y ∧ y ≤ 9000) (hG : Globs glT w) : Calls Tryz.prog 74 #[.int .i64 2, .int .i64 y] w fun e w' => e = .returned ((pw y).v) ∧ Below w.heap.size w w' := by
  letI : Env := mkEnv glT [.int .i64 y, .int .i64 (y - 1), .bool (pw y).g, .string (natS (pw y).n), .int .i64 (pw y).x] rfl
  have hops : OpsT Tryz.prog (@Know.ops halves_2_k) := ⟨vopt_sub rfl rfl rfl rfl rfl ⟨by omega, by omega⟩,
    trivial⟩
  have hcalls : CallsT Tryz.prog (@Know.calls halves_2_k) := ⟨callt rfl rfl fun w hG => DOf_pw2 y ⟨by omega, by omega⟩ w,
    trivial⟩
  have fin : ∀ v, @comes halves_2_k Tryz.prog glT 3000 halves_2_f halves_2_a = some v → ground v = true → Ending.returned (gval v) = .returned ((pw y).v) → Calls Tryz.prog 74 #[.int .i64 2, .int .i64 y] w fun e w' => e = .returned ((pw y).v) ∧ Below w.heap.size w w' := fun v h1 h2 h3 => (@sym_ok _ halves_2_k _ (@KnowOk.of _ halves_2_k _ hops hcalls) (by kernel_rfl) _ _ _ _ h1 rfl h2 _ hG).mono fun e w' h => ⟨h.1.trans h3, h.2⟩
  clear hops hcalls
  exact fin _ (halves_2_r1) rfl rfl
@[reducible] def halves_1_f : FuncId := 74
@[reducible] def halves_1_a : List AV := [.lit (.int .i64 1), .sym 0]
@[reducible] noncomputable def halves_1_k : Know := ⟨[([0, 1, 3], [.sym 0, .lit (.int .i64 1)], .sym 1)],
  [(111, [.lit (.int .i64 1), .sym 1], .tup [.agg [.sym 2, .sym 3, .sym 4], .lit (.int .i64 0)])]⟩
theorem halves_1_r1 : @comes halves_1_k Tryz.prog glT 3000 halves_1_f halves_1_a = some (.agg [.sym 2, .sym 3, .sym 4]) := by kernel_rfl
set_option maxRecDepth 100000 in
set_option maxHeartbeats 4000000 in
theorem halves_1 (y : Int) (w : World) (he : -9000 ≤ y ∧ y ≤ 9000) (hG : Globs glT w) : Calls Tryz.prog 74 #[.int .i64 1, .int .i64 y] w fun e w' => e = .returned ((pw (y - 1)).v) ∧ Below w.heap.size w w' := by
  letI : Env := mkEnv glT [.int .i64 y, .int .i64 (y - 1), .bool (pw (y - 1)).g, .string (natS (pw (y - 1)).n), .int .i64 (pw (y - 1)).x] rfl
  have hops : OpsT Tryz.prog (@Know.ops halves_1_k) := ⟨vopt_sub rfl rfl rfl rfl rfl ⟨by omega, by omega⟩,
    trivial⟩
  have hcalls : CallsT Tryz.prog (@Know.calls halves_1_k) := ⟨callt rfl rfl fun w hG => DOf_pw (y - 1) ⟨by omega, by omega⟩ w,
    trivial⟩
  have fin : ∀ v, @comes halves_1_k Tryz.prog glT 3000 halves_1_f halves_1_a = some v → ground v = true → Ending.returned (gval v) = .returned ((pw (y - 1)).v) → Calls Tryz.prog 74 #[.int .i64 1, .int .i64 y] w fun e w' => e = .returned ((pw (y - 1)).v) ∧ Below w.heap.size w w' := fun v h1 h2 h3 => (@sym_ok _ halves_1_k _ (@KnowOk.of _ halves_1_k _ hops hcalls) (by kernel_rfl) _ _ _ _ h1 rfl h2 _ hG).mono fun e w' h => ⟨h.1.trans h3, h.2⟩
  clear hops hcalls
  exact fin _ (halves_1_r1) rfl rfl
@[reducible] def on_c_f : FuncId := 58
@[reducible] def on_c_a : List AV := [.agg [.sym 0, .sym 1, .sym 2], .lit (.int .i64 1), .sym 3]
@[reducible] noncomputable def on_c_k : Know := ⟨[],
  [(90, [.lit (.int .i64 1), .sym 3], .tup [.agg [.sym 4, .sym 5, .sym 6], .lit (.int .i64 0)]),
  (91, [.agg [.sym 0, .sym 1, .sym 2], .agg [.sym 4, .sym 5, .sym 6]], .tup [.agg [.sym 7, .sym 8, .sym 9], .sym 10])]⟩
theorem on_c_r1 : @comes on_c_k Tryz.prog glT 3000 on_c_f on_c_a = some (.tup [.agg [.sym 7, .sym 8, .sym 9], .sym 10]) := by kernel_rfl
set_option maxRecDepth 100000 in
set_option maxHeartbeats 4000000 in
theorem on_c (l : Dy) (y : Int) (w : World) (hl : l.Ok) (he : -9000 ≤ y ∧ y ≤ 9000) (hG : Globs glT w) : Calls Tryz.prog 58 #[.agg #[.bool l.g, .string (natS l.n), .int .i64 l.x], .int .i64 1, .int .i64 y] w fun e w' => e = .returned (.tuple #[(addD l (pw y)).v, .int .i64 (addE l (pw y))]) ∧ Below w.heap.size w w' := by
  letI : Env := mkEnv glT [.bool l.g, .string (natS l.n), .int .i64 l.x, .int .i64 y, .bool (pw y).g, .string (natS (pw y).n), .int .i64 (pw y).x, .bool (addD l (pw y)).g, .string (natS (addD l (pw y)).n), .int .i64 (addD l (pw y)).x, .int .i64 (addE l (pw y))] rfl
  have hops : OpsT Tryz.prog (@Know.ops on_c_k) := trivial
  have hcalls : CallsT Tryz.prog (@Know.calls on_c_k) := ⟨callt rfl rfl fun w hG => rOf_pw y ⟨by omega, by omega⟩ w,
    callt rfl rfl fun w hG => rAdd3_c l (pw y) w hl (pw_Ok _),
    trivial⟩
  have fin : ∀ v, @comes on_c_k Tryz.prog glT 3000 on_c_f on_c_a = some v → ground v = true → Ending.returned (gval v) = .returned (.tuple #[(addD l (pw y)).v, .int .i64 (addE l (pw y))]) → Calls Tryz.prog 58 #[.agg #[.bool l.g, .string (natS l.n), .int .i64 l.x], .int .i64 1, .int .i64 y] w fun e w' => e = .returned (.tuple #[(addD l (pw y)).v, .int .i64 (addE l (pw y))]) ∧ Below w.heap.size w w' := fun v h1 h2 h3 => (@sym_ok _ on_c_k _ (@KnowOk.of _ on_c_k _ hops hcalls) (by kernel_rfl) _ _ _ _ h1 rfl h2 _ hG).mono fun e w' h => ⟨h.1.trans h3, h.2⟩
  clear hops hcalls
  exact fin _ (on_c_r1) rfl rfl
@[reducible] def VRight_ok_f : FuncId := 36
@[reducible] def VRight_ok_a : List AV := [.agg [.sym 0, .sym 1, .sym 2, .sym 3, .sym 4, .sym 5, .sym 6]]
@[reducible] noncomputable def VRight_ok_k (b1 b2 : Bool) : Know := ⟨[([0, 16, 3], [.sym 6, .lit (.int .i64 (-4096))], .lit (.bool b1)),
  ([0, 14, 3], [.sym 6, .lit (.int .i64 4096)], .lit (.bool b2))],
  [(72, [.agg [.sym 0, .sym 1, .sym 2]], .lit (.int .i64 0)),
  (72, [.agg [.sym 3, .sym 4, .sym 5]], .lit (.int .i64 0))]⟩
theorem VRight_ok_r1 : @comes (VRight_ok_k true true) Tryz.prog glT 3000 VRight_ok_f VRight_ok_a = some (.lit (.int .i64 0)) := by kernel_rfl
set_option maxRecDepth 100000 in
set_option maxHeartbeats 4000000 in
theorem VRight_ok (l m : Dy) (y : Int) (w : World) (hl : l.Ok) (hm : m.Ok) (he : -4096 ≤ y ∧ y ≤ 4096) (hG : Globs glT w) : Calls Tryz.prog 36 #[.agg #[.bool l.g, .string (natS l.n), .int .i64 l.x, .bool m.g, .string (natS m.n), .int .i64 m.x, .int .i64 y]] w fun e w' => e = .returned (.int .i64 0) ∧ Below w.heap.size w w' := by
  obtain ⟨b1, i1⟩ := bex (y ≥ -4096)
  obtain ⟨b2, i2⟩ := bex (y ≤ 4096)
  letI : Env := mkEnv glT [.bool l.g, .string (natS l.n), .int .i64 l.x, .bool m.g, .string (natS m.n), .int .i64 m.x, .int .i64 y] rfl
  have hops : OpsT Tryz.prog (@Know.ops (VRight_ok_k b1 b2)) := ⟨opt_geq_i rfl rfl i1,
    opt_leq_i rfl rfl i2,
    trivial⟩
  have hcalls : CallsT Tryz.prog (@Know.calls (VRight_ok_k b1 b2)) := ⟨callt rfl rfl fun w hG => DCheck_dy l hl w,
    callt rfl rfl fun w hG => DCheck_dy m hm w,
    trivial⟩
  have fin : ∀ v, @comes (VRight_ok_k b1 b2) Tryz.prog glT 3000 VRight_ok_f VRight_ok_a = some v → ground v = true → Ending.returned (gval v) = .returned (.int .i64 0) → Calls Tryz.prog 36 #[.agg #[.bool l.g, .string (natS l.n), .int .i64 l.x, .bool m.g, .string (natS m.n), .int .i64 m.x, .int .i64 y]] w fun e w' => e = .returned (.int .i64 0) ∧ Below w.heap.size w w' := fun v h1 h2 h3 => (@sym_ok _ (VRight_ok_k b1 b2) _ (@KnowOk.of _ (VRight_ok_k b1 b2) _ hops hcalls) (by kernel_rfl) _ _ _ _ h1 rfl h2 _ hG).mono fun e w' h => ⟨h.1.trans h3, h.2⟩
  clear hops hcalls
  cases b1 with
  | true =>
    have h1 : y ≥ -4096 := i1.1 rfl
    cases b2 with
    | true =>
      have h2 : y ≤ 4096 := i2.1 rfl
      exact fin _ (VRight_ok_r1) rfl rfl
    | false =>
      exact absurd (i2.2 ((by omega))) Bool.false_ne_true
  | false =>
    exact absurd (i1.2 ((by omega))) Bool.false_ne_true
@[reducible] def rRight_ok_f : FuncId := 5
@[reducible] def rRight_ok_a : List AV := [.agg [.sym 0, .sym 1, .sym 2, .sym 3, .sym 4, .sym 5, .sym 6]]
@[reducible] noncomputable def rRight_ok_k (b1 b2 : Bool) : Know := ⟨[([0, 16, 3], [.sym 6, .lit (.int .i64 (-4096))], .lit (.bool b1)),
  ([0, 14, 3], [.sym 6, .lit (.int .i64 4096)], .lit (.bool b2))],
  [(18, [.agg [.sym 0, .sym 1, .sym 2]], .lit (.bool true)),
  (18, [.agg [.sym 3, .sym 4, .sym 5]], .lit (.bool true))]⟩
theorem rRight_ok_r1 : @comes (rRight_ok_k true true) Tryz.prog glT 3000 rRight_ok_f rRight_ok_a = some (.lit (.bool true)) := by kernel_rfl
set_option maxRecDepth 100000 in
set_option maxHeartbeats 4000000 in
theorem rRight_ok (l m : Dy) (y : Int) (w : World) (hl : l.Ok) (hm : m.Ok) (he : -4096 ≤ y ∧ y ≤ 4096) (hG : Globs glT w) : Calls Tryz.prog 5 #[.agg #[.bool l.g, .string (natS l.n), .int .i64 l.x, .bool m.g, .string (natS m.n), .int .i64 m.x, .int .i64 y]] w fun e w' => e = .returned (.bool true) ∧ Below w.heap.size w w' := by
  obtain ⟨b1, i1⟩ := bex (y ≥ -4096)
  obtain ⟨b2, i2⟩ := bex (y ≤ 4096)
  letI : Env := mkEnv glT [.bool l.g, .string (natS l.n), .int .i64 l.x, .bool m.g, .string (natS m.n), .int .i64 m.x, .int .i64 y] rfl
  have hops : OpsT Tryz.prog (@Know.ops (rRight_ok_k b1 b2)) := ⟨opt_geq_i rfl rfl i1,
    opt_leq_i rfl rfl i2,
    trivial⟩
  have hcalls : CallsT Tryz.prog (@Know.calls (rRight_ok_k b1 b2)) := ⟨callt rfl rfl fun w hG => rMayT_ok l w hl,
    callt rfl rfl fun w hG => rMayT_ok m w hm,
    trivial⟩
  have fin : ∀ v, @comes (rRight_ok_k b1 b2) Tryz.prog glT 3000 rRight_ok_f rRight_ok_a = some v → ground v = true → Ending.returned (gval v) = .returned (.bool true) → Calls Tryz.prog 5 #[.agg #[.bool l.g, .string (natS l.n), .int .i64 l.x, .bool m.g, .string (natS m.n), .int .i64 m.x, .int .i64 y]] w fun e w' => e = .returned (.bool true) ∧ Below w.heap.size w w' := fun v h1 h2 h3 => (@sym_ok _ (rRight_ok_k b1 b2) _ (@KnowOk.of _ (rRight_ok_k b1 b2) _ hops hcalls) (by kernel_rfl) _ _ _ _ h1 rfl h2 _ hG).mono fun e w' h => ⟨h.1.trans h3, h.2⟩
  clear hops hcalls
  cases b1 with
  | true =>
    have h1 : y ≥ -4096 := i1.1 rfl
    cases b2 with
    | true =>
      have h2 : y ≤ 4096 := i2.1 rfl
      exact fin _ (rRight_ok_r1) rfl rfl
    | false =>
      exact absurd (i2.2 ((by omega))) Bool.false_ne_true
  | false =>
    exact absurd (i1.2 ((by omega))) Bool.false_ne_true
@[reducible] def VRight_no_f : FuncId := 36
@[reducible] def VRight_no_a : List AV := [.agg [.sym 0, .sym 1, .sym 2, .sym 3, .sym 4, .sym 5, .sym 6]]
@[reducible] noncomputable def VRight_no_k (b1 b2 b3 b4 : Bool) : Know := ⟨[([0, 12, 31], [.sym 7, .lit (.int .i64 0)], .lit (.bool (!b1))),
  ([0, 12, 31], [.sym 8, .lit (.int .i64 0)], .lit (.bool (!b2))),
  ([0, 16, 3], [.sym 6, .lit (.int .i64 (-4096))], .lit (.bool b3)),
  ([0, 14, 3], [.sym 6, .lit (.int .i64 4096)], .lit (.bool b4))],
  [(72, [.agg [.sym 0, .sym 1, .sym 2]], .sym 7),
  (72, [.agg [.sym 3, .sym 4, .sym 5]], .sym 8)]⟩
theorem VRight_no_r1 : @comes (VRight_no_k true true true false) Tryz.prog glT 3000 VRight_no_f VRight_no_a = some (.lit (.int .i64 240)) := by kernel_rfl
theorem VRight_no_r2 (b4 : Bool) : @comes (VRight_no_k true true false b4) Tryz.prog glT 3000 VRight_no_f VRight_no_a = some (.lit (.int .i64 240)) := by kernel_rfl
theorem VRight_no_r3 (b3 b4 : Bool) : @comes (VRight_no_k true false b3 b4) Tryz.prog glT 3000 VRight_no_f VRight_no_a = some (.lit (.int .i64 240)) := by kernel_rfl
theorem VRight_no_r4 (b2 b3 b4 : Bool) : @comes (VRight_no_k false b2 b3 b4) Tryz.prog glT 3000 VRight_no_f VRight_no_a = some (.lit (.int .i64 240)) := by kernel_rfl
set_option maxRecDepth 100000 in
set_option maxHeartbeats 4000000 in
theorem VRight_no (l m : Dt) (y : Int) (w : World) (zl : l.s.size ≤ 9223372036854775807) (zm : m.s.size ≤ 9223372036854775807) (hn : ¬ (l.Ok ∧ m.Ok ∧ -4096 ≤ y ∧ y ≤ 4096)) (hG : Globs glT w) : Calls Tryz.prog 36 #[.agg #[.bool l.g, .string l.s, .int .i64 l.x, .bool m.g, .string m.s, .int .i64 m.x, .int .i64 y]] w fun e w' => e = .returned (.int .i64 240) ∧ Below w.heap.size w w' := by
  obtain ⟨b1, i1⟩ := bex (dE [l] = 0)
  obtain ⟨b2, i2⟩ := bex (dE [m] = 0)
  obtain ⟨b3, i3⟩ := bex (y ≥ -4096)
  obtain ⟨b4, i4⟩ := bex (y ≤ 4096)
  letI : Env := mkEnv glT [.bool l.g, .string l.s, .int .i64 l.x, .bool m.g, .string m.s, .int .i64 m.x, .int .i64 y, .int .i64 (dE [l]), .int .i64 (dE [m])] rfl
  have hops : OpsT Tryz.prog (@Know.ops (VRight_no_k b1 b2 b3 b4)) := ⟨opt_neq_i rfl rfl i1,
    opt_neq_i rfl rfl i2,
    opt_geq_i rfl rfl i3,
    opt_leq_i rfl rfl i4,
    trivial⟩
  have hcalls : CallsT Tryz.prog (@Know.calls (VRight_no_k b1 b2 b3 b4)) := ⟨callt rfl rfl fun w hG => DCheck_c l w zl,
    callt rfl rfl fun w hG => DCheck_c m w zm,
    trivial⟩
  have fin : ∀ v, @comes (VRight_no_k b1 b2 b3 b4) Tryz.prog glT 3000 VRight_no_f VRight_no_a = some v → ground v = true → Ending.returned (gval v) = .returned (.int .i64 240) → Calls Tryz.prog 36 #[.agg #[.bool l.g, .string l.s, .int .i64 l.x, .bool m.g, .string m.s, .int .i64 m.x, .int .i64 y]] w fun e w' => e = .returned (.int .i64 240) ∧ Below w.heap.size w w' := fun v h1 h2 h3 => (@sym_ok _ (VRight_no_k b1 b2 b3 b4) _ (@KnowOk.of _ (VRight_no_k b1 b2 b3 b4) _ hops hcalls) (by kernel_rfl) _ _ _ _ h1 rfl h2 _ hG).mono fun e w' h => ⟨h.1.trans h3, h.2⟩
  clear hops hcalls
  cases b1 with
  | true =>
    have h1 : dE [l] = 0 := i1.1 rfl
    cases b2 with
    | true =>
      have h2 : dE [m] = 0 := i2.1 rfl
      cases b3 with
      | true =>
        have h3 : y ≥ -4096 := i3.1 rfl
        cases b4 with
        | true =>
          exact absurd (i4.1 rfl) (fun c => hn ⟨dE1.1 h1, dE1.1 h2, h3, c⟩)
        | false =>
          have h4 : ¬ (y ≤ 4096) := fun c => Bool.false_ne_true (i4.2 c)
          exact fin _ (VRight_no_r1) rfl rfl
      | false =>
        have h3 : ¬ (y ≥ -4096) := fun c => Bool.false_ne_true (i3.2 c)
        exact fin _ (VRight_no_r2 b4) rfl rfl
    | false =>
      have h2 : ¬ (dE [m] = 0) := fun c => Bool.false_ne_true (i2.2 c)
      exact fin _ (VRight_no_r3 b3 b4) rfl rfl
  | false =>
    have h1 : ¬ (dE [l] = 0) := fun c => Bool.false_ne_true (i1.2 c)
    exact fin _ (VRight_no_r4 b2 b3 b4) rfl rfl
theorem vMay_i (t : Dt) (w : World) (hs : t.s.size ≤ 9223372036854775807) {c : Bool} (h : c = true ↔ t.Ok) : Calls Tryz.prog 18 #[.agg #[.bool t.g, .string t.s, .int .i64 t.x]] w fun e w' => e = .returned (.bool c) ∧ Below w.heap.size w w' := by
  by_cases ho : t.Ok
  · rw [h.2 ho]
    obtain ⟨d, h1, rfl⟩ := Dt.dy ho
    exact rMayT_ok d w h1
  · rw [show c = false by cases c <;> first | rfl | exact absurd (h.1 rfl) ho]
    exact rMayT_no t w hs ho
@[reducible] def rRight_no_f : FuncId := 5
@[reducible] def rRight_no_a : List AV := [.agg [.sym 0, .sym 1, .sym 2, .sym 3, .sym 4, .sym 5, .sym 6]]
@[reducible] noncomputable def rRight_no_k (b1 b2 b3 b4 : Bool) : Know := ⟨[([0, 16, 3], [.sym 6, .lit (.int .i64 (-4096))], .lit (.bool b3)),
  ([0, 14, 3], [.sym 6, .lit (.int .i64 4096)], .lit (.bool b4))],
  [(18, [.agg [.sym 0, .sym 1, .sym 2]], .lit (.bool b1)),
  (18, [.agg [.sym 3, .sym 4, .sym 5]], .lit (.bool b2))]⟩
theorem rRight_no_r1 : @comes (rRight_no_k true true true false) Tryz.prog glT 3000 rRight_no_f rRight_no_a = some (.lit (.bool false)) := by kernel_rfl
theorem rRight_no_r2 (b4 : Bool) : @comes (rRight_no_k true true false b4) Tryz.prog glT 3000 rRight_no_f rRight_no_a = some (.lit (.bool false)) := by kernel_rfl
theorem rRight_no_r3 (b3 b4 : Bool) : @comes (rRight_no_k true false b3 b4) Tryz.prog glT 3000 rRight_no_f rRight_no_a = some (.lit (.bool false)) := by kernel_rfl
theorem rRight_no_r4 (b2 b3 b4 : Bool) : @comes (rRight_no_k false b2 b3 b4) Tryz.prog glT 3000 rRight_no_f rRight_no_a = some (.lit (.bool false)) := by kernel_rfl
set_option maxRecDepth 100000 in
set_option maxHeartbeats 4000000 in
theorem rRight_no (l m : Dt) (y : Int) (w : World) (zl : l.s.size ≤ 9223372036854775807) (zm : m.s.size ≤ 9223372036854775807) (hn : ¬ (l.Ok ∧ m.Ok ∧ -4096 ≤ y ∧ y ≤ 4096)) (hG : Globs glT w) : Calls Tryz.prog 5 #[.agg #[.bool l.g, .string l.s, .int .i64 l.x, .bool m.g, .string m.s, .int .i64 m.x, .int .i64 y]] w fun e w' => e = .returned (.bool false) ∧ Below w.heap.size w w' := by
  obtain ⟨b1, i1⟩ := bex (l.Ok)
  obtain ⟨b2, i2⟩ := bex (m.Ok)
  obtain ⟨b3, i3⟩ := bex (y ≥ -4096)
  obtain ⟨b4, i4⟩ := bex (y ≤ 4096)
  letI : Env := mkEnv glT [.bool l.g, .string l.s, .int .i64 l.x, .bool m.g, .string m.s, .int .i64 m.x, .int .i64 y] rfl
  have hops : OpsT Tryz.prog (@Know.ops (rRight_no_k b1 b2 b3 b4)) := ⟨opt_geq_i rfl rfl i3,
    opt_leq_i rfl rfl i4,
    trivial⟩
  have hcalls : CallsT Tryz.prog (@Know.calls (rRight_no_k b1 b2 b3 b4)) := ⟨callt rfl rfl fun w hG => vMay_i l w zl i1,
    callt rfl rfl fun w hG => vMay_i m w zm i2,
    trivial⟩
  have fin : ∀ v, @comes (rRight_no_k b1 b2 b3 b4) Tryz.prog glT 3000 rRight_no_f rRight_no_a = some v → ground v = true → Ending.returned (gval v) = .returned (.bool false) → Calls Tryz.prog 5 #[.agg #[.bool l.g, .string l.s, .int .i64 l.x, .bool m.g, .string m.s, .int .i64 m.x, .int .i64 y]] w fun e w' => e = .returned (.bool false) ∧ Below w.heap.size w w' := fun v h1 h2 h3 => (@sym_ok _ (rRight_no_k b1 b2 b3 b4) _ (@KnowOk.of _ (rRight_no_k b1 b2 b3 b4) _ hops hcalls) (by kernel_rfl) _ _ _ _ h1 rfl h2 _ hG).mono fun e w' h => ⟨h.1.trans h3, h.2⟩
  clear hops hcalls
  cases b1 with
  | true =>
    have h1 : l.Ok := i1.1 rfl
    cases b2 with
    | true =>
      have h2 : m.Ok := i2.1 rfl
      cases b3 with
      | true =>
        have h3 : y ≥ -4096 := i3.1 rfl
        cases b4 with
        | true =>
          exact absurd (i4.1 rfl) (fun c => hn ⟨h1, h2, h3, c⟩)
        | false =>
          have h4 : ¬ (y ≤ 4096) := fun c => Bool.false_ne_true (i4.2 c)
          exact fin _ (rRight_no_r1) rfl rfl
      | false =>
        have h3 : ¬ (y ≥ -4096) := fun c => Bool.false_ne_true (i3.2 c)
        exact fin _ (rRight_no_r2 b4) rfl rfl
    | false =>
      have h2 : ¬ (m.Ok) := fun c => Bool.false_ne_true (i2.2 c)
      exact fin _ (rRight_no_r3 b3 b4) rfl rfl
  | false =>
    have h1 : ¬ (l.Ok) := fun c => Bool.false_ne_true (i1.2 c)
    exact fin _ (rRight_no_r4 b2 b3 b4) rfl rfl
end Go.Proofs.YtmjjodficjjehaaGreatDoor
namespace Go.Proofs.YtmjjodficjjehaaGreatDoor
open Go Go.RowKit
set_option maxRecDepth 100000 in
theorem awake24_says : saysG Tryz.prog glT 5000 7 [] true = true := by kernel_rfl
theorem awake24_c (w : World) (hg : Globs glT w) : Calls Tryz.prog 7 #[] w fun e w' => e = .returned (.bool true) ∧ Below w.heap.size w w' := closed_with (by kernel_rfl) awake24_says hg
end Go.Proofs.YtmjjodficjjehaaGreatDoor
namespace Go.Proofs.YtmjjodficjjehaaGreatDoor
open Go Go.RowKit Nt
set_option linter.unusedSectionVars false
theorem iv_addz {a b : Dy} (ha : a.Ok) (hb : b.Ok) (h : addE a b = 0) : iv (addD a b) = iv a + iv b := by
  have e := add_iv ha hb
  rw [e.2] at h
  rw [e.1, mk_iv h]
@[irreducible] def hz (z x : Int) : Dy := mkD (decide (z < 0)) z.natAbs x
section
variable [Env]
end
section
variable [Env]
end
section
variable [Env]
end
end Go.Proofs.YtmjjodficjjehaaGreatDoor
namespace Go.Proofs.YtmjjodficjjehaaGreatDoor
open Go Go.RowKit Nt
@[irreducible] def hT (x : Int) : Int := ((2 ^ (x - 1 + (EE : Int)).toNat : Nat) : Int)
theorem cmpV_le {a b : Dy} (ha : a.Ok) (hb : b.Ok) : cmpD a b ≤ 0 ↔ iv a ≤ iv b := by
  rw [cmp_iv ha hb]
  unfold sgI
  split <;> (try split) <;> omega
theorem cmpV_lt {a b : Dy} (ha : a.Ok) (hb : b.Ok) : cmpD a b < 0 ↔ iv a < iv b := by
  rw [cmp_iv ha hb]
  unfold sgI
  split <;> (try split) <;> omega
end Go.Proofs.YtmjjodficjjehaaGreatDoor
namespace Go.Proofs.YtmjjodficjjehaaGreatDoor
open Go Go.RowKit Nt
theorem nf_of {u : Nat} (h : u < 9218868437227405312) : ∃ (m : Nat) (e : Int), NF m e ∧ pk m e = u := by
  by_cases c : u < 4503599627370496
  · exact ⟨u, -1074, ⟨by omega, by omega, by omega, Or.inr rfl⟩, by rw [pk_eq]; omega⟩
  · refine ⟨4503599627370496 + u % 4503599627370496, ((u / 4503599627370496 : Nat) : Int) - 1075, ⟨by omega, by omega, by omega, Or.inl (by omega)⟩, ?_⟩
    rw [pk_eq]; omega
theorem flt_step {u : Nat} (h : u + 1 < 9218868437227405312) : 0 ≤ iv (flt u) ∧ iv (flt u) < iv (flt (u + 1)) := by
  obtain ⟨m, e, hn, hp⟩ := nf_of (show u < 9218868437227405312 by omega)
  have h1 := val_wf false hn (by omega)
  have h2 := val_up false hn (by omega)
  rw [hp, wf_f u, sgnd_f] at h1
  rw [hp, wf_f (u + 1), sgnd_f] at h2
  rw [h1, h2]
  have hu := uu_pos e
  have : m * uu e < (m + 1) * uu e := by rw [Nat.add_mul]; omega
  omega
theorem flt_nn {u : Nat} (h : u < 9218868437227405312) : 0 ≤ iv (flt u) := by
  obtain ⟨m, e, hn, hp⟩ := nf_of h
  have h1 := val_wf false hn (by omega)
  rw [hp, wf_f u, sgnd_f] at h1
  rw [h1]; omega
theorem flt_mono {u : Nat} : ∀ k, u + k < 9218868437227405312 → iv (flt u) ≤ iv (flt (u + k))
  | 0, _ => Int.le_refl _
  | k + 1, h => by
    have h1 := flt_mono (u := u) k (by omega)
    have h2 := (flt_step (u := u + k) (by omega)).2
    rw [show u + (k + 1) = u + k + 1 by omega]
    omega
theorem flt_zero : flt 0 = Dy.zero := by
  unfold flt
  rw [rung_pm (x := 0) (by decide), mkD_zero]
theorem flt_b {u : Nat} (hu : u < 18446744073709551616) (hf : Bt.finB u = true) : (flt u).n < 9007199254740992 ∧ -1074 ≤ (flt u).x ∧ (flt u).x ≤ 1024 := by
  have hp := Bt.pm_lt u
  obtain ⟨e1, e2⟩ := pex_bounds hu hf
  unfold flt
  by_cases h0 : Bt.pm u = 0
  · rw [h0, mkD_zero]; exact ⟨by show (0 : Nat) < _; omega, by show (-1074 : Int) ≤ 0; omega, by show (0 : Int) ≤ 1024; omega⟩
  · rw [mkD_ok h0 (float_ok hu hf)]
    have h3 := odN_le (Bt.pm u)
    have h8 := odN_pos h0
    have h7 := (odN_spec h0).2
    have h6 : lowN (Bt.pm u) ≤ 53 := by
      rcases Nat.lt_or_ge (lowN (Bt.pm u)) 54 with h | h
      · omega
      · have h9 : 2 ^ 54 ≤ 2 ^ lowN (Bt.pm u) := Nat.pow_le_pow_right (by decide) h
        have h10 : 1 * 2 ^ lowN (Bt.pm u) ≤ odN (Bt.pm u) * 2 ^ lowN (Bt.pm u) := Nat.mul_le_mul_right _ (Nat.pos_of_ne_zero h8)
        omega
    exact ⟨by show odN _ < _; omega, by show (-1074 : Int) ≤ Bt.pex u + _; omega, by show Bt.pex u + (lowN (Bt.pm u) : Int) ≤ 1024; omega⟩
theorem sq_fit {u : Nat} (hu : u < 18446744073709551616) (hf : Bt.finB u = true) : mulE (flt u) (flt u) = 0 := by
  obtain ⟨h1, h2, h3⟩ := flt_b hu hf
  rw [mulE_eq]
  refine mkE_ok (mkOk3_of ?_ (by omega) (by omega))
  have hl : (flt u).n * (flt u).n < 2 ^ 106 := by
    have := Nat.mul_lt_mul'' h1 h1
    have e : (9007199254740992 : Nat) * 9007199254740992 = 2 ^ 106 := by decide
    omega
  exact Nat.le_trans (nd_le (b := 2) (k := 106) (by omega) hl) (by omega)
def rch (d : Dy) (u : Nat) : Prop := Bt.finB u = false ∨ cmpD d (mulD (flt u) (flt u)) ≤ 0
theorem rch_fin {d : Dy} {u : Nat} (hd : d.Ok) (hu : u < 18446744073709551616) (hf : Bt.finB u = true) : rch d u ↔ iv d * KK ≤ iv (flt u) * iv (flt u) := by
  have hm := iv_mulK (flt_Ok u) (flt_Ok u) (sq_fit hu hf)
  have hk := KK_pos
  unfold rch
  rw [cmpV_le hd (mulD_Ok _ _), ← hm]
  constructor
  · rintro (h | h)
    · rw [hf] at h; exact absurd h (by decide)
    · exact Int.mul_le_mul_of_nonneg_right h (by omega)
  · intro h
    exact Or.inr (Int.le_of_mul_le_mul_right h hk)
theorem fin_low {u : Nat} (h : u < 9223372036854775808) : Bt.finB u = true ↔ u < 9218868437227405312 := by
  rw [Bt.finB_true]
  unfold Bt.Ff.rung
  rw [Nat.mod_eq_of_lt h]
theorem rch_far {d : Dy} {u : Nat} (h1 : 9218868437227405312 ≤ u) (h2 : u < 9223372036854775808) : rch d u := Or.inl (by
  rw [Bool.eq_false_iff]
  intro c
  have := (fin_low h2).1 c
  omega)
theorem rch_mono {d : Dy} (hd : d.Ok) {u v : Nat} (h : u ≤ v) (hv : v < 9223372036854775808) (hr : rch d u) : rch d v := by
  rcases Nat.lt_or_ge v 9218868437227405312 with c | c
  · have fu := (fin_low (u := u) (by omega)).2 (by omega)
    have fv := (fin_low hv).2 c
    rw [rch_fin hd (by omega) fu] at hr
    rw [rch_fin hd (by omega) fv]
    have h0 := flt_nn (u := u) (by omega)
    have h1 := flt_mono (u := u) (v - u) (by omega)
    rw [show u + (v - u) = v by omega] at h1
    have h2 : iv (flt u) * iv (flt u) ≤ iv (flt v) * iv (flt v) := Int.mul_le_mul h1 h1 h0 (by omega)
    omega
  · exact rch_far c hv
theorem least_of {P : Nat → Prop} : ∀ n, P n → ∃ m, m ≤ n ∧ P m ∧ ∀ k, k < m → ¬ P k := by
  intro n
  induction n using Nat.strongRecOn with
  | _ n ih =>
    intro h
    by_cases c : ∃ k, k < n ∧ P k
    · obtain ⟨k, hk, hp⟩ := c
      obtain ⟨m, h1, h2, h3⟩ := ih k hk hp
      exact ⟨m, by omega, h2, h3⟩
    · exact ⟨n, Nat.le_refl _, h, fun k hk hp => c ⟨k, hk, hp⟩⟩
theorem root_ex (d : Dy) : ∃ m, m ≤ 9218868437227405312 ∧ rch d m ∧ ∀ k, k < m → ¬ rch d k := least_of _ (rch_far (Nat.le_refl _) (by omega))
noncomputable def rtU (d : Dy) : Nat := Classical.choose (root_ex d)
theorem rtU_le (d : Dy) : rtU d ≤ 9218868437227405312 := (Classical.choose_spec (root_ex d)).1
theorem rtU_rch (d : Dy) : rch d (rtU d) := (Classical.choose_spec (root_ex d)).2.1
theorem rtU_not (d : Dy) {k : Nat} (h : k < rtU d) : ¬ rch d k := (Classical.choose_spec (root_ex d)).2.2 k h
theorem rtU_iff {d : Dy} (hd : d.Ok) {u : Nat} (hu : u < 9223372036854775808) : rch d u ↔ rtU d ≤ u :=
  ⟨fun h => Nat.le_of_not_lt fun c => rtU_not d c h, fun h => rch_mono hd h hu (rtU_rch d)⟩
theorem rtU_pos {d : Dy} (hd : d.Ok) (h : 0 < iv d) : 0 < rtU d := by
  rcases Nat.eq_zero_or_pos (rtU d) with c | c
  · have := rtU_rch d
    rw [c, rch_fin hd (by omega) ((fin_low (by omega)).2 (by omega)), flt_zero, iv_zero] at this
    have := Int.mul_pos h KK_pos
    omega
  · exact c
end Go.Proofs.YtmjjodficjjehaaGreatDoor
namespace Go.Proofs.YtmjjodficjjehaaGreatDoor
open Go Go.RowKit Nt
set_option maxRecDepth 100000 in
theorem VUpTo_c (a b : Dy) (r : Bool) (w : World) (ha : a.Ok) (hb : b.Ok) (hr : r = true ↔ cmpD a b ≤ 0) : Calls Tryz.prog 15 #[.agg #[.bool a.g, .string (natS a.n), .int .i64 a.x], .agg #[.bool b.g, .string (natS b.n), .int .i64 b.x]] w fun e w' => e = .returned (.bool r) ∧ Below w.heap.size w w' := by
  have K := Lib.hid (fun w => DCmp_c a b w ha hb)
  have hd : decide (cmpD a b ≤ 0) = r := by rw [Bool.eq_iff_iff, decide_eq_true_iff, hr]
  have HD := Lib.hid hd
  have HB : Hid (Below w.heap.size w ((w.alloc (.cells #[.bool a.g, .string (natS a.n), .int .i64 a.x] 24)).alloc (.cells #[.bool b.g, .string (natS b.n), .int .i64 b.x] 24))) := Lib.hid (((Below.refl _ _).alloc (Nat.le_refl _) _).alloc (by simp) _)
  clear ha hb hr hd
  generalize cmpD a b = c at *
  go_enter Tryz.func15, Tryz.ntmps15
  go_wp2_with fail
  refine (K.out _).mono ?_
  rintro e w1 ⟨rfl, hb1⟩
  have hb2 := below_chain HB.out hb1
  clear hb1 K
  go_wp2_with fail
  go_ret
  first | exact ⟨rfl, hb2⟩ | exact ⟨by rw [← HD.out]; rfl, hb2⟩
set_option maxRecDepth 100000 in
set_option maxHeartbeats 1000000 in
theorem VReach_c (u : Nat) (d : Dy) (r : Bool) (w : World) (hu : u < 18446744073709551616) (hd : d.Ok) (hr : r = true ↔ rch d u) (hG : Globs glT w) : Calls Tryz.prog 49 #[.int .u64 (u : Nat), .agg #[.bool d.g, .string (natS d.n), .int .i64 d.x]] w fun e w' => e = .returned (.bool r) ∧ Below w.heap.size w w' := by
  have h35 := Bt.ext_from
  have B0 := Lib.hid (Box3.new w (.bool d.g) (.string (natS d.n)) (.int .i64 d.x))
  have HB : Hid (Below w.heap.size w (w.alloc (.cells #[.bool d.g, .string (natS d.n), .int .i64 d.x] 24))) := Lib.hid ((Below.refl _ _).alloc (Nat.le_refl _) _)
  have HG := Lib.hid (fun W (hW : Below w.heap.size w W) => hG.below hW (Nat.le_refl _))
  by_cases hf : Bt.finB u = true
  · have KF := Lib.hid (fun W (hW : Below w.heap.size w W) => DFloat_f u W hu hf (HG.out W hW))
    have KM := Lib.hid (fun w => DMul_c (flt u) (flt u) w (flt_Ok u) (flt_Ok u))
    have hE := sq_fit hu hf
    have KU := Lib.hid (fun w => VUpTo_c d (mulD (flt u) (flt u)) r w hd (mulD_Ok _ _) (by
      rw [hr]
      unfold rch
      constructor
      · rintro (h | h)
        · rw [hf] at h; exact absurd h (by decide)
        · exact h
      · exact Or.inr))
    unfold MulPost at KM
    rw [hE] at KM
    clear hE hr hG
    generalize mulD (flt u) (flt u) = m at *
    generalize flt u = f at *
    unfold Dy.v at KF KM
    go_enter Tryz.func49, Tryz.ntmps49
    go_wp2_with fail
    refine (KF.out _ HB.out).mono ?_
    rintro e w1 ⟨rfl, hb1⟩
    have B1 := Lib.hid ((B0.out.step hb1).more (.cells #[.bool f.g, .string (natS f.n), .int .i64 f.x] 24))
    have BX := Lib.hid (Box3.new w1 (.bool f.g) (.string (natS f.n)) (.int .i64 f.x))
    have hbt := below_chain HB.out hb1
    have HBX : Hid (w.heap.size < w1.heap.size) := Lib.hid (B0.out.step hb1).facts.1
    have HB1 := Lib.hid (hbt.alloc hbt.size (.cells #[.bool f.g, .string (natS f.n), .int .i64 f.x] 24))
    clear hb1 hbt B0 KF
    go_wp2_with fail
    refine (KM.out _).mono ?_
    rintro e w2 ⟨rfl, hb2⟩
    obtain ⟨N, hN⟩ : ∃ N, N = w1.heap.size := ⟨_, rfl⟩
    rw [← hN] at BX ⊢
    have B2 := Lib.hid (B1.out.step hb2)
    have BX2 := Lib.hid (BX.out.step hb2)
    have HB2 := Lib.hid (below_chain HB1.out hb2)
    have hle : w.heap.size ≤ N := by have := HBX.out; omega
    have hne : w.heap.size ≠ N := by have h9 := HBX.out; omega
    have B3 := Lib.hid (B2.out.far hne (.bool m.g) (.string (natS m.n)) (.int .i64 m.x))
    have BX3 := Lib.hid (BX2.out.put (.bool m.g) (.string (natS m.n)) (.int .i64 m.x))
    have HB3 := Lib.hid (below_put HB2.out hle (.bool m.g) (.string (natS m.n)) (.int .i64 m.x))
    obtain ⟨x0, x1, x2, x3, x4, x5, x6⟩ := BX2.out.facts
    obtain ⟨p0, p1, p2, p3, p4, p5, p6⟩ := B3.out.facts
    obtain ⟨y0, y1, y2, y3, y4, y5, y6⟩ := BX3.out.facts
    have hnn : N ≠ w.heap.size := Ne.symm hne
    clear hb2 KM hN
    go_wp2_with fail
    refine (KU.out _).mono ?_
    rintro e w3 ⟨rfl, hb3⟩
    have hb4 := below_chain HB3.out hb3
    clear hb3
    go_wp2_with fail
    go_ret
    exact ⟨rfl, hb4⟩
  · have hf0 : Bt.finB u = false := Bool.eq_false_iff.2 hf
    obtain rfl : r = true := hr.2 (Or.inl hf0)
    have KF := Lib.hid (fun W => DFloat_no u hu hf0 W)
    clear hr hG hf hf0
    go_enter Tryz.func49, Tryz.ntmps49
    go_wp2_with fail
    refine (KF.out _).mono ?_
    rintro e w1 ⟨rfl, hb1⟩
    have hbt := below_chain HB.out hb1
    have hb4 := hbt.alloc hbt.size (.cells #[.bool false, .string ⟨#[]⟩, .int .i64 0] 24)
    clear hb1 hbt
    go_wp2_with fail
    go_ret
    exact ⟨rfl, hb4⟩
end Go.Proofs.YtmjjodficjjehaaGreatDoor
namespace Go.Proofs.YtmjjodficjjehaaGreatDoor
open Go Go.RowKit
end Go.Proofs.YtmjjodficjjehaaGreatDoor
namespace Go.Proofs.YtmjjodficjjehaaGreatDoor
open Go Go.RowKit
end Go.Proofs.YtmjjodficjjehaaGreatDoor
namespace Go.Proofs.YtmjjodficjjehaaGreatDoor
open Go Go.RowKit Nt
@[reducible] noncomputable def GSub_c_k1 : Know := ⟨[([0, 12, 31], [.sym 15, .lit (.int .i64 0)], .lit (.bool false)),
  ([0, 12, 31], [.sym 19, .lit (.int .i64 0)], .lit (.bool false))],
  [(38, [.agg [.sym 0, .sym 1, .sym 2, .sym 3, .sym 4, .sym 5]], .lit (.int .i64 0)),
  (38, [.agg [.sym 6, .sym 7, .sym 8, .sym 9, .sym 10, .sym 11]], .lit (.int .i64 0)),
  (81, [.agg [.sym 0, .sym 1, .sym 2], .agg [.sym 6, .sym 7, .sym 8]], .tup [.agg [.sym 12, .sym 13, .sym 14], .sym 15]),
  (81, [.agg [.sym 3, .sym 4, .sym 5], .agg [.sym 9, .sym 10, .sym 11]], .tup [.agg [.sym 16, .sym 17, .sym 18], .sym 19])]⟩
theorem GSub_c_r1 : @comes GSub_c_k1 Tryz.prog glT 3000 13 [.agg [.sym 0, .sym 1, .sym 2, .sym 3, .sym 4, .sym 5], .agg [.sym 6, .sym 7, .sym 8, .sym 9, .sym 10, .sym 11]] = some (.tup [.agg [.sym 12, .sym 13, .sym 14, .sym 16, .sym 17, .sym 18], .lit (.int .i64 0)]) := by kernel_rfl
@[reducible] noncomputable def GSub_c_k2 : Know := ⟨[([0, 12, 31], [.sym 15, .lit (.int .i64 0)], .lit (.bool false)),
  ([0, 12, 31], [.sym 19, .lit (.int .i64 0)], .lit (.bool true))],
  [(38, [.agg [.sym 0, .sym 1, .sym 2, .sym 3, .sym 4, .sym 5]], .lit (.int .i64 0)),
  (38, [.agg [.sym 6, .sym 7, .sym 8, .sym 9, .sym 10, .sym 11]], .lit (.int .i64 0)),
  (81, [.agg [.sym 0, .sym 1, .sym 2], .agg [.sym 6, .sym 7, .sym 8]], .tup [.agg [.sym 12, .sym 13, .sym 14], .sym 15]),
  (81, [.agg [.sym 3, .sym 4, .sym 5], .agg [.sym 9, .sym 10, .sym 11]], .tup [.agg [.sym 16, .sym 17, .sym 18], .sym 19])]⟩
theorem GSub_c_r2 : @comes GSub_c_k2 Tryz.prog glT 3000 13 [.agg [.sym 0, .sym 1, .sym 2, .sym 3, .sym 4, .sym 5], .agg [.sym 6, .sym 7, .sym 8, .sym 9, .sym 10, .sym 11]] = some (.tup [.lit (.agg #[.bool false, .string ⟨#[]⟩, .int .i64 0, .bool false, .string ⟨#[]⟩, .int .i64 0]), .sym 19]) := by kernel_rfl
@[reducible] noncomputable def GSub_c_k3 : Know := ⟨[([0, 12, 31], [.sym 15, .lit (.int .i64 0)], .lit (.bool true))],
  [(38, [.agg [.sym 0, .sym 1, .sym 2, .sym 3, .sym 4, .sym 5]], .lit (.int .i64 0)),
  (38, [.agg [.sym 6, .sym 7, .sym 8, .sym 9, .sym 10, .sym 11]], .lit (.int .i64 0)),
  (81, [.agg [.sym 0, .sym 1, .sym 2], .agg [.sym 6, .sym 7, .sym 8]], .tup [.agg [.sym 12, .sym 13, .sym 14], .sym 15])]⟩
theorem GSub_c_r3 : @comes GSub_c_k3 Tryz.prog glT 3000 13 [.agg [.sym 0, .sym 1, .sym 2, .sym 3, .sym 4, .sym 5], .agg [.sym 6, .sym 7, .sym 8, .sym 9, .sym 10, .sym 11]] = some (.tup [.lit (.agg #[.bool false, .string ⟨#[]⟩, .int .i64 0, .bool false, .string ⟨#[]⟩, .int .i64 0]), .sym 15]) := by kernel_rfl
set_option maxRecDepth 100000 in
theorem GSub_c (a b : Gs) (w : World) (ha : a.Ok) (hb : b.Ok) (hG : Globs glT w) : Calls Tryz.prog 13 #[.agg #[.bool a.re.g, .string (natS a.re.n), .int .i64 a.re.x, .bool a.im.g, .string (natS a.im.n), .int .i64 a.im.x], .agg #[.bool b.re.g, .string (natS b.re.n), .int .i64 b.re.x, .bool b.im.g, .string (natS b.im.n), .int .i64 b.im.x]] w fun e w' => e = .returned (.tuple #[(gaddD a (neG b)).v, .int .i64 (gaddE a (neG b))]) ∧ Below w.heap.size w w' := by
  by_cases h1 : addE a.re (negD b.re) = 0
  · by_cases h2 : addE a.im (negD b.im) = 0
    · letI : Env := mkEnv glT [.bool a.re.g, .string (natS a.re.n), .int .i64 a.re.x, .bool a.im.g, .string (natS a.im.n), .int .i64 a.im.x, .bool b.re.g, .string (natS b.re.n), .int .i64 b.re.x, .bool b.im.g, .string (natS b.im.n), .int .i64 b.im.x, .bool (addD a.re (negD b.re)).g, .string (natS (addD a.re (negD b.re)).n), .int .i64 (addD a.re (negD b.re)).x, .int .i64 (addE a.re (negD b.re)), .bool (addD a.im (negD b.im)).g, .string (natS (addD a.im (negD b.im)).n), .int .i64 (addD a.im (negD b.im)).x, .int .i64 (addE a.im (negD b.im))] rfl
      have hops : OpsT Tryz.prog (@Know.ops GSub_c_k1) := ⟨opt_neq_f rfl rfl h1, opt_neq_f rfl rfl h2, trivial⟩
      have hcalls : CallsT Tryz.prog (@Know.calls GSub_c_k1) := ⟨callt rfl rfl fun w hG => GCheck_gs a ha w hG, callt rfl rfl fun w hG => GCheck_gs b hb w hG, callt rfl rfl fun w hG => DSub_c a.re b.re w ha.1 hb.1 hG, callt rfl rfl fun w hG => DSub_c a.im b.im w ha.2 hb.2 hG, trivial⟩
      exact (@sym_ok _ GSub_c_k1 _ (@KnowOk.of _ GSub_c_k1 _ hops hcalls) (by kernel_rfl) _ _ _ _ GSub_c_r1 rfl rfl _ hG).mono fun e w' h => ⟨h.1.trans (show Ending.returned (.tuple #[.agg #[.bool (addD a.re (negD b.re)).g, .string (natS (addD a.re (negD b.re)).n), .int .i64 (addD a.re (negD b.re)).x, .bool (addD a.im (negD b.im)).g, .string (natS (addD a.im (negD b.im)).n), .int .i64 (addD a.im (negD b.im)).x], .int .i64 0]) = .returned (.tuple #[(gaddD a (neG b)).v, .int .i64 (gaddE a (neG b))]) from by rw [show gaddD a (neG b) = _ from erG_ok (l := gaddL a (neG b)) (show All0 (gaddL a (neG b)) from ⟨h1, h2, trivial⟩), show gaddE a (neG b) = 0 from erI_ok (l := gaddL a (neG b)) (show All0 (gaddL a (neG b)) from ⟨h1, h2, trivial⟩)]; rfl), h.2⟩
    · letI : Env := mkEnv glT [.bool a.re.g, .string (natS a.re.n), .int .i64 a.re.x, .bool a.im.g, .string (natS a.im.n), .int .i64 a.im.x, .bool b.re.g, .string (natS b.re.n), .int .i64 b.re.x, .bool b.im.g, .string (natS b.im.n), .int .i64 b.im.x, .bool (addD a.re (negD b.re)).g, .string (natS (addD a.re (negD b.re)).n), .int .i64 (addD a.re (negD b.re)).x, .int .i64 (addE a.re (negD b.re)), .bool (addD a.im (negD b.im)).g, .string (natS (addD a.im (negD b.im)).n), .int .i64 (addD a.im (negD b.im)).x, .int .i64 (addE a.im (negD b.im))] rfl
      have hops : OpsT Tryz.prog (@Know.ops GSub_c_k2) := ⟨opt_neq_f rfl rfl h1, opt_neq_t rfl rfl h2, trivial⟩
      have hcalls : CallsT Tryz.prog (@Know.calls GSub_c_k2) := ⟨callt rfl rfl fun w hG => GCheck_gs a ha w hG, callt rfl rfl fun w hG => GCheck_gs b hb w hG, callt rfl rfl fun w hG => DSub_c a.re b.re w ha.1 hb.1 hG, callt rfl rfl fun w hG => DSub_c a.im b.im w ha.2 hb.2 hG, trivial⟩
      exact (@sym_ok _ GSub_c_k2 _ (@KnowOk.of _ GSub_c_k2 _ hops hcalls) (by kernel_rfl) _ _ _ _ GSub_c_r2 rfl rfl _ hG).mono fun e w' h => ⟨h.1.trans (show Ending.returned (.tuple #[.agg #[.bool false, .string ⟨#[]⟩, .int .i64 0, .bool false, .string ⟨#[]⟩, .int .i64 0], .int .i64 (addE a.im (negD b.im))]) = .returned (.tuple #[(gaddD a (neG b)).v, .int .i64 (gaddE a (neG b))]) from by rw [show gaddD a (neG b) = _ from erG_no (l := gaddL a (neG b)) (show ¬ All0 (gaddL a (neG b)) from (fun c => h2 c.2.1)), show gaddE a (neG b) = 4 from erI_no (l := gaddL a (neG b)) (show ¬ All0 (gaddL a (neG b)) from (fun c => h2 c.2.1)), Gs.zero_v, addE4 h2]), h.2⟩
  · letI : Env := mkEnv glT [.bool a.re.g, .string (natS a.re.n), .int .i64 a.re.x, .bool a.im.g, .string (natS a.im.n), .int .i64 a.im.x, .bool b.re.g, .string (natS b.re.n), .int .i64 b.re.x, .bool b.im.g, .string (natS b.im.n), .int .i64 b.im.x, .bool (addD a.re (negD b.re)).g, .string (natS (addD a.re (negD b.re)).n), .int .i64 (addD a.re (negD b.re)).x, .int .i64 (addE a.re (negD b.re))] rfl
    have hops : OpsT Tryz.prog (@Know.ops GSub_c_k3) := ⟨opt_neq_t rfl rfl h1, trivial⟩
    have hcalls : CallsT Tryz.prog (@Know.calls GSub_c_k3) := ⟨callt rfl rfl fun w hG => GCheck_gs a ha w hG, callt rfl rfl fun w hG => GCheck_gs b hb w hG, callt rfl rfl fun w hG => DSub_c a.re b.re w ha.1 hb.1 hG, trivial⟩
    exact (@sym_ok _ GSub_c_k3 _ (@KnowOk.of _ GSub_c_k3 _ hops hcalls) (by kernel_rfl) _ _ _ _ GSub_c_r3 rfl rfl _ hG).mono fun e w' h => ⟨h.1.trans (show Ending.returned (.tuple #[.agg #[.bool false, .string ⟨#[]⟩, .int .i64 0, .bool false, .string ⟨#[]⟩, .int .i64 0], .int .i64 (addE a.re (negD b.re))]) = .returned (.tuple #[(gaddD a (neG b)).v, .int .i64 (gaddE a (neG b))]) from by rw [show gaddD a (neG b) = _ from erG_no (l := gaddL a (neG b)) (show ¬ All0 (gaddL a (neG b)) from (fun c => h1 c.1)), show gaddE a (neG b) = 4 from erI_no (l := gaddL a (neG b)) (show ¬ All0 (gaddL a (neG b)) from (fun c => h1 c.1)), Gs.zero_v, addE4 h1]), h.2⟩
end Go.Proofs.YtmjjodficjjehaaGreatDoor
namespace Go.Proofs.YtmjjodficjjehaaGreatDoor
open Go Go.RowKit Nt
@[reducible] noncomputable def rGSub_c_k1 : Know := ⟨[([0, 12, 3], [.sym 21, .lit (.int .i64 0)], .lit (.bool false)),
  ([0, 12, 3], [.sym 25, .lit (.int .i64 0)], .lit (.bool false))],
  [(95, [.agg [.sym 6, .sym 7, .sym 8]], .agg [.sym 12, .sym 13, .sym 14]),
  (95, [.agg [.sym 9, .sym 10, .sym 11]], .agg [.sym 15, .sym 16, .sym 17]),
  (91, [.agg [.sym 0, .sym 1, .sym 2], .agg [.sym 12, .sym 13, .sym 14]], .tup [.agg [.sym 18, .sym 19, .sym 20], .sym 21]),
  (91, [.agg [.sym 3, .sym 4, .sym 5], .agg [.sym 15, .sym 16, .sym 17]], .tup [.agg [.sym 22, .sym 23, .sym 24], .sym 25])]⟩
theorem rGSub_c_r1 : @comes rGSub_c_k1 Tryz.prog glT 3000 28 [.agg [.sym 0, .sym 1, .sym 2, .sym 3, .sym 4, .sym 5], .agg [.sym 6, .sym 7, .sym 8, .sym 9, .sym 10, .sym 11]] = some (.tup [.agg [.sym 18, .sym 19, .sym 20, .sym 22, .sym 23, .sym 24], .lit (.int .i64 0)]) := by kernel_rfl
@[reducible] noncomputable def rGSub_c_k2 : Know := ⟨[([0, 12, 3], [.sym 21, .lit (.int .i64 0)], .lit (.bool false)),
  ([0, 12, 3], [.sym 25, .lit (.int .i64 0)], .lit (.bool true))],
  [(95, [.agg [.sym 6, .sym 7, .sym 8]], .agg [.sym 12, .sym 13, .sym 14]),
  (95, [.agg [.sym 9, .sym 10, .sym 11]], .agg [.sym 15, .sym 16, .sym 17]),
  (91, [.agg [.sym 0, .sym 1, .sym 2], .agg [.sym 12, .sym 13, .sym 14]], .tup [.agg [.sym 18, .sym 19, .sym 20], .sym 21]),
  (91, [.agg [.sym 3, .sym 4, .sym 5], .agg [.sym 15, .sym 16, .sym 17]], .tup [.agg [.sym 22, .sym 23, .sym 24], .sym 25])]⟩
theorem rGSub_c_r2 : @comes rGSub_c_k2 Tryz.prog glT 3000 28 [.agg [.sym 0, .sym 1, .sym 2, .sym 3, .sym 4, .sym 5], .agg [.sym 6, .sym 7, .sym 8, .sym 9, .sym 10, .sym 11]] = some (.lit (.tuple #[.agg #[.bool false, .string ⟨#[]⟩, .int .i64 0, .bool false, .string ⟨#[]⟩, .int .i64 0], .int .i64 4])) := by kernel_rfl
@[reducible] noncomputable def rGSub_c_k3 : Know := ⟨[([0, 12, 3], [.sym 21, .lit (.int .i64 0)], .lit (.bool true))],
  [(95, [.agg [.sym 6, .sym 7, .sym 8]], .agg [.sym 12, .sym 13, .sym 14]),
  (95, [.agg [.sym 9, .sym 10, .sym 11]], .agg [.sym 15, .sym 16, .sym 17]),
  (91, [.agg [.sym 0, .sym 1, .sym 2], .agg [.sym 12, .sym 13, .sym 14]], .tup [.agg [.sym 18, .sym 19, .sym 20], .sym 21]),
  (91, [.agg [.sym 3, .sym 4, .sym 5], .agg [.sym 15, .sym 16, .sym 17]], .tup [.agg [.sym 22, .sym 23, .sym 24], .sym 25])]⟩
theorem rGSub_c_r3 : @comes rGSub_c_k3 Tryz.prog glT 3000 28 [.agg [.sym 0, .sym 1, .sym 2, .sym 3, .sym 4, .sym 5], .agg [.sym 6, .sym 7, .sym 8, .sym 9, .sym 10, .sym 11]] = some (.lit (.tuple #[.agg #[.bool false, .string ⟨#[]⟩, .int .i64 0, .bool false, .string ⟨#[]⟩, .int .i64 0], .int .i64 4])) := by kernel_rfl
set_option maxRecDepth 100000 in
theorem rGSub_c (a b : Gs) (w : World) (ha : a.Ok) (hb : b.Ok) (hG : Globs glT w) : Calls Tryz.prog 28 #[.agg #[.bool a.re.g, .string (natS a.re.n), .int .i64 a.re.x, .bool a.im.g, .string (natS a.im.n), .int .i64 a.im.x], .agg #[.bool b.re.g, .string (natS b.re.n), .int .i64 b.re.x, .bool b.im.g, .string (natS b.im.n), .int .i64 b.im.x]] w fun e w' => e = .returned (.tuple #[(gaddD a (neG b)).v, .int .i64 (gaddE a (neG b))]) ∧ Below w.heap.size w w' := by
  by_cases h1 : addE a.re (negD b.re) = 0
  · by_cases h2 : addE a.im (negD b.im) = 0
    · letI : Env := mkEnv glT [.bool a.re.g, .string (natS a.re.n), .int .i64 a.re.x, .bool a.im.g, .string (natS a.im.n), .int .i64 a.im.x, .bool b.re.g, .string (natS b.re.n), .int .i64 b.re.x, .bool b.im.g, .string (natS b.im.n), .int .i64 b.im.x, .bool (negD b.re).g, .string (natS (negD b.re).n), .int .i64 (negD b.re).x, .bool (negD b.im).g, .string (natS (negD b.im).n), .int .i64 (negD b.im).x, .bool (addD a.re (negD b.re)).g, .string (natS (addD a.re (negD b.re)).n), .int .i64 (addD a.re (negD b.re)).x, .int .i64 (addE a.re (negD b.re)), .bool (addD a.im (negD b.im)).g, .string (natS (addD a.im (negD b.im)).n), .int .i64 (addD a.im (negD b.im)).x, .int .i64 (addE a.im (negD b.im))] rfl
      have hops : OpsT Tryz.prog (@Know.ops rGSub_c_k1) := ⟨opt_neq_f rfl rfl h1, opt_neq_f rfl rfl h2, trivial⟩
      have hcalls : CallsT Tryz.prog (@Know.calls rGSub_c_k1) := ⟨callt rfl rfl fun w hG => rNegD3_c b.re w hb.1, callt rfl rfl fun w hG => rNegD3_c b.im w hb.2, callt rfl rfl fun w hG => rAdd3_c a.re (negD b.re) w ha.1 (negD_Ok hb.1), callt rfl rfl fun w hG => rAdd3_c a.im (negD b.im) w ha.2 (negD_Ok hb.2), trivial⟩
      exact (@sym_ok _ rGSub_c_k1 _ (@KnowOk.of _ rGSub_c_k1 _ hops hcalls) (by kernel_rfl) _ _ _ _ rGSub_c_r1 rfl rfl _ hG).mono fun e w' h => ⟨h.1.trans (show Ending.returned (.tuple #[.agg #[.bool (addD a.re (negD b.re)).g, .string (natS (addD a.re (negD b.re)).n), .int .i64 (addD a.re (negD b.re)).x, .bool (addD a.im (negD b.im)).g, .string (natS (addD a.im (negD b.im)).n), .int .i64 (addD a.im (negD b.im)).x], .int .i64 0]) = .returned (.tuple #[(gaddD a (neG b)).v, .int .i64 (gaddE a (neG b))]) from by rw [show gaddD a (neG b) = _ from erG_ok (l := gaddL a (neG b)) (show All0 (gaddL a (neG b)) from ⟨h1, h2, trivial⟩), show gaddE a (neG b) = 0 from erI_ok (l := gaddL a (neG b)) (show All0 (gaddL a (neG b)) from ⟨h1, h2, trivial⟩)]; rfl), h.2⟩
    · letI : Env := mkEnv glT [.bool a.re.g, .string (natS a.re.n), .int .i64 a.re.x, .bool a.im.g, .string (natS a.im.n), .int .i64 a.im.x, .bool b.re.g, .string (natS b.re.n), .int .i64 b.re.x, .bool b.im.g, .string (natS b.im.n), .int .i64 b.im.x, .bool (negD b.re).g, .string (natS (negD b.re).n), .int .i64 (negD b.re).x, .bool (negD b.im).g, .string (natS (negD b.im).n), .int .i64 (negD b.im).x, .bool (addD a.re (negD b.re)).g, .string (natS (addD a.re (negD b.re)).n), .int .i64 (addD a.re (negD b.re)).x, .int .i64 (addE a.re (negD b.re)), .bool (addD a.im (negD b.im)).g, .string (natS (addD a.im (negD b.im)).n), .int .i64 (addD a.im (negD b.im)).x, .int .i64 (addE a.im (negD b.im))] rfl
      have hops : OpsT Tryz.prog (@Know.ops rGSub_c_k2) := ⟨opt_neq_f rfl rfl h1, opt_neq_t rfl rfl h2, trivial⟩
      have hcalls : CallsT Tryz.prog (@Know.calls rGSub_c_k2) := ⟨callt rfl rfl fun w hG => rNegD3_c b.re w hb.1, callt rfl rfl fun w hG => rNegD3_c b.im w hb.2, callt rfl rfl fun w hG => rAdd3_c a.re (negD b.re) w ha.1 (negD_Ok hb.1), callt rfl rfl fun w hG => rAdd3_c a.im (negD b.im) w ha.2 (negD_Ok hb.2), trivial⟩
      exact (@sym_ok _ rGSub_c_k2 _ (@KnowOk.of _ rGSub_c_k2 _ hops hcalls) (by kernel_rfl) _ _ _ _ rGSub_c_r2 rfl rfl _ hG).mono fun e w' h => ⟨h.1.trans (show Ending.returned (.tuple #[.agg #[.bool false, .string ⟨#[]⟩, .int .i64 0, .bool false, .string ⟨#[]⟩, .int .i64 0], .int .i64 4]) = .returned (.tuple #[(gaddD a (neG b)).v, .int .i64 (gaddE a (neG b))]) from by rw [show gaddD a (neG b) = _ from erG_no (l := gaddL a (neG b)) (show ¬ All0 (gaddL a (neG b)) from (fun c => h2 c.2.1)), show gaddE a (neG b) = 4 from erI_no (l := gaddL a (neG b)) (show ¬ All0 (gaddL a (neG b)) from (fun c => h2 c.2.1)), Gs.zero_v]), h.2⟩
  · letI : Env := mkEnv glT [.bool a.re.g, .string (natS a.re.n), .int .i64 a.re.x, .bool a.im.g, .string (natS a.im.n), .int .i64 a.im.x, .bool b.re.g, .string (natS b.re.n), .int .i64 b.re.x, .bool b.im.g, .string (natS b.im.n), .int .i64 b.im.x, .bool (negD b.re).g, .string (natS (negD b.re).n), .int .i64 (negD b.re).x, .bool (negD b.im).g, .string (natS (negD b.im).n), .int .i64 (negD b.im).x, .bool (addD a.re (negD b.re)).g, .string (natS (addD a.re (negD b.re)).n), .int .i64 (addD a.re (negD b.re)).x, .int .i64 (addE a.re (negD b.re)), .bool (addD a.im (negD b.im)).g, .string (natS (addD a.im (negD b.im)).n), .int .i64 (addD a.im (negD b.im)).x, .int .i64 (addE a.im (negD b.im))] rfl
    have hops : OpsT Tryz.prog (@Know.ops rGSub_c_k3) := ⟨opt_neq_t rfl rfl h1, trivial⟩
    have hcalls : CallsT Tryz.prog (@Know.calls rGSub_c_k3) := ⟨callt rfl rfl fun w hG => rNegD3_c b.re w hb.1, callt rfl rfl fun w hG => rNegD3_c b.im w hb.2, callt rfl rfl fun w hG => rAdd3_c a.re (negD b.re) w ha.1 (negD_Ok hb.1), callt rfl rfl fun w hG => rAdd3_c a.im (negD b.im) w ha.2 (negD_Ok hb.2), trivial⟩
    exact (@sym_ok _ rGSub_c_k3 _ (@KnowOk.of _ rGSub_c_k3 _ hops hcalls) (by kernel_rfl) _ _ _ _ rGSub_c_r3 rfl rfl _ hG).mono fun e w' h => ⟨h.1.trans (show Ending.returned (.tuple #[.agg #[.bool false, .string ⟨#[]⟩, .int .i64 0, .bool false, .string ⟨#[]⟩, .int .i64 0], .int .i64 4]) = .returned (.tuple #[(gaddD a (neG b)).v, .int .i64 (gaddE a (neG b))]) from by rw [show gaddD a (neG b) = _ from erG_no (l := gaddL a (neG b)) (show ¬ All0 (gaddL a (neG b)) from (fun c => h1 c.1)), show gaddE a (neG b) = 4 from erI_no (l := gaddL a (neG b)) (show ¬ All0 (gaddL a (neG b)) from (fun c => h1 c.1)), Gs.zero_v]), h.2⟩
end Go.Proofs.YtmjjodficjjehaaGreatDoor
namespace Go.Proofs.YtmjjodficjjehaaGreatDoor
open Go Go.RowKit Nt
open Classical in
@[irreducible] noncomputable def Dt.d (t : Dt) : Dy := if h : t.Ok then Classical.choose (Dt.dy h) else Dy.zero
noncomputable def Gt.s (a : Gt) : Gs := ⟨a.re.d, a.im.d⟩
end Go.Proofs.YtmjjodficjjehaaGreatDoor
namespace Go.Proofs.YtmjjodficjjehaaGreatDoor
open Go Go.RowKit Nt
theorem DSub_z (a : Dy) (w : World) (ha : a.Ok) (hG : Globs glT w) : Calls Tryz.prog 81 #[.agg #[.bool a.g, .string (natS a.n), .int .i64 a.x], .agg #[.bool Dy.zero.g, .string (natS Dy.zero.n), .int .i64 Dy.zero.x]] w fun e w' => e = .returned (.tuple #[a.v, .int .i64 0]) ∧ Below w.heap.size w w' := by
  have h := DSub_c a Dy.zero w ha (Or.inl rfl) hG
  unfold AddPost at h
  rw [negD_zero] at h
  have e : addD a Dy.zero = a ∧ addE a Dy.zero = 0 := by
    by_cases h0 : a.n = 0
    · rw [(add_zl h0).1, (add_zl h0).2]
      rcases ha with rfl | ha
      · exact ⟨rfl, rfl⟩
      · exact absurd h0 (odd_ne ha.2.1)
    · exact add_zr h0 rfl
  rwa [e.1, e.2] at h
@[reducible] noncomputable def GNorm_c_k1 : Know := ⟨[([0, 12, 31], [.sym 15, .lit (.int .i64 0)], .lit (.bool false)),
  ([0, 12, 31], [.sym 19, .lit (.int .i64 0)], .lit (.bool false)),
  ([0, 12, 31], [.sym 23, .lit (.int .i64 0)], .lit (.bool false))],
  [(38, [.agg [.sym 0, .sym 1, .sym 2, .sym 3, .sym 4, .sym 5]], .lit (.int .i64 0)),
  (81, [.agg [.sym 0, .sym 1, .sym 2], .lit (.agg #[.bool false, .string ⟨#[]⟩, .int .i64 0])], .tup [.agg [.sym 6, .sym 7, .sym 8], .lit (.int .i64 0)]),
  (81, [.agg [.sym 3, .sym 4, .sym 5], .lit (.agg #[.bool false, .string ⟨#[]⟩, .int .i64 0])], .tup [.agg [.sym 9, .sym 10, .sym 11], .lit (.int .i64 0)]),
  (82, [.agg [.sym 6, .sym 7, .sym 8], .agg [.sym 6, .sym 7, .sym 8]], .tup [.agg [.sym 12, .sym 13, .sym 14], .sym 15]),
  (82, [.agg [.sym 9, .sym 10, .sym 11], .agg [.sym 9, .sym 10, .sym 11]], .tup [.agg [.sym 16, .sym 17, .sym 18], .sym 19]),
  (73, [.agg [.sym 12, .sym 13, .sym 14], .agg [.sym 16, .sym 17, .sym 18]], .tup [.agg [.sym 20, .sym 21, .sym 22], .sym 23])]⟩
theorem GNorm_c_r1 : @comes GNorm_c_k1 Tryz.prog glT 3000 14 [.agg [.sym 0, .sym 1, .sym 2, .sym 3, .sym 4, .sym 5]] = some (.tup [.agg [.sym 20, .sym 21, .sym 22], .lit (.int .i64 0)]) := by kernel_rfl
@[reducible] noncomputable def GNorm_c_k2 : Know := ⟨[([0, 12, 31], [.sym 15, .lit (.int .i64 0)], .lit (.bool false)),
  ([0, 12, 31], [.sym 19, .lit (.int .i64 0)], .lit (.bool false)),
  ([0, 12, 31], [.sym 23, .lit (.int .i64 0)], .lit (.bool true))],
  [(38, [.agg [.sym 0, .sym 1, .sym 2, .sym 3, .sym 4, .sym 5]], .lit (.int .i64 0)),
  (81, [.agg [.sym 0, .sym 1, .sym 2], .lit (.agg #[.bool false, .string ⟨#[]⟩, .int .i64 0])], .tup [.agg [.sym 6, .sym 7, .sym 8], .lit (.int .i64 0)]),
  (81, [.agg [.sym 3, .sym 4, .sym 5], .lit (.agg #[.bool false, .string ⟨#[]⟩, .int .i64 0])], .tup [.agg [.sym 9, .sym 10, .sym 11], .lit (.int .i64 0)]),
  (82, [.agg [.sym 6, .sym 7, .sym 8], .agg [.sym 6, .sym 7, .sym 8]], .tup [.agg [.sym 12, .sym 13, .sym 14], .sym 15]),
  (82, [.agg [.sym 9, .sym 10, .sym 11], .agg [.sym 9, .sym 10, .sym 11]], .tup [.agg [.sym 16, .sym 17, .sym 18], .sym 19]),
  (73, [.agg [.sym 12, .sym 13, .sym 14], .agg [.sym 16, .sym 17, .sym 18]], .tup [.agg [.sym 20, .sym 21, .sym 22], .sym 23])]⟩
theorem GNorm_c_r2 : @comes GNorm_c_k2 Tryz.prog glT 3000 14 [.agg [.sym 0, .sym 1, .sym 2, .sym 3, .sym 4, .sym 5]] = some (.tup [.lit (.agg #[.bool false, .string ⟨#[]⟩, .int .i64 0]), .sym 23]) := by kernel_rfl
@[reducible] noncomputable def GNorm_c_k3 : Know := ⟨[([0, 12, 31], [.sym 15, .lit (.int .i64 0)], .lit (.bool false)),
  ([0, 12, 31], [.sym 19, .lit (.int .i64 0)], .lit (.bool true))],
  [(38, [.agg [.sym 0, .sym 1, .sym 2, .sym 3, .sym 4, .sym 5]], .lit (.int .i64 0)),
  (81, [.agg [.sym 0, .sym 1, .sym 2], .lit (.agg #[.bool false, .string ⟨#[]⟩, .int .i64 0])], .tup [.agg [.sym 6, .sym 7, .sym 8], .lit (.int .i64 0)]),
  (81, [.agg [.sym 3, .sym 4, .sym 5], .lit (.agg #[.bool false, .string ⟨#[]⟩, .int .i64 0])], .tup [.agg [.sym 9, .sym 10, .sym 11], .lit (.int .i64 0)]),
  (82, [.agg [.sym 6, .sym 7, .sym 8], .agg [.sym 6, .sym 7, .sym 8]], .tup [.agg [.sym 12, .sym 13, .sym 14], .sym 15]),
  (82, [.agg [.sym 9, .sym 10, .sym 11], .agg [.sym 9, .sym 10, .sym 11]], .tup [.agg [.sym 16, .sym 17, .sym 18], .sym 19])]⟩
theorem GNorm_c_r3 : @comes GNorm_c_k3 Tryz.prog glT 3000 14 [.agg [.sym 0, .sym 1, .sym 2, .sym 3, .sym 4, .sym 5]] = some (.tup [.lit (.agg #[.bool false, .string ⟨#[]⟩, .int .i64 0]), .sym 19]) := by kernel_rfl
@[reducible] noncomputable def GNorm_c_k4 : Know := ⟨[([0, 12, 31], [.sym 15, .lit (.int .i64 0)], .lit (.bool true))],
  [(38, [.agg [.sym 0, .sym 1, .sym 2, .sym 3, .sym 4, .sym 5]], .lit (.int .i64 0)),
  (81, [.agg [.sym 0, .sym 1, .sym 2], .lit (.agg #[.bool false, .string ⟨#[]⟩, .int .i64 0])], .tup [.agg [.sym 6, .sym 7, .sym 8], .lit (.int .i64 0)]),
  (81, [.agg [.sym 3, .sym 4, .sym 5], .lit (.agg #[.bool false, .string ⟨#[]⟩, .int .i64 0])], .tup [.agg [.sym 9, .sym 10, .sym 11], .lit (.int .i64 0)]),
  (82, [.agg [.sym 6, .sym 7, .sym 8], .agg [.sym 6, .sym 7, .sym 8]], .tup [.agg [.sym 12, .sym 13, .sym 14], .sym 15])]⟩
theorem GNorm_c_r4 : @comes GNorm_c_k4 Tryz.prog glT 3000 14 [.agg [.sym 0, .sym 1, .sym 2, .sym 3, .sym 4, .sym 5]] = some (.tup [.lit (.agg #[.bool false, .string ⟨#[]⟩, .int .i64 0]), .sym 15]) := by kernel_rfl
set_option maxRecDepth 100000 in
theorem GNorm_c (a : Gs) (w : World) (ha : a.Ok) (hG : Globs glT w) : Calls Tryz.prog 14 #[.agg #[.bool a.re.g, .string (natS a.re.n), .int .i64 a.re.x, .bool a.im.g, .string (natS a.im.n), .int .i64 a.im.x]] w fun e w' => e = .returned (.tuple #[(dotD a a).v, .int .i64 (dotE a a)]) ∧ Below w.heap.size w w' := by
  by_cases h1 : mulE a.re a.re = 0
  · by_cases h2 : mulE a.im a.im = 0
    · by_cases h3 : addE (mulD a.re a.re) (mulD a.im a.im) = 0
      · letI : Env := mkEnv glT [.bool a.re.g, .string (natS a.re.n), .int .i64 a.re.x, .bool a.im.g, .string (natS a.im.n), .int .i64 a.im.x, .bool a.re.g, .string (natS a.re.n), .int .i64 a.re.x, .bool a.im.g, .string (natS a.im.n), .int .i64 a.im.x, .bool (mulD a.re a.re).g, .string (natS (mulD a.re a.re).n), .int .i64 (mulD a.re a.re).x, .int .i64 (mulE a.re a.re), .bool (mulD a.im a.im).g, .string (natS (mulD a.im a.im).n), .int .i64 (mulD a.im a.im).x, .int .i64 (mulE a.im a.im), .bool (addD (mulD a.re a.re) (mulD a.im a.im)).g, .string (natS (addD (mulD a.re a.re) (mulD a.im a.im)).n), .int .i64 (addD (mulD a.re a.re) (mulD a.im a.im)).x, .int .i64 (addE (mulD a.re a.re) (mulD a.im a.im))] rfl
        have hops : OpsT Tryz.prog (@Know.ops GNorm_c_k1) := ⟨opt_neq_f rfl rfl h1, opt_neq_f rfl rfl h2, opt_neq_f rfl rfl h3, trivial⟩
        have hcalls : CallsT Tryz.prog (@Know.calls GNorm_c_k1) := ⟨callt rfl rfl fun w hG => GCheck_gs a ha w hG, callt rfl rfl fun w hG => (by have h := DSub_z a.re w ha.1 hG; rw [natS_dz] at h; exact h), callt rfl rfl fun w hG => (by have h := DSub_z a.im w ha.2 hG; rw [natS_dz] at h; exact h), callt rfl rfl fun w hG => DMul_c a.re a.re w ha.1 ha.1, callt rfl rfl fun w hG => DMul_c a.im a.im w ha.2 ha.2, callt rfl rfl fun w hG => DAdd_c (mulD a.re a.re) (mulD a.im a.im) w (mulD_Ok a.re a.re) (mulD_Ok a.im a.im) hG, trivial⟩
        exact (@sym_ok _ GNorm_c_k1 _ (@KnowOk.of _ GNorm_c_k1 _ hops hcalls) (by kernel_rfl) _ _ _ _ GNorm_c_r1 rfl rfl _ hG).mono fun e w' h => ⟨h.1.trans (show Ending.returned (.tuple #[.agg #[.bool (addD (mulD a.re a.re) (mulD a.im a.im)).g, .string (natS (addD (mulD a.re a.re) (mulD a.im a.im)).n), .int .i64 (addD (mulD a.re a.re) (mulD a.im a.im)).x], .int .i64 0]) = .returned (.tuple #[(dotD a a).v, .int .i64 (dotE a a)]) from by rw [show dotD a a = _ from erD_ok (l := twoL a.re a.re a.im a.im) (show All0 (twoL a.re a.re a.im a.im) from ⟨h1, h2, h3, trivial⟩), show dotE a a = 0 from erI_ok (l := twoL a.re a.re a.im a.im) (show All0 (twoL a.re a.re a.im a.im) from ⟨h1, h2, h3, trivial⟩)]; rfl), h.2⟩
      · letI : Env := mkEnv glT [.bool a.re.g, .string (natS a.re.n), .int .i64 a.re.x, .bool a.im.g, .string (natS a.im.n), .int .i64 a.im.x, .bool a.re.g, .string (natS a.re.n), .int .i64 a.re.x, .bool a.im.g, .string (natS a.im.n), .int .i64 a.im.x, .bool (mulD a.re a.re).g, .string (natS (mulD a.re a.re).n), .int .i64 (mulD a.re a.re).x, .int .i64 (mulE a.re a.re), .bool (mulD a.im a.im).g, .string (natS (mulD a.im a.im).n), .int .i64 (mulD a.im a.im).x, .int .i64 (mulE a.im a.im), .bool (addD (mulD a.re a.re) (mulD a.im a.im)).g, .string (natS (addD (mulD a.re a.re) (mulD a.im a.im)).n), .int .i64 (addD (mulD a.re a.re) (mulD a.im a.im)).x, .int .i64 (addE (mulD a.re a.re) (mulD a.im a.im))] rfl
        have hops : OpsT Tryz.prog (@Know.ops GNorm_c_k2) := ⟨opt_neq_f rfl rfl h1, opt_neq_f rfl rfl h2, opt_neq_t rfl rfl h3, trivial⟩
        have hcalls : CallsT Tryz.prog (@Know.calls GNorm_c_k2) := ⟨callt rfl rfl fun w hG => GCheck_gs a ha w hG, callt rfl rfl fun w hG => (by have h := DSub_z a.re w ha.1 hG; rw [natS_dz] at h; exact h), callt rfl rfl fun w hG => (by have h := DSub_z a.im w ha.2 hG; rw [natS_dz] at h; exact h), callt rfl rfl fun w hG => DMul_c a.re a.re w ha.1 ha.1, callt rfl rfl fun w hG => DMul_c a.im a.im w ha.2 ha.2, callt rfl rfl fun w hG => DAdd_c (mulD a.re a.re) (mulD a.im a.im) w (mulD_Ok a.re a.re) (mulD_Ok a.im a.im) hG, trivial⟩
        exact (@sym_ok _ GNorm_c_k2 _ (@KnowOk.of _ GNorm_c_k2 _ hops hcalls) (by kernel_rfl) _ _ _ _ GNorm_c_r2 rfl rfl _ hG).mono fun e w' h => ⟨h.1.trans (show Ending.returned (.tuple #[.agg #[.bool false, .string ⟨#[]⟩, .int .i64 0], .int .i64 (addE (mulD a.re a.re) (mulD a.im a.im))]) = .returned (.tuple #[(dotD a a).v, .int .i64 (dotE a a)]) from by rw [show dotD a a = _ from erD_no (l := twoL a.re a.re a.im a.im) (show ¬ All0 (twoL a.re a.re a.im a.im) from (fun c => h3 c.2.2.1)), show dotE a a = 4 from erI_no (l := twoL a.re a.re a.im a.im) (show ¬ All0 (twoL a.re a.re a.im a.im) from (fun c => h3 c.2.2.1)), Dy.zero_v, addE4 h3]), h.2⟩
    · letI : Env := mkEnv glT [.bool a.re.g, .string (natS a.re.n), .int .i64 a.re.x, .bool a.im.g, .string (natS a.im.n), .int .i64 a.im.x, .bool a.re.g, .string (natS a.re.n), .int .i64 a.re.x, .bool a.im.g, .string (natS a.im.n), .int .i64 a.im.x, .bool (mulD a.re a.re).g, .string (natS (mulD a.re a.re).n), .int .i64 (mulD a.re a.re).x, .int .i64 (mulE a.re a.re), .bool (mulD a.im a.im).g, .string (natS (mulD a.im a.im).n), .int .i64 (mulD a.im a.im).x, .int .i64 (mulE a.im a.im)] rfl
      have hops : OpsT Tryz.prog (@Know.ops GNorm_c_k3) := ⟨opt_neq_f rfl rfl h1, opt_neq_t rfl rfl h2, trivial⟩
      have hcalls : CallsT Tryz.prog (@Know.calls GNorm_c_k3) := ⟨callt rfl rfl fun w hG => GCheck_gs a ha w hG, callt rfl rfl fun w hG => (by have h := DSub_z a.re w ha.1 hG; rw [natS_dz] at h; exact h), callt rfl rfl fun w hG => (by have h := DSub_z a.im w ha.2 hG; rw [natS_dz] at h; exact h), callt rfl rfl fun w hG => DMul_c a.re a.re w ha.1 ha.1, callt rfl rfl fun w hG => DMul_c a.im a.im w ha.2 ha.2, trivial⟩
      exact (@sym_ok _ GNorm_c_k3 _ (@KnowOk.of _ GNorm_c_k3 _ hops hcalls) (by kernel_rfl) _ _ _ _ GNorm_c_r3 rfl rfl _ hG).mono fun e w' h => ⟨h.1.trans (show Ending.returned (.tuple #[.agg #[.bool false, .string ⟨#[]⟩, .int .i64 0], .int .i64 (mulE a.im a.im)]) = .returned (.tuple #[(dotD a a).v, .int .i64 (dotE a a)]) from by rw [show dotD a a = _ from erD_no (l := twoL a.re a.re a.im a.im) (show ¬ All0 (twoL a.re a.re a.im a.im) from (fun c => h2 c.2.1)), show dotE a a = 4 from erI_no (l := twoL a.re a.re a.im a.im) (show ¬ All0 (twoL a.re a.re a.im a.im) from (fun c => h2 c.2.1)), Dy.zero_v, mulE4 h2]), h.2⟩
  · letI : Env := mkEnv glT [.bool a.re.g, .string (natS a.re.n), .int .i64 a.re.x, .bool a.im.g, .string (natS a.im.n), .int .i64 a.im.x, .bool a.re.g, .string (natS a.re.n), .int .i64 a.re.x, .bool a.im.g, .string (natS a.im.n), .int .i64 a.im.x, .bool (mulD a.re a.re).g, .string (natS (mulD a.re a.re).n), .int .i64 (mulD a.re a.re).x, .int .i64 (mulE a.re a.re)] rfl
    have hops : OpsT Tryz.prog (@Know.ops GNorm_c_k4) := ⟨opt_neq_t rfl rfl h1, trivial⟩
    have hcalls : CallsT Tryz.prog (@Know.calls GNorm_c_k4) := ⟨callt rfl rfl fun w hG => GCheck_gs a ha w hG, callt rfl rfl fun w hG => (by have h := DSub_z a.re w ha.1 hG; rw [natS_dz] at h; exact h), callt rfl rfl fun w hG => (by have h := DSub_z a.im w ha.2 hG; rw [natS_dz] at h; exact h), callt rfl rfl fun w hG => DMul_c a.re a.re w ha.1 ha.1, trivial⟩
    exact (@sym_ok _ GNorm_c_k4 _ (@KnowOk.of _ GNorm_c_k4 _ hops hcalls) (by kernel_rfl) _ _ _ _ GNorm_c_r4 rfl rfl _ hG).mono fun e w' h => ⟨h.1.trans (show Ending.returned (.tuple #[.agg #[.bool false, .string ⟨#[]⟩, .int .i64 0], .int .i64 (mulE a.re a.re)]) = .returned (.tuple #[(dotD a a).v, .int .i64 (dotE a a)]) from by rw [show dotD a a = _ from erD_no (l := twoL a.re a.re a.im a.im) (show ¬ All0 (twoL a.re a.re a.im a.im) from (fun c => h1 c.1)), show dotE a a = 4 from erI_no (l := twoL a.re a.re a.im a.im) (show ¬ All0 (twoL a.re a.re a.im a.im) from (fun c => h1 c.1)), Dy.zero_v, mulE4 h1]), h.2⟩
end Go.Proofs.YtmjjodficjjehaaGreatDoor
namespace Go.Proofs.YtmjjodficjjehaaGreatDoor
open Go Go.RowKit Nt
@[reducible] def VMid_ok_f : FuncId := 10
@[reducible] def VMid_ok_a : List AV := [.agg [.sym 0, .sym 1, .sym 2, .sym 3, .sym 4, .sym 5, .sym 6]]
@[reducible] noncomputable def VMid_ok_k : Know := ⟨[([0, 12, 31], [.sym 13, .lit (.int .i64 0)], .lit (.bool false)),
  ([0, 12, 31], [.sym 17, .lit (.int .i64 0)], .lit (.bool false))],
  [(36, [.agg [.sym 0, .sym 1, .sym 2, .sym 3, .sym 4, .sym 5, .sym 6]], .lit (.int .i64 0)),
  (74, [.lit (.int .i64 1), .sym 6], .agg [.sym 7, .sym 8, .sym 9]),
  (73, [.agg [.sym 0, .sym 1, .sym 2], .agg [.sym 7, .sym 8, .sym 9]], .tup [.agg [.sym 10, .sym 11, .sym 12], .sym 13]),
  (73, [.agg [.sym 3, .sym 4, .sym 5], .agg [.sym 7, .sym 8, .sym 9]], .tup [.agg [.sym 14, .sym 15, .sym 16], .sym 17])]⟩
theorem VMid_ok_r1 : @comes VMid_ok_k Tryz.prog glT 3000 VMid_ok_f VMid_ok_a = some (.tup [.agg [.sym 10, .sym 11, .sym 12, .sym 14, .sym 15, .sym 16], .lit (.int .i64 0)]) := by kernel_rfl
set_option maxRecDepth 100000 in
set_option maxHeartbeats 4000000 in
theorem VMid_ok (l m : Dy) (y : Int) (w : World) (hl : l.Ok) (hm : m.Ok) (he : -4096 ≤ y ∧ y ≤ 4096) (k3 : addE l (pw (y - 1)) = 0) (k4 : addE m (pw (y - 1)) = 0) (hG : Globs glT w) : Calls Tryz.prog 10 #[.agg #[.bool l.g, .string (natS l.n), .int .i64 l.x, .bool m.g, .string (natS m.n), .int .i64 m.x, .int .i64 y]] w fun e w' => e = .returned (.tuple #[.agg #[.bool (addD l (pw (y - 1))).g, .string (natS (addD l (pw (y - 1))).n), .int .i64 (addD l (pw (y - 1))).x, .bool (addD m (pw (y - 1))).g, .string (natS (addD m (pw (y - 1))).n), .int .i64 (addD m (pw (y - 1))).x], .int .i64 0]) ∧ Below w.heap.size w w' := by
  have h1 : addE l (pw (y - 1)) = 0 := k3
  have i1 : true = true ↔ (addE l (pw (y - 1)) = 0) := ⟨fun _ => h1, fun _ => rfl⟩
  have h2 : addE m (pw (y - 1)) = 0 := k4
  have i2 : true = true ↔ (addE m (pw (y - 1)) = 0) := ⟨fun _ => h2, fun _ => rfl⟩
  letI : Env := mkEnv glT [.bool l.g, .string (natS l.n), .int .i64 l.x, .bool m.g, .string (natS m.n), .int .i64 m.x, .int .i64 y, .bool (pw (y - 1)).g, .string (natS (pw (y - 1)).n), .int .i64 (pw (y - 1)).x, .bool (addD l (pw (y - 1))).g, .string (natS (addD l (pw (y - 1))).n), .int .i64 (addD l (pw (y - 1))).x, .int .i64 (addE l (pw (y - 1))), .bool (addD m (pw (y - 1))).g, .string (natS (addD m (pw (y - 1))).n), .int .i64 (addD m (pw (y - 1))).x, .int .i64 (addE m (pw (y - 1)))] rfl
  have hops : OpsT Tryz.prog (@Know.ops VMid_ok_k) := ⟨opt_neq_i rfl rfl i1,
    opt_neq_i rfl rfl i2,
    trivial⟩
  have hcalls : CallsT Tryz.prog (@Know.calls VMid_ok_k) := ⟨callt rfl rfl fun w hG => VRight_ok l m y w hl hm ⟨by omega, by omega⟩ hG,
    callt rfl rfl fun w hG => halves_1 y w ⟨by omega, by omega⟩ hG,
    callt rfl rfl fun w hG => DAdd_c l (pw (y - 1)) w hl (pw_Ok _) hG,
    callt rfl rfl fun w hG => DAdd_c m (pw (y - 1)) w hm (pw_Ok _) hG,
    trivial⟩
  have fin : ∀ v, @comes VMid_ok_k Tryz.prog glT 3000 VMid_ok_f VMid_ok_a = some v → ground v = true → Ending.returned (gval v) = .returned (.tuple #[.agg #[.bool (addD l (pw (y - 1))).g, .string (natS (addD l (pw (y - 1))).n), .int .i64 (addD l (pw (y - 1))).x, .bool (addD m (pw (y - 1))).g, .string (natS (addD m (pw (y - 1))).n), .int .i64 (addD m (pw (y - 1))).x], .int .i64 0]) → Calls Tryz.prog 10 #[.agg #[.bool l.g, .string (natS l.n), .int .i64 l.x, .bool m.g, .string (natS m.n), .int .i64 m.x, .int .i64 y]] w fun e w' => e = .returned (.tuple #[.agg #[.bool (addD l (pw (y - 1))).g, .string (natS (addD l (pw (y - 1))).n), .int .i64 (addD l (pw (y - 1))).x, .bool (addD m (pw (y - 1))).g, .string (natS (addD m (pw (y - 1))).n), .int .i64 (addD m (pw (y - 1))).x], .int .i64 0]) ∧ Below w.heap.size w w' := fun v h1 h2 h3 => (@sym_ok _ VMid_ok_k _ (@KnowOk.of _ VMid_ok_k _ hops hcalls) (by kernel_rfl) _ _ _ _ h1 rfl h2 _ hG).mono fun e w' h => ⟨h.1.trans h3, h.2⟩
  clear hops hcalls
  exact fin _ (VMid_ok_r1) rfl rfl
@[reducible] def VMid_no_f : FuncId := 10
@[reducible] def VMid_no_a : List AV := [.agg [.sym 0, .sym 1, .sym 2, .sym 3, .sym 4, .sym 5, .sym 6]]
@[reducible] noncomputable def VMid_no_k (b1 b2 : Bool) : Know := ⟨[([0, 12, 31], [.sym 13, .lit (.int .i64 0)], .lit (.bool (!b1))),
  ([0, 12, 31], [.sym 17, .lit (.int .i64 0)], .lit (.bool (!b2)))],
  [(36, [.agg [.sym 0, .sym 1, .sym 2, .sym 3, .sym 4, .sym 5, .sym 6]], .lit (.int .i64 0)),
  (74, [.lit (.int .i64 1), .sym 6], .agg [.sym 7, .sym 8, .sym 9]),
  (73, [.agg [.sym 0, .sym 1, .sym 2], .agg [.sym 7, .sym 8, .sym 9]], .tup [.agg [.sym 10, .sym 11, .sym 12], .sym 13]),
  (73, [.agg [.sym 3, .sym 4, .sym 5], .agg [.sym 7, .sym 8, .sym 9]], .tup [.agg [.sym 14, .sym 15, .sym 16], .sym 17])]⟩
theorem VMid_no_r1 : @comes (VMid_no_k true false) Tryz.prog glT 3000 VMid_no_f VMid_no_a = some (.lit (.tuple #[.agg #[.bool false, .string ⟨#[]⟩, .int .i64 0, .bool false, .string ⟨#[]⟩, .int .i64 0], .int .i64 4])) := by kernel_rfl
theorem VMid_no_r2 (b2 : Bool) : @comes (VMid_no_k false b2) Tryz.prog glT 3000 VMid_no_f VMid_no_a = some (.lit (.tuple #[.agg #[.bool false, .string ⟨#[]⟩, .int .i64 0, .bool false, .string ⟨#[]⟩, .int .i64 0], .int .i64 4])) := by kernel_rfl
set_option maxRecDepth 100000 in
set_option maxHeartbeats 4000000 in
theorem VMid_no (l m : Dy) (y : Int) (w : World) (hl : l.Ok) (hm : m.Ok) (he : -4096 ≤ y ∧ y ≤ 4096) (hn : ¬ (addE l (pw (y - 1)) = 0 ∧ addE m (pw (y - 1)) = 0)) (hG : Globs glT w) : Calls Tryz.prog 10 #[.agg #[.bool l.g, .string (natS l.n), .int .i64 l.x, .bool m.g, .string (natS m.n), .int .i64 m.x, .int .i64 y]] w fun e w' => e = .returned (.tuple #[.agg #[.bool false, .string ⟨#[]⟩, .int .i64 0, .bool false, .string ⟨#[]⟩, .int .i64 0], .int .i64 4]) ∧ Below w.heap.size w w' := by
  obtain ⟨b1, i1⟩ := bex (addE l (pw (y - 1)) = 0)
  obtain ⟨b2, i2⟩ := bex (addE m (pw (y - 1)) = 0)
  letI : Env := mkEnv glT [.bool l.g, .string (natS l.n), .int .i64 l.x, .bool m.g, .string (natS m.n), .int .i64 m.x, .int .i64 y, .bool (pw (y - 1)).g, .string (natS (pw (y - 1)).n), .int .i64 (pw (y - 1)).x, .bool (addD l (pw (y - 1))).g, .string (natS (addD l (pw (y - 1))).n), .int .i64 (addD l (pw (y - 1))).x, .int .i64 (addE l (pw (y - 1))), .bool (addD m (pw (y - 1))).g, .string (natS (addD m (pw (y - 1))).n), .int .i64 (addD m (pw (y - 1))).x, .int .i64 (addE m (pw (y - 1)))] rfl
  have hops : OpsT Tryz.prog (@Know.ops (VMid_no_k b1 b2)) := ⟨opt_neq_i rfl rfl i1,
    opt_neq_i rfl rfl i2,
    trivial⟩
  have hcalls : CallsT Tryz.prog (@Know.calls (VMid_no_k b1 b2)) := ⟨callt rfl rfl fun w hG => VRight_ok l m y w hl hm ⟨by omega, by omega⟩ hG,
    callt rfl rfl fun w hG => halves_1 y w ⟨by omega, by omega⟩ hG,
    callt rfl rfl fun w hG => DAdd_c l (pw (y - 1)) w hl (pw_Ok _) hG,
    callt rfl rfl fun w hG => DAdd_c m (pw (y - 1)) w hm (pw_Ok _) hG,
    trivial⟩
  have fin : ∀ v, @comes (VMid_no_k b1 b2) Tryz.prog glT 3000 VMid_no_f VMid_no_a = some v → ground v = true → Ending.returned (gval v) = .returned (.tuple #[.agg #[.bool false, .string ⟨#[]⟩, .int .i64 0, .bool false, .string ⟨#[]⟩, .int .i64 0], .int .i64 4]) → Calls Tryz.prog 10 #[.agg #[.bool l.g, .string (natS l.n), .int .i64 l.x, .bool m.g, .string (natS m.n), .int .i64 m.x, .int .i64 y]] w fun e w' => e = .returned (.tuple #[.agg #[.bool false, .string ⟨#[]⟩, .int .i64 0, .bool false, .string ⟨#[]⟩, .int .i64 0], .int .i64 4]) ∧ Below w.heap.size w w' := fun v h1 h2 h3 => (@sym_ok _ (VMid_no_k b1 b2) _ (@KnowOk.of _ (VMid_no_k b1 b2) _ hops hcalls) (by kernel_rfl) _ _ _ _ h1 rfl h2 _ hG).mono fun e w' h => ⟨h.1.trans h3, h.2⟩
  clear hops hcalls
  cases b1 with
  | true =>
    have h1 : addE l (pw (y - 1)) = 0 := i1.1 rfl
    cases b2 with
    | true =>
      exact absurd (i2.1 rfl) (fun c => hn ⟨h1, c⟩)
    | false =>
      have h2 : ¬ (addE m (pw (y - 1)) = 0) := fun c => Bool.false_ne_true (i2.2 c)
      exact fin _ (VMid_no_r1) rfl rfl
  | false =>
    have h1 : ¬ (addE l (pw (y - 1)) = 0) := fun c => Bool.false_ne_true (i1.2 c)
    exact fin _ (VMid_no_r2 b2) rfl rfl
@[reducible] def rMid_ok_f : FuncId := 25
@[reducible] def rMid_ok_a : List AV := [.agg [.sym 0, .sym 1, .sym 2, .sym 3, .sym 4, .sym 5, .sym 6]]
@[reducible] noncomputable def rMid_ok_k : Know := ⟨[([0, 1, 3], [.sym 6, .lit (.int .i64 1)], .sym 7),
  ([0, 12, 3], [.sym 11, .lit (.int .i64 0)], .lit (.bool false)),
  ([0, 12, 3], [.sym 15, .lit (.int .i64 0)], .lit (.bool false))],
  [(58, [.agg [.sym 0, .sym 1, .sym 2], .lit (.int .i64 1), .sym 7], .tup [.agg [.sym 8, .sym 9, .sym 10], .sym 11]),
  (58, [.agg [.sym 3, .sym 4, .sym 5], .lit (.int .i64 1), .sym 7], .tup [.agg [.sym 12, .sym 13, .sym 14], .sym 15])]⟩
theorem rMid_ok_r1 : @comes rMid_ok_k Tryz.prog glT 3000 rMid_ok_f rMid_ok_a = some (.tup [.agg [.sym 8, .sym 9, .sym 10, .sym 12, .sym 13, .sym 14], .lit (.int .i64 0)]) := by kernel_rfl
set_option maxRecDepth 100000 in
set_option maxHeartbeats 4000000 in
theorem rMid_ok (l m : Dy) (y : Int) (w : World) (hl : l.Ok) (hm : m.Ok) (he : -4096 ≤ y ∧ y ≤ 4096) (k3 : addE l (pw (y - 1)) = 0) (k4 : addE m (pw (y - 1)) = 0) (hG : Globs glT w) : Calls Tryz.prog 25 #[.agg #[.bool l.g, .string (natS l.n), .int .i64 l.x, .bool m.g, .string (natS m.n), .int .i64 m.x, .int .i64 y]] w fun e w' => e = .returned (.tuple #[.agg #[.bool (addD l (pw (y - 1))).g, .string (natS (addD l (pw (y - 1))).n), .int .i64 (addD l (pw (y - 1))).x, .bool (addD m (pw (y - 1))).g, .string (natS (addD m (pw (y - 1))).n), .int .i64 (addD m (pw (y - 1))).x], .int .i64 0]) ∧ Below w.heap.size w w' := by
  have h1 : addE l (pw (y - 1)) = 0 := k3
  have i1 : true = true ↔ (addE l (pw (y - 1)) = 0) := ⟨fun _ => h1, fun _ => rfl⟩
  have h2 : addE m (pw (y - 1)) = 0 := k4
  have i2 : true = true ↔ (addE m (pw (y - 1)) = 0) := ⟨fun _ => h2, fun _ => rfl⟩
  letI : Env := mkEnv glT [.bool l.g, .string (natS l.n), .int .i64 l.x, .bool m.g, .string (natS m.n), .int .i64 m.x, .int .i64 y, .int .i64 (y - 1), .bool (addD l (pw (y - 1))).g, .string (natS (addD l (pw (y - 1))).n), .int .i64 (addD l (pw (y - 1))).x, .int .i64 (addE l (pw (y - 1))), .bool (addD m (pw (y - 1))).g, .string (natS (addD m (pw (y - 1))).n), .int .i64 (addD m (pw (y - 1))).x, .int .i64 (addE m (pw (y - 1)))] rfl
  have hops : OpsT Tryz.prog (@Know.ops rMid_ok_k) := ⟨vopt_sub rfl rfl rfl rfl rfl ⟨by omega, by omega⟩,
    opt_neq_i rfl rfl i1,
    opt_neq_i rfl rfl i2,
    trivial⟩
  have hcalls : CallsT Tryz.prog (@Know.calls rMid_ok_k) := ⟨callt rfl rfl fun w hG => on_c l (y - 1) w hl ⟨by omega, by omega⟩ hG,
    callt rfl rfl fun w hG => on_c m (y - 1) w hm ⟨by omega, by omega⟩ hG,
    trivial⟩
  have fin : ∀ v, @comes rMid_ok_k Tryz.prog glT 3000 rMid_ok_f rMid_ok_a = some v → ground v = true → Ending.returned (gval v) = .returned (.tuple #[.agg #[.bool (addD l (pw (y - 1))).g, .string (natS (addD l (pw (y - 1))).n), .int .i64 (addD l (pw (y - 1))).x, .bool (addD m (pw (y - 1))).g, .string (natS (addD m (pw (y - 1))).n), .int .i64 (addD m (pw (y - 1))).x], .int .i64 0]) → Calls Tryz.prog 25 #[.agg #[.bool l.g, .string (natS l.n), .int .i64 l.x, .bool m.g, .string (natS m.n), .int .i64 m.x, .int .i64 y]] w fun e w' => e = .returned (.tuple #[.agg #[.bool (addD l (pw (y - 1))).g, .string (natS (addD l (pw (y - 1))).n), .int .i64 (addD l (pw (y - 1))).x, .bool (addD m (pw (y - 1))).g, .string (natS (addD m (pw (y - 1))).n), .int .i64 (addD m (pw (y - 1))).x], .int .i64 0]) ∧ Below w.heap.size w w' := fun v h1 h2 h3 => (@sym_ok _ rMid_ok_k _ (@KnowOk.of _ rMid_ok_k _ hops hcalls) (by kernel_rfl) _ _ _ _ h1 rfl h2 _ hG).mono fun e w' h => ⟨h.1.trans h3, h.2⟩
  clear hops hcalls
  exact fin _ (rMid_ok_r1) rfl rfl
@[reducible] def rMid_no_f : FuncId := 25
@[reducible] def rMid_no_a : List AV := [.agg [.sym 0, .sym 1, .sym 2, .sym 3, .sym 4, .sym 5, .sym 6]]
@[reducible] noncomputable def rMid_no_k (b1 b2 : Bool) : Know := ⟨[([0, 1, 3], [.sym 6, .lit (.int .i64 1)], .sym 7),
  ([0, 12, 3], [.sym 11, .lit (.int .i64 0)], .lit (.bool (!b1))),
  ([0, 12, 3], [.sym 15, .lit (.int .i64 0)], .lit (.bool (!b2)))],
  [(58, [.agg [.sym 0, .sym 1, .sym 2], .lit (.int .i64 1), .sym 7], .tup [.agg [.sym 8, .sym 9, .sym 10], .sym 11]),
  (58, [.agg [.sym 3, .sym 4, .sym 5], .lit (.int .i64 1), .sym 7], .tup [.agg [.sym 12, .sym 13, .sym 14], .sym 15])]⟩
theorem rMid_no_r1 : @comes (rMid_no_k true false) Tryz.prog glT 3000 rMid_no_f rMid_no_a = some (.lit (.tuple #[.agg #[.bool false, .string ⟨#[]⟩, .int .i64 0, .bool false, .string ⟨#[]⟩, .int .i64 0], .int .i64 4])) := by kernel_rfl
theorem rMid_no_r2 (b2 : Bool) : @comes (rMid_no_k false b2) Tryz.prog glT 3000 rMid_no_f rMid_no_a = some (.lit (.tuple #[.agg #[.bool false, .string ⟨#[]⟩, .int .i64 0, .bool false, .string ⟨#[]⟩, .int .i64 0], .int .i64 4])) := by kernel_rfl
set_option maxRecDepth 100000 in
set_option maxHeartbeats 4000000 in
theorem rMid_no (l m : Dy) (y : Int) (w : World) (hl : l.Ok) (hm : m.Ok) (he : -4096 ≤ y ∧ y ≤ 4096) (hn : ¬ (addE l (pw (y - 1)) = 0 ∧ addE m (pw (y - 1)) = 0)) (hG : Globs glT w) : Calls Tryz.prog 25 #[.agg #[.bool l.g, .string (natS l.n), .int .i64 l.x, .bool m.g, .string (natS m.n), .int .i64 m.x, .int .i64 y]] w fun e w' => e = .returned (.tuple #[.agg #[.bool false, .string ⟨#[]⟩, .int .i64 0, .bool false, .string ⟨#[]⟩, .int .i64 0], .int .i64 4]) ∧ Below w.heap.size w w' := by
  obtain ⟨b1, i1⟩ := bex (addE l (pw (y - 1)) = 0)
  obtain ⟨b2, i2⟩ := bex (addE m (pw (y - 1)) = 0)
  letI : Env := mkEnv glT [.bool l.g, .string (natS l.n), .int .i64 l.x, .bool m.g, .string (natS m.n), .int .i64 m.x, .int .i64 y, .int .i64 (y - 1), .bool (addD l (pw (y - 1))).g, .string (natS (addD l (pw (y - 1))).n), .int .i64 (addD l (pw (y - 1))).x, .int .i64 (addE l (pw (y - 1))), .bool (addD m (pw (y - 1))).g, .string (natS (addD m (pw (y - 1))).n), .int .i64 (addD m (pw (y - 1))).x, .int .i64 (addE m (pw (y - 1)))] rfl
  have hops : OpsT Tryz.prog (@Know.ops (rMid_no_k b1 b2)) := ⟨vopt_sub rfl rfl rfl rfl rfl ⟨by omega, by omega⟩,
    opt_neq_i rfl rfl i1,
    opt_neq_i rfl rfl i2,
    trivial⟩
  have hcalls : CallsT Tryz.prog (@Know.calls (rMid_no_k b1 b2)) := ⟨callt rfl rfl fun w hG => on_c l (y - 1) w hl ⟨by omega, by omega⟩ hG,
    callt rfl rfl fun w hG => on_c m (y - 1) w hm ⟨by omega, by omega⟩ hG,
    trivial⟩
  have fin : ∀ v, @comes (rMid_no_k b1 b2) Tryz.prog glT 3000 rMid_no_f rMid_no_a = some v → ground v = true → Ending.returned (gval v) = .returned (.tuple #[.agg #[.bool false, .string ⟨#[]⟩, .int .i64 0, .bool false, .string ⟨#[]⟩, .int .i64 0], .int .i64 4]) → Calls Tryz.prog 25 #[.agg #[.bool l.g, .string (natS l.n), .int .i64 l.x, .bool m.g, .string (natS m.n), .int .i64 m.x, .int .i64 y]] w fun e w' => e = .returned (.tuple #[.agg #[.bool false, .string ⟨#[]⟩, .int .i64 0, .bool false, .string ⟨#[]⟩, .int .i64 0], .int .i64 4]) ∧ Below w.heap.size w w' := fun v h1 h2 h3 => (@sym_ok _ (rMid_no_k b1 b2) _ (@KnowOk.of _ (rMid_no_k b1 b2) _ hops hcalls) (by kernel_rfl) _ _ _ _ h1 rfl h2 _ hG).mono fun e w' h => ⟨h.1.trans h3, h.2⟩
  clear hops hcalls
  cases b1 with
  | true =>
    have h1 : addE l (pw (y - 1)) = 0 := i1.1 rfl
    cases b2 with
    | true =>
      exact absurd (i2.1 rfl) (fun c => hn ⟨h1, c⟩)
    | false =>
      have h2 : ¬ (addE m (pw (y - 1)) = 0) := fun c => Bool.false_ne_true (i2.2 c)
      exact fin _ (rMid_no_r1) rfl rfl
  | false =>
    have h1 : ¬ (addE l (pw (y - 1)) = 0) := fun c => Bool.false_ne_true (i1.2 c)
    exact fin _ (rMid_no_r2 b2) rfl rfl
@[reducible] def VCorn_ok_f : FuncId := 9
@[reducible] def VCorn_ok_a : List AV := [.agg [.sym 0, .sym 1, .sym 2, .sym 3, .sym 4, .sym 5, .sym 6]]
@[reducible] noncomputable def VCorn_ok_k : Know := ⟨[([0, 12, 31], [.sym 13, .lit (.int .i64 0)], .lit (.bool false)),
  ([0, 12, 31], [.sym 17, .lit (.int .i64 0)], .lit (.bool false))],
  [(36, [.agg [.sym 0, .sym 1, .sym 2, .sym 3, .sym 4, .sym 5, .sym 6]], .lit (.int .i64 0)),
  (74, [.lit (.int .i64 2), .sym 6], .agg [.sym 7, .sym 8, .sym 9]),
  (73, [.agg [.sym 0, .sym 1, .sym 2], .agg [.sym 7, .sym 8, .sym 9]], .tup [.agg [.sym 10, .sym 11, .sym 12], .sym 13]),
  (73, [.agg [.sym 3, .sym 4, .sym 5], .agg [.sym 7, .sym 8, .sym 9]], .tup [.agg [.sym 14, .sym 15, .sym 16], .sym 17])]⟩
theorem VCorn_ok_r1 : @comes VCorn_ok_k Tryz.prog glT 3000 VCorn_ok_f VCorn_ok_a = some (.tup [.agg [.sym 0, .sym 1, .sym 2, .sym 3, .sym 4, .sym 5, .sym 10, .sym 11, .sym 12, .sym 3, .sym 4, .sym 5, .sym 0, .sym 1, .sym 2, .sym 14, .sym 15, .sym 16, .sym 10, .sym 11, .sym 12, .sym 14, .sym 15, .sym 16], .lit (.int .i64 0)]) := by kernel_rfl
set_option maxRecDepth 100000 in
set_option maxHeartbeats 4000000 in
theorem VCorn_ok (l m : Dy) (y : Int) (w : World) (hl : l.Ok) (hm : m.Ok) (he : -4096 ≤ y ∧ y ≤ 4096) (k3 : addE l (pw y) = 0) (k4 : addE m (pw y) = 0) (hG : Globs glT w) : Calls Tryz.prog 9 #[.agg #[.bool l.g, .string (natS l.n), .int .i64 l.x, .bool m.g, .string (natS m.n), .int .i64 m.x, .int .i64 y]] w fun e w' => e = .returned (.tuple #[.agg #[.bool l.g, .string (natS l.n), .int .i64 l.x, .bool m.g, .string (natS m.n), .int .i64 m.x, .bool (addD l (pw y)).g, .string (natS (addD l (pw y)).n), .int .i64 (addD l (pw y)).x, .bool m.g, .string (natS m.n), .int .i64 m.x, .bool l.g, .string (natS l.n), .int .i64 l.x, .bool (addD m (pw y)).g, .string (natS (addD m (pw y)).n), .int .i64 (addD m (pw y)).x, .bool (addD l (pw y)).g, .string (natS (addD l (pw y)).n), .int .i64 (addD l (pw y)).x, .bool (addD m (pw y)).g, .string (natS (addD m (pw y)).n), .int .i64 (addD m (pw y)).x], .int .i64 0]) ∧ Below w.heap.size w w' := by
  have h1 : addE l (pw y) = 0 := k3
  have i1 : true = true ↔ (addE l (pw y) = 0) := ⟨fun _ => h1, fun _ => rfl⟩
  have h2 : addE m (pw y) = 0 := k4
  have i2 : true = true ↔ (addE m (pw y) = 0) := ⟨fun _ => h2, fun _ => rfl⟩
  letI : Env := mkEnv glT [.bool l.g, .string (natS l.n), .int .i64 l.x, .bool m.g, .string (natS m.n), .int .i64 m.x, .int .i64 y, .bool (pw y).g, .string (natS (pw y).n), .int .i64 (pw y).x, .bool (addD l (pw y)).g, .string (natS (addD l (pw y)).n), .int .i64 (addD l (pw y)).x, .int .i64 (addE l (pw y)), .bool (addD m (pw y)).g, .string (natS (addD m (pw y)).n), .int .i64 (addD m (pw y)).x, .int .i64 (addE m (pw y))] rfl
  have hops : OpsT Tryz.prog (@Know.ops VCorn_ok_k) := ⟨opt_neq_i rfl rfl i1,
    opt_neq_i rfl rfl i2,
    trivial⟩
  have hcalls : CallsT Tryz.prog (@Know.calls VCorn_ok_k) := ⟨callt rfl rfl fun w hG => VRight_ok l m y w hl hm ⟨by omega, by omega⟩ hG,
    callt rfl rfl fun w hG => halves_2 y w ⟨by omega, by omega⟩ hG,
    callt rfl rfl fun w hG => DAdd_c l (pw y) w hl (pw_Ok _) hG,
    callt rfl rfl fun w hG => DAdd_c m (pw y) w hm (pw_Ok _) hG,
    trivial⟩
  have fin : ∀ v, @comes VCorn_ok_k Tryz.prog glT 3000 VCorn_ok_f VCorn_ok_a = some v → ground v = true → Ending.returned (gval v) = .returned (.tuple #[.agg #[.bool l.g, .string (natS l.n), .int .i64 l.x, .bool m.g, .string (natS m.n), .int .i64 m.x, .bool (addD l (pw y)).g, .string (natS (addD l (pw y)).n), .int .i64 (addD l (pw y)).x, .bool m.g, .string (natS m.n), .int .i64 m.x, .bool l.g, .string (natS l.n), .int .i64 l.x, .bool (addD m (pw y)).g, .string (natS (addD m (pw y)).n), .int .i64 (addD m (pw y)).x, .bool (addD l (pw y)).g, .string (natS (addD l (pw y)).n), .int .i64 (addD l (pw y)).x, .bool (addD m (pw y)).g, .string (natS (addD m (pw y)).n), .int .i64 (addD m (pw y)).x], .int .i64 0]) → Calls Tryz.prog 9 #[.agg #[.bool l.g, .string (natS l.n), .int .i64 l.x, .bool m.g, .string (natS m.n), .int .i64 m.x, .int .i64 y]] w fun e w' => e = .returned (.tuple #[.agg #[.bool l.g, .string (natS l.n), .int .i64 l.x, .bool m.g, .string (natS m.n), .int .i64 m.x, .bool (addD l (pw y)).g, .string (natS (addD l (pw y)).n), .int .i64 (addD l (pw y)).x, .bool m.g, .string (natS m.n), .int .i64 m.x, .bool l.g, .string (natS l.n), .int .i64 l.x, .bool (addD m (pw y)).g, .string (natS (addD m (pw y)).n), .int .i64 (addD m (pw y)).x, .bool (addD l (pw y)).g, .string (natS (addD l (pw y)).n), .int .i64 (addD l (pw y)).x, .bool (addD m (pw y)).g, .string (natS (addD m (pw y)).n), .int .i64 (addD m (pw y)).x], .int .i64 0]) ∧ Below w.heap.size w w' := fun v h1 h2 h3 => (@sym_ok _ VCorn_ok_k _ (@KnowOk.of _ VCorn_ok_k _ hops hcalls) (by kernel_rfl) _ _ _ _ h1 rfl h2 _ hG).mono fun e w' h => ⟨h.1.trans h3, h.2⟩
  clear hops hcalls
  exact fin _ (VCorn_ok_r1) rfl rfl
@[reducible] def VCorn_no_f : FuncId := 9
@[reducible] def VCorn_no_a : List AV := [.agg [.sym 0, .sym 1, .sym 2, .sym 3, .sym 4, .sym 5, .sym 6]]
@[reducible] noncomputable def VCorn_no_k (b1 b2 : Bool) : Know := ⟨[([0, 12, 31], [.sym 13, .lit (.int .i64 0)], .lit (.bool (!b1))),
  ([0, 12, 31], [.sym 17, .lit (.int .i64 0)], .lit (.bool (!b2)))],
  [(36, [.agg [.sym 0, .sym 1, .sym 2, .sym 3, .sym 4, .sym 5, .sym 6]], .lit (.int .i64 0)),
  (74, [.lit (.int .i64 2), .sym 6], .agg [.sym 7, .sym 8, .sym 9]),
  (73, [.agg [.sym 0, .sym 1, .sym 2], .agg [.sym 7, .sym 8, .sym 9]], .tup [.agg [.sym 10, .sym 11, .sym 12], .sym 13]),
  (73, [.agg [.sym 3, .sym 4, .sym 5], .agg [.sym 7, .sym 8, .sym 9]], .tup [.agg [.sym 14, .sym 15, .sym 16], .sym 17])]⟩
theorem VCorn_no_r1 : @comes (VCorn_no_k true false) Tryz.prog glT 3000 VCorn_no_f VCorn_no_a = some (.lit (.tuple #[.agg #[.bool false, .string ⟨#[]⟩, .int .i64 0, .bool false, .string ⟨#[]⟩, .int .i64 0, .bool false, .string ⟨#[]⟩, .int .i64 0, .bool false, .string ⟨#[]⟩, .int .i64 0, .bool false, .string ⟨#[]⟩, .int .i64 0, .bool false, .string ⟨#[]⟩, .int .i64 0, .bool false, .string ⟨#[]⟩, .int .i64 0, .bool false, .string ⟨#[]⟩, .int .i64 0], .int .i64 4])) := by kernel_rfl
theorem VCorn_no_r2 (b2 : Bool) : @comes (VCorn_no_k false b2) Tryz.prog glT 3000 VCorn_no_f VCorn_no_a = some (.lit (.tuple #[.agg #[.bool false, .string ⟨#[]⟩, .int .i64 0, .bool false, .string ⟨#[]⟩, .int .i64 0, .bool false, .string ⟨#[]⟩, .int .i64 0, .bool false, .string ⟨#[]⟩, .int .i64 0, .bool false, .string ⟨#[]⟩, .int .i64 0, .bool false, .string ⟨#[]⟩, .int .i64 0, .bool false, .string ⟨#[]⟩, .int .i64 0, .bool false, .string ⟨#[]⟩, .int .i64 0], .int .i64 4])) := by kernel_rfl
set_option maxRecDepth 100000 in
set_option maxHeartbeats 4000000 in
theorem VCorn_no (l m : Dy) (y : Int) (w : World) (hl : l.Ok) (hm : m.Ok) (he : -4096 ≤ y ∧ y ≤ 4096) (hn : ¬ (addE l (pw y) = 0 ∧ addE m (pw y) = 0)) (hG : Globs glT w) : Calls Tryz.prog 9 #[.agg #[.bool l.g, .string (natS l.n), .int .i64 l.x, .bool m.g, .string (natS m.n), .int .i64 m.x, .int .i64 y]] w fun e w' => e = .returned (.tuple #[.agg #[.bool false, .string ⟨#[]⟩, .int .i64 0, .bool false, .string ⟨#[]⟩, .int .i64 0, .bool false, .string ⟨#[]⟩, .int .i64 0, .bool false, .string ⟨#[]⟩, .int .i64 0, .bool false, .string ⟨#[]⟩, .int .i64 0, .bool false, .string ⟨#[]⟩, .int .i64 0, .bool false, .string ⟨#[]⟩, .int .i64 0, .bool false, .string ⟨#[]⟩, .int .i64 0], .int .i64 4]) ∧ Below w.heap.size w w' := by
  obtain ⟨b1, i1⟩ := bex (addE l (pw y) = 0)
  obtain ⟨b2, i2⟩ := bex (addE m (pw y) = 0)
  letI : Env := mkEnv glT [.bool l.g, .string (natS l.n), .int .i64 l.x, .bool m.g, .string (natS m.n), .int .i64 m.x, .int .i64 y, .bool (pw y).g, .string (natS (pw y).n), .int .i64 (pw y).x, .bool (addD l (pw y)).g, .string (natS (addD l (pw y)).n), .int .i64 (addD l (pw y)).x, .int .i64 (addE l (pw y)), .bool (addD m (pw y)).g, .string (natS (addD m (pw y)).n), .int .i64 (addD m (pw y)).x, .int .i64 (addE m (pw y))] rfl
  have hops : OpsT Tryz.prog (@Know.ops (VCorn_no_k b1 b2)) := ⟨opt_neq_i rfl rfl i1,
    opt_neq_i rfl rfl i2,
    trivial⟩
  have hcalls : CallsT Tryz.prog (@Know.calls (VCorn_no_k b1 b2)) := ⟨callt rfl rfl fun w hG => VRight_ok l m y w hl hm ⟨by omega, by omega⟩ hG,
    callt rfl rfl fun w hG => halves_2 y w ⟨by omega, by omega⟩ hG,
    callt rfl rfl fun w hG => DAdd_c l (pw y) w hl (pw_Ok _) hG,
    callt rfl rfl fun w hG => DAdd_c m (pw y) w hm (pw_Ok _) hG,
    trivial⟩
  have fin : ∀ v, @comes (VCorn_no_k b1 b2) Tryz.prog glT 3000 VCorn_no_f VCorn_no_a = some v → ground v = true → Ending.returned (gval v) = .returned (.tuple #[.agg #[.bool false, .string ⟨#[]⟩, .int .i64 0, .bool false, .string ⟨#[]⟩, .int .i64 0, .bool false, .string ⟨#[]⟩, .int .i64 0, .bool false, .string ⟨#[]⟩, .int .i64 0, .bool false, .string ⟨#[]⟩, .int .i64 0, .bool false, .string ⟨#[]⟩, .int .i64 0, .bool false, .string ⟨#[]⟩, .int .i64 0, .bool false, .string ⟨#[]⟩, .int .i64 0], .int .i64 4]) → Calls Tryz.prog 9 #[.agg #[.bool l.g, .string (natS l.n), .int .i64 l.x, .bool m.g, .string (natS m.n), .int .i64 m.x, .int .i64 y]] w fun e w' => e = .returned (.tuple #[.agg #[.bool false, .string ⟨#[]⟩, .int .i64 0, .bool false, .string ⟨#[]⟩, .int .i64 0, .bool false, .string ⟨#[]⟩, .int .i64 0, .bool false, .string ⟨#[]⟩, .int .i64 0, .bool false, .string ⟨#[]⟩, .int .i64 0, .bool false, .string ⟨#[]⟩, .int .i64 0, .bool false, .string ⟨#[]⟩, .int .i64 0, .bool false, .string ⟨#[]⟩, .int .i64 0], .int .i64 4]) ∧ Below w.heap.size w w' := fun v h1 h2 h3 => (@sym_ok _ (VCorn_no_k b1 b2) _ (@KnowOk.of _ (VCorn_no_k b1 b2) _ hops hcalls) (by kernel_rfl) _ _ _ _ h1 rfl h2 _ hG).mono fun e w' h => ⟨h.1.trans h3, h.2⟩
  clear hops hcalls
  cases b1 with
  | true =>
    have h1 : addE l (pw y) = 0 := i1.1 rfl
    cases b2 with
    | true =>
      exact absurd (i2.1 rfl) (fun c => hn ⟨h1, c⟩)
    | false =>
      have h2 : ¬ (addE m (pw y) = 0) := fun c => Bool.false_ne_true (i2.2 c)
      exact fin _ (VCorn_no_r1) rfl rfl
  | false =>
    have h1 : ¬ (addE l (pw y) = 0) := fun c => Bool.false_ne_true (i1.2 c)
    exact fin _ (VCorn_no_r2 b2) rfl rfl
@[reducible] def rCorn_ok_f : FuncId := 24
@[reducible] def rCorn_ok_a : List AV := [.agg [.sym 0, .sym 1, .sym 2, .sym 3, .sym 4, .sym 5, .sym 6]]
@[reducible] noncomputable def rCorn_ok_k : Know := ⟨[([0, 12, 3], [.sym 10, .lit (.int .i64 0)], .lit (.bool false)),
  ([0, 12, 3], [.sym 14, .lit (.int .i64 0)], .lit (.bool false))],
  [(58, [.agg [.sym 0, .sym 1, .sym 2], .lit (.int .i64 1), .sym 6], .tup [.agg [.sym 7, .sym 8, .sym 9], .sym 10]),
  (58, [.agg [.sym 3, .sym 4, .sym 5], .lit (.int .i64 1), .sym 6], .tup [.agg [.sym 11, .sym 12, .sym 13], .sym 14])]⟩
theorem rCorn_ok_r1 : @comes rCorn_ok_k Tryz.prog glT 3000 rCorn_ok_f rCorn_ok_a = some (.tup [.agg [.sym 0, .sym 1, .sym 2, .sym 3, .sym 4, .sym 5, .sym 7, .sym 8, .sym 9, .sym 3, .sym 4, .sym 5, .sym 0, .sym 1, .sym 2, .sym 11, .sym 12, .sym 13, .sym 7, .sym 8, .sym 9, .sym 11, .sym 12, .sym 13], .lit (.int .i64 0)]) := by kernel_rfl
set_option maxRecDepth 100000 in
set_option maxHeartbeats 4000000 in
theorem rCorn_ok (l m : Dy) (y : Int) (w : World) (hl : l.Ok) (hm : m.Ok) (he : -4096 ≤ y ∧ y ≤ 4096) (k3 : addE l (pw y) = 0) (k4 : addE m (pw y) = 0) (hG : Globs glT w) : Calls Tryz.prog 24 #[.agg #[.bool l.g, .string (natS l.n), .int .i64 l.x, .bool m.g, .string (natS m.n), .int .i64 m.x, .int .i64 y]] w fun e w' => e = .returned (.tuple #[.agg #[.bool l.g, .string (natS l.n), .int .i64 l.x, .bool m.g, .string (natS m.n), .int .i64 m.x, .bool (addD l (pw y)).g, .string (natS (addD l (pw y)).n), .int .i64 (addD l (pw y)).x, .bool m.g, .string (natS m.n), .int .i64 m.x, .bool l.g, .string (natS l.n), .int .i64 l.x, .bool (addD m (pw y)).g, .string (natS (addD m (pw y)).n), .int .i64 (addD m (pw y)).x, .bool (addD l (pw y)).g, .string (natS (addD l (pw y)).n), .int .i64 (addD l (pw y)).x, .bool (addD m (pw y)).g, .string (natS (addD m (pw y)).n), .int .i64 (addD m (pw y)).x], .int .i64 0]) ∧ Below w.heap.size w w' := by
  have h1 : addE l (pw y) = 0 := k3
  have i1 : true = true ↔ (addE l (pw y) = 0) := ⟨fun _ => h1, fun _ => rfl⟩
  have h2 : addE m (pw y) = 0 := k4
  have i2 : true = true ↔ (addE m (pw y) = 0) := ⟨fun _ => h2, fun _ => rfl⟩
  letI : Env := mkEnv glT [.bool l.g, .string (natS l.n), .int .i64 l.x, .bool m.g, .string (natS m.n), .int .i64 m.x, .int .i64 y, .bool (addD l (pw y)).g, .string (natS (addD l (pw y)).n), .int .i64 (addD l (pw y)).x, .int .i64 (addE l (pw y)), .bool (addD m (pw y)).g, .string (natS (addD m (pw y)).n), .int .i64 (addD m (pw y)).x, .int .i64 (addE m (pw y))] rfl
  have hops : OpsT Tryz.prog (@Know.ops rCorn_ok_k) := ⟨opt_neq_i rfl rfl i1,
    opt_neq_i rfl rfl i2,
    trivial⟩
  have hcalls : CallsT Tryz.prog (@Know.calls rCorn_ok_k) := ⟨callt rfl rfl fun w hG => on_c l y w hl ⟨by omega, by omega⟩ hG,
    callt rfl rfl fun w hG => on_c m y w hm ⟨by omega, by omega⟩ hG,
    trivial⟩
  have fin : ∀ v, @comes rCorn_ok_k Tryz.prog glT 3000 rCorn_ok_f rCorn_ok_a = some v → ground v = true → Ending.returned (gval v) = .returned (.tuple #[.agg #[.bool l.g, .string (natS l.n), .int .i64 l.x, .bool m.g, .string (natS m.n), .int .i64 m.x, .bool (addD l (pw y)).g, .string (natS (addD l (pw y)).n), .int .i64 (addD l (pw y)).x, .bool m.g, .string (natS m.n), .int .i64 m.x, .bool l.g, .string (natS l.n), .int .i64 l.x, .bool (addD m (pw y)).g, .string (natS (addD m (pw y)).n), .int .i64 (addD m (pw y)).x, .bool (addD l (pw y)).g, .string (natS (addD l (pw y)).n), .int .i64 (addD l (pw y)).x, .bool (addD m (pw y)).g, .string (natS (addD m (pw y)).n), .int .i64 (addD m (pw y)).x], .int .i64 0]) → Calls Tryz.prog 24 #[.agg #[.bool l.g, .string (natS l.n), .int .i64 l.x, .bool m.g, .string (natS m.n), .int .i64 m.x, .int .i64 y]] w fun e w' => e = .returned (.tuple #[.agg #[.bool l.g, .string (natS l.n), .int .i64 l.x, .bool m.g, .string (natS m.n), .int .i64 m.x, .bool (addD l (pw y)).g, .string (natS (addD l (pw y)).n), .int .i64 (addD l (pw y)).x, .bool m.g, .string (natS m.n), .int .i64 m.x, .bool l.g, .string (natS l.n), .int .i64 l.x, .bool (addD m (pw y)).g, .string (natS (addD m (pw y)).n), .int .i64 (addD m (pw y)).x, .bool (addD l (pw y)).g, .string (natS (addD l (pw y)).n), .int .i64 (addD l (pw y)).x, .bool (addD m (pw y)).g, .string (natS (addD m (pw y)).n), .int .i64 (addD m (pw y)).x], .int .i64 0]) ∧ Below w.heap.size w w' := fun v h1 h2 h3 => (@sym_ok _ rCorn_ok_k _ (@KnowOk.of _ rCorn_ok_k _ hops hcalls) (by kernel_rfl) _ _ _ _ h1 rfl h2 _ hG).mono fun e w' h => ⟨h.1.trans h3, h.2⟩
  clear hops hcalls
  exact fin _ (rCorn_ok_r1) rfl rfl
@[reducible] def rCorn_no_f : FuncId := 24
@[reducible] def rCorn_no_a : List AV := [.agg [.sym 0, .sym 1, .sym 2, .sym 3, .sym 4, .sym 5, .sym 6]]
@[reducible] noncomputable def rCorn_no_k (b1 b2 : Bool) : Know := ⟨[([0, 12, 3], [.sym 10, .lit (.int .i64 0)], .lit (.bool (!b1))),
  ([0, 12, 3], [.sym 14, .lit (.int .i64 0)], .lit (.bool (!b2)))],
  [(58, [.agg [.sym 0, .sym 1, .sym 2], .lit (.int .i64 1), .sym 6], .tup [.agg [.sym 7, .sym 8, .sym 9], .sym 10]),
  (58, [.agg [.sym 3, .sym 4, .sym 5], .lit (.int .i64 1), .sym 6], .tup [.agg [.sym 11, .sym 12, .sym 13], .sym 14])]⟩
theorem rCorn_no_r1 : @comes (rCorn_no_k true false) Tryz.prog glT 3000 rCorn_no_f rCorn_no_a = some (.lit (.tuple #[.agg #[.bool false, .string ⟨#[]⟩, .int .i64 0, .bool false, .string ⟨#[]⟩, .int .i64 0, .bool false, .string ⟨#[]⟩, .int .i64 0, .bool false, .string ⟨#[]⟩, .int .i64 0, .bool false, .string ⟨#[]⟩, .int .i64 0, .bool false, .string ⟨#[]⟩, .int .i64 0, .bool false, .string ⟨#[]⟩, .int .i64 0, .bool false, .string ⟨#[]⟩, .int .i64 0], .int .i64 4])) := by kernel_rfl
theorem rCorn_no_r2 (b2 : Bool) : @comes (rCorn_no_k false b2) Tryz.prog glT 3000 rCorn_no_f rCorn_no_a = some (.lit (.tuple #[.agg #[.bool false, .string ⟨#[]⟩, .int .i64 0, .bool false, .string ⟨#[]⟩, .int .i64 0, .bool false, .string ⟨#[]⟩, .int .i64 0, .bool false, .string ⟨#[]⟩, .int .i64 0, .bool false, .string ⟨#[]⟩, .int .i64 0, .bool false, .string ⟨#[]⟩, .int .i64 0, .bool false, .string ⟨#[]⟩, .int .i64 0, .bool false, .string ⟨#[]⟩, .int .i64 0], .int .i64 4])) := by kernel_rfl
set_option maxRecDepth 100000 in
set_option maxHeartbeats 4000000 in
theorem rCorn_no (l m : Dy) (y : Int) (w : World) (hl : l.Ok) (hm : m.Ok) (he : -4096 ≤ y ∧ y ≤ 4096) (hn : ¬ (addE l (pw y) = 0 ∧ addE m (pw y) = 0)) (hG : Globs glT w) : Calls Tryz.prog 24 #[.agg #[.bool l.g, .string (natS l.n), .int .i64 l.x, .bool m.g, .string (natS m.n), .int .i64 m.x, .int .i64 y]] w fun e w' => e = .returned (.tuple #[.agg #[.bool false, .string ⟨#[]⟩, .int .i64 0, .bool false, .string ⟨#[]⟩, .int .i64 0, .bool false, .string ⟨#[]⟩, .int .i64 0, .bool false, .string ⟨#[]⟩, .int .i64 0, .bool false, .string ⟨#[]⟩, .int .i64 0, .bool false, .string ⟨#[]⟩, .int .i64 0, .bool false, .string ⟨#[]⟩, .int .i64 0, .bool false, .string ⟨#[]⟩, .int .i64 0], .int .i64 4]) ∧ Below w.heap.size w w' := by
  obtain ⟨b1, i1⟩ := bex (addE l (pw y) = 0)
  obtain ⟨b2, i2⟩ := bex (addE m (pw y) = 0)
  letI : Env := mkEnv glT [.bool l.g, .string (natS l.n), .int .i64 l.x, .bool m.g, .string (natS m.n), .int .i64 m.x, .int .i64 y, .bool (addD l (pw y)).g, .string (natS (addD l (pw y)).n), .int .i64 (addD l (pw y)).x, .int .i64 (addE l (pw y)), .bool (addD m (pw y)).g, .string (natS (addD m (pw y)).n), .int .i64 (addD m (pw y)).x, .int .i64 (addE m (pw y))] rfl
  have hops : OpsT Tryz.prog (@Know.ops (rCorn_no_k b1 b2)) := ⟨opt_neq_i rfl rfl i1,
    opt_neq_i rfl rfl i2,
    trivial⟩
  have hcalls : CallsT Tryz.prog (@Know.calls (rCorn_no_k b1 b2)) := ⟨callt rfl rfl fun w hG => on_c l y w hl ⟨by omega, by omega⟩ hG,
    callt rfl rfl fun w hG => on_c m y w hm ⟨by omega, by omega⟩ hG,
    trivial⟩
  have fin : ∀ v, @comes (rCorn_no_k b1 b2) Tryz.prog glT 3000 rCorn_no_f rCorn_no_a = some v → ground v = true → Ending.returned (gval v) = .returned (.tuple #[.agg #[.bool false, .string ⟨#[]⟩, .int .i64 0, .bool false, .string ⟨#[]⟩, .int .i64 0, .bool false, .string ⟨#[]⟩, .int .i64 0, .bool false, .string ⟨#[]⟩, .int .i64 0, .bool false, .string ⟨#[]⟩, .int .i64 0, .bool false, .string ⟨#[]⟩, .int .i64 0, .bool false, .string ⟨#[]⟩, .int .i64 0, .bool false, .string ⟨#[]⟩, .int .i64 0], .int .i64 4]) → Calls Tryz.prog 24 #[.agg #[.bool l.g, .string (natS l.n), .int .i64 l.x, .bool m.g, .string (natS m.n), .int .i64 m.x, .int .i64 y]] w fun e w' => e = .returned (.tuple #[.agg #[.bool false, .string ⟨#[]⟩, .int .i64 0, .bool false, .string ⟨#[]⟩, .int .i64 0, .bool false, .string ⟨#[]⟩, .int .i64 0, .bool false, .string ⟨#[]⟩, .int .i64 0, .bool false, .string ⟨#[]⟩, .int .i64 0, .bool false, .string ⟨#[]⟩, .int .i64 0, .bool false, .string ⟨#[]⟩, .int .i64 0, .bool false, .string ⟨#[]⟩, .int .i64 0], .int .i64 4]) ∧ Below w.heap.size w w' := fun v h1 h2 h3 => (@sym_ok _ (rCorn_no_k b1 b2) _ (@KnowOk.of _ (rCorn_no_k b1 b2) _ hops hcalls) (by kernel_rfl) _ _ _ _ h1 rfl h2 _ hG).mono fun e w' h => ⟨h.1.trans h3, h.2⟩
  clear hops hcalls
  cases b1 with
  | true =>
    have h1 : addE l (pw y) = 0 := i1.1 rfl
    cases b2 with
    | true =>
      exact absurd (i2.1 rfl) (fun c => hn ⟨h1, c⟩)
    | false =>
      have h2 : ¬ (addE m (pw y) = 0) := fun c => Bool.false_ne_true (i2.2 c)
      exact fin _ (rCorn_no_r1) rfl rfl
  | false =>
    have h1 : ¬ (addE l (pw y) = 0) := fun c => Bool.false_ne_true (i1.2 c)
    exact fin _ (rCorn_no_r2 b2) rfl rfl
end Go.Proofs.YtmjjodficjjehaaGreatDoor
namespace Go.Proofs.YtmjjodficjjehaaGreatDoor
open Go Go.RowKit Nt
def Box6 (w : World) (B : Nat) (a b c d e f : Value) : Prop := Blk w B 40 #[a, b, c, d, e, f]
theorem Box6.facts {w : World} {B : Nat} {a b c d e f : Value} (h : Box6 w B a b c d e f) : B < w.heap.size ∧ w.cell? ⟨B, 0, none⟩ = some a ∧ w.cell? ⟨B, 1, none⟩ = some b ∧ w.cell? ⟨B, 2, none⟩ = some c ∧ w.cell? ⟨B, 3, none⟩ = some d ∧ w.cell? ⟨B, 4, none⟩ = some e ∧ w.cell? ⟨B, 5, none⟩ = some f ∧ w.frozen? ⟨B, 0, none⟩ = false ∧ w.frozen? ⟨B, 1, none⟩ = false ∧ w.frozen? ⟨B, 2, none⟩ = false ∧ w.frozen? ⟨B, 3, none⟩ = false ∧ w.frozen? ⟨B, 4, none⟩ = false ∧ w.frozen? ⟨B, 5, none⟩ = false :=
  ⟨Blk.lt h, (Blk.cell h 0).trans rfl, (Blk.cell h 1).trans rfl, (Blk.cell h 2).trans rfl, (Blk.cell h 3).trans rfl, (Blk.cell h 4).trans rfl, (Blk.cell h 5).trans rfl, Blk.frozen h 0, Blk.frozen h 1, Blk.frozen h 2, Blk.frozen h 3, Blk.frozen h 4, Blk.frozen h 5⟩
theorem Box6.step {w w' : World} {B : Nat} {a b c d e f : Value} (h : Box6 w B a b c d e f) (hb : Below w.heap.size w w') : Box6 w' B a b c d e f := Blk.below h hb (Blk.lt h)
theorem Box6.new (w : World) (a b c d e f : Value) : Box6 (w.alloc (.cells #[a, b, c, d, e, f] 40)) w.heap.size a b c d e f := Blk.new w _ _
theorem Box6.more {w : World} {B : Nat} {a b c d e f : Value} (h : Box6 w B a b c d e f) (o : Obj) : Box6 (w.alloc o) B a b c d e f := Blk.alloc h o
theorem Box6.put {w : World} {B : Nat} {a b c d e f : Value} (h : Box6 w B a b c d e f) (a' b' c' d' e' f' : Value) : Box6 ((((((w.setCell ⟨B, 0, none⟩ a').setCell ⟨B, 1, none⟩ b').setCell ⟨B, 2, none⟩ c').setCell ⟨B, 3, none⟩ d').setCell ⟨B, 4, none⟩ e').setCell ⟨B, 5, none⟩ f') B a' b' c' d' e' f' := by
  have := (((((Blk.set_ h 0 a').set_ 1 b').set_ 2 c').set_ 3 d').set_ 4 e').set_ 5 f'
  unfold Box6
  simpa using this
theorem Blk.far6 {w : World} {B C : Nat} {t : TypeId} {cs : Array Value} (h : Blk w B t cs) (hne : B ≠ C) (a' b' c' d' e' f' : Value) : Blk ((((((w.setCell ⟨C, 0, none⟩ a').setCell ⟨C, 1, none⟩ b').setCell ⟨C, 2, none⟩ c').setCell ⟨C, 3, none⟩ d').setCell ⟨C, 4, none⟩ e').setCell ⟨C, 5, none⟩ f') B t cs :=
  Blk.far (Blk.far (Blk.far (Blk.far (Blk.far (Blk.far h (p := ⟨C, 0, none⟩) hne a') (p := ⟨C, 1, none⟩) hne b') (p := ⟨C, 2, none⟩) hne c') (p := ⟨C, 3, none⟩) hne d') (p := ⟨C, 4, none⟩) hne e') (p := ⟨C, 5, none⟩) hne f'
theorem Box6.far {w : World} {B C : Nat} {a b c d e f : Value} (h : Box6 w B a b c d e f) (hne : B ≠ C) (a' b' c' d' e' f' : Value) : Box6 ((((((w.setCell ⟨C, 0, none⟩ a').setCell ⟨C, 1, none⟩ b').setCell ⟨C, 2, none⟩ c').setCell ⟨C, 3, none⟩ d').setCell ⟨C, 4, none⟩ e').setCell ⟨C, 5, none⟩ f') B a b c d e f := Blk.far6 h hne _ _ _ _ _ _
end Go.Proofs.YtmjjodficjjehaaGreatDoor
namespace Go.Proofs.YtmjjodficjjehaaGreatDoor
open Go Go.RowKit Nt
def B6 (w : World) (B : Nat) (a : Gt) : Prop := Blk w B 40 #[.bool a.re.g, .string a.re.s, .int .i64 a.re.x, .bool a.im.g, .string a.im.s, .int .i64 a.im.x]
theorem B6.facts {w : World} {B : Nat} {a : Gt} (h : B6 w B a) : B < w.heap.size ∧ w.cell? ⟨B, 0, none⟩ = some (.bool a.re.g) ∧ w.cell? ⟨B, 1, none⟩ = some (.string a.re.s) ∧ w.cell? ⟨B, 2, none⟩ = some (.int .i64 a.re.x) ∧ w.cell? ⟨B, 3, none⟩ = some (.bool a.im.g) ∧ w.cell? ⟨B, 4, none⟩ = some (.string a.im.s) ∧ w.cell? ⟨B, 5, none⟩ = some (.int .i64 a.im.x) ∧ w.frozen? ⟨B, 0, none⟩ = false ∧ w.frozen? ⟨B, 1, none⟩ = false ∧ w.frozen? ⟨B, 2, none⟩ = false ∧ w.frozen? ⟨B, 3, none⟩ = false ∧ w.frozen? ⟨B, 4, none⟩ = false ∧ w.frozen? ⟨B, 5, none⟩ = false :=
  ⟨Blk.lt h, (Blk.cell h 0).trans rfl, (Blk.cell h 1).trans rfl, (Blk.cell h 2).trans rfl, (Blk.cell h 3).trans rfl, (Blk.cell h 4).trans rfl, (Blk.cell h 5).trans rfl, Blk.frozen h 0, Blk.frozen h 1, Blk.frozen h 2, Blk.frozen h 3, Blk.frozen h 4, Blk.frozen h 5⟩
def GB (w : World) (a : Gt) (W : World) : Prop := Below w.heap.size w W ∧ B6 W w.heap.size a
theorem GB.start (w : World) (a : Gt) : GB w a (w.alloc (.cells #[.bool a.re.g, .string a.re.s, .int .i64 a.re.x, .bool a.im.g, .string a.im.s, .int .i64 a.im.x] 40)) := ⟨(Below.refl _ _).alloc (Nat.le_refl _) _, Blk.new w _ _⟩
theorem GB.step {w : World} {a : Gt} {W W' : World} (h : GB w a W) (hb : Below W.heap.size W W') : GB w a W' := ⟨below_then h.1 hb, Blk.below h.2 hb (Blk.lt h.2)⟩
theorem GB.more {w : World} {a : Gt} {W : World} (h : GB w a W) (o : Obj) : GB w a (W.alloc o) := h.step ((Below.refl _ _).alloc (Nat.le_refl _) _)
theorem below_put6 {n : Nat} {w W : World} {A : Nat} (hb : Below n w W) (hA : n ≤ A) (a b c d e f : Value) : Below n w ((((((W.setCell ⟨A, 0, none⟩ a).setCell ⟨A, 1, none⟩ b).setCell ⟨A, 2, none⟩ c).setCell ⟨A, 3, none⟩ d).setCell ⟨A, 4, none⟩ e).setCell ⟨A, 5, none⟩ f) :=
  (((((hb.setCell (p := ⟨A, 0, none⟩) hA a).setCell (p := ⟨A, 1, none⟩) hA b).setCell (p := ⟨A, 2, none⟩) hA c).setCell (p := ⟨A, 3, none⟩) hA d).setCell (p := ⟨A, 4, none⟩) hA e).setCell (p := ⟨A, 5, none⟩) hA f
end Go.Proofs.YtmjjodficjjehaaGreatDoor
namespace Go.Proofs.YtmjjodficjjehaaGreatDoor
open Go Go.RowKit Nt
set_option maxRecDepth 100000 in
set_option maxHeartbeats 1000000 in
theorem GCplx_ok (x y : Nat) (w : World) (hx : x < 18446744073709551616) (hy : y < 18446744073709551616) (fx : Bt.finB x = true) (fy : Bt.finB y = true) (hG : Globs glT w) : Calls Tryz.prog 12 #[.complex .f64 x y] w fun e w' => e = .returned (.tuple #[.agg #[.bool (flt x).g, .string (natS (flt x).n), .int .i64 (flt x).x, .bool (flt y).g, .string (natS (flt y).n), .int .i64 (flt y).x], .int .i64 0]) ∧ Below w.heap.size w w' := by
  have HR : Below w.heap.size w (w.alloc (.cells #[.bool false, .string ⟨#[]⟩, .int .i64 0, .bool false, .string ⟨#[]⟩, .int .i64 0] 40)) := (Below.refl _ _).alloc (Nat.le_refl _) _
  have BR := Lib.hid (Box6.new w (.bool false) (.string ⟨#[]⟩) (.int .i64 0) (.bool false) (.string ⟨#[]⟩) (.int .i64 0))
  have K1 := Lib.hid (fun W (hW : Below w.heap.size w W) => DFloat_f x W hx fx (hG.below hW (Nat.le_refl _)))
  have K2 := Lib.hid (fun W (hW : Below w.heap.size w W) => DFloat_f y W hy fy (hG.below hW (Nat.le_refl _)))
  generalize flt x = X at *
  unfold Dy.v at K1
  generalize flt y = Y at *
  unfold Dy.v at K2
  clear fx fy hG
  go_enter Tryz.func12, Tryz.ntmps12
  go_wp2_with fail
  refine (K1.out _ HR).mono ?_
  rintro e w1 ⟨rfl, hb1⟩
  replace HR := below_chain HR hb1
  have BR1 := Lib.hid ((BR.out.step hb1).more (.cells #[.bool X.g, .string (natS X.n), .int .i64 X.x] 24))
  have X1 := Lib.hid (Box3.new w1 (.bool X.g) (.string (natS X.n)) (.int .i64 X.x))
  have HR1 := HR.alloc HR.size (.cells #[.bool X.g, .string (natS X.n), .int .i64 X.x] 24)
  clear hb1 HR BR
  go_wp2_with fail
  refine (K2.out _ HR1).mono ?_
  rintro e w2 ⟨rfl, hb2⟩
  have HR2 := below_chain HR1 hb2
  have BR2 := Lib.hid (BR1.out.step hb2)
  have X2 := Lib.hid (X1.out.step hb2)
  have HY := Lib.hid ((BR2.out.put (.bool X.g) (.string (natS X.n)) (.int .i64 X.x) (.bool Y.g) (.string (natS Y.n)) (.int .i64 Y.x)).more (.cells #[.bool Y.g, .string (natS Y.n), .int .i64 Y.x] 24))
  obtain ⟨r0, r1, r2, r3, r4, r5, r6, r7, r8, r9, r10, r11, r12⟩ := BR2.out.facts
  obtain ⟨x0, x1, x2, x3, x4, x5, x6⟩ := X2.out.facts
  clear hb2 BR1 X1 HR1 K1 K2
  go_wp2_with fail
  obtain ⟨y0, y1, y2, y3, y4, y5, y6, y7, y8, y9, y10, y11, y12⟩ := HY.out.facts
  refine bodyPost_ret (v := .tuple #[.agg #[.bool X.g, .string (natS X.n), .int .i64 X.x, .bool Y.g, .string (natS Y.n), .int .i64 Y.x], .int .i64 0]) (by simp [results, Tryz.results12, go_sem, y1, y2, y3, y4, y5, y6]) rfl ⟨rfl, ?_⟩
  exact (below_put6 HR2 (Nat.le_refl _) _ _ _ _ _ _).alloc (below_put6 HR2 (Nat.le_refl _) _ _ _ _ _ _).size _
set_option maxRecDepth 100000 in
set_option maxHeartbeats 1000000 in
theorem GCplx_no (x y : Nat) (w : World) (hx : x < 18446744073709551616) (hy : y < 18446744073709551616) (hn : ¬ (Bt.finB x = true ∧ Bt.finB y = true)) (hG : Globs glT w) : Calls Tryz.prog 12 #[.complex .f64 x y] w fun e w' => e = .returned (.tuple #[.agg #[.bool false, .string ⟨#[]⟩, .int .i64 0, .bool false, .string ⟨#[]⟩, .int .i64 0], .int .i64 5]) ∧ Below w.heap.size w w' := by
  have HR : Below w.heap.size w (w.alloc (.cells #[.bool false, .string ⟨#[]⟩, .int .i64 0, .bool false, .string ⟨#[]⟩, .int .i64 0] 40)) := (Below.refl _ _).alloc (Nat.le_refl _) _
  have BR := Lib.hid (Box6.new w (.bool false) (.string ⟨#[]⟩) (.int .i64 0) (.bool false) (.string ⟨#[]⟩) (.int .i64 0))
  by_cases fx : Bt.finB x = true
  · have fy : Bt.finB y = false := Bool.eq_false_iff.2 fun c => hn ⟨fx, c⟩
    have K1 := Lib.hid (fun W (hW : Below w.heap.size w W) => DFloat_f x W hx fx (hG.below hW (Nat.le_refl _)))
    have K2 := Lib.hid (fun W (hW : Below w.heap.size w W) => DFloat_no y hy fy W)
    generalize flt x = X at *
    unfold Dy.v at K1
    clear fx fy hG hn
    go_enter Tryz.func12, Tryz.ntmps12
    go_wp2_with fail
    refine (K1.out _ HR).mono ?_
    rintro e w1 ⟨rfl, hb1⟩
    replace HR := below_chain HR hb1
    have BR1 := Lib.hid ((BR.out.step hb1).more (.cells #[.bool X.g, .string (natS X.n), .int .i64 X.x] 24))
    have X1 := Lib.hid (Box3.new w1 (.bool X.g) (.string (natS X.n)) (.int .i64 X.x))
    have HR1 := HR.alloc HR.size (.cells #[.bool X.g, .string (natS X.n), .int .i64 X.x] 24)
    clear hb1 HR BR
    go_wp2_with fail
    refine (K2.out _ HR1).mono ?_
    rintro e w2 ⟨rfl, hb2⟩
    have HR2 := below_chain HR1 hb2
    have BR2 := Lib.hid (BR1.out.step hb2)
    have X2 := Lib.hid (X1.out.step hb2)
    have HY := Lib.hid ((BR2.out.put (.bool false) (.string ⟨#[]⟩) (.int .i64 0) (.bool false) (.string ⟨#[]⟩) (.int .i64 0)).more (.cells #[.bool false, .string ⟨#[]⟩, .int .i64 0] 24))
    obtain ⟨r0, r1, r2, r3, r4, r5, r6, r7, r8, r9, r10, r11, r12⟩ := BR2.out.facts
    obtain ⟨x0, x1, x2, x3, x4, x5, x6⟩ := X2.out.facts
    clear hb2 BR1 X1 HR1 K1 K2
    go_wp2_with fail
    obtain ⟨y0, y1, y2, y3, y4, y5, y6, y7, y8, y9, y10, y11, y12⟩ := HY.out.facts
    refine bodyPost_ret (v := .tuple #[.agg #[.bool false, .string ⟨#[]⟩, .int .i64 0, .bool false, .string ⟨#[]⟩, .int .i64 0], .int .i64 5]) (by simp [results, Tryz.results12, go_sem, y1, y2, y3, y4, y5, y6]) rfl ⟨rfl, ?_⟩
    exact (below_put6 HR2 (Nat.le_refl _) _ _ _ _ _ _).alloc (below_put6 HR2 (Nat.le_refl _) _ _ _ _ _ _).size _
  · have fx0 : Bt.finB x = false := Bool.eq_false_iff.2 fx
    by_cases fy : Bt.finB y = true
    · have K1 := Lib.hid (fun W (hW : Below w.heap.size w W) => DFloat_no x hx fx0 W)
      have K2 := Lib.hid (fun W (hW : Below w.heap.size w W) => DFloat_f y W hy fy (hG.below hW (Nat.le_refl _)))
      generalize flt y = Y at *
      unfold Dy.v at K2
      clear fx fx0 fy hG hn
      go_enter Tryz.func12, Tryz.ntmps12
      go_wp2_with fail
      refine (K1.out _ HR).mono ?_
      rintro e w1 ⟨rfl, hb1⟩
      replace HR := below_chain HR hb1
      have BR1 := Lib.hid ((BR.out.step hb1).more (.cells #[.bool false, .string ⟨#[]⟩, .int .i64 0] 24))
      have X1 := Lib.hid (Box3.new w1 (.bool false) (.string ⟨#[]⟩) (.int .i64 0))
      have HR1 := HR.alloc HR.size (.cells #[.bool false, .string ⟨#[]⟩, .int .i64 0] 24)
      clear hb1 HR BR
      go_wp2_with fail
      refine (K2.out _ HR1).mono ?_
      rintro e w2 ⟨rfl, hb2⟩
      have HR2 := below_chain HR1 hb2
      have BR2 := Lib.hid (BR1.out.step hb2)
      have X2 := Lib.hid (X1.out.step hb2)
      have HY := Lib.hid ((BR2.out.put (.bool false) (.string ⟨#[]⟩) (.int .i64 0) (.bool false) (.string ⟨#[]⟩) (.int .i64 0)).more (.cells #[.bool Y.g, .string (natS Y.n), .int .i64 Y.x] 24))
      obtain ⟨r0, r1, r2, r3, r4, r5, r6, r7, r8, r9, r10, r11, r12⟩ := BR2.out.facts
      obtain ⟨x0, x1, x2, x3, x4, x5, x6⟩ := X2.out.facts
      clear hb2 BR1 X1 HR1 K1 K2
      go_wp2_with fail
      obtain ⟨y0, y1, y2, y3, y4, y5, y6, y7, y8, y9, y10, y11, y12⟩ := HY.out.facts
      refine bodyPost_ret (v := .tuple #[.agg #[.bool false, .string ⟨#[]⟩, .int .i64 0, .bool false, .string ⟨#[]⟩, .int .i64 0], .int .i64 5]) (by simp [results, Tryz.results12, go_sem, y1, y2, y3, y4, y5, y6]) rfl ⟨rfl, ?_⟩
      exact (below_put6 HR2 (Nat.le_refl _) _ _ _ _ _ _).alloc (below_put6 HR2 (Nat.le_refl _) _ _ _ _ _ _).size _
    · have fy0 : Bt.finB y = false := Bool.eq_false_iff.2 fy
      have K1 := Lib.hid (fun W (hW : Below w.heap.size w W) => DFloat_no x hx fx0 W)
      have K2 := Lib.hid (fun W (hW : Below w.heap.size w W) => DFloat_no y hy fy0 W)
      clear fx fx0 fy fy0 hG hn
      go_enter Tryz.func12, Tryz.ntmps12
      go_wp2_with fail
      refine (K1.out _ HR).mono ?_
      rintro e w1 ⟨rfl, hb1⟩
      replace HR := below_chain HR hb1
      have BR1 := Lib.hid ((BR.out.step hb1).more (.cells #[.bool false, .string ⟨#[]⟩, .int .i64 0] 24))
      have X1 := Lib.hid (Box3.new w1 (.bool false) (.string ⟨#[]⟩) (.int .i64 0))
      have HR1 := HR.alloc HR.size (.cells #[.bool false, .string ⟨#[]⟩, .int .i64 0] 24)
      clear hb1 HR BR
      go_wp2_with fail
      refine (K2.out _ HR1).mono ?_
      rintro e w2 ⟨rfl, hb2⟩
      have HR2 := below_chain HR1 hb2
      have BR2 := Lib.hid (BR1.out.step hb2)
      have X2 := Lib.hid (X1.out.step hb2)
      have HY := Lib.hid ((BR2.out.put (.bool false) (.string ⟨#[]⟩) (.int .i64 0) (.bool false) (.string ⟨#[]⟩) (.int .i64 0)).more (.cells #[.bool false, .string ⟨#[]⟩, .int .i64 0] 24))
      obtain ⟨r0, r1, r2, r3, r4, r5, r6, r7, r8, r9, r10, r11, r12⟩ := BR2.out.facts
      obtain ⟨x0, x1, x2, x3, x4, x5, x6⟩ := X2.out.facts
      clear hb2 BR1 X1 HR1 K1 K2
      go_wp2_with fail
      obtain ⟨y0, y1, y2, y3, y4, y5, y6, y7, y8, y9, y10, y11, y12⟩ := HY.out.facts
      refine bodyPost_ret (v := .tuple #[.agg #[.bool false, .string ⟨#[]⟩, .int .i64 0, .bool false, .string ⟨#[]⟩, .int .i64 0], .int .i64 5]) (by simp [results, Tryz.results12, go_sem, y1, y2, y3, y4, y5, y6]) rfl ⟨rfl, ?_⟩
      exact (below_put6 HR2 (Nat.le_refl _) _ _ _ _ _ _).alloc (below_put6 HR2 (Nat.le_refl _) _ _ _ _ _ _).size _
set_option maxRecDepth 100000 in
set_option maxHeartbeats 1000000 in
theorem rCplx_ok (x y : Nat) (w : World) (hx : x < 18446744073709551616) (hy : y < 18446744073709551616) (fx : Bt.finB x = true) (fy : Bt.finB y = true) (hG : Globs glT w) : Calls Tryz.prog 27 #[.complex .f64 x y] w fun e w' => e = .returned (.tuple #[.agg #[.bool (flt x).g, .string (natS (flt x).n), .int .i64 (flt x).x, .bool (flt y).g, .string (natS (flt y).n), .int .i64 (flt y).x], .int .i64 0]) ∧ Below w.heap.size w w' := by
  have HR : Below w.heap.size w (w.alloc (.cells #[.bool false, .string ⟨#[]⟩, .int .i64 0, .bool false, .string ⟨#[]⟩, .int .i64 0] 40)) := (Below.refl _ _).alloc (Nat.le_refl _) _
  have BR := Lib.hid (Box6.new w (.bool false) (.string ⟨#[]⟩) (.int .i64 0) (.bool false) (.string ⟨#[]⟩) (.int .i64 0))
  have K1 := Lib.hid (fun W (hW : Below w.heap.size w W) => (show Calls _ _ _ W fun e w' => e = .returned (.tuple #[(flt x).v, .int .i64 0]) ∧ Below W.heap.size W w' from rFrom3_c x hx fx W))
  have K2 := Lib.hid (fun W (hW : Below w.heap.size w W) => (show Calls _ _ _ W fun e w' => e = .returned (.tuple #[(flt y).v, .int .i64 0]) ∧ Below W.heap.size W w' from rFrom3_c y hy fy W))
  generalize flt x = X at *
  unfold Dy.v at K1
  generalize flt y = Y at *
  unfold Dy.v at K2
  clear fx fy hG
  go_enter Tryz.func27, Tryz.ntmps27
  go_wp2_with fail
  refine (K1.out _ HR).mono ?_
  rintro e w1 ⟨rfl, hb1⟩
  replace HR := below_chain HR hb1
  have BR1 := Lib.hid ((BR.out.step hb1).more (.cells #[.bool X.g, .string (natS X.n), .int .i64 X.x] 24))
  have X1 := Lib.hid (Box3.new w1 (.bool X.g) (.string (natS X.n)) (.int .i64 X.x))
  have HR1 := HR.alloc HR.size (.cells #[.bool X.g, .string (natS X.n), .int .i64 X.x] 24)
  clear hb1 HR BR
  go_wp2_with fail
  refine (K2.out _ HR1).mono ?_
  rintro e w2 ⟨rfl, hb2⟩
  have HR2 := below_chain HR1 hb2
  have BR2 := Lib.hid (BR1.out.step hb2)
  have X2 := Lib.hid (X1.out.step hb2)
  have HY := Lib.hid ((BR2.out.put (.bool X.g) (.string (natS X.n)) (.int .i64 X.x) (.bool Y.g) (.string (natS Y.n)) (.int .i64 Y.x)).more (.cells #[.bool Y.g, .string (natS Y.n), .int .i64 Y.x] 24))
  obtain ⟨r0, r1, r2, r3, r4, r5, r6, r7, r8, r9, r10, r11, r12⟩ := BR2.out.facts
  obtain ⟨x0, x1, x2, x3, x4, x5, x6⟩ := X2.out.facts
  clear hb2 BR1 X1 HR1 K1 K2
  go_wp2_with fail
  obtain ⟨y0, y1, y2, y3, y4, y5, y6, y7, y8, y9, y10, y11, y12⟩ := HY.out.facts
  refine bodyPost_ret (v := .tuple #[.agg #[.bool X.g, .string (natS X.n), .int .i64 X.x, .bool Y.g, .string (natS Y.n), .int .i64 Y.x], .int .i64 0]) (by simp [results, Tryz.results27, go_sem, y1, y2, y3, y4, y5, y6]) rfl ⟨rfl, ?_⟩
  exact (below_put6 HR2 (Nat.le_refl _) _ _ _ _ _ _).alloc (below_put6 HR2 (Nat.le_refl _) _ _ _ _ _ _).size _
set_option maxRecDepth 100000 in
set_option maxHeartbeats 1000000 in
theorem rCplx_no (x y : Nat) (w : World) (hx : x < 18446744073709551616) (hy : y < 18446744073709551616) (hn : ¬ (Bt.finB x = true ∧ Bt.finB y = true)) (hG : Globs glT w) : Calls Tryz.prog 27 #[.complex .f64 x y] w fun e w' => e = .returned (.tuple #[.agg #[.bool false, .string ⟨#[]⟩, .int .i64 0, .bool false, .string ⟨#[]⟩, .int .i64 0], .int .i64 5]) ∧ Below w.heap.size w w' := by
  have HR : Below w.heap.size w (w.alloc (.cells #[.bool false, .string ⟨#[]⟩, .int .i64 0, .bool false, .string ⟨#[]⟩, .int .i64 0] 40)) := (Below.refl _ _).alloc (Nat.le_refl _) _
  have BR := Lib.hid (Box6.new w (.bool false) (.string ⟨#[]⟩) (.int .i64 0) (.bool false) (.string ⟨#[]⟩) (.int .i64 0))
  by_cases fx : Bt.finB x = true
  · have fy : Bt.finB y = false := Bool.eq_false_iff.2 fun c => hn ⟨fx, c⟩
    have K1 := Lib.hid (fun W (hW : Below w.heap.size w W) => (show Calls _ _ _ W fun e w' => e = .returned (.tuple #[(flt x).v, .int .i64 0]) ∧ Below W.heap.size W w' from rFrom3_c x hx fx W))
    have K2 := Lib.hid (fun W (hW : Below w.heap.size w W) => rFrom3_no y hy fy W)
    generalize flt x = X at *
    unfold Dy.v at K1
    clear fx fy hG hn
    go_enter Tryz.func27, Tryz.ntmps27
    go_wp2_with fail
    refine (K1.out _ HR).mono ?_
    rintro e w1 ⟨rfl, hb1⟩
    replace HR := below_chain HR hb1
    have BR1 := Lib.hid ((BR.out.step hb1).more (.cells #[.bool X.g, .string (natS X.n), .int .i64 X.x] 24))
    have X1 := Lib.hid (Box3.new w1 (.bool X.g) (.string (natS X.n)) (.int .i64 X.x))
    have HR1 := HR.alloc HR.size (.cells #[.bool X.g, .string (natS X.n), .int .i64 X.x] 24)
    clear hb1 HR BR
    go_wp2_with fail
    refine (K2.out _ HR1).mono ?_
    rintro e w2 ⟨rfl, hb2⟩
    have HR2 := below_chain HR1 hb2
    have BR2 := Lib.hid (BR1.out.step hb2)
    have X2 := Lib.hid (X1.out.step hb2)
    have HY := Lib.hid ((BR2.out.put (.bool false) (.string ⟨#[]⟩) (.int .i64 0) (.bool false) (.string ⟨#[]⟩) (.int .i64 0)).more (.cells #[.bool false, .string ⟨#[]⟩, .int .i64 0] 24))
    obtain ⟨r0, r1, r2, r3, r4, r5, r6, r7, r8, r9, r10, r11, r12⟩ := BR2.out.facts
    obtain ⟨x0, x1, x2, x3, x4, x5, x6⟩ := X2.out.facts
    clear hb2 BR1 X1 HR1 K1 K2
    go_wp2_with fail
    obtain ⟨y0, y1, y2, y3, y4, y5, y6, y7, y8, y9, y10, y11, y12⟩ := HY.out.facts
    refine bodyPost_ret (v := .tuple #[.agg #[.bool false, .string ⟨#[]⟩, .int .i64 0, .bool false, .string ⟨#[]⟩, .int .i64 0], .int .i64 5]) (by simp [results, Tryz.results27, go_sem, y1, y2, y3, y4, y5, y6]) rfl ⟨rfl, ?_⟩
    exact (below_put6 HR2 (Nat.le_refl _) _ _ _ _ _ _).alloc (below_put6 HR2 (Nat.le_refl _) _ _ _ _ _ _).size _
  · have fx0 : Bt.finB x = false := Bool.eq_false_iff.2 fx
    by_cases fy : Bt.finB y = true
    · have K1 := Lib.hid (fun W (hW : Below w.heap.size w W) => rFrom3_no x hx fx0 W)
      have K2 := Lib.hid (fun W (hW : Below w.heap.size w W) => (show Calls _ _ _ W fun e w' => e = .returned (.tuple #[(flt y).v, .int .i64 0]) ∧ Below W.heap.size W w' from rFrom3_c y hy fy W))
      generalize flt y = Y at *
      unfold Dy.v at K2
      clear fx fx0 fy hG hn
      go_enter Tryz.func27, Tryz.ntmps27
      go_wp2_with fail
      refine (K1.out _ HR).mono ?_
      rintro e w1 ⟨rfl, hb1⟩
      replace HR := below_chain HR hb1
      have BR1 := Lib.hid ((BR.out.step hb1).more (.cells #[.bool false, .string ⟨#[]⟩, .int .i64 0] 24))
      have X1 := Lib.hid (Box3.new w1 (.bool false) (.string ⟨#[]⟩) (.int .i64 0))
      have HR1 := HR.alloc HR.size (.cells #[.bool false, .string ⟨#[]⟩, .int .i64 0] 24)
      clear hb1 HR BR
      go_wp2_with fail
      refine (K2.out _ HR1).mono ?_
      rintro e w2 ⟨rfl, hb2⟩
      have HR2 := below_chain HR1 hb2
      have BR2 := Lib.hid (BR1.out.step hb2)
      have X2 := Lib.hid (X1.out.step hb2)
      have HY := Lib.hid ((BR2.out.put (.bool false) (.string ⟨#[]⟩) (.int .i64 0) (.bool false) (.string ⟨#[]⟩) (.int .i64 0)).more (.cells #[.bool Y.g, .string (natS Y.n), .int .i64 Y.x] 24))
      obtain ⟨r0, r1, r2, r3, r4, r5, r6, r7, r8, r9, r10, r11, r12⟩ := BR2.out.facts
      obtain ⟨x0, x1, x2, x3, x4, x5, x6⟩ := X2.out.facts
      clear hb2 BR1 X1 HR1 K1 K2
      go_wp2_with fail
      obtain ⟨y0, y1, y2, y3, y4, y5, y6, y7, y8, y9, y10, y11, y12⟩ := HY.out.facts
      refine bodyPost_ret (v := .tuple #[.agg #[.bool false, .string ⟨#[]⟩, .int .i64 0, .bool false, .string ⟨#[]⟩, .int .i64 0], .int .i64 5]) (by simp [results, Tryz.results27, go_sem, y1, y2, y3, y4, y5, y6]) rfl ⟨rfl, ?_⟩
      exact (below_put6 HR2 (Nat.le_refl _) _ _ _ _ _ _).alloc (below_put6 HR2 (Nat.le_refl _) _ _ _ _ _ _).size _
    · have fy0 : Bt.finB y = false := Bool.eq_false_iff.2 fy
      have K1 := Lib.hid (fun W (hW : Below w.heap.size w W) => rFrom3_no x hx fx0 W)
      have K2 := Lib.hid (fun W (hW : Below w.heap.size w W) => rFrom3_no y hy fy0 W)
      clear fx fx0 fy fy0 hG hn
      go_enter Tryz.func27, Tryz.ntmps27
      go_wp2_with fail
      refine (K1.out _ HR).mono ?_
      rintro e w1 ⟨rfl, hb1⟩
      replace HR := below_chain HR hb1
      have BR1 := Lib.hid ((BR.out.step hb1).more (.cells #[.bool false, .string ⟨#[]⟩, .int .i64 0] 24))
      have X1 := Lib.hid (Box3.new w1 (.bool false) (.string ⟨#[]⟩) (.int .i64 0))
      have HR1 := HR.alloc HR.size (.cells #[.bool false, .string ⟨#[]⟩, .int .i64 0] 24)
      clear hb1 HR BR
      go_wp2_with fail
      refine (K2.out _ HR1).mono ?_
      rintro e w2 ⟨rfl, hb2⟩
      have HR2 := below_chain HR1 hb2
      have BR2 := Lib.hid (BR1.out.step hb2)
      have X2 := Lib.hid (X1.out.step hb2)
      have HY := Lib.hid ((BR2.out.put (.bool false) (.string ⟨#[]⟩) (.int .i64 0) (.bool false) (.string ⟨#[]⟩) (.int .i64 0)).more (.cells #[.bool false, .string ⟨#[]⟩, .int .i64 0] 24))
      obtain ⟨r0, r1, r2, r3, r4, r5, r6, r7, r8, r9, r10, r11, r12⟩ := BR2.out.facts
      obtain ⟨x0, x1, x2, x3, x4, x5, x6⟩ := X2.out.facts
      clear hb2 BR1 X1 HR1 K1 K2
      go_wp2_with fail
      obtain ⟨y0, y1, y2, y3, y4, y5, y6, y7, y8, y9, y10, y11, y12⟩ := HY.out.facts
      refine bodyPost_ret (v := .tuple #[.agg #[.bool false, .string ⟨#[]⟩, .int .i64 0, .bool false, .string ⟨#[]⟩, .int .i64 0], .int .i64 5]) (by simp [results, Tryz.results27, go_sem, y1, y2, y3, y4, y5, y6]) rfl ⟨rfl, ?_⟩
      exact (below_put6 HR2 (Nat.le_refl _) _ _ _ _ _ _).alloc (below_put6 HR2 (Nat.le_refl _) _ _ _ _ _ _).size _
set_option maxRecDepth 100000 in
set_option maxHeartbeats 1000000 in
theorem GNear_c (M : Gs) (w : World) (hM : M.Ok) (hG : Globs glT w) : Calls Tryz.prog 11 #[.agg #[.bool M.re.g, .string (natS M.re.n), .int .i64 M.re.x, .bool M.im.g, .string (natS M.im.n), .int .i64 M.im.x]] w fun e w' => e = .returned (.tuple #[.complex .f64 (rdN M.re) (rdN M.im), .int .i64 0]) ∧ Below w.heap.size w w' := by
  have KC := Lib.hid (fun W (hW : Below w.heap.size w W) => GCheck_gs M hM W (hG.below hW (Nat.le_refl _)))
  have K1 := Lib.hid (fun W (hW : Below w.heap.size w W) => DNear_d M.re W hM.1 (hG.below hW (Nat.le_refl _)))
  have K2 := Lib.hid (fun W (hW : Below w.heap.size w W) => DNear_d M.im W hM.2 (hG.below hW (Nat.le_refl _)))
  have HB : Hid (Below w.heap.size w (w.alloc (.cells #[.bool M.re.g, .string (natS M.re.n), .int .i64 M.re.x, .bool M.im.g, .string (natS M.im.n), .int .i64 M.im.x] 40))) := Lib.hid ((Below.refl _ _).alloc (Nat.le_refl _) _)
  have B0 := Lib.hid (Box6.new w (.bool M.re.g) (.string (natS M.re.n)) (.int .i64 M.re.x) (.bool M.im.g) (.string (natS M.im.n)) (.int .i64 M.im.x))
  clear hM hG
  generalize rdN M.re = x at *
  generalize rdN M.im = y at *
  go_enter Tryz.func11, Tryz.ntmps11
  go_wp2_with fail
  refine (KC.out _ HB.out).mono ?_
  rintro e w1 ⟨rfl, hb1⟩
  have B1 := Lib.hid (B0.out.step hb1)
  have HB1 := Lib.hid (below_chain HB.out hb1)
  obtain ⟨x0, x1, x2, x3, x4, x5, x6, x7, x8, x9, x10, x11, x12⟩ := B1.out.facts
  clear hb1 HB B0
  go_wp2_with fail
  refine (K1.out _ HB1.out).mono ?_
  rintro e w2 ⟨rfl, hb2⟩
  have B2 := Lib.hid (B1.out.step hb2)
  have HB2 := Lib.hid (below_chain HB1.out hb2)
  clear x0 x1 x2 x3 x4 x5 x6 x7 x8 x9 x10 x11 x12 hb2 HB1 B1
  obtain ⟨x0, x1, x2, x3, x4, x5, x6, x7, x8, x9, x10, x11, x12⟩ := B2.out.facts
  go_wp2_with fail
  refine (K2.out _ HB2.out).mono ?_
  rintro e w3 ⟨rfl, hb3⟩
  have hb4 := below_chain HB2.out hb3
  clear hb3
  go_wp2_with fail
  go_ret2
  exact ⟨rfl, hb4⟩
end Go.Proofs.YtmjjodficjjehaaGreatDoor
namespace Go.Proofs.YtmjjodficjjehaaGreatDoor
open Go Go.RowKit Nt
noncomputable def wayD (C q : Gs) : Gs := gaddD q (neG C)
noncomputable def wayE (C q : Gs) : Int := gaddE q (neG C)
theorem wayD_Ok {C q : Gs} (hC : C.Ok) (hq : q.Ok) : (wayD C q).Ok := gaddD_Ok hq (neG_Ok hC)
noncomputable def frS (C : Gs) : List Gs → Dy → Option Dy
  | [], n => some n
  | q :: r, n => if wayE C q = 0 ∧ dotE (wayD C q) (wayD C q) = 0 then frS C r (if cmpD n (dotD (wayD C q) (wayD C q)) ≤ 0 then dotD (wayD C q) (wayD C q) else n) else none
theorem frS_on {C q n : _} {r : List Gs} (h : wayE C q = 0 ∧ dotE (wayD C q) (wayD C q) = 0) : frS C (q :: r) n = frS C r (if cmpD n (dotD (wayD C q) (wayD C q)) ≤ 0 then dotD (wayD C q) (wayD C q) else n) := by rw [frS, if_pos h]
theorem frS_off {C q n : _} {r : List Gs} (h : ¬ (wayE C q = 0 ∧ dotE (wayD C q) (wayD C q) = 0)) : frS C (q :: r) n = none := by rw [frS, if_neg h]
theorem frS_le {C q n : _} {r : List Gs} (h : wayE C q = 0 ∧ dotE (wayD C q) (wayD C q) = 0) (hc : cmpD n (dotD (wayD C q) (wayD C q)) ≤ 0) : frS C (q :: r) n = frS C r (dotD (wayD C q) (wayD C q)) := by rw [frS_on h, if_pos hc]
theorem frS_gt {C q n : _} {r : List Gs} (h : wayE C q = 0 ∧ dotE (wayD C q) (wayD C q) = 0) (hc : ¬ cmpD n (dotD (wayD C q) (wayD C q)) ≤ 0) : frS C (q :: r) n = frS C r n := by rw [frS_on h, if_neg hc]
theorem frS_eq {C q n : _} {r : List Gs} (hn : n.Ok) (h : wayE C q = 0 ∧ dotE (wayD C q) (wayD C q) = 0) (hc : ¬ cmpD n (dotD (wayD C q) (wayD C q)) < 0) : frS C (q :: r) n = frS C r n := by
  by_cases c : cmpD n (dotD (wayD C q) (wayD C q)) ≤ 0
  · rw [frS_le h c]
    have h1 := (cmpV_le hn (dotD_Ok _ _)).1 c
    have h2 : ¬ iv n < iv (dotD (wayD C q) (wayD C q)) := fun k => hc ((cmpV_lt hn (dotD_Ok _ _)).2 k)
    rw [iv_inj (dotD_Ok _ _) hn (by omega)]
  · exact frS_gt h c
noncomputable def cnr (l m : Dy) (y : Int) : List Gs := [⟨l, m⟩, ⟨addD l (pw y), m⟩, ⟨l, addD m (pw y)⟩, ⟨addD l (pw y), addD m (pw y)⟩]
noncomputable def midG (l m : Dy) (y : Int) : Gs := ⟨addD l (pw (y - 1)), addD m (pw (y - 1))⟩
def cvFit (l m : Dy) (y : Int) : Prop := (addE l (pw y) = 0 ∧ addE m (pw y) = 0) ∧ (addE l (pw (y - 1)) = 0 ∧ addE m (pw (y - 1)) = 0)
noncomputable def cvC (l m : Dy) (y : Int) : Gs := ⟨flt (rdN (midG l m y).re), flt (rdN (midG l m y).im)⟩
def cvFin (l m : Dy) (y : Int) : Prop := Bt.finB (rdN (midG l m y).re) = true ∧ Bt.finB (rdN (midG l m y).im) = true
open Classical in
noncomputable def cvA (l m : Dy) (y : Int) : (Nat × Nat × Nat) × Int :=
  if cvFit l m y then
    if cvFin l m y then
      match frS (cvC l m y) (cnr l m y) Dy.zero with
      | none => ((0, 0, 0), 4)
      | some n => if rtU n < 9218868437227405312 then ((rdN (midG l m y).re, rdN (midG l m y).im, rtU n), 0) else ((0, 0, 0), 5)
    else ((0, 0, 0), 5)
  else ((0, 0, 0), 4)
def CvPost (l m : Dy) (y : Int) (w : World) (e : Ending) (w' : World) : Prop := e = .returned (.tuple #[.agg #[.complex .f64 (cvA l m y).1.1 (cvA l m y).1.2.1, .float .f64 (cvA l m y).1.2.2], .int .i64 (cvA l m y).2]) ∧ Below w.heap.size w w'
theorem cvA_long {l m : Dy} {y : Int} (h : ¬ cvFit l m y) : cvA l m y = ((0, 0, 0), 4) := by unfold cvA; rw [if_neg h]
theorem cvA_inf {l m : Dy} {y : Int} (h : cvFit l m y) (h2 : ¬ cvFin l m y) : cvA l m y = ((0, 0, 0), 5) := by unfold cvA; rw [if_pos h, if_neg h2]
theorem cvA_none {l m : Dy} {y : Int} (h : cvFit l m y) (h2 : cvFin l m y) (h3 : frS (cvC l m y) (cnr l m y) Dy.zero = none) : cvA l m y = ((0, 0, 0), 4) := by unfold cvA; rw [if_pos h, if_pos h2, h3]
theorem cvA_far {l m n : Dy} {y : Int} (h : cvFit l m y) (h2 : cvFin l m y) (h3 : frS (cvC l m y) (cnr l m y) Dy.zero = some n) (h4 : ¬ rtU n < 9218868437227405312) : cvA l m y = ((0, 0, 0), 5) := by
  unfold cvA; rw [if_pos h, if_pos h2, h3]; exact if_neg h4
theorem cvA_ok {l m n : Dy} {y : Int} (h : cvFit l m y) (h2 : cvFin l m y) (h3 : frS (cvC l m y) (cnr l m y) Dy.zero = some n) (h4 : rtU n < 9218868437227405312) : cvA l m y = ((rdN (midG l m y).re, rdN (midG l m y).im, rtU n), 0) := by
  unfold cvA; rw [if_pos h, if_pos h2, h3]; exact if_pos h4
theorem cnr_Ok {l m : Dy} {y : Int} (hl : l.Ok) (hm : m.Ok) : ∀ q ∈ cnr l m y, q.Ok := by
  intro q hq
  have h1 := add_Ok hl (pw_Ok y)
  have h2 := add_Ok hm (pw_Ok y)
  unfold cnr at hq
  simp only [List.mem_cons, List.not_mem_nil, or_false] at hq
  rcases hq with rfl | rfl | rfl | rfl
  · exact ⟨hl, hm⟩
  · exact ⟨h1, hm⟩
  · exact ⟨hl, h2⟩
  · exact ⟨h1, h2⟩
theorem midG_Ok {l m : Dy} {y : Int} (hl : l.Ok) (hm : m.Ok) : (midG l m y).Ok := ⟨add_Ok hl (pw_Ok _), add_Ok hm (pw_Ok _)⟩
theorem cvC_Ok (l m : Dy) (y : Int) : (cvC l m y).Ok := ⟨flt_Ok _, flt_Ok _⟩
end Go.Proofs.YtmjjodficjjehaaGreatDoor
namespace Go.Proofs.YtmjjodficjjehaaGreatDoor
open Go Go.RowKit Nt
section
variable [Env]
end
@[reducible] def DAbove_z_f : FuncId := 48
@[reducible] def DAbove_z_a : List AV := [.lit (.agg #[.bool false, .string ⟨#[]⟩, .int .i64 0])]
@[reducible] noncomputable def DAbove_z_k : Know := ⟨[],
  [(72, [.lit (.agg #[.bool false, .string ⟨#[]⟩, .int .i64 0])], .lit (.int .i64 0))]⟩
theorem DAbove_z_r1 : @comes DAbove_z_k Tryz.prog glT 3000 DAbove_z_f DAbove_z_a = some (.lit (.tuple #[.float .f64 0, .int .i64 0])) := by kernel_rfl
set_option maxRecDepth 100000 in
set_option maxHeartbeats 4000000 in
theorem DAbove_z  (w : World) (hG : Globs glT w)  : Calls Tryz.prog 48 #[.agg #[.bool false, .string ⟨#[]⟩, .int .i64 0]] w fun e w' => e = .returned (.tuple #[.float .f64 0, .int .i64 0]) ∧ Below w.heap.size w w' := by
  letI : Env := mkEnv glT [] rfl
  have hops : OpsT Tryz.prog (@Know.ops DAbove_z_k) := trivial
  have hcalls : CallsT Tryz.prog (@Know.calls DAbove_z_k) := ⟨callt rfl rfl fun w hG => (by have h := DCheck_dyr Dy.zero (Or.inl rfl) w; rw [natS_dz] at h; exact h),
    trivial⟩
  have fin : ∀ v, @comes DAbove_z_k Tryz.prog glT 3000 DAbove_z_f DAbove_z_a = some v → ground v = true → Ending.returned (gval v) = .returned (.tuple #[.float .f64 0, .int .i64 0]) → Calls Tryz.prog 48 #[.agg #[.bool false, .string ⟨#[]⟩, .int .i64 0]] w fun e w' => e = .returned (.tuple #[.float .f64 0, .int .i64 0]) ∧ Below w.heap.size w w' := fun v h1 h2 h3 => (@sym_ok _ DAbove_z_k _ (@KnowOk.of _ DAbove_z_k _ hops hcalls) (by kernel_rfl) _ _ _ _ h1 rfl h2 _ hG).mono fun e w' h => ⟨h.1.trans h3, h.2⟩
  clear hops hcalls
  exact fin _ (DAbove_z_r1) rfl rfl
theorem DAbove_any (a : Dy) (w : World) (ha : a.Ok) (hG : Globs glT w) : Calls Tryz.prog 48 #[.agg #[.bool a.g, .string (natS a.n), .int .i64 a.x]] w fun e w' => e = .returned (.tuple #[.float .f64 (highW a), .int .i64 0]) ∧ Below w.heap.size w w' := by
  rcases ha with rfl | hn
  · have hz : highW Dy.zero = 0 := words_zero.2.1
    rw [hz]
    show Calls Tryz.prog _ #[.agg #[.bool false, .string (natS 0), .int .i64 0]] w _
    rw [natS_zero]
    exact DAbove_z w hG
  · have h0 : a.n ≠ 0 := odd_ne hn.2.1
    obtain ⟨g, n, x⟩ := a
    simp only at h0
    unfold highW
    rw [if_neg h0]
    cases g with
    | false => exact DAbove_f n x w hn hG
    | true => exact DAbove_t n x w hn hG
end Go.Proofs.YtmjjodficjjehaaGreatDoor
namespace Go.Proofs.YtmjjodficjjehaaGreatDoor
open Go Go.RowKit Nt
theorem near_small (mag : Nat) (place : Int) : Ieee.double.nearest false mag place < 9223372036854775808 := by
  obtain ⟨d1, d2, d3, d4, d5⟩ := dbl
  unfold Ieee.Format.nearest
  split
  · rw [word_wf, wf_f 0]; omega
  · simp only
    rw [word_wf]
    have h := Nat.min_le_right ((max (place + ↑mag.log2 - ↑Ieee.double.fractionBits) Ieee.double.leastPlace - Ieee.double.leastPlace).toNat * Ieee.double.binade + Ieee.Toward.even.cut false (mag <<< (place - max (place + ↑mag.log2 - ↑Ieee.double.fractionBits) Ieee.double.leastPlace).toNat) (max (place + ↑mag.log2 - ↑Ieee.double.fractionBits) Ieee.double.leastPlace - place).toNat) Ieee.double.infRung
    rw [d2] at h ⊢
    rw [wf_f _]
    omega
theorem read_f {x : Nat} (h : x ≤ 9218868437227405312) : (∃ m i, Ieee.double.read x = .number false m i) ∨ Ieee.double.read x = .infinity false := by
  obtain ⟨d1, d2, d3, d4, d5⟩ := dbl
  have hneg : (x / Ieee.double.signWeight % 2 == 1) = false := by
    rw [d1, Nat.div_eq_of_lt (by omega)]; rfl
  have hr : x % Ieee.double.signWeight = x := by rw [d1]; exact Nat.mod_eq_of_lt (by omega)
  unfold Ieee.Format.read
  simp only [hneg, hr]
  split
  · exact Or.inl ⟨_, _, rfl⟩
  · split
    · exact Or.inl ⟨_, _, rfl⟩
    · split
      · exact Or.inr rfl
      · rename_i h1 h2 h3
        rw [d2] at h2 h3
        omega
theorem root_f (k m : Nat) (i : Int) : ∃ m' i', (Ieee.Datum.number false m i).root k = some (.number false m' i') := by
  unfold Ieee.Datum.root
  simp only
  split
  · exact ⟨_, _, rfl⟩
  · exact ⟨_, _, rfl⟩
theorem sqrt_some {x : Nat} (h : x ≤ 9218868437227405312) : ∃ r, r < 9223372036854775808 ∧ Ieee.double.sqrt x = some r := by
  obtain ⟨d1, d2, d3, d4, d5⟩ := dbl
  unfold Ieee.Format.sqrt
  rcases read_f h with ⟨m, i, e⟩ | e
  · rw [e]
    obtain ⟨m', i', e2⟩ := root_f (Ieee.double.fractionBits + 2) m i
    rw [e2]
    exact ⟨Ieee.double.nearest false m' i', near_small _ _, rfl⟩
  · rw [e]
    refine ⟨Ieee.double.word false Ieee.double.infRung, ?_, rfl⟩
    rw [word_wf, d2, wf_f _]; omega
theorem run_sqrt_some {x r : Nat} (h : Ieee.double.sqrt x = some r) (w : World) : (callFunc 69 #[.float .f64 x]).run Tryz.prog w = .ok (.value (.float .f64 r)) w := by
  have e : (callFunc 69 #[.float .f64 x]).run Tryz.prog w = (do pure (Next.value (← Extern.MathSqrt.sqrt #[.float .f64 x])) : Sem Next).run Tryz.prog w := by kernel_rfl
  rw [e]
  have e2 : Extern.MathSqrt.sqrt #[.float .f64 x] = (match Ieee.double.sqrt x with
    | some r => (pure (Value.float .f64 r) : Sem Value)
    | none => (do pure (Value.float .f64 (← choose (.nanBits .f64 x x))) : Sem Value)) := rfl
  rw [e2, h]
  rfl
theorem Sqrt_f {x : Nat} (h : x ≤ 9218868437227405312) : ∃ r, r < 9223372036854775808 ∧ ∀ w, Calls Tryz.prog 33 #[.float .f64 x] w fun e w' => e = .returned (.float .f64 r) ∧ w = w' := by
  obtain ⟨r, hr, e⟩ := sqrt_some h
  refine ⟨r, hr, fun w => ?_⟩
  have h := fun w => run_sqrt_some e w
  clear e hr
  go_enter Tryz.func33, Tryz.ntmps33
  go_wp2_with fail
  go_ret
  exact ⟨rfl, rfl⟩
end Go.Proofs.YtmjjodficjjehaaGreatDoor
