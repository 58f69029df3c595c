/- Texts put together: V2 Post DP GP VP. -/
import Derived.Test.YtjalpocjgpgcfaaGreatDoorQ5
import Derived.Below
import Derived.ChangeSame
import Derived.Test.YtjalpocjgpgcfaaGreatDoorRows
import Derived.ProofKit
import Derived.Lib.SmallJoins
import Derived.OpenShut
import Derived.ShutString
import Derived.Deep.Strs
set_option linter.unusedVariables false
set_option linter.unusedSimpArgs false
namespace Go.Proofs.YtjalpocjgpgcfaaGreatDoor
open Go Go.RowKit Nt


@[reducible] def ViewSquares_a_f : FuncId := 3
@[reducible] def ViewSquares_a_a : List AV := [.agg [.sym 0, .sym 1, .sym 2, .sym 3, .sym 4, .sym 5, .sym 6], .agg [.sym 7, .sym 8, .sym 9, .sym 10, .sym 11, .sym 12]]
@[reducible] noncomputable def ViewSquares_a_k (b1 b2 b3 b4 b5 b6 b7 b8 b9 : Bool) : Know := ⟨[([0, 12, 30], [.sym 19, .lit (.int .i64 0)], .lit (.bool (!b1))),
  ([0, 12, 30], [.sym 30, .lit (.int .i64 0)], .lit (.bool (!b2))),
  ([0, 11, 3], [.sym 6, .lit (.int .i64 (-4096))], .lit (.bool b3)),
  ([0, 2, 3], [.lit (.int .i64 2), .sym 6], .sym 35),
  ([0, 12, 3], [.sym 19, .lit (.int .i64 0)], .lit (.bool (!b1))),
  ([0, 1, 3], [.sym 6, .lit (.int .i64 1)], .sym 39),
  ([0, 12, 3], [.sym 30, .lit (.int .i64 0)], .lit (.bool (!b2))),
  ([0, 12, 24], [.agg [.sym 36, .sym 37, .sym 38], .agg [.sym 36, .sym 37, .sym 38]], .lit (.bool false)),
  ([0, 12, 30], [.sym 34, .lit (.int .i64 0)], .lit (.bool (!b4))),
  ([0, 12, 3], [.sym 34, .lit (.int .i64 0)], .lit (.bool (!b4))),
  ([0, 12, 28], [.agg [.sym 27, .sym 28, .sym 29, .sym 31, .sym 32, .sym 33], .agg [.sym 27, .sym 28, .sym 29, .sym 31, .sym 32, .sym 33]], .lit (.bool false)),
  ([0, 12, 37], [.agg [.sym 0, .sym 1, .sym 2, .sym 3, .sym 4, .sym 5, .sym 39, .sym 27, .sym 28, .sym 29, .sym 3, .sym 4, .sym 5, .sym 39, .sym 0, .sym 1, .sym 2, .sym 31, .sym 32, .sym 33, .sym 39, .sym 27, .sym 28, .sym 29, .sym 31, .sym 32, .sym 33, .sym 39], .agg [.sym 0, .sym 1, .sym 2, .sym 3, .sym 4, .sym 5, .sym 39, .sym 27, .sym 28, .sym 29, .sym 3, .sym 4, .sym 5, .sym 39, .sym 0, .sym 1, .sym 2, .sym 31, .sym 32, .sym 33, .sym 39, .sym 27, .sym 28, .sym 29, .sym 31, .sym 32, .sym 33, .sym 39]], .lit (.bool false)),
  ([0, 12, 30], [.sym 23, .lit (.int .i64 0)], .lit (.bool (!b5))),
  ([0, 12, 3], [.sym 23, .lit (.int .i64 0)], .lit (.bool (!b5))),
  ([0, 14, 3], [.sym 40, .lit (.int .i64 0)], .lit (.bool b6)),
  ([0, 14, 3], [.sym 41, .lit (.int .i64 0)], .lit (.bool b7)),
  ([0, 14, 3], [.sym 42, .lit (.int .i64 0)], .lit (.bool b8)),
  ([0, 14, 3], [.sym 43, .lit (.int .i64 0)], .lit (.bool b9)),
  ([0, 12, 29], [.agg [.sym 0, .sym 1, .sym 2, .sym 3, .sym 4, .sym 5, .sym 16, .sym 17, .sym 18, .sym 3, .sym 4, .sym 5, .sym 0, .sym 1, .sym 2, .sym 20, .sym 21, .sym 22, .sym 16, .sym 17, .sym 18, .sym 20, .sym 21, .sym 22], .agg [.sym 0, .sym 1, .sym 2, .sym 3, .sym 4, .sym 5, .sym 16, .sym 17, .sym 18, .sym 3, .sym 4, .sym 5, .sym 0, .sym 1, .sym 2, .sym 20, .sym 21, .sym 22, .sym 16, .sym 17, .sym 18, .sym 20, .sym 21, .sym 22]], .lit (.bool false))],
  [(12, [.agg [.sym 0, .sym 1, .sym 2, .sym 3, .sym 4, .sym 5, .sym 6]], .lit (.int .i64 0)),
  (50, [.lit (.int .i64 2), .sym 6], .agg [.sym 13, .sym 14, .sym 15]),
  (20, [.agg [.sym 0, .sym 1, .sym 2], .agg [.sym 13, .sym 14, .sym 15]], .tup [.agg [.sym 16, .sym 17, .sym 18], .sym 19]),
  (20, [.agg [.sym 3, .sym 4, .sym 5], .agg [.sym 13, .sym 14, .sym 15]], .tup [.agg [.sym 20, .sym 21, .sym 22], .sym 23]),
  (50, [.lit (.int .i64 1), .sym 6], .agg [.sym 24, .sym 25, .sym 26]),
  (20, [.agg [.sym 0, .sym 1, .sym 2], .agg [.sym 24, .sym 25, .sym 26]], .tup [.agg [.sym 27, .sym 28, .sym 29], .sym 30]),
  (20, [.agg [.sym 3, .sym 4, .sym 5], .agg [.sym 24, .sym 25, .sym 26]], .tup [.agg [.sym 31, .sym 32, .sym 33], .sym 34]),
  (25, [.agg [.sym 7, .sym 8, .sym 9, .sym 10, .sym 11, .sym 12]], .lit (.int .i64 0)),
  (11, [.agg [.sym 0, .sym 1, .sym 2, .sym 3, .sym 4, .sym 5, .sym 6]], .lit (.bool true)),
  (36, [.agg [.sym 0, .sym 1, .sym 2], .lit (.int .i64 1), .sym 6], .tup [.agg [.sym 16, .sym 17, .sym 18], .sym 19]),
  (36, [.agg [.sym 3, .sym 4, .sym 5], .lit (.int .i64 1), .sym 6], .tup [.agg [.sym 20, .sym 21, .sym 22], .sym 23]),
  (28, [.agg [.sym 7, .sym 8, .sym 9]], .lit (.bool true)),
  (28, [.agg [.sym 10, .sym 11, .sym 12]], .lit (.bool true)),
  (13, [], .lit (.bool true)),
  (27, [.lit (.int .i64 1), .sym 35], .tup [.agg [.sym 36, .sym 37, .sym 38], .lit (.int .i64 0)]),
  (37, [.lit (.int .i64 1), .sym 35], .tup [.agg [.sym 36, .sym 37, .sym 38], .lit (.int .i64 0)]),
  (36, [.agg [.sym 0, .sym 1, .sym 2], .lit (.int .i64 1), .sym 39], .tup [.agg [.sym 27, .sym 28, .sym 29], .sym 30]),
  (36, [.agg [.sym 3, .sym 4, .sym 5], .lit (.int .i64 1), .sym 39], .tup [.agg [.sym 31, .sym 32, .sym 33], .sym 34]),
  (51, [.agg [.sym 0, .sym 1, .sym 2], .agg [.sym 7, .sym 8, .sym 9]], .tup [.sym 40, .lit (.int .i64 0)]),
  (51, [.agg [.sym 7, .sym 8, .sym 9], .agg [.sym 16, .sym 17, .sym 18]], .tup [.sym 41, .lit (.int .i64 0)]),
  (51, [.agg [.sym 3, .sym 4, .sym 5], .agg [.sym 10, .sym 11, .sym 12]], .tup [.sym 42, .lit (.int .i64 0)]),
  (51, [.agg [.sym 10, .sym 11, .sym 12], .agg [.sym 20, .sym 21, .sym 22]], .tup [.sym 43, .lit (.int .i64 0)]),
  (38, [.agg [.sym 0, .sym 1, .sym 2], .agg [.sym 7, .sym 8, .sym 9]], .sym 40),
  (38, [.agg [.sym 7, .sym 8, .sym 9], .agg [.sym 16, .sym 17, .sym 18]], .sym 41),
  (38, [.agg [.sym 3, .sym 4, .sym 5], .agg [.sym 10, .sym 11, .sym 12]], .sym 42),
  (38, [.agg [.sym 10, .sym 11, .sym 12], .agg [.sym 20, .sym 21, .sym 22]], .sym 43)]⟩
theorem ViewSquares_a_r1 : @comes (ViewSquares_a_k true true true true true true true true true) Tryz.prog glT 3000 ViewSquares_a_f ViewSquares_a_a = some (.lit (.bool true)) := by kernel_rfl
theorem ViewSquares_a_r2 : @comes (ViewSquares_a_k true true false true true true true true true) Tryz.prog glT 3000 ViewSquares_a_f ViewSquares_a_a = some (.lit (.bool true)) := by kernel_rfl
theorem ViewSquares_a_r3 : @comes (ViewSquares_a_k true true true true true true true true false) Tryz.prog glT 3000 ViewSquares_a_f ViewSquares_a_a = some (.lit (.bool true)) := by kernel_rfl
theorem ViewSquares_a_r4 : @comes (ViewSquares_a_k true true false true true true true true false) Tryz.prog glT 3000 ViewSquares_a_f ViewSquares_a_a = some (.lit (.bool true)) := by kernel_rfl
theorem ViewSquares_a_r5 (b9 : Bool) : @comes (ViewSquares_a_k true true true true true true true false b9) Tryz.prog glT 3000 ViewSquares_a_f ViewSquares_a_a = some (.lit (.bool true)) := by kernel_rfl
theorem ViewSquares_a_r6 (b9 : Bool) : @comes (ViewSquares_a_k true true false true true true true false b9) Tryz.prog glT 3000 ViewSquares_a_f ViewSquares_a_a = some (.lit (.bool true)) := by kernel_rfl
theorem ViewSquares_a_r7 (b8 b9 : Bool) : @comes (ViewSquares_a_k true true true true true true false b8 b9) Tryz.prog glT 3000 ViewSquares_a_f ViewSquares_a_a = some (.lit (.bool true)) := by kernel_rfl
theorem ViewSquares_a_r8 (b8 b9 : Bool) : @comes (ViewSquares_a_k true true false true true true false b8 b9) Tryz.prog glT 3000 ViewSquares_a_f ViewSquares_a_a = some (.lit (.bool true)) := by kernel_rfl
theorem ViewSquares_a_r9 (b7 b8 b9 : Bool) : @comes (ViewSquares_a_k true true true true true false b7 b8 b9) Tryz.prog glT 3000 ViewSquares_a_f ViewSquares_a_a = some (.lit (.bool true)) := by kernel_rfl
theorem ViewSquares_a_r10 (b7 b8 b9 : Bool) : @comes (ViewSquares_a_k true true false true true false b7 b8 b9) Tryz.prog glT 3000 ViewSquares_a_f ViewSquares_a_a = some (.lit (.bool true)) := by kernel_rfl
theorem ViewSquares_a_r11 : @comes (ViewSquares_a_k true true true false true true true true true) Tryz.prog glT 3000 ViewSquares_a_f ViewSquares_a_a = some (.lit (.bool true)) := by kernel_rfl
theorem ViewSquares_a_r12 : @comes (ViewSquares_a_k true true false false true true true true true) Tryz.prog glT 3000 ViewSquares_a_f ViewSquares_a_a = some (.lit (.bool true)) := by kernel_rfl
theorem ViewSquares_a_r13 : @comes (ViewSquares_a_k true true true false true true true true false) Tryz.prog glT 3000 ViewSquares_a_f ViewSquares_a_a = some (.lit (.bool true)) := by kernel_rfl
theorem ViewSquares_a_r14 : @comes (ViewSquares_a_k true true false false true true true true false) Tryz.prog glT 3000 ViewSquares_a_f ViewSquares_a_a = some (.lit (.bool true)) := by kernel_rfl
theorem ViewSquares_a_r15 (b9 : Bool) : @comes (ViewSquares_a_k true true true false true true true false b9) Tryz.prog glT 3000 ViewSquares_a_f ViewSquares_a_a = some (.lit (.bool true)) := by kernel_rfl
theorem ViewSquares_a_r16 (b9 : Bool) : @comes (ViewSquares_a_k true true false false true true true false b9) Tryz.prog glT 3000 ViewSquares_a_f ViewSquares_a_a = some (.lit (.bool true)) := by kernel_rfl
theorem ViewSquares_a_r17 (b8 b9 : Bool) : @comes (ViewSquares_a_k true true true false true true false b8 b9) Tryz.prog glT 3000 ViewSquares_a_f ViewSquares_a_a = some (.lit (.bool true)) := by kernel_rfl
theorem ViewSquares_a_r18 (b8 b9 : Bool) : @comes (ViewSquares_a_k true true false false true true false b8 b9) Tryz.prog glT 3000 ViewSquares_a_f ViewSquares_a_a = some (.lit (.bool true)) := by kernel_rfl
theorem ViewSquares_a_r19 (b7 b8 b9 : Bool) : @comes (ViewSquares_a_k true true true false true false b7 b8 b9) Tryz.prog glT 3000 ViewSquares_a_f ViewSquares_a_a = some (.lit (.bool true)) := by kernel_rfl
theorem ViewSquares_a_r20 (b7 b8 b9 : Bool) : @comes (ViewSquares_a_k true true false false true false b7 b8 b9) Tryz.prog glT 3000 ViewSquares_a_f ViewSquares_a_a = some (.lit (.bool true)) := by kernel_rfl
theorem ViewSquares_a_r21 (b4 : Bool) : @comes (ViewSquares_a_k true false true b4 true true true true true) Tryz.prog glT 3000 ViewSquares_a_f ViewSquares_a_a = some (.lit (.bool true)) := by kernel_rfl
theorem ViewSquares_a_r22 (b4 : Bool) : @comes (ViewSquares_a_k true false false b4 true true true true true) Tryz.prog glT 3000 ViewSquares_a_f ViewSquares_a_a = some (.lit (.bool true)) := by kernel_rfl
theorem ViewSquares_a_r23 (b4 : Bool) : @comes (ViewSquares_a_k true false true b4 true true true true false) Tryz.prog glT 3000 ViewSquares_a_f ViewSquares_a_a = some (.lit (.bool true)) := by kernel_rfl
theorem ViewSquares_a_r24 (b4 : Bool) : @comes (ViewSquares_a_k true false false b4 true true true true false) Tryz.prog glT 3000 ViewSquares_a_f ViewSquares_a_a = some (.lit (.bool true)) := by kernel_rfl
theorem ViewSquares_a_r25 (b4 b9 : Bool) : @comes (ViewSquares_a_k true false true b4 true true true false b9) Tryz.prog glT 3000 ViewSquares_a_f ViewSquares_a_a = some (.lit (.bool true)) := by kernel_rfl
theorem ViewSquares_a_r26 (b4 b9 : Bool) : @comes (ViewSquares_a_k true false false b4 true true true false b9) Tryz.prog glT 3000 ViewSquares_a_f ViewSquares_a_a = some (.lit (.bool true)) := by kernel_rfl
theorem ViewSquares_a_r27 (b4 b8 b9 : Bool) : @comes (ViewSquares_a_k true false true b4 true true false b8 b9) Tryz.prog glT 3000 ViewSquares_a_f ViewSquares_a_a = some (.lit (.bool true)) := by kernel_rfl
theorem ViewSquares_a_r28 (b4 b8 b9 : Bool) : @comes (ViewSquares_a_k true false false b4 true true false b8 b9) Tryz.prog glT 3000 ViewSquares_a_f ViewSquares_a_a = some (.lit (.bool true)) := by kernel_rfl
theorem ViewSquares_a_r29 (b4 b7 b8 b9 : Bool) : @comes (ViewSquares_a_k true false true b4 true false b7 b8 b9) Tryz.prog glT 3000 ViewSquares_a_f ViewSquares_a_a = some (.lit (.bool true)) := by kernel_rfl
theorem ViewSquares_a_r30 (b4 b7 b8 b9 : Bool) : @comes (ViewSquares_a_k true false false b4 true false b7 b8 b9) Tryz.prog glT 3000 ViewSquares_a_f ViewSquares_a_a = some (.lit (.bool true)) := by kernel_rfl
theorem ViewSquares_a_r31 (b6 b7 b8 b9 : Bool) : @comes (ViewSquares_a_k true true true true false b6 b7 b8 b9) Tryz.prog glT 3000 ViewSquares_a_f ViewSquares_a_a = some (.lit (.bool true)) := by kernel_rfl
theorem ViewSquares_a_r32 (b6 b7 b8 b9 : Bool) : @comes (ViewSquares_a_k true true false true false b6 b7 b8 b9) Tryz.prog glT 3000 ViewSquares_a_f ViewSquares_a_a = some (.lit (.bool true)) := by kernel_rfl
theorem ViewSquares_a_r33 (b6 b7 b8 b9 : Bool) : @comes (ViewSquares_a_k true true true false false b6 b7 b8 b9) Tryz.prog glT 3000 ViewSquares_a_f ViewSquares_a_a = some (.lit (.bool true)) := by kernel_rfl
theorem ViewSquares_a_r34 (b6 b7 b8 b9 : Bool) : @comes (ViewSquares_a_k true true false false false b6 b7 b8 b9) Tryz.prog glT 3000 ViewSquares_a_f ViewSquares_a_a = some (.lit (.bool true)) := by kernel_rfl
theorem ViewSquares_a_r35 (b4 b6 b7 b8 b9 : Bool) : @comes (ViewSquares_a_k true false true b4 false b6 b7 b8 b9) Tryz.prog glT 3000 ViewSquares_a_f ViewSquares_a_a = some (.lit (.bool true)) := by kernel_rfl
theorem ViewSquares_a_r36 (b4 b6 b7 b8 b9 : Bool) : @comes (ViewSquares_a_k true false false b4 false b6 b7 b8 b9) Tryz.prog glT 3000 ViewSquares_a_f ViewSquares_a_a = some (.lit (.bool true)) := by kernel_rfl
theorem ViewSquares_a_r37 (b5 b6 b7 b8 b9 : Bool) : @comes (ViewSquares_a_k false true true true b5 b6 b7 b8 b9) Tryz.prog glT 3000 ViewSquares_a_f ViewSquares_a_a = some (.lit (.bool true)) := by kernel_rfl
theorem ViewSquares_a_r38 (b5 b6 b7 b8 b9 : Bool) : @comes (ViewSquares_a_k false true false true b5 b6 b7 b8 b9) Tryz.prog glT 3000 ViewSquares_a_f ViewSquares_a_a = some (.lit (.bool true)) := by kernel_rfl
theorem ViewSquares_a_r39 (b5 b6 b7 b8 b9 : Bool) : @comes (ViewSquares_a_k false true true false b5 b6 b7 b8 b9) Tryz.prog glT 3000 ViewSquares_a_f ViewSquares_a_a = some (.lit (.bool true)) := by kernel_rfl
theorem ViewSquares_a_r40 (b5 b6 b7 b8 b9 : Bool) : @comes (ViewSquares_a_k false true false false b5 b6 b7 b8 b9) Tryz.prog glT 3000 ViewSquares_a_f ViewSquares_a_a = some (.lit (.bool true)) := by kernel_rfl
theorem ViewSquares_a_r41 (b4 b5 b6 b7 b8 b9 : Bool) : @comes (ViewSquares_a_k false false true b4 b5 b6 b7 b8 b9) Tryz.prog glT 3000 ViewSquares_a_f ViewSquares_a_a = some (.lit (.bool true)) := by kernel_rfl
theorem ViewSquares_a_r42 (b4 b5 b6 b7 b8 b9 : Bool) : @comes (ViewSquares_a_k false false false b4 b5 b6 b7 b8 b9) Tryz.prog glT 3000 ViewSquares_a_f ViewSquares_a_a = some (.lit (.bool true)) := by kernel_rfl

set_option maxRecDepth 100000 in
set_option maxHeartbeats 4000000 in
theorem ViewSquares_a (l m : Dy) (y : Int) (g : Gs) (w : World) (hl : l.Ok) (hm : m.Ok) (he : -4096 ≤ y ∧ y ≤ 4096) (hg : g.Ok) (hG : Globs glT w) : Calls Tryz.prog 3 #[.agg #[.bool l.g, .string (natS l.n), .int .i64 l.x, .bool m.g, .string (natS m.n), .int .i64 m.x, .int .i64 y], .agg #[.bool g.re.g, .string (natS g.re.n), .int .i64 g.re.x, .bool g.im.g, .string (natS g.im.n), .int .i64 g.im.x]] w fun e w' => e = .returned (.bool true) ∧ Below w.heap.size w w' := by
  obtain ⟨b1, i1⟩ := bex (addE l (pw y) = 0)
  obtain ⟨b2, i2⟩ := bex (addE l (pw (y - 1)) = 0)
  obtain ⟨b3, i3⟩ := bex (y = -4096)
  obtain ⟨b4, i4⟩ := bex (addE m (pw (y - 1)) = 0)
  obtain ⟨b5, i5⟩ := bex (addE m (pw y) = 0)
  obtain ⟨b6, i6⟩ := bex (cmpD l g.re ≤ 0)
  obtain ⟨b7, i7⟩ := bex (cmpD g.re (addD l (pw y)) ≤ 0)
  obtain ⟨b8, i8⟩ := bex (cmpD m g.im ≤ 0)
  obtain ⟨b9, i9⟩ := bex (cmpD g.im (addD m (pw y)) ≤ 0)
  letI : Env := mkEnv glT [.bool l.g, .string (natS l.n), .int .i64 l.x, .bool m.g, .string (natS m.n), .int .i64 m.x, .int .i64 y, .bool g.re.g, .string (natS g.re.n), .int .i64 g.re.x, .bool g.im.g, .string (natS g.im.n), .int .i64 g.im.x, .bool (pw y).g, .string (natS (pw y).n), .int .i64 (pw y).x, .bool (addD l (pw y)).g, .string (natS (addD l (pw y)).n), .int .i64 (addD l (pw y)).x, .int .i64 (addE l (pw y)), .bool (addD m (pw y)).g, .string (natS (addD m (pw y)).n), .int .i64 (addD m (pw y)).x, .int .i64 (addE m (pw y)), .bool (pw (y - 1)).g, .string (natS (pw (y - 1)).n), .int .i64 (pw (y - 1)).x, .bool (addD l (pw (y - 1))).g, .string (natS (addD l (pw (y - 1))).n), .int .i64 (addD l (pw (y - 1))).x, .int .i64 (addE l (pw (y - 1))), .bool (addD m (pw (y - 1))).g, .string (natS (addD m (pw (y - 1))).n), .int .i64 (addD m (pw (y - 1))).x, .int .i64 (addE m (pw (y - 1))), .int .i64 (2 * y), .bool (pw (2 * y)).g, .string (natS (pw (2 * y)).n), .int .i64 (pw (2 * y)).x, .int .i64 (y - 1), .int .i64 (cmpD l g.re), .int .i64 (cmpD g.re (addD l (pw y))), .int .i64 (cmpD m g.im), .int .i64 (cmpD g.im (addD m (pw y)))] rfl
  have hops : OpsT Tryz.prog (@Know.ops (ViewSquares_a_k b1 b2 b3 b4 b5 b6 b7 b8 b9)) := ⟨opt_neq_i rfl rfl i1,
    opt_neq_i rfl rfl i2,
    opt_eql_i rfl rfl i3,
    vopt_mul rfl rfl rfl rfl rfl ⟨by omega, by omega⟩,
    opt_neq_i rfl rfl i1,
    vopt_sub rfl rfl rfl rfl rfl ⟨by omega, by omega⟩,
    opt_neq_i rfl rfl i2,
    optD_neq_f (a := pw (2 * y)) (b := pw (2 * y)) rfl rfl rfl,
    opt_neq_i rfl rfl i4,
    opt_neq_i rfl rfl i4,
    optG_neq_f (a := ⟨addD l (pw (y - 1)), addD m (pw (y - 1))⟩) (b := ⟨addD l (pw (y - 1)), addD m (pw (y - 1))⟩) rfl rfl rfl,
    opt_self_neq fun p q w => self_28 p q w,
    opt_neq_i rfl rfl i5,
    opt_neq_i rfl rfl i5,
    opt_leq_i rfl rfl i6,
    opt_leq_i rfl rfl i7,
    opt_leq_i rfl rfl i8,
    opt_leq_i rfl rfl i9,
    opt_self_neq fun p q w => self_24 p q w,
    trivial⟩
  have hcalls : CallsT Tryz.prog (@Know.calls (ViewSquares_a_k b1 b2 b3 b4 b5 b6 b7 b8 b9)) := ⟨callt rfl rfl fun w hG => VRight_ok l m y w hl hm ⟨by omega, by omega⟩ hG,
    callt rfl rfl fun w hG => halves_2 y w ⟨by omega, by omega⟩ hG,
    callt rfl rfl fun w hG => DAdd_c l (pw y) w hl (pw_Ok _) hG,
    callt rfl rfl fun w hG => DAdd_c m (pw y) w hm (pw_Ok _) hG,
    callt rfl rfl fun w hG => halves_1 y w ⟨by omega, by omega⟩ hG,
    callt rfl rfl fun w hG => DAdd_c l (pw (y - 1)) w hl (pw_Ok _) hG,
    callt rfl rfl fun w hG => DAdd_c m (pw (y - 1)) w hm (pw_Ok _) hG,
    callt rfl rfl fun w hG => GCheck_gs g hg w hG,
    callt rfl rfl fun w hG => rRight_ok l m y w hl hm ⟨by omega, by omega⟩ hG,
    callt rfl rfl fun w hG => on_c l y w hl ⟨by omega, by omega⟩ hG,
    callt rfl rfl fun w hG => on_c m y w hm ⟨by omega, by omega⟩ hG,
    callt rfl rfl fun w hG => rMayT_ok g.re w hg.1,
    callt rfl rfl fun w hG => rMayT_ok g.im w hg.2,
    callt rfl rfl fun w hG => awake24_c w hG,
    callt rfl rfl fun w hG => DOf_pw (2 * y) ⟨by omega, by omega⟩ w,
    callt rfl rfl fun w hG => rOf_pw (2 * y) ⟨by omega, by omega⟩ w,
    callt rfl rfl fun w hG => on_c l (y - 1) w hl ⟨by omega, by omega⟩ hG,
    callt rfl rfl fun w hG => on_c m (y - 1) w hm ⟨by omega, by omega⟩ hG,
    callt rfl rfl fun w hG => DCmp_c l g.re w hl hg.1,
    callt rfl rfl fun w hG => DCmp_c g.re (addD l (pw y)) w hg.1 (add_Ok hl (pw_Ok _)),
    callt rfl rfl fun w hG => DCmp_c m g.im w hm hg.2,
    callt rfl rfl fun w hG => DCmp_c g.im (addD m (pw y)) w hg.2 (add_Ok hm (pw_Ok _)),
    callt rfl rfl fun w hG => rCmpD3_c l g.re w hl hg.1,
    callt rfl rfl fun w hG => rCmpD3_c g.re (addD l (pw y)) w hg.1 (add_Ok hl (pw_Ok _)),
    callt rfl rfl fun w hG => rCmpD3_c m g.im w hm hg.2,
    callt rfl rfl fun w hG => rCmpD3_c g.im (addD m (pw y)) w hg.2 (add_Ok hm (pw_Ok _)),
    trivial⟩
  have fin : ∀ v, @comes (ViewSquares_a_k b1 b2 b3 b4 b5 b6 b7 b8 b9) Tryz.prog glT 3000 ViewSquares_a_f ViewSquares_a_a = some v → ground v = true → Ending.returned (gval v) = .returned (.bool true) → Calls Tryz.prog 3 #[.agg #[.bool l.g, .string (natS l.n), .int .i64 l.x, .bool m.g, .string (natS m.n), .int .i64 m.x, .int .i64 y], .agg #[.bool g.re.g, .string (natS g.re.n), .int .i64 g.re.x, .bool g.im.g, .string (natS g.im.n), .int .i64 g.im.x]] w fun e w' => e = .returned (.bool true) ∧ Below w.heap.size w w' := fun v h1 h2 h3 => (@sym_ok _ (ViewSquares_a_k b1 b2 b3 b4 b5 b6 b7 b8 b9) _ (@KnowOk.of _ (ViewSquares_a_k b1 b2 b3 b4 b5 b6 b7 b8 b9) _ hops hcalls) (by kernel_rfl) _ _ _ _ h1 rfl h2 _ hG).mono fun e w' h => ⟨h.1.trans h3, h.2⟩
  clear hops hcalls
  cases b1 with
  | true =>
    have h1 : addE l (pw y) = 0 := i1.1 rfl
    cases b5 with
    | true =>
      have h5 : addE m (pw y) = 0 := i5.1 rfl
      cases b2 with
      | true =>
        have h2 : addE l (pw (y - 1)) = 0 := i2.1 rfl
        cases b4 with
        | true =>
          have h4 : addE m (pw (y - 1)) = 0 := i4.1 rfl
          cases b6 with
          | true =>
            have h6 : cmpD l g.re ≤ 0 := i6.1 rfl
            cases b7 with
            | true =>
              have h7 : cmpD g.re (addD l (pw y)) ≤ 0 := i7.1 rfl
              cases b8 with
              | true =>
                have h8 : cmpD m g.im ≤ 0 := i8.1 rfl
                cases b9 with
                | true =>
                  have h9 : cmpD g.im (addD m (pw y)) ≤ 0 := i9.1 rfl
                  cases b3 with
                  | true =>
                    have h3 : y = -4096 := i3.1 rfl
                    exact fin _ (ViewSquares_a_r1) rfl rfl
                  | false =>
                    have h3 : ¬ (y = -4096) := fun c => Bool.false_ne_true (i3.2 c)
                    exact fin _ (ViewSquares_a_r2) rfl rfl
                | false =>
                  have h9 : ¬ (cmpD g.im (addD m (pw y)) ≤ 0) := fun c => Bool.false_ne_true (i9.2 c)
                  cases b3 with
                  | true =>
                    have h3 : y = -4096 := i3.1 rfl
                    exact fin _ (ViewSquares_a_r3) rfl rfl
                  | false =>
                    have h3 : ¬ (y = -4096) := fun c => Bool.false_ne_true (i3.2 c)
                    exact fin _ (ViewSquares_a_r4) rfl rfl
              | false =>
                have h8 : ¬ (cmpD m g.im ≤ 0) := fun c => Bool.false_ne_true (i8.2 c)
                cases b3 with
                | true =>
                  have h3 : y = -4096 := i3.1 rfl
                  exact fin _ (ViewSquares_a_r5 b9) rfl rfl
                | false =>
                  have h3 : ¬ (y = -4096) := fun c => Bool.false_ne_true (i3.2 c)
                  exact fin _ (ViewSquares_a_r6 b9) rfl rfl
            | false =>
              have h7 : ¬ (cmpD g.re (addD l (pw y)) ≤ 0) := fun c => Bool.false_ne_true (i7.2 c)
              cases b3 with
              | true =>
                have h3 : y = -4096 := i3.1 rfl
                exact fin _ (ViewSquares_a_r7 b8 b9) rfl rfl
              | false =>
                have h3 : ¬ (y = -4096) := fun c => Bool.false_ne_true (i3.2 c)
                exact fin _ (ViewSquares_a_r8 b8 b9) rfl rfl
          | false =>
            have h6 : ¬ (cmpD l g.re ≤ 0) := fun c => Bool.false_ne_true (i6.2 c)
            cases b3 with
            | true =>
              have h3 : y = -4096 := i3.1 rfl
              exact fin _ (ViewSquares_a_r9 b7 b8 b9) rfl rfl
            | false =>
              have h3 : ¬ (y = -4096) := fun c => Bool.false_ne_true (i3.2 c)
              exact fin _ (ViewSquares_a_r10 b7 b8 b9) rfl rfl
        | false =>
          have h4 : ¬ (addE m (pw (y - 1)) = 0) := fun c => Bool.false_ne_true (i4.2 c)
          cases b6 with
          | true =>
            have h6 : cmpD l g.re ≤ 0 := i6.1 rfl
            cases b7 with
            | true =>
              have h7 : cmpD g.re (addD l (pw y)) ≤ 0 := i7.1 rfl
              cases b8 with
              | true =>
                have h8 : cmpD m g.im ≤ 0 := i8.1 rfl
                cases b9 with
                | true =>
                  have h9 : cmpD g.im (addD m (pw y)) ≤ 0 := i9.1 rfl
                  cases b3 with
                  | true =>
                    have h3 : y = -4096 := i3.1 rfl
                    exact fin _ (ViewSquares_a_r11) rfl rfl
                  | false =>
                    have h3 : ¬ (y = -4096) := fun c => Bool.false_ne_true (i3.2 c)
                    exact fin _ (ViewSquares_a_r12) rfl rfl
                | false =>
                  have h9 : ¬ (cmpD g.im (addD m (pw y)) ≤ 0) := fun c => Bool.false_ne_true (i9.2 c)
                  cases b3 with
                  | true =>
                    have h3 : y = -4096 := i3.1 rfl
                    exact fin _ (ViewSquares_a_r13) rfl rfl
                  | false =>
                    have h3 : ¬ (y = -4096) := fun c => Bool.false_ne_true (i3.2 c)
                    exact fin _ (ViewSquares_a_r14) rfl rfl
              | false =>
                have h8 : ¬ (cmpD m g.im ≤ 0) := fun c => Bool.false_ne_true (i8.2 c)
                cases b3 with
                | true =>
                  have h3 : y = -4096 := i3.1 rfl
                  exact fin _ (ViewSquares_a_r15 b9) rfl rfl
                | false =>
                  have h3 : ¬ (y = -4096) := fun c => Bool.false_ne_true (i3.2 c)
                  exact fin _ (ViewSquares_a_r16 b9) rfl rfl
            | false =>
              have h7 : ¬ (cmpD g.re (addD l (pw y)) ≤ 0) := fun c => Bool.false_ne_true (i7.2 c)
              cases b3 with
              | true =>
                have h3 : y = -4096 := i3.1 rfl
                exact fin _ (ViewSquares_a_r17 b8 b9) rfl rfl
              | false =>
                have h3 : ¬ (y = -4096) := fun c => Bool.false_ne_true (i3.2 c)
                exact fin _ (ViewSquares_a_r18 b8 b9) rfl rfl
          | false =>
            have h6 : ¬ (cmpD l g.re ≤ 0) := fun c => Bool.false_ne_true (i6.2 c)
            cases b3 with
            | true =>
              have h3 : y = -4096 := i3.1 rfl
              exact fin _ (ViewSquares_a_r19 b7 b8 b9) rfl rfl
            | false =>
              have h3 : ¬ (y = -4096) := fun c => Bool.false_ne_true (i3.2 c)
              exact fin _ (ViewSquares_a_r20 b7 b8 b9) rfl rfl
      | false =>
        have h2 : ¬ (addE l (pw (y - 1)) = 0) := fun c => Bool.false_ne_true (i2.2 c)
        cases b6 with
        | true =>
          have h6 : cmpD l g.re ≤ 0 := i6.1 rfl
          cases b7 with
          | true =>
            have h7 : cmpD g.re (addD l (pw y)) ≤ 0 := i7.1 rfl
            cases b8 with
            | true =>
              have h8 : cmpD m g.im ≤ 0 := i8.1 rfl
              cases b9 with
              | true =>
                have h9 : cmpD g.im (addD m (pw y)) ≤ 0 := i9.1 rfl
                cases b3 with
                | true =>
                  have h3 : y = -4096 := i3.1 rfl
                  exact fin _ (ViewSquares_a_r21 b4) rfl rfl
                | false =>
                  have h3 : ¬ (y = -4096) := fun c => Bool.false_ne_true (i3.2 c)
                  exact fin _ (ViewSquares_a_r22 b4) rfl rfl
              | false =>
                have h9 : ¬ (cmpD g.im (addD m (pw y)) ≤ 0) := fun c => Bool.false_ne_true (i9.2 c)
                cases b3 with
                | true =>
                  have h3 : y = -4096 := i3.1 rfl
                  exact fin _ (ViewSquares_a_r23 b4) rfl rfl
                | false =>
                  have h3 : ¬ (y = -4096) := fun c => Bool.false_ne_true (i3.2 c)
                  exact fin _ (ViewSquares_a_r24 b4) rfl rfl
            | false =>
              have h8 : ¬ (cmpD m g.im ≤ 0) := fun c => Bool.false_ne_true (i8.2 c)
              cases b3 with
              | true =>
                have h3 : y = -4096 := i3.1 rfl
                exact fin _ (ViewSquares_a_r25 b4 b9) rfl rfl
              | false =>
                have h3 : ¬ (y = -4096) := fun c => Bool.false_ne_true (i3.2 c)
                exact fin _ (ViewSquares_a_r26 b4 b9) rfl rfl
          | false =>
            have h7 : ¬ (cmpD g.re (addD l (pw y)) ≤ 0) := fun c => Bool.false_ne_true (i7.2 c)
            cases b3 with
            | true =>
              have h3 : y = -4096 := i3.1 rfl
              exact fin _ (ViewSquares_a_r27 b4 b8 b9) rfl rfl
            | false =>
              have h3 : ¬ (y = -4096) := fun c => Bool.false_ne_true (i3.2 c)
              exact fin _ (ViewSquares_a_r28 b4 b8 b9) rfl rfl
        | false =>
          have h6 : ¬ (cmpD l g.re ≤ 0) := fun c => Bool.false_ne_true (i6.2 c)
          cases b3 with
          | true =>
            have h3 : y = -4096 := i3.1 rfl
            exact fin _ (ViewSquares_a_r29 b4 b7 b8 b9) rfl rfl
          | false =>
            have h3 : ¬ (y = -4096) := fun c => Bool.false_ne_true (i3.2 c)
            exact fin _ (ViewSquares_a_r30 b4 b7 b8 b9) rfl rfl
    | false =>
      have h5 : ¬ (addE m (pw y) = 0) := fun c => Bool.false_ne_true (i5.2 c)
      cases b2 with
      | true =>
        have h2 : addE l (pw (y - 1)) = 0 := i2.1 rfl
        cases b4 with
        | true =>
          have h4 : addE m (pw (y - 1)) = 0 := i4.1 rfl
          cases b3 with
          | true =>
            have h3 : y = -4096 := i3.1 rfl
            exact fin _ (ViewSquares_a_r31 b6 b7 b8 b9) rfl rfl
          | false =>
            have h3 : ¬ (y = -4096) := fun c => Bool.false_ne_true (i3.2 c)
            exact fin _ (ViewSquares_a_r32 b6 b7 b8 b9) rfl rfl
        | false =>
          have h4 : ¬ (addE m (pw (y - 1)) = 0) := fun c => Bool.false_ne_true (i4.2 c)
          cases b3 with
          | true =>
            have h3 : y = -4096 := i3.1 rfl
            exact fin _ (ViewSquares_a_r33 b6 b7 b8 b9) rfl rfl
          | false =>
            have h3 : ¬ (y = -4096) := fun c => Bool.false_ne_true (i3.2 c)
            exact fin _ (ViewSquares_a_r34 b6 b7 b8 b9) rfl rfl
      | false =>
        have h2 : ¬ (addE l (pw (y - 1)) = 0) := fun c => Bool.false_ne_true (i2.2 c)
        cases b3 with
        | true =>
          have h3 : y = -4096 := i3.1 rfl
          exact fin _ (ViewSquares_a_r35 b4 b6 b7 b8 b9) rfl rfl
        | false =>
          have h3 : ¬ (y = -4096) := fun c => Bool.false_ne_true (i3.2 c)
          exact fin _ (ViewSquares_a_r36 b4 b6 b7 b8 b9) rfl rfl
  | false =>
    have h1 : ¬ (addE l (pw y) = 0) := fun c => Bool.false_ne_true (i1.2 c)
    cases b2 with
    | true =>
      have h2 : addE l (pw (y - 1)) = 0 := i2.1 rfl
      cases b4 with
      | true =>
        have h4 : addE m (pw (y - 1)) = 0 := i4.1 rfl
        cases b3 with
        | true =>
          have h3 : y = -4096 := i3.1 rfl
          exact fin _ (ViewSquares_a_r37 b5 b6 b7 b8 b9) rfl rfl
        | false =>
          have h3 : ¬ (y = -4096) := fun c => Bool.false_ne_true (i3.2 c)
          exact fin _ (ViewSquares_a_r38 b5 b6 b7 b8 b9) rfl rfl
      | false =>
        have h4 : ¬ (addE m (pw (y - 1)) = 0) := fun c => Bool.false_ne_true (i4.2 c)
        cases b3 with
        | true =>
          have h3 : y = -4096 := i3.1 rfl
          exact fin _ (ViewSquares_a_r39 b5 b6 b7 b8 b9) rfl rfl
        | false =>
          have h3 : ¬ (y = -4096) := fun c => Bool.false_ne_true (i3.2 c)
          exact fin _ (ViewSquares_a_r40 b5 b6 b7 b8 b9) rfl rfl
    | false =>
      have h2 : ¬ (addE l (pw (y - 1)) = 0) := fun c => Bool.false_ne_true (i2.2 c)
      cases b3 with
      | true =>
        have h3 : y = -4096 := i3.1 rfl
        exact fin _ (ViewSquares_a_r41 b4 b5 b6 b7 b8 b9) rfl rfl
      | false =>
        have h3 : ¬ (y = -4096) := fun c => Bool.false_ne_true (i3.2 c)
        exact fin _ (ViewSquares_a_r42 b4 b5 b6 b7 b8 b9) rfl rfl

@[reducible] def ViewSquares_c_f : FuncId := 3
@[reducible] def ViewSquares_c_a : List AV := [.agg [.sym 0, .sym 1, .sym 2, .sym 3, .sym 4, .sym 5, .sym 6], .agg [.sym 7, .sym 8, .sym 9, .sym 10, .sym 11, .sym 12]]
@[reducible] noncomputable def ViewSquares_c_k (b1 b2 b3 b4 b5 : Bool) : Know := ⟨[([0, 12, 30], [.sym 19, .lit (.int .i64 0)], .lit (.bool (!b1))),
  ([0, 12, 30], [.sym 30, .lit (.int .i64 0)], .lit (.bool (!b2))),
  ([0, 11, 3], [.sym 6, .lit (.int .i64 (-4096))], .lit (.bool b3)),
  ([0, 2, 3], [.lit (.int .i64 2), .sym 6], .sym 35),
  ([0, 12, 3], [.sym 19, .lit (.int .i64 0)], .lit (.bool (!b1))),
  ([0, 1, 3], [.sym 6, .lit (.int .i64 1)], .sym 39),
  ([0, 12, 3], [.sym 30, .lit (.int .i64 0)], .lit (.bool (!b2))),
  ([0, 12, 24], [.agg [.sym 36, .sym 37, .sym 38], .agg [.sym 36, .sym 37, .sym 38]], .lit (.bool false)),
  ([0, 12, 30], [.sym 34, .lit (.int .i64 0)], .lit (.bool (!b4))),
  ([0, 12, 3], [.sym 34, .lit (.int .i64 0)], .lit (.bool (!b4))),
  ([0, 12, 28], [.agg [.sym 27, .sym 28, .sym 29, .sym 31, .sym 32, .sym 33], .agg [.sym 27, .sym 28, .sym 29, .sym 31, .sym 32, .sym 33]], .lit (.bool false)),
  ([0, 12, 37], [.agg [.sym 0, .sym 1, .sym 2, .sym 3, .sym 4, .sym 5, .sym 39, .sym 27, .sym 28, .sym 29, .sym 3, .sym 4, .sym 5, .sym 39, .sym 0, .sym 1, .sym 2, .sym 31, .sym 32, .sym 33, .sym 39, .sym 27, .sym 28, .sym 29, .sym 31, .sym 32, .sym 33, .sym 39], .agg [.sym 0, .sym 1, .sym 2, .sym 3, .sym 4, .sym 5, .sym 39, .sym 27, .sym 28, .sym 29, .sym 3, .sym 4, .sym 5, .sym 39, .sym 0, .sym 1, .sym 2, .sym 31, .sym 32, .sym 33, .sym 39, .sym 27, .sym 28, .sym 29, .sym 31, .sym 32, .sym 33, .sym 39]], .lit (.bool false)),
  ([0, 12, 30], [.sym 23, .lit (.int .i64 0)], .lit (.bool (!b5))),
  ([0, 12, 3], [.sym 23, .lit (.int .i64 0)], .lit (.bool (!b5))),
  ([0, 12, 29], [.agg [.sym 0, .sym 1, .sym 2, .sym 3, .sym 4, .sym 5, .sym 16, .sym 17, .sym 18, .sym 3, .sym 4, .sym 5, .sym 0, .sym 1, .sym 2, .sym 20, .sym 21, .sym 22, .sym 16, .sym 17, .sym 18, .sym 20, .sym 21, .sym 22], .agg [.sym 0, .sym 1, .sym 2, .sym 3, .sym 4, .sym 5, .sym 16, .sym 17, .sym 18, .sym 3, .sym 4, .sym 5, .sym 0, .sym 1, .sym 2, .sym 20, .sym 21, .sym 22, .sym 16, .sym 17, .sym 18, .sym 20, .sym 21, .sym 22]], .lit (.bool false))],
  [(12, [.agg [.sym 0, .sym 1, .sym 2, .sym 3, .sym 4, .sym 5, .sym 6]], .lit (.int .i64 0)),
  (50, [.lit (.int .i64 2), .sym 6], .agg [.sym 13, .sym 14, .sym 15]),
  (20, [.agg [.sym 0, .sym 1, .sym 2], .agg [.sym 13, .sym 14, .sym 15]], .tup [.agg [.sym 16, .sym 17, .sym 18], .sym 19]),
  (20, [.agg [.sym 3, .sym 4, .sym 5], .agg [.sym 13, .sym 14, .sym 15]], .tup [.agg [.sym 20, .sym 21, .sym 22], .sym 23]),
  (50, [.lit (.int .i64 1), .sym 6], .agg [.sym 24, .sym 25, .sym 26]),
  (20, [.agg [.sym 0, .sym 1, .sym 2], .agg [.sym 24, .sym 25, .sym 26]], .tup [.agg [.sym 27, .sym 28, .sym 29], .sym 30]),
  (20, [.agg [.sym 3, .sym 4, .sym 5], .agg [.sym 24, .sym 25, .sym 26]], .tup [.agg [.sym 31, .sym 32, .sym 33], .sym 34]),
  (25, [.agg [.sym 7, .sym 8, .sym 9, .sym 10, .sym 11, .sym 12]], .lit (.int .i64 2)),
  (11, [.agg [.sym 0, .sym 1, .sym 2, .sym 3, .sym 4, .sym 5, .sym 6]], .lit (.bool true)),
  (36, [.agg [.sym 0, .sym 1, .sym 2], .lit (.int .i64 1), .sym 6], .tup [.agg [.sym 16, .sym 17, .sym 18], .sym 19]),
  (36, [.agg [.sym 3, .sym 4, .sym 5], .lit (.int .i64 1), .sym 6], .tup [.agg [.sym 20, .sym 21, .sym 22], .sym 23]),
  (18, [.agg [.sym 7, .sym 8, .sym 9, .sym 10, .sym 11, .sym 12]], .lit (.bool false)),
  (13, [], .lit (.bool true)),
  (27, [.lit (.int .i64 1), .sym 35], .tup [.agg [.sym 36, .sym 37, .sym 38], .lit (.int .i64 0)]),
  (37, [.lit (.int .i64 1), .sym 35], .tup [.agg [.sym 36, .sym 37, .sym 38], .lit (.int .i64 0)]),
  (36, [.agg [.sym 0, .sym 1, .sym 2], .lit (.int .i64 1), .sym 39], .tup [.agg [.sym 27, .sym 28, .sym 29], .sym 30]),
  (36, [.agg [.sym 3, .sym 4, .sym 5], .lit (.int .i64 1), .sym 39], .tup [.agg [.sym 31, .sym 32, .sym 33], .sym 34])]⟩
theorem ViewSquares_c_r1 : @comes (ViewSquares_c_k true true true true true) Tryz.prog glT 3000 ViewSquares_c_f ViewSquares_c_a = some (.lit (.bool true)) := by kernel_rfl
theorem ViewSquares_c_r2 : @comes (ViewSquares_c_k true true false true true) Tryz.prog glT 3000 ViewSquares_c_f ViewSquares_c_a = some (.lit (.bool true)) := by kernel_rfl
theorem ViewSquares_c_r3 : @comes (ViewSquares_c_k true true true false true) Tryz.prog glT 3000 ViewSquares_c_f ViewSquares_c_a = some (.lit (.bool true)) := by kernel_rfl
theorem ViewSquares_c_r4 : @comes (ViewSquares_c_k true true false false true) Tryz.prog glT 3000 ViewSquares_c_f ViewSquares_c_a = some (.lit (.bool true)) := by kernel_rfl
theorem ViewSquares_c_r5 (b4 : Bool) : @comes (ViewSquares_c_k true false true b4 true) Tryz.prog glT 3000 ViewSquares_c_f ViewSquares_c_a = some (.lit (.bool true)) := by kernel_rfl
theorem ViewSquares_c_r6 (b4 : Bool) : @comes (ViewSquares_c_k true false false b4 true) Tryz.prog glT 3000 ViewSquares_c_f ViewSquares_c_a = some (.lit (.bool true)) := by kernel_rfl
theorem ViewSquares_c_r7 : @comes (ViewSquares_c_k true true true true false) Tryz.prog glT 3000 ViewSquares_c_f ViewSquares_c_a = some (.lit (.bool true)) := by kernel_rfl
theorem ViewSquares_c_r8 : @comes (ViewSquares_c_k true true false true false) Tryz.prog glT 3000 ViewSquares_c_f ViewSquares_c_a = some (.lit (.bool true)) := by kernel_rfl
theorem ViewSquares_c_r9 : @comes (ViewSquares_c_k true true true false false) Tryz.prog glT 3000 ViewSquares_c_f ViewSquares_c_a = some (.lit (.bool true)) := by kernel_rfl
theorem ViewSquares_c_r10 : @comes (ViewSquares_c_k true true false false false) Tryz.prog glT 3000 ViewSquares_c_f ViewSquares_c_a = some (.lit (.bool true)) := by kernel_rfl
theorem ViewSquares_c_r11 (b4 : Bool) : @comes (ViewSquares_c_k true false true b4 false) Tryz.prog glT 3000 ViewSquares_c_f ViewSquares_c_a = some (.lit (.bool true)) := by kernel_rfl
theorem ViewSquares_c_r12 (b4 : Bool) : @comes (ViewSquares_c_k true false false b4 false) Tryz.prog glT 3000 ViewSquares_c_f ViewSquares_c_a = some (.lit (.bool true)) := by kernel_rfl
theorem ViewSquares_c_r13 (b5 : Bool) : @comes (ViewSquares_c_k false true true true b5) Tryz.prog glT 3000 ViewSquares_c_f ViewSquares_c_a = some (.lit (.bool true)) := by kernel_rfl
theorem ViewSquares_c_r14 (b5 : Bool) : @comes (ViewSquares_c_k false true false true b5) Tryz.prog glT 3000 ViewSquares_c_f ViewSquares_c_a = some (.lit (.bool true)) := by kernel_rfl
theorem ViewSquares_c_r15 (b5 : Bool) : @comes (ViewSquares_c_k false true true false b5) Tryz.prog glT 3000 ViewSquares_c_f ViewSquares_c_a = some (.lit (.bool true)) := by kernel_rfl
theorem ViewSquares_c_r16 (b5 : Bool) : @comes (ViewSquares_c_k false true false false b5) Tryz.prog glT 3000 ViewSquares_c_f ViewSquares_c_a = some (.lit (.bool true)) := by kernel_rfl
theorem ViewSquares_c_r17 (b4 b5 : Bool) : @comes (ViewSquares_c_k false false true b4 b5) Tryz.prog glT 3000 ViewSquares_c_f ViewSquares_c_a = some (.lit (.bool true)) := by kernel_rfl
theorem ViewSquares_c_r18 (b4 b5 : Bool) : @comes (ViewSquares_c_k false false false b4 b5) Tryz.prog glT 3000 ViewSquares_c_f ViewSquares_c_a = some (.lit (.bool true)) := by kernel_rfl

set_option maxRecDepth 100000 in
set_option maxHeartbeats 4000000 in
theorem ViewSquares_c (l m : Dy) (y : Int) (g : Gt) (w : World) (hl : l.Ok) (hm : m.Ok) (he : -4096 ≤ y ∧ y ≤ 4096) (zg : g.Small) (hn : ¬ g.Ok) (hG : Globs glT w) : Calls Tryz.prog 3 #[.agg #[.bool l.g, .string (natS l.n), .int .i64 l.x, .bool m.g, .string (natS m.n), .int .i64 m.x, .int .i64 y], .agg #[.bool g.re.g, .string g.re.s, .int .i64 g.re.x, .bool g.im.g, .string g.im.s, .int .i64 g.im.x]] w fun e w' => e = .returned (.bool true) ∧ Below w.heap.size w w' := by
  obtain ⟨b1, i1⟩ := bex (addE l (pw y) = 0)
  obtain ⟨b2, i2⟩ := bex (addE l (pw (y - 1)) = 0)
  obtain ⟨b3, i3⟩ := bex (y = -4096)
  obtain ⟨b4, i4⟩ := bex (addE m (pw (y - 1)) = 0)
  obtain ⟨b5, i5⟩ := bex (addE m (pw y) = 0)
  letI : Env := mkEnv glT [.bool l.g, .string (natS l.n), .int .i64 l.x, .bool m.g, .string (natS m.n), .int .i64 m.x, .int .i64 y, .bool g.re.g, .string g.re.s, .int .i64 g.re.x, .bool g.im.g, .string g.im.s, .int .i64 g.im.x, .bool (pw y).g, .string (natS (pw y).n), .int .i64 (pw y).x, .bool (addD l (pw y)).g, .string (natS (addD l (pw y)).n), .int .i64 (addD l (pw y)).x, .int .i64 (addE l (pw y)), .bool (addD m (pw y)).g, .string (natS (addD m (pw y)).n), .int .i64 (addD m (pw y)).x, .int .i64 (addE m (pw y)), .bool (pw (y - 1)).g, .string (natS (pw (y - 1)).n), .int .i64 (pw (y - 1)).x, .bool (addD l (pw (y - 1))).g, .string (natS (addD l (pw (y - 1))).n), .int .i64 (addD l (pw (y - 1))).x, .int .i64 (addE l (pw (y - 1))), .bool (addD m (pw (y - 1))).g, .string (natS (addD m (pw (y - 1))).n), .int .i64 (addD m (pw (y - 1))).x, .int .i64 (addE m (pw (y - 1))), .int .i64 (2 * y), .bool (pw (2 * y)).g, .string (natS (pw (2 * y)).n), .int .i64 (pw (2 * y)).x, .int .i64 (y - 1)] rfl
  have hops : OpsT Tryz.prog (@Know.ops (ViewSquares_c_k b1 b2 b3 b4 b5)) := ⟨opt_neq_i rfl rfl i1,
    opt_neq_i rfl rfl i2,
    opt_eql_i rfl rfl i3,
    vopt_mul rfl rfl rfl rfl rfl ⟨by omega, by omega⟩,
    opt_neq_i rfl rfl i1,
    vopt_sub rfl rfl rfl rfl rfl ⟨by omega, by omega⟩,
    opt_neq_i rfl rfl i2,
    optD_neq_f (a := pw (2 * y)) (b := pw (2 * y)) rfl rfl rfl,
    opt_neq_i rfl rfl i4,
    opt_neq_i rfl rfl i4,
    optG_neq_f (a := ⟨addD l (pw (y - 1)), addD m (pw (y - 1))⟩) (b := ⟨addD l (pw (y - 1)), addD m (pw (y - 1))⟩) rfl rfl rfl,
    opt_self_neq fun p q w => self_28 p q w,
    opt_neq_i rfl rfl i5,
    opt_neq_i rfl rfl i5,
    opt_self_neq fun p q w => self_24 p q w,
    trivial⟩
  have hcalls : CallsT Tryz.prog (@Know.calls (ViewSquares_c_k b1 b2 b3 b4 b5)) := ⟨callt rfl rfl fun w hG => VRight_ok l m y w hl hm ⟨by omega, by omega⟩ hG,
    callt rfl rfl fun w hG => halves_2 y w ⟨by omega, by omega⟩ hG,
    callt rfl rfl fun w hG => DAdd_c l (pw y) w hl (pw_Ok _) hG,
    callt rfl rfl fun w hG => DAdd_c m (pw y) w hm (pw_Ok _) hG,
    callt rfl rfl fun w hG => halves_1 y w ⟨by omega, by omega⟩ hG,
    callt rfl rfl fun w hG => DAdd_c l (pw (y - 1)) w hl (pw_Ok _) hG,
    callt rfl rfl fun w hG => DAdd_c m (pw (y - 1)) w hm (pw_Ok _) hG,
    callt rfl rfl fun w hG => GCheck_no g zg hn w hG,
    callt rfl rfl fun w hG => rRight_ok l m y w hl hm ⟨by omega, by omega⟩ hG,
    callt rfl rfl fun w hG => on_c l y w hl ⟨by omega, by omega⟩ hG,
    callt rfl rfl fun w hG => on_c m y w hm ⟨by omega, by omega⟩ hG,
    callt rfl rfl fun w hG => rGMay_no g w zg.1 zg.2 hn hG,
    callt rfl rfl fun w hG => awake24_c w hG,
    callt rfl rfl fun w hG => DOf_pw (2 * y) ⟨by omega, by omega⟩ w,
    callt rfl rfl fun w hG => rOf_pw (2 * y) ⟨by omega, by omega⟩ w,
    callt rfl rfl fun w hG => on_c l (y - 1) w hl ⟨by omega, by omega⟩ hG,
    callt rfl rfl fun w hG => on_c m (y - 1) w hm ⟨by omega, by omega⟩ hG,
    trivial⟩
  have fin : ∀ v, @comes (ViewSquares_c_k b1 b2 b3 b4 b5) Tryz.prog glT 3000 ViewSquares_c_f ViewSquares_c_a = some v → ground v = true → Ending.returned (gval v) = .returned (.bool true) → Calls Tryz.prog 3 #[.agg #[.bool l.g, .string (natS l.n), .int .i64 l.x, .bool m.g, .string (natS m.n), .int .i64 m.x, .int .i64 y], .agg #[.bool g.re.g, .string g.re.s, .int .i64 g.re.x, .bool g.im.g, .string g.im.s, .int .i64 g.im.x]] w fun e w' => e = .returned (.bool true) ∧ Below w.heap.size w w' := fun v h1 h2 h3 => (@sym_ok _ (ViewSquares_c_k b1 b2 b3 b4 b5) _ (@KnowOk.of _ (ViewSquares_c_k b1 b2 b3 b4 b5) _ hops hcalls) (by kernel_rfl) _ _ _ _ h1 rfl h2 _ hG).mono fun e w' h => ⟨h.1.trans h3, h.2⟩
  clear hops hcalls
  cases b1 with
  | true =>
    have h1 : addE l (pw y) = 0 := i1.1 rfl
    cases b5 with
    | true =>
      have h5 : addE m (pw y) = 0 := i5.1 rfl
      cases b2 with
      | true =>
        have h2 : addE l (pw (y - 1)) = 0 := i2.1 rfl
        cases b4 with
        | true =>
          have h4 : addE m (pw (y - 1)) = 0 := i4.1 rfl
          cases b3 with
          | true =>
            have h3 : y = -4096 := i3.1 rfl
            exact fin _ (ViewSquares_c_r1) rfl rfl
          | false =>
            have h3 : ¬ (y = -4096) := fun c => Bool.false_ne_true (i3.2 c)
            exact fin _ (ViewSquares_c_r2) rfl rfl
        | false =>
          have h4 : ¬ (addE m (pw (y - 1)) = 0) := fun c => Bool.false_ne_true (i4.2 c)
          cases b3 with
          | true =>
            have h3 : y = -4096 := i3.1 rfl
            exact fin _ (ViewSquares_c_r3) rfl rfl
          | false =>
            have h3 : ¬ (y = -4096) := fun c => Bool.false_ne_true (i3.2 c)
            exact fin _ (ViewSquares_c_r4) rfl rfl
      | false =>
        have h2 : ¬ (addE l (pw (y - 1)) = 0) := fun c => Bool.false_ne_true (i2.2 c)
        cases b3 with
        | true =>
          have h3 : y = -4096 := i3.1 rfl
          exact fin _ (ViewSquares_c_r5 b4) rfl rfl
        | false =>
          have h3 : ¬ (y = -4096) := fun c => Bool.false_ne_true (i3.2 c)
          exact fin _ (ViewSquares_c_r6 b4) rfl rfl
    | false =>
      have h5 : ¬ (addE m (pw y) = 0) := fun c => Bool.false_ne_true (i5.2 c)
      cases b2 with
      | true =>
        have h2 : addE l (pw (y - 1)) = 0 := i2.1 rfl
        cases b4 with
        | true =>
          have h4 : addE m (pw (y - 1)) = 0 := i4.1 rfl
          cases b3 with
          | true =>
            have h3 : y = -4096 := i3.1 rfl
            exact fin _ (ViewSquares_c_r7) rfl rfl
          | false =>
            have h3 : ¬ (y = -4096) := fun c => Bool.false_ne_true (i3.2 c)
            exact fin _ (ViewSquares_c_r8) rfl rfl
        | false =>
          have h4 : ¬ (addE m (pw (y - 1)) = 0) := fun c => Bool.false_ne_true (i4.2 c)
          cases b3 with
          | true =>
            have h3 : y = -4096 := i3.1 rfl
            exact fin _ (ViewSquares_c_r9) rfl rfl
          | false =>
            have h3 : ¬ (y = -4096) := fun c => Bool.false_ne_true (i3.2 c)
            exact fin _ (ViewSquares_c_r10) rfl rfl
      | false =>
        have h2 : ¬ (addE l (pw (y - 1)) = 0) := fun c => Bool.false_ne_true (i2.2 c)
        cases b3 with
        | true =>
          have h3 : y = -4096 := i3.1 rfl
          exact fin _ (ViewSquares_c_r11 b4) rfl rfl
        | false =>
          have h3 : ¬ (y = -4096) := fun c => Bool.false_ne_true (i3.2 c)
          exact fin _ (ViewSquares_c_r12 b4) rfl rfl
  | false =>
    have h1 : ¬ (addE l (pw y) = 0) := fun c => Bool.false_ne_true (i1.2 c)
    cases b2 with
    | true =>
      have h2 : addE l (pw (y - 1)) = 0 := i2.1 rfl
      cases b4 with
      | true =>
        have h4 : addE m (pw (y - 1)) = 0 := i4.1 rfl
        cases b3 with
        | true =>
          have h3 : y = -4096 := i3.1 rfl
          exact fin _ (ViewSquares_c_r13 b5) rfl rfl
        | false =>
          have h3 : ¬ (y = -4096) := fun c => Bool.false_ne_true (i3.2 c)
          exact fin _ (ViewSquares_c_r14 b5) rfl rfl
      | false =>
        have h4 : ¬ (addE m (pw (y - 1)) = 0) := fun c => Bool.false_ne_true (i4.2 c)
        cases b3 with
        | true =>
          have h3 : y = -4096 := i3.1 rfl
          exact fin _ (ViewSquares_c_r15 b5) rfl rfl
        | false =>
          have h3 : ¬ (y = -4096) := fun c => Bool.false_ne_true (i3.2 c)
          exact fin _ (ViewSquares_c_r16 b5) rfl rfl
    | false =>
      have h2 : ¬ (addE l (pw (y - 1)) = 0) := fun c => Bool.false_ne_true (i2.2 c)
      cases b3 with
      | true =>
        have h3 : y = -4096 := i3.1 rfl
        exact fin _ (ViewSquares_c_r17 b4 b5) rfl rfl
      | false =>
        have h3 : ¬ (y = -4096) := fun c => Bool.false_ne_true (i3.2 c)
        exact fin _ (ViewSquares_c_r18 b4 b5) rfl rfl

@[reducible] def ViewSquares_b_f : FuncId := 3
@[reducible] def ViewSquares_b_a : List AV := [.agg [.sym 0, .sym 1, .sym 2, .sym 3, .sym 4, .sym 5, .sym 6], .agg [.sym 7, .sym 8, .sym 9, .sym 10, .sym 11, .sym 12]]
@[reducible] noncomputable def ViewSquares_b_k : Know := ⟨[],
  [(12, [.agg [.sym 0, .sym 1, .sym 2, .sym 3, .sym 4, .sym 5, .sym 6]], .lit (.int .i64 240)),
  (11, [.agg [.sym 0, .sym 1, .sym 2, .sym 3, .sym 4, .sym 5, .sym 6]], .lit (.bool false)),
  (13, [], .lit (.bool true))]⟩
theorem ViewSquares_b_r1 : @comes ViewSquares_b_k Tryz.prog glT 3000 ViewSquares_b_f ViewSquares_b_a = some (.lit (.bool true)) := by kernel_rfl

set_option maxRecDepth 100000 in
set_option maxHeartbeats 4000000 in
theorem ViewSquares_b (l m : Dt) (y : Int) (g : Gt) (w : World) (zl : l.s.size ≤ 9223372036854775807) (zm : m.s.size ≤ 9223372036854775807) (hn : ¬ (l.Ok ∧ m.Ok ∧ -4096 ≤ y ∧ y ≤ 4096)) (hG : Globs glT w) : Calls Tryz.prog 3 #[.agg #[.bool l.g, .string l.s, .int .i64 l.x, .bool m.g, .string m.s, .int .i64 m.x, .int .i64 y], .agg #[.bool g.re.g, .string g.re.s, .int .i64 g.re.x, .bool g.im.g, .string g.im.s, .int .i64 g.im.x]] w fun e w' => e = .returned (.bool true) ∧ Below w.heap.size w w' := by
  letI : Env := mkEnv glT [.bool l.g, .string l.s, .int .i64 l.x, .bool m.g, .string m.s, .int .i64 m.x, .int .i64 y, .bool g.re.g, .string g.re.s, .int .i64 g.re.x, .bool g.im.g, .string g.im.s, .int .i64 g.im.x] rfl
  have hops : OpsT Tryz.prog (@Know.ops ViewSquares_b_k) := trivial
  have hcalls : CallsT Tryz.prog (@Know.calls ViewSquares_b_k) := ⟨callt rfl rfl fun w hG => VRight_no l m y w zl zm hn hG,
    callt rfl rfl fun w hG => rRight_no l m y w zl zm hn hG,
    callt rfl rfl fun w hG => awake24_c w hG,
    trivial⟩
  have fin : ∀ v, @comes ViewSquares_b_k Tryz.prog glT 3000 ViewSquares_b_f ViewSquares_b_a = some v → ground v = true → Ending.returned (gval v) = .returned (.bool true) → Calls Tryz.prog 3 #[.agg #[.bool l.g, .string l.s, .int .i64 l.x, .bool m.g, .string m.s, .int .i64 m.x, .int .i64 y], .agg #[.bool g.re.g, .string g.re.s, .int .i64 g.re.x, .bool g.im.g, .string g.im.s, .int .i64 g.im.x]] w fun e w' => e = .returned (.bool true) ∧ Below w.heap.size w w' := fun v h1 h2 h3 => (@sym_ok _ ViewSquares_b_k _ (@KnowOk.of _ ViewSquares_b_k _ hops hcalls) (by kernel_rfl) _ _ _ _ h1 rfl h2 _ hG).mono fun e w' h => ⟨h.1.trans h3, h.2⟩
  clear hops hcalls
  exact fin _ (ViewSquares_b_r1) rfl rfl

theorem ViewSquares_law (l m : Dt) (y : Int) (g : Gt) (w : World) (zl : l.s.size ≤ 9223372036854775807) (zm : m.s.size ≤ 9223372036854775807) (zg : g.Small) (hG : Globs glT w) : Calls Tryz.prog 3 #[.agg #[.bool l.g, .string l.s, .int .i64 l.x, .bool m.g, .string m.s, .int .i64 m.x, .int .i64 y], .agg #[.bool g.re.g, .string g.re.s, .int .i64 g.re.x, .bool g.im.g, .string g.im.s, .int .i64 g.im.x]] w fun e w' => e = .returned (.bool true) ∧ Below w.heap.size w w' := by
  by_cases hs : l.Ok ∧ m.Ok ∧ -4096 ≤ y ∧ y ≤ 4096
  · obtain ⟨h1, h2, h3⟩ := hs
    obtain ⟨l, hl, rfl⟩ := Dt.dy h1
    obtain ⟨m, hm, rfl⟩ := Dt.dy h2
    by_cases hg : g.Ok
    · obtain ⟨g', hg', rfl⟩ := Gt.gs hg
      exact ViewSquares_a l m y g' w hl hm h3 hg' hG
    · exact ViewSquares_c l m y g w hl hm h3 zg hg hG
  · exact ViewSquares_b l m y g w zl zm hs hG

end Go.Proofs.YtjalpocjgpgcfaaGreatDoor
namespace Go.Proofs.YtjalpocjgpgcfaaGreatDoor
open Go Go.RowKit Go.WideShapes Go.ChangeShapes
variable {H : Type} {enc : TypeId × Value → H} {P : Program}

theorem postBelow {f : Func} {s : ChangeSpec} {apart fresh handsOn again : Bool} {W W' : World} {args : Array Value} {v : Value} {ds gs : List (DataW H)} {places pa pv : List MemPlace}
    (whole : DataW.Whole enc P f.params.toList s.vars apart W args.toList ds gs places)
    (res : ∀ (b : Nat) (sp : Nat → Bool) (hd : Bool), DataW.TrodAll enc P W' b sp hd f.resultTypes.toList (v.resultList f.resultTypes.size) (s.fn H (ds ++ gs)).results [])
    (left : ∀ sp : Nat → Bool, (∀ p ∈ places, sp p.block = true) → DataW.TrodAll enc P W' 0 sp true f.params.toList args.toList (s.fn H (ds ++ gs)).args pa)
    (vars : ∀ sp : Nat → Bool, (∀ p ∈ places, sp p.block = true) → DataW.TrodVars enc P W' sp s.vars (s.fn H (ds ++ gs)).vars pv)
    (split : places = pa ++ pv) (below : Below W.heap.size W W')
    (ok : ∀ (j : Nat) (t : TypeId) (r : Value), f.resultTypes[j]? = some t → (v.resultList f.resultTypes.size)[j]? = some r → Value.okWide P W' .any 0 t r) :
    s.post enc P f apart fresh handsOn again W args v W' := by
  have old : ∀ p ∈ places, p.block < W.heap.size := fun p hp => whole.lt p hp
  have same : ∀ p ∈ places, (fun b => decide (b < W.heap.size)) p.block = true := fun p hp => decide_eq_true (old p hp)
  have kept : W.keptBut W' (fun p => p ∈ places ∧ p ∈ pa ++ pv) :=
    World.keptBut_mono (fun p hp => ⟨hp, split ▸ hp⟩) (below.frame (· ∈ places))
  have free : ∀ b off, MemPlace.cell b off ∈ pa ++ pv → W'.frozen? ⟨b, off, none⟩ = false := fun b off hp => by
    have hin : MemPlace.cell b off ∈ places := split ▸ hp
    rw [below.frozen (p := ⟨b, off, none⟩) (old _ hin)]
    obtain ⟨_, _, _, _, _, hz, _⟩ := whole
    exact hz b off hin
  have apartNow : apart = true → (pa ++ pv).Nodup := fun ha => by
    obtain ⟨_, _, _, _, _, _, hn⟩ := whole
    exact split ▸ hn ha
  refine ⟨ds, gs, places, [], pa, pv, whole, res _ _ _, left _ same, vars _ same, ?_, fun _ => ⟨ok, _, _, ([] ++ pa) ++ pv, ⟨[] ++ pa, pv, trodAll_append (left _ (fun _ _ => rfl)) (res _ _ _), vars _ (fun _ _ => rfl), rfl, ?_, ?_⟩, ?_⟩⟩
  · exact World.keptBut_mono (fun p hp => ⟨hp.1, Or.inr (List.mem_append.1 hp.2)⟩) kept
  · intro b off hp; exact free b off (by simpa using hp)
  · intro ha; simpa using apartNow ha
  · intro p hp _; rw [split]; simpa using hp
end Go.Proofs.YtjalpocjgpgcfaaGreatDoor
set_option linter.unusedVariables false
namespace Go.Proofs.YtjalpocjgpgcfaaGreatDoor
open Go.ChangeShapes Go.WideShapes Go.ChangeAt Go.RowKit Go.Joins
variable {H : Type} {enc : TypeId × Value → H}
/-- A Dyad's datum. -/
def dyadD (H : Type) (g : Bool) (s : ByteArray) (x : Int) : DataW H := .agg [.lit (.bool g), .lit (.string s.data.toList), .lit (.int .i64 x)]
set_option maxRecDepth 100000 in
theorem open_dyad {w : World} {base : Nat} {spare : Nat → Bool} {held : Bool} {r : Go.Reach} {b0 : Nat} {v : Value} {d : DataW H} {p : List MemPlace}
    (hv : Value.okWide Tryz.prog w r b0 24 v) (h : DataW.Trod enc Tryz.prog w base spare held 24 v d p) :
    ∃ (g : Bool) (s : ByteArray) (x : Int), v = .agg #[.bool g, .string s, .int .i64 x] ∧ d = dyadD H g s x ∧ p = [] ∧ s.size ≤ maxLen ∧ (Lit.int .i64 x).wf = true := by
  obtain ⟨c0, c1, c2, y0, y1, y2, m, rfl, rfl, rfl, hy0, hy1, hy2⟩ := open_agg3 Tryz.underlying24 (by kernel_rfl) (by kernel_rfl) hv h
  obtain ⟨g, e0, rfl⟩ := DataW.trod_bool Tryz.underlying4 hy0
  obtain ⟨s, e1, rfl, hs⟩ := DataW.trod_string Tryz.underlying22 hy1
  obtain ⟨x, e2, rfl, wx⟩ := DataW.trod_int Tryz.underlying3 hy2
  simp at e0 e1 e2
  subst e0 e1 e2
  exact ⟨g, s, x, rfl, rfl, rfl, hs, wx⟩
set_option maxRecDepth 100000 in
theorem shut_dyad {W' : World} {b : Nat} {sp : Nat → Bool} {hd : Bool} {g : Bool} {s : ByteArray} {x : Int} (hs : s.size ≤ maxLen) (wx : (Lit.int .i64 x).wf = true) :
    DataW.Trod enc Tryz.prog W' b sp hd 24 (.agg #[.bool g, .string s, .int .i64 x]) (dyadD H g s x) [] := by
  simpa [dyadD] using shut_agg3 (enc := enc) (w := W') (base := b) (spare := sp) (held := hd) (y0 := (.lit (.bool g), [])) (y1 := (.lit (.string s.data.toList), [])) (y2 := (.lit (.int .i64 x), [])) Tryz.underlying24 (by kernel_rfl) (by kernel_rfl) ⟨1, by simp [DataW.trod, Tryz.underlying4]⟩ ⟨1, by simp [DataW.trod, Tryz.underlying22, hs]⟩ ⟨1, by simp [DataW.trod, Tryz.underlying3, wx]⟩
theorem int64_bounds {x : Int} (h : (Lit.int .i64 x).wf = true) : -9223372036854775808 ≤ x ∧ x ≤ 9223372036854775807 := by
  unfold Lit.wf at h
  rw [Bool.and_eq_true, decide_eq_true_iff, decide_eq_true_iff] at h
  exact h
theorem float_bound {b : Nat} (h : (Lit.float .f64 b).wf = true) : b < 18446744073709551616 := by
  unfold Lit.wf at h
  exact of_decide_eq_true h
end Go.Proofs.YtjalpocjgpgcfaaGreatDoor
set_option linter.unusedVariables false
set_option linter.unusedSimpArgs false
namespace Go.Proofs.YtjalpocjgpgcfaaGreatDoor
open Go.ChangeShapes Go.WideShapes Go.ChangeAt Go.RowKit Go.Joins Go.Deep Go.ChangeMaps
variable {H : Type} {enc : TypeId × Value → H}
def gaussD (H : Type) (g : Bool) (s : ByteArray) (x : Int) (k : Bool) (r : ByteArray) (y : Int) : DataW H := .agg [dyadD H g s x, dyadD H k r y]
theorem array6 {α : Type} {cs : Array α} (h : cs.size = 6) : ∃ c0 c1 c2 c3 c4 c5, cs = #[c0, c1, c2, c3, c4, c5] := by
  obtain ⟨l⟩ := cs
  match l, h with
  | [c0, c1, c2, c3, c4, c5], _ => exact ⟨c0, c1, c2, c3, c4, c5, rfl⟩
theorem cDyad : Tryz.prog.cellsOf 24 = 3 := by kernel_rfl
theorem cGauss : Tryz.prog.cellsOf 28 = 6 := by kernel_rfl
theorem cBool1 : Tryz.prog.cellsOf 4 = 1 := by kernel_rfl
theorem cNat1 : Tryz.prog.cellsOf 22 = 1 := by kernel_rfl
theorem cInt1 : Tryz.prog.cellsOf 3 = 1 := by kernel_rfl
set_option maxRecDepth 100000 in
theorem trod_dyad {w : World} {base : Nat} {spare : Nat → Bool} {held : Bool} {n : Nat} {c0 c1 c2 : Value} {y : DataW H × List MemPlace} (h : DataW.trod enc Tryz.prog w base spare held n 24 [c0, c1, c2] = some y) :
    ∃ (g : Bool) (s : ByteArray) (x : Int), c0 = .bool g ∧ c1 = .string s ∧ c2 = .int .i64 x ∧ y = (dyadD H g s x, []) ∧ s.size ≤ maxLen ∧ (Lit.int .i64 x).wf = true := by
  obtain ⟨y0, y1, y2, m, rfl, _, h0, h1, h2⟩ := trod_struct3 Tryz.underlying24 h
  simp only [cBool1, cNat1, cInt1, List.drop_zero, List.take_succ_cons, List.take_zero, List.drop_succ_cons] at h0 h1 h2
  obtain ⟨g, e0, rfl⟩ := DataW.trod_bool Tryz.underlying4 h0
  obtain ⟨s, e1, rfl, hs⟩ := DataW.trod_string Tryz.underlying22 h1
  obtain ⟨x, e2, rfl, wx⟩ := DataW.trod_int Tryz.underlying3 h2
  simp at e0 e1 e2
  subst e0 e1 e2
  exact ⟨g, s, x, rfl, rfl, rfl, rfl, hs, wx⟩
set_option maxRecDepth 100000 in
theorem open_gauss {w : World} {base : Nat} {spare : Nat → Bool} {held : Bool} {r : Go.Reach} {b0 : Nat} {v : Value} {d : DataW H} {p : List MemPlace}
    (hv : Value.okWide Tryz.prog w r b0 28 v) (h : DataW.Trod enc Tryz.prog w base spare held 28 v d p) :
    ∃ (g : Bool) (s : ByteArray) (x : Int) (k : Bool) (q : ByteArray) (y : Int), v = .agg #[.bool g, .string s, .int .i64 x, .bool k, .string q, .int .i64 y] ∧ d = gaussD H g s x k q y ∧ p = [] ∧ (s.size ≤ maxLen ∧ (Lit.int .i64 x).wf = true) ∧ (q.size ≤ maxLen ∧ (Lit.int .i64 y).wf = true) := by
  obtain ⟨cs, rfl, hsz⟩ := okWide_struct Tryz.underlying28 hv
  obtain ⟨c0, c1, c2, c3, c4, c5, rfl⟩ := array6 (hsz.trans cGauss)
  obtain ⟨fuel, hf⟩ := h
  obtain ⟨y0, y1, n, hx, _, h0, h1⟩ := trod_struct2 Tryz.underlying28 hf
  simp only [Value.cells, cDyad, List.drop_zero, List.take_succ_cons, List.take_zero, List.drop_succ_cons] at h0 h1
  obtain ⟨g, s, x, rfl, rfl, rfl, rfl, hs, wx⟩ := trod_dyad h0
  obtain ⟨k, q, y, rfl, rfl, rfl, rfl, hq, wy⟩ := trod_dyad h1
  simp only [Prod.mk.injEq] at hx
  obtain ⟨hd, hp⟩ := hx
  exact ⟨g, s, x, k, q, y, rfl, hd, hp, ⟨hs, wx⟩, ⟨hq, wy⟩⟩
theorem shut_trod_dyad {W' : World} {b : Nat} {sp : Nat → Bool} {hd : Bool} {g : Bool} {s : ByteArray} {x : Int} (hs : s.size ≤ maxLen) (wx : (Lit.int .i64 x).wf = true) (n : Nat) :
    DataW.trod enc Tryz.prog W' b sp hd (n + 2) 24 [.bool g, .string s, .int .i64 x] = some (dyadD H g s x, []) := by
  have := trod_struct3_mk (enc := enc) (w := W') (base := b) (spare := sp) (held := hd) (n := n + 1) (cs := [.bool g, .string s, .int .i64 x]) (y0 := (.lit (.bool g), [])) (y1 := (.lit (.string s.data.toList), [])) (y2 := (.lit (.int .i64 x), [])) Tryz.underlying24 (by rw [cDyad]; rfl)
    (by simp [cBool1, DataW.trod, Tryz.underlying4]) (by simp [cNat1, DataW.trod, Tryz.underlying22, hs]) (by simp [cInt1, DataW.trod, Tryz.underlying3, wx])
  simpa [dyadD] using this
set_option maxRecDepth 100000 in
theorem shut_gauss {W' : World} {b : Nat} {sp : Nat → Bool} {hd : Bool} {g : Bool} {s : ByteArray} {x : Int} {k : Bool} {q : ByteArray} {y : Int} (h1 : s.size ≤ maxLen ∧ (Lit.int .i64 x).wf = true) (h2 : q.size ≤ maxLen ∧ (Lit.int .i64 y).wf = true) :
    DataW.Trod enc Tryz.prog W' b sp hd 28 (.agg #[.bool g, .string s, .int .i64 x, .bool k, .string q, .int .i64 y]) (gaussD H g s x k q y) [] := by
  refine ⟨3, ?_⟩
  have := trod_struct2_mk (enc := enc) (w := W') (base := b) (spare := sp) (held := hd) (n := 2) (cs := [.bool g, .string s, .int .i64 x, .bool k, .string q, .int .i64 y]) (y0 := (dyadD H g s x, [])) (y1 := (dyadD H k q y, [])) Tryz.underlying28 (by rw [cGauss]; rfl)
    (by simp only [cDyad, List.drop_zero, List.take_succ_cons, List.take_zero, List.drop_succ_cons]; exact shut_trod_dyad h1.1 h1.2 0) (by simp only [cDyad, List.drop_zero, List.take_succ_cons, List.take_zero, List.drop_succ_cons]; exact shut_trod_dyad h2.1 h2.2 0)
  simpa [gaussD, Value.cells] using this
end Go.Proofs.YtjalpocjgpgcfaaGreatDoor
set_option linter.unusedVariables false
set_option linter.unusedSimpArgs false
namespace Go.Proofs.YtjalpocjgpgcfaaGreatDoor
open Go.ChangeShapes Go.WideShapes Go.ChangeAt Go.RowKit Go.Joins Go.Deep Go.ChangeMaps
variable {H : Type} {enc : TypeId × Value → H}
def squareD (H : Type) (g : Bool) (s : ByteArray) (x : Int) (k : Bool) (r : ByteArray) (y : Int) (e : Int) : DataW H := .agg [dyadD H g s x, dyadD H k r y, .lit (.int .i64 e)]
theorem array7 {α : Type} {cs : Array α} (h : cs.size = 7) : ∃ c0 c1 c2 c3 c4 c5 c6, cs = #[c0, c1, c2, c3, c4, c5, c6] := by
  obtain ⟨l⟩ := cs
  match l, h with
  | [c0, c1, c2, c3, c4, c5, c6], _ => exact ⟨c0, c1, c2, c3, c4, c5, c6, rfl⟩
theorem cSquare : Tryz.prog.cellsOf 26 = 7 := by kernel_rfl
set_option maxRecDepth 100000 in
theorem open_square {w : World} {base : Nat} {spare : Nat → Bool} {held : Bool} {r : Go.Reach} {b0 : Nat} {v : Value} {d : DataW H} {p : List MemPlace}
    (hv : Value.okWide Tryz.prog w r b0 26 v) (h : DataW.Trod enc Tryz.prog w base spare held 26 v d p) :
    ∃ (g : Bool) (s : ByteArray) (x : Int) (k : Bool) (q : ByteArray) (y : Int) (e : Int), v = .agg #[.bool g, .string s, .int .i64 x, .bool k, .string q, .int .i64 y, .int .i64 e] ∧ d = squareD H g s x k q y e ∧ p = [] ∧ (s.size ≤ maxLen ∧ (Lit.int .i64 x).wf = true) ∧ (q.size ≤ maxLen ∧ (Lit.int .i64 y).wf = true) ∧ (Lit.int .i64 e).wf = true := by
  obtain ⟨cs, rfl, hsz⟩ := okWide_struct Tryz.underlying26 hv
  obtain ⟨c0, c1, c2, c3, c4, c5, c6, rfl⟩ := array7 (hsz.trans cSquare)
  obtain ⟨fuel, hf⟩ := h
  obtain ⟨y0, y1, y2, n, hx, _, h0, h1, h2⟩ := trod_struct3 Tryz.underlying26 hf
  simp only [Value.cells, cDyad, cInt1, List.drop_zero, List.take_succ_cons, List.take_zero, List.drop_succ_cons] at h0 h1 h2
  obtain ⟨g, s, x, rfl, rfl, rfl, rfl, hs, wx⟩ := trod_dyad h0
  obtain ⟨k, q, y, rfl, rfl, rfl, rfl, hq, wy⟩ := trod_dyad h1
  obtain ⟨e, e2, rfl, we⟩ := DataW.trod_int Tryz.underlying3 h2
  simp at e2
  subst e2
  simp only [Prod.mk.injEq] at hx
  obtain ⟨hd, hp⟩ := hx
  exact ⟨g, s, x, k, q, y, e, rfl, hd, hp, ⟨hs, wx⟩, ⟨hq, wy⟩, we⟩
set_option maxRecDepth 100000 in
theorem shut_square {W' : World} {b : Nat} {sp : Nat → Bool} {hd : Bool} {g : Bool} {s : ByteArray} {x : Int} {k : Bool} {q : ByteArray} {y : Int} {e : Int} (h1 : s.size ≤ maxLen ∧ (Lit.int .i64 x).wf = true) (h2 : q.size ≤ maxLen ∧ (Lit.int .i64 y).wf = true) (we : (Lit.int .i64 e).wf = true) :
    DataW.Trod enc Tryz.prog W' b sp hd 26 (.agg #[.bool g, .string s, .int .i64 x, .bool k, .string q, .int .i64 y, .int .i64 e]) (squareD H g s x k q y e) [] := by
  refine ⟨3, ?_⟩
  have := trod_struct3_mk (enc := enc) (w := W') (base := b) (spare := sp) (held := hd) (n := 2) (cs := [.bool g, .string s, .int .i64 x, .bool k, .string q, .int .i64 y, .int .i64 e]) (y0 := (dyadD H g s x, [])) (y1 := (dyadD H k q y, [])) (y2 := (.lit (.int .i64 e), [])) Tryz.underlying26 (by rw [cSquare]; rfl)
    (by simp only [cDyad, List.drop_zero, List.take_succ_cons, List.take_zero, List.drop_succ_cons]; exact shut_trod_dyad h1.1 h1.2 0) (by simp only [cDyad, List.drop_zero, List.take_succ_cons, List.take_zero, List.drop_succ_cons]; exact shut_trod_dyad h2.1 h2.2 0) (by simp [cInt1, DataW.trod, Tryz.underlying3, we])
  simpa [squareD, Value.cells] using this
end Go.Proofs.YtjalpocjgpgcfaaGreatDoor
