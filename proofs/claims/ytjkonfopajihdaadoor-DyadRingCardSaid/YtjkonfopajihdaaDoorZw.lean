/- Texts put together: DR1 DR2. -/
import Derived.Test.YtjkonfopajihdaaDoorZv
import Derived.Test.YtjkonfopajihdaaDoorZu
set_option linter.unusedVariables false
set_option linter.unusedSimpArgs false
namespace Go.Proofs.YtjkonfopajihdaaDoor
open Go Go.RowKit Nt

theorem flD_Ok {a : Dy} {k : Int} (ha : a.Ok) : (flD a k).Ok := by
  by_cases hr : k < -1048576 ∨ 1048576 < k
  · rw [(fl_out hr).1]; exact Or.inl rfl
  · by_cases h2 : a.n = 0 ∨ k ≤ a.x
    · rw [(fl_self hr h2).1]; exact ha
    · rw [(fl_mk hr h2).1]; exact mkD_Ok _ _ _
theorem DCheck_dy (a : Dy) (ha : a.Ok) (w : World) : Calls Tryd.prog 15 #[.agg #[.bool a.g, .string (natS a.n), .int .i64 a.x]] w fun e w' => e = .returned (.int .i64 0) ∧ Below w.heap.size w w' := by
  have h := DCheck_c a.t w (by have := Dy.small ha; show (natS a.n).size ≤ _; omega)
  rwa [dE_ok (fun t ht => by rw [List.mem_singleton.1 ht]; exact Dy.ok_t ha)] at h
@[reducible] noncomputable def Ring_k (b1 b2 b3 b4 b5 b6 b7 b8 b9 b10 b11 b12 b13 b14 b15 b16 b17 b18 b19 b20 b21 : Bool) : Know := ⟨[([0, 12, 24], [.agg [.sym 10, .sym 11, .sym 12], .agg [.sym 14, .sym 15, .sym 16]], .lit (.bool (!b2))),
  ([0, 12, 28], [.sym 13, .sym 17], .lit (.bool (!b3))),
  ([0, 12, 24], [.agg [.sym 18, .sym 19, .sym 20], .agg [.sym 22, .sym 23, .sym 24]], .lit (.bool (!b4))),
  ([0, 12, 28], [.sym 21, .sym 25], .lit (.bool (!b5))),
  ([0, 11, 28], [.sym 21, .lit (.int .i64 0)], .lit (.bool b6)),
  ([0, 11, 3], [.sym 26, .lit (.int .i64 0)], .lit (.bool b7)),
  ([0, 11, 3], [.sym 27, .lit (.int .i64 0)], .lit (.bool b8)),
  ([0, 11, 28], [.sym 13, .lit (.int .i64 0)], .lit (.bool b9)),
  ([0, 12, 28], [.sym 31, .lit (.int .i64 0)], .lit (.bool (!b10))),
  ([0, 12, 24], [.agg [.sym 28, .sym 29, .sym 30], .agg [.sym 0, .sym 1, .sym 2]], .lit (.bool (!b11))),
  ([0, 11, 28], [.sym 35, .lit (.int .i64 0)], .lit (.bool b12)),
  ([0, 12, 3], [.sym 37, .sym 36], .lit (.bool (!b13))),
  ([0, 12, 24], [.agg [.sym 38, .sym 39, .sym 40], .agg [.sym 50, .sym 51, .sym 52]], .lit (.bool (!b15))),
  ([0, 14, 3], [.sym 66, .lit (.int .i64 0)], .lit (.bool b17)),
  ([0, 15, 3], [.sym 67, .lit (.int .i64 0)], .lit (.bool b18)),
  ([0, 11, 24], [.agg [.sym 54, .sym 55, .sym 56], .lit (.agg #[.bool false, .string ⟨#[]⟩, .int .i64 0])], .lit (.bool b19)),
  ([0, 16, 3], [.sym 56, .sym 9], .lit (.bool b20)),
  ([0, 11, 3], [.sym 68, .lit (.int .i64 0)], .lit (.bool b21))],
  [(19, [], .lit (.bool true)),
  (15, [.agg [.sym 0, .sym 1, .sym 2]], .lit (.int .i64 0)),
  (15, [.agg [.sym 3, .sym 4, .sym 5]], .lit (.int .i64 0)),
  (15, [.agg [.sym 6, .sym 7, .sym 8]], .lit (.int .i64 0)),
  (53, [.row 3 0 [.lit (.int .i64 0), .lit (.int .i64 0), .lit (.int .i64 0)]], .lit (.bool b1)),
  (40, [.agg [.sym 0, .sym 1, .sym 2], .agg [.sym 3, .sym 4, .sym 5]], .tup [.agg [.sym 10, .sym 11, .sym 12], .sym 13]),
  (40, [.agg [.sym 3, .sym 4, .sym 5], .agg [.sym 0, .sym 1, .sym 2]], .tup [.agg [.sym 14, .sym 15, .sym 16], .sym 17]),
  (42, [.agg [.sym 0, .sym 1, .sym 2], .agg [.sym 3, .sym 4, .sym 5]], .tup [.agg [.sym 18, .sym 19, .sym 20], .sym 21]),
  (42, [.agg [.sym 3, .sym 4, .sym 5], .agg [.sym 0, .sym 1, .sym 2]], .tup [.agg [.sym 22, .sym 23, .sym 24], .sym 25]),
  (16, [.agg [.sym 18, .sym 19, .sym 20]], .sym 26),
  (16, [.agg [.sym 0, .sym 1, .sym 2]], .sym 27),
  (41, [.agg [.sym 10, .sym 11, .sym 12], .agg [.sym 3, .sym 4, .sym 5]], .tup [.agg [.sym 28, .sym 29, .sym 30], .sym 31]),
  (41, [.agg [.sym 0, .sym 1, .sym 2], .agg [.sym 3, .sym 4, .sym 5]], .tup [.agg [.sym 32, .sym 33, .sym 34], .sym 35]),
  (36, [.agg [.sym 0, .sym 1, .sym 2], .agg [.sym 3, .sym 4, .sym 5]], .tup [.sym 36, .lit (.int .i64 0)]),
  (16, [.agg [.sym 32, .sym 33, .sym 34]], .sym 37),
  (42, [.agg [.sym 10, .sym 11, .sym 12], .agg [.sym 6, .sym 7, .sym 8]], .tup [.agg [.sym 38, .sym 39, .sym 40], .sym 41]),
  (42, [.agg [.sym 0, .sym 1, .sym 2], .agg [.sym 6, .sym 7, .sym 8]], .tup [.agg [.sym 42, .sym 43, .sym 44], .sym 45]),
  (42, [.agg [.sym 3, .sym 4, .sym 5], .agg [.sym 6, .sym 7, .sym 8]], .tup [.agg [.sym 46, .sym 47, .sym 48], .sym 49]),
  (40, [.agg [.sym 42, .sym 43, .sym 44], .agg [.sym 46, .sym 47, .sym 48]], .tup [.agg [.sym 50, .sym 51, .sym 52], .sym 53]),
  (53, [.row 5 0 [.sym 13, .sym 41, .sym 45, .sym 49, .sym 53]], .lit (.bool b14)),
  (50, [.agg [.sym 0, .sym 1, .sym 2], .sym 9], .tup [.agg [.sym 54, .sym 55, .sym 56], .sym 57]),
  (23, [.lit (.int .i64 1), .sym 9], .tup [.agg [.sym 58, .sym 59, .sym 60], .sym 61]),
  (40, [.agg [.sym 54, .sym 55, .sym 56], .agg [.sym 58, .sym 59, .sym 60]], .tup [.agg [.sym 62, .sym 63, .sym 64], .sym 65]),
  (53, [.row 3 0 [.sym 57, .sym 61, .sym 65]], .lit (.bool b16)),
  (36, [.agg [.sym 54, .sym 55, .sym 56], .agg [.sym 0, .sym 1, .sym 2]], .tup [.sym 66, .lit (.int .i64 0)]),
  (36, [.agg [.sym 62, .sym 63, .sym 64], .agg [.sym 0, .sym 1, .sym 2]], .tup [.sym 67, .lit (.int .i64 0)]),
  (16, [.agg [.sym 3, .sym 4, .sym 5]], .sym 68)]⟩
theorem Ring_r1 (b20 b21 : Bool) : @comes (Ring_k true true true true true true true true true true true true true true true true true true true b20 b21) Tryd.prog glT 3000 10 [.agg [.sym 0, .sym 1, .sym 2], .agg [.sym 3, .sym 4, .sym 5], .agg [.sym 6, .sym 7, .sym 8], .sym 9] = some (.lit (.bool true)) := by kernel_rfl
theorem Ring_r2 (b21 : Bool) : @comes (Ring_k true true true true true true true true true true true true true true true true true true false true b21) Tryd.prog glT 3000 10 [.agg [.sym 0, .sym 1, .sym 2], .agg [.sym 3, .sym 4, .sym 5], .agg [.sym 6, .sym 7, .sym 8], .sym 9] = some (.lit (.bool true)) := by kernel_rfl
theorem Ring_r3 (b17 b18 b19 b20 b21 : Bool) : @comes (Ring_k true true true true true true true true true true true true true true true false b17 b18 b19 b20 b21) Tryd.prog glT 3000 10 [.agg [.sym 0, .sym 1, .sym 2], .agg [.sym 3, .sym 4, .sym 5], .agg [.sym 6, .sym 7, .sym 8], .sym 9] = some (.lit (.bool true)) := by kernel_rfl
theorem Ring_r4 (b15 b20 b21 : Bool) : @comes (Ring_k true true true true true true true true true true true true true false b15 true true true true b20 b21) Tryd.prog glT 3000 10 [.agg [.sym 0, .sym 1, .sym 2], .agg [.sym 3, .sym 4, .sym 5], .agg [.sym 6, .sym 7, .sym 8], .sym 9] = some (.lit (.bool true)) := by kernel_rfl
theorem Ring_r5 (b15 b21 : Bool) : @comes (Ring_k true true true true true true true true true true true true true false b15 true true true false true b21) Tryd.prog glT 3000 10 [.agg [.sym 0, .sym 1, .sym 2], .agg [.sym 3, .sym 4, .sym 5], .agg [.sym 6, .sym 7, .sym 8], .sym 9] = some (.lit (.bool true)) := by kernel_rfl
theorem Ring_r6 (b15 b17 b18 b19 b20 b21 : Bool) : @comes (Ring_k true true true true true true true true true true true true true false b15 false b17 b18 b19 b20 b21) Tryd.prog glT 3000 10 [.agg [.sym 0, .sym 1, .sym 2], .agg [.sym 3, .sym 4, .sym 5], .agg [.sym 6, .sym 7, .sym 8], .sym 9] = some (.lit (.bool true)) := by kernel_rfl
theorem Ring_r7 (b13 b20 b21 : Bool) : @comes (Ring_k true true true true true true true true true true true false b13 true true true true true true b20 b21) Tryd.prog glT 3000 10 [.agg [.sym 0, .sym 1, .sym 2], .agg [.sym 3, .sym 4, .sym 5], .agg [.sym 6, .sym 7, .sym 8], .sym 9] = some (.lit (.bool true)) := by kernel_rfl
theorem Ring_r8 (b13 b21 : Bool) : @comes (Ring_k true true true true true true true true true true true false b13 true true true true true false true b21) Tryd.prog glT 3000 10 [.agg [.sym 0, .sym 1, .sym 2], .agg [.sym 3, .sym 4, .sym 5], .agg [.sym 6, .sym 7, .sym 8], .sym 9] = some (.lit (.bool true)) := by kernel_rfl
theorem Ring_r9 (b13 b17 b18 b19 b20 b21 : Bool) : @comes (Ring_k true true true true true true true true true true true false b13 true true false b17 b18 b19 b20 b21) Tryd.prog glT 3000 10 [.agg [.sym 0, .sym 1, .sym 2], .agg [.sym 3, .sym 4, .sym 5], .agg [.sym 6, .sym 7, .sym 8], .sym 9] = some (.lit (.bool true)) := by kernel_rfl
theorem Ring_r10 (b13 b15 b20 b21 : Bool) : @comes (Ring_k true true true true true true true true true true true false b13 false b15 true true true true b20 b21) Tryd.prog glT 3000 10 [.agg [.sym 0, .sym 1, .sym 2], .agg [.sym 3, .sym 4, .sym 5], .agg [.sym 6, .sym 7, .sym 8], .sym 9] = some (.lit (.bool true)) := by kernel_rfl
theorem Ring_r11 (b13 b15 b21 : Bool) : @comes (Ring_k true true true true true true true true true true true false b13 false b15 true true true false true b21) Tryd.prog glT 3000 10 [.agg [.sym 0, .sym 1, .sym 2], .agg [.sym 3, .sym 4, .sym 5], .agg [.sym 6, .sym 7, .sym 8], .sym 9] = some (.lit (.bool true)) := by kernel_rfl
theorem Ring_r12 (b13 b15 b17 b18 b19 b20 b21 : Bool) : @comes (Ring_k true true true true true true true true true true true false b13 false b15 false b17 b18 b19 b20 b21) Tryd.prog glT 3000 10 [.agg [.sym 0, .sym 1, .sym 2], .agg [.sym 3, .sym 4, .sym 5], .agg [.sym 6, .sym 7, .sym 8], .sym 9] = some (.lit (.bool true)) := by kernel_rfl
theorem Ring_r13 (b10 b11 b20 b21 : Bool) : @comes (Ring_k true true true true true true true true false b10 b11 true true true true true true true true b20 b21) Tryd.prog glT 3000 10 [.agg [.sym 0, .sym 1, .sym 2], .agg [.sym 3, .sym 4, .sym 5], .agg [.sym 6, .sym 7, .sym 8], .sym 9] = some (.lit (.bool true)) := by kernel_rfl
theorem Ring_r14 (b10 b11 b21 : Bool) : @comes (Ring_k true true true true true true true true false b10 b11 true true true true true true true false true b21) Tryd.prog glT 3000 10 [.agg [.sym 0, .sym 1, .sym 2], .agg [.sym 3, .sym 4, .sym 5], .agg [.sym 6, .sym 7, .sym 8], .sym 9] = some (.lit (.bool true)) := by kernel_rfl
theorem Ring_r15 (b10 b11 b17 b18 b19 b20 b21 : Bool) : @comes (Ring_k true true true true true true true true false b10 b11 true true true true false b17 b18 b19 b20 b21) Tryd.prog glT 3000 10 [.agg [.sym 0, .sym 1, .sym 2], .agg [.sym 3, .sym 4, .sym 5], .agg [.sym 6, .sym 7, .sym 8], .sym 9] = some (.lit (.bool true)) := by kernel_rfl
theorem Ring_r16 (b10 b11 b15 b20 b21 : Bool) : @comes (Ring_k true true true true true true true true false b10 b11 true true false b15 true true true true b20 b21) Tryd.prog glT 3000 10 [.agg [.sym 0, .sym 1, .sym 2], .agg [.sym 3, .sym 4, .sym 5], .agg [.sym 6, .sym 7, .sym 8], .sym 9] = some (.lit (.bool true)) := by kernel_rfl
theorem Ring_r17 (b10 b11 b15 b21 : Bool) : @comes (Ring_k true true true true true true true true false b10 b11 true true false b15 true true true false true b21) Tryd.prog glT 3000 10 [.agg [.sym 0, .sym 1, .sym 2], .agg [.sym 3, .sym 4, .sym 5], .agg [.sym 6, .sym 7, .sym 8], .sym 9] = some (.lit (.bool true)) := by kernel_rfl
theorem Ring_r18 (b10 b11 b15 b17 b18 b19 b20 b21 : Bool) : @comes (Ring_k true true true true true true true true false b10 b11 true true false b15 false b17 b18 b19 b20 b21) Tryd.prog glT 3000 10 [.agg [.sym 0, .sym 1, .sym 2], .agg [.sym 3, .sym 4, .sym 5], .agg [.sym 6, .sym 7, .sym 8], .sym 9] = some (.lit (.bool true)) := by kernel_rfl
theorem Ring_r19 (b10 b11 b13 b20 b21 : Bool) : @comes (Ring_k true true true true true true true true false b10 b11 false b13 true true true true true true b20 b21) Tryd.prog glT 3000 10 [.agg [.sym 0, .sym 1, .sym 2], .agg [.sym 3, .sym 4, .sym 5], .agg [.sym 6, .sym 7, .sym 8], .sym 9] = some (.lit (.bool true)) := by kernel_rfl
theorem Ring_r20 (b10 b11 b13 b21 : Bool) : @comes (Ring_k true true true true true true true true false b10 b11 false b13 true true true true true false true b21) Tryd.prog glT 3000 10 [.agg [.sym 0, .sym 1, .sym 2], .agg [.sym 3, .sym 4, .sym 5], .agg [.sym 6, .sym 7, .sym 8], .sym 9] = some (.lit (.bool true)) := by kernel_rfl
theorem Ring_r21 (b10 b11 b13 b17 b18 b19 b20 b21 : Bool) : @comes (Ring_k true true true true true true true true false b10 b11 false b13 true true false b17 b18 b19 b20 b21) Tryd.prog glT 3000 10 [.agg [.sym 0, .sym 1, .sym 2], .agg [.sym 3, .sym 4, .sym 5], .agg [.sym 6, .sym 7, .sym 8], .sym 9] = some (.lit (.bool true)) := by kernel_rfl
theorem Ring_r22 (b10 b11 b13 b15 b20 b21 : Bool) : @comes (Ring_k true true true true true true true true false b10 b11 false b13 false b15 true true true true b20 b21) Tryd.prog glT 3000 10 [.agg [.sym 0, .sym 1, .sym 2], .agg [.sym 3, .sym 4, .sym 5], .agg [.sym 6, .sym 7, .sym 8], .sym 9] = some (.lit (.bool true)) := by kernel_rfl
theorem Ring_r23 (b10 b11 b13 b15 b21 : Bool) : @comes (Ring_k true true true true true true true true false b10 b11 false b13 false b15 true true true false true b21) Tryd.prog glT 3000 10 [.agg [.sym 0, .sym 1, .sym 2], .agg [.sym 3, .sym 4, .sym 5], .agg [.sym 6, .sym 7, .sym 8], .sym 9] = some (.lit (.bool true)) := by kernel_rfl
theorem Ring_r24 (b10 b11 b13 b15 b17 b18 b19 b20 b21 : Bool) : @comes (Ring_k true true true true true true true true false b10 b11 false b13 false b15 false b17 b18 b19 b20 b21) Tryd.prog glT 3000 10 [.agg [.sym 0, .sym 1, .sym 2], .agg [.sym 3, .sym 4, .sym 5], .agg [.sym 6, .sym 7, .sym 8], .sym 9] = some (.lit (.bool true)) := by kernel_rfl
theorem Ring_r25 (b20 : Bool) : @comes (Ring_k true true true true true true true false true true true true true true true true true true true b20 true) Tryd.prog glT 3000 10 [.agg [.sym 0, .sym 1, .sym 2], .agg [.sym 3, .sym 4, .sym 5], .agg [.sym 6, .sym 7, .sym 8], .sym 9] = some (.lit (.bool true)) := by kernel_rfl
theorem Ring_r26 : @comes (Ring_k true true true true true true true false true true true true true true true true true true false true true) Tryd.prog glT 3000 10 [.agg [.sym 0, .sym 1, .sym 2], .agg [.sym 3, .sym 4, .sym 5], .agg [.sym 6, .sym 7, .sym 8], .sym 9] = some (.lit (.bool true)) := by kernel_rfl
theorem Ring_r27 (b17 b18 b19 b20 : Bool) : @comes (Ring_k true true true true true true true false true true true true true true true false b17 b18 b19 b20 true) Tryd.prog glT 3000 10 [.agg [.sym 0, .sym 1, .sym 2], .agg [.sym 3, .sym 4, .sym 5], .agg [.sym 6, .sym 7, .sym 8], .sym 9] = some (.lit (.bool true)) := by kernel_rfl
theorem Ring_r28 (b15 b20 : Bool) : @comes (Ring_k true true true true true true true false true true true true true false b15 true true true true b20 true) Tryd.prog glT 3000 10 [.agg [.sym 0, .sym 1, .sym 2], .agg [.sym 3, .sym 4, .sym 5], .agg [.sym 6, .sym 7, .sym 8], .sym 9] = some (.lit (.bool true)) := by kernel_rfl
theorem Ring_r29 (b15 : Bool) : @comes (Ring_k true true true true true true true false true true true true true false b15 true true true false true true) Tryd.prog glT 3000 10 [.agg [.sym 0, .sym 1, .sym 2], .agg [.sym 3, .sym 4, .sym 5], .agg [.sym 6, .sym 7, .sym 8], .sym 9] = some (.lit (.bool true)) := by kernel_rfl
theorem Ring_r30 (b15 b17 b18 b19 b20 : Bool) : @comes (Ring_k true true true true true true true false true true true true true false b15 false b17 b18 b19 b20 true) Tryd.prog glT 3000 10 [.agg [.sym 0, .sym 1, .sym 2], .agg [.sym 3, .sym 4, .sym 5], .agg [.sym 6, .sym 7, .sym 8], .sym 9] = some (.lit (.bool true)) := by kernel_rfl
theorem Ring_r31 (b13 b20 : Bool) : @comes (Ring_k true true true true true true true false true true true false b13 true true true true true true b20 true) Tryd.prog glT 3000 10 [.agg [.sym 0, .sym 1, .sym 2], .agg [.sym 3, .sym 4, .sym 5], .agg [.sym 6, .sym 7, .sym 8], .sym 9] = some (.lit (.bool true)) := by kernel_rfl
theorem Ring_r32 (b13 : Bool) : @comes (Ring_k true true true true true true true false true true true false b13 true true true true true false true true) Tryd.prog glT 3000 10 [.agg [.sym 0, .sym 1, .sym 2], .agg [.sym 3, .sym 4, .sym 5], .agg [.sym 6, .sym 7, .sym 8], .sym 9] = some (.lit (.bool true)) := by kernel_rfl
theorem Ring_r33 (b13 b17 b18 b19 b20 : Bool) : @comes (Ring_k true true true true true true true false true true true false b13 true true false b17 b18 b19 b20 true) Tryd.prog glT 3000 10 [.agg [.sym 0, .sym 1, .sym 2], .agg [.sym 3, .sym 4, .sym 5], .agg [.sym 6, .sym 7, .sym 8], .sym 9] = some (.lit (.bool true)) := by kernel_rfl
theorem Ring_r34 (b13 b15 b20 : Bool) : @comes (Ring_k true true true true true true true false true true true false b13 false b15 true true true true b20 true) Tryd.prog glT 3000 10 [.agg [.sym 0, .sym 1, .sym 2], .agg [.sym 3, .sym 4, .sym 5], .agg [.sym 6, .sym 7, .sym 8], .sym 9] = some (.lit (.bool true)) := by kernel_rfl
theorem Ring_r35 (b13 b15 : Bool) : @comes (Ring_k true true true true true true true false true true true false b13 false b15 true true true false true true) Tryd.prog glT 3000 10 [.agg [.sym 0, .sym 1, .sym 2], .agg [.sym 3, .sym 4, .sym 5], .agg [.sym 6, .sym 7, .sym 8], .sym 9] = some (.lit (.bool true)) := by kernel_rfl
theorem Ring_r36 (b13 b15 b17 b18 b19 b20 : Bool) : @comes (Ring_k true true true true true true true false true true true false b13 false b15 false b17 b18 b19 b20 true) Tryd.prog glT 3000 10 [.agg [.sym 0, .sym 1, .sym 2], .agg [.sym 3, .sym 4, .sym 5], .agg [.sym 6, .sym 7, .sym 8], .sym 9] = some (.lit (.bool true)) := by kernel_rfl
theorem Ring_r37 (b10 b11 b20 : Bool) : @comes (Ring_k true true true true true true true false false b10 b11 true true true true true true true true b20 true) Tryd.prog glT 3000 10 [.agg [.sym 0, .sym 1, .sym 2], .agg [.sym 3, .sym 4, .sym 5], .agg [.sym 6, .sym 7, .sym 8], .sym 9] = some (.lit (.bool true)) := by kernel_rfl
theorem Ring_r38 (b10 b11 : Bool) : @comes (Ring_k true true true true true true true false false b10 b11 true true true true true true true false true true) Tryd.prog glT 3000 10 [.agg [.sym 0, .sym 1, .sym 2], .agg [.sym 3, .sym 4, .sym 5], .agg [.sym 6, .sym 7, .sym 8], .sym 9] = some (.lit (.bool true)) := by kernel_rfl
theorem Ring_r39 (b10 b11 b17 b18 b19 b20 : Bool) : @comes (Ring_k true true true true true true true false false b10 b11 true true true true false b17 b18 b19 b20 true) Tryd.prog glT 3000 10 [.agg [.sym 0, .sym 1, .sym 2], .agg [.sym 3, .sym 4, .sym 5], .agg [.sym 6, .sym 7, .sym 8], .sym 9] = some (.lit (.bool true)) := by kernel_rfl
theorem Ring_r40 (b10 b11 b15 b20 : Bool) : @comes (Ring_k true true true true true true true false false b10 b11 true true false b15 true true true true b20 true) Tryd.prog glT 3000 10 [.agg [.sym 0, .sym 1, .sym 2], .agg [.sym 3, .sym 4, .sym 5], .agg [.sym 6, .sym 7, .sym 8], .sym 9] = some (.lit (.bool true)) := by kernel_rfl
theorem Ring_r41 (b10 b11 b15 : Bool) : @comes (Ring_k true true true true true true true false false b10 b11 true true false b15 true true true false true true) Tryd.prog glT 3000 10 [.agg [.sym 0, .sym 1, .sym 2], .agg [.sym 3, .sym 4, .sym 5], .agg [.sym 6, .sym 7, .sym 8], .sym 9] = some (.lit (.bool true)) := by kernel_rfl
theorem Ring_r42 (b10 b11 b15 b17 b18 b19 b20 : Bool) : @comes (Ring_k true true true true true true true false false b10 b11 true true false b15 false b17 b18 b19 b20 true) Tryd.prog glT 3000 10 [.agg [.sym 0, .sym 1, .sym 2], .agg [.sym 3, .sym 4, .sym 5], .agg [.sym 6, .sym 7, .sym 8], .sym 9] = some (.lit (.bool true)) := by kernel_rfl
theorem Ring_r43 (b10 b11 b13 b20 : Bool) : @comes (Ring_k true true true true true true true false false b10 b11 false b13 true true true true true true b20 true) Tryd.prog glT 3000 10 [.agg [.sym 0, .sym 1, .sym 2], .agg [.sym 3, .sym 4, .sym 5], .agg [.sym 6, .sym 7, .sym 8], .sym 9] = some (.lit (.bool true)) := by kernel_rfl
theorem Ring_r44 (b10 b11 b13 : Bool) : @comes (Ring_k true true true true true true true false false b10 b11 false b13 true true true true true false true true) Tryd.prog glT 3000 10 [.agg [.sym 0, .sym 1, .sym 2], .agg [.sym 3, .sym 4, .sym 5], .agg [.sym 6, .sym 7, .sym 8], .sym 9] = some (.lit (.bool true)) := by kernel_rfl
theorem Ring_r45 (b10 b11 b13 b17 b18 b19 b20 : Bool) : @comes (Ring_k true true true true true true true false false b10 b11 false b13 true true false b17 b18 b19 b20 true) Tryd.prog glT 3000 10 [.agg [.sym 0, .sym 1, .sym 2], .agg [.sym 3, .sym 4, .sym 5], .agg [.sym 6, .sym 7, .sym 8], .sym 9] = some (.lit (.bool true)) := by kernel_rfl
theorem Ring_r46 (b10 b11 b13 b15 b20 : Bool) : @comes (Ring_k true true true true true true true false false b10 b11 false b13 false b15 true true true true b20 true) Tryd.prog glT 3000 10 [.agg [.sym 0, .sym 1, .sym 2], .agg [.sym 3, .sym 4, .sym 5], .agg [.sym 6, .sym 7, .sym 8], .sym 9] = some (.lit (.bool true)) := by kernel_rfl
theorem Ring_r47 (b10 b11 b13 b15 : Bool) : @comes (Ring_k true true true true true true true false false b10 b11 false b13 false b15 true true true false true true) Tryd.prog glT 3000 10 [.agg [.sym 0, .sym 1, .sym 2], .agg [.sym 3, .sym 4, .sym 5], .agg [.sym 6, .sym 7, .sym 8], .sym 9] = some (.lit (.bool true)) := by kernel_rfl
theorem Ring_r48 (b10 b11 b13 b15 b17 b18 b19 b20 : Bool) : @comes (Ring_k true true true true true true true false false b10 b11 false b13 false b15 false b17 b18 b19 b20 true) Tryd.prog glT 3000 10 [.agg [.sym 0, .sym 1, .sym 2], .agg [.sym 3, .sym 4, .sym 5], .agg [.sym 6, .sym 7, .sym 8], .sym 9] = some (.lit (.bool true)) := by kernel_rfl
theorem Ring_r49 (b20 : Bool) : @comes (Ring_k true true true true true true false false true true true true true true true true true true true b20 false) Tryd.prog glT 3000 10 [.agg [.sym 0, .sym 1, .sym 2], .agg [.sym 3, .sym 4, .sym 5], .agg [.sym 6, .sym 7, .sym 8], .sym 9] = some (.lit (.bool true)) := by kernel_rfl
theorem Ring_r50 : @comes (Ring_k true true true true true true false false true true true true true true true true true true false true false) Tryd.prog glT 3000 10 [.agg [.sym 0, .sym 1, .sym 2], .agg [.sym 3, .sym 4, .sym 5], .agg [.sym 6, .sym 7, .sym 8], .sym 9] = some (.lit (.bool true)) := by kernel_rfl
theorem Ring_r51 (b17 b18 b19 b20 : Bool) : @comes (Ring_k true true true true true true false false true true true true true true true false b17 b18 b19 b20 false) Tryd.prog glT 3000 10 [.agg [.sym 0, .sym 1, .sym 2], .agg [.sym 3, .sym 4, .sym 5], .agg [.sym 6, .sym 7, .sym 8], .sym 9] = some (.lit (.bool true)) := by kernel_rfl
theorem Ring_r52 (b15 b20 : Bool) : @comes (Ring_k true true true true true true false false true true true true true false b15 true true true true b20 false) Tryd.prog glT 3000 10 [.agg [.sym 0, .sym 1, .sym 2], .agg [.sym 3, .sym 4, .sym 5], .agg [.sym 6, .sym 7, .sym 8], .sym 9] = some (.lit (.bool true)) := by kernel_rfl
theorem Ring_r53 (b15 : Bool) : @comes (Ring_k true true true true true true false false true true true true true false b15 true true true false true false) Tryd.prog glT 3000 10 [.agg [.sym 0, .sym 1, .sym 2], .agg [.sym 3, .sym 4, .sym 5], .agg [.sym 6, .sym 7, .sym 8], .sym 9] = some (.lit (.bool true)) := by kernel_rfl
theorem Ring_r54 (b15 b17 b18 b19 b20 : Bool) : @comes (Ring_k true true true true true true false false true true true true true false b15 false b17 b18 b19 b20 false) Tryd.prog glT 3000 10 [.agg [.sym 0, .sym 1, .sym 2], .agg [.sym 3, .sym 4, .sym 5], .agg [.sym 6, .sym 7, .sym 8], .sym 9] = some (.lit (.bool true)) := by kernel_rfl
theorem Ring_r55 (b13 b20 : Bool) : @comes (Ring_k true true true true true true false false true true true false b13 true true true true true true b20 false) Tryd.prog glT 3000 10 [.agg [.sym 0, .sym 1, .sym 2], .agg [.sym 3, .sym 4, .sym 5], .agg [.sym 6, .sym 7, .sym 8], .sym 9] = some (.lit (.bool true)) := by kernel_rfl
theorem Ring_r56 (b13 : Bool) : @comes (Ring_k true true true true true true false false true true true false b13 true true true true true false true false) Tryd.prog glT 3000 10 [.agg [.sym 0, .sym 1, .sym 2], .agg [.sym 3, .sym 4, .sym 5], .agg [.sym 6, .sym 7, .sym 8], .sym 9] = some (.lit (.bool true)) := by kernel_rfl
theorem Ring_r57 (b13 b17 b18 b19 b20 : Bool) : @comes (Ring_k true true true true true true false false true true true false b13 true true false b17 b18 b19 b20 false) Tryd.prog glT 3000 10 [.agg [.sym 0, .sym 1, .sym 2], .agg [.sym 3, .sym 4, .sym 5], .agg [.sym 6, .sym 7, .sym 8], .sym 9] = some (.lit (.bool true)) := by kernel_rfl
theorem Ring_r58 (b13 b15 b20 : Bool) : @comes (Ring_k true true true true true true false false true true true false b13 false b15 true true true true b20 false) Tryd.prog glT 3000 10 [.agg [.sym 0, .sym 1, .sym 2], .agg [.sym 3, .sym 4, .sym 5], .agg [.sym 6, .sym 7, .sym 8], .sym 9] = some (.lit (.bool true)) := by kernel_rfl
theorem Ring_r59 (b13 b15 : Bool) : @comes (Ring_k true true true true true true false false true true true false b13 false b15 true true true false true false) Tryd.prog glT 3000 10 [.agg [.sym 0, .sym 1, .sym 2], .agg [.sym 3, .sym 4, .sym 5], .agg [.sym 6, .sym 7, .sym 8], .sym 9] = some (.lit (.bool true)) := by kernel_rfl
theorem Ring_r60 (b13 b15 b17 b18 b19 b20 : Bool) : @comes (Ring_k true true true true true true false false true true true false b13 false b15 false b17 b18 b19 b20 false) Tryd.prog glT 3000 10 [.agg [.sym 0, .sym 1, .sym 2], .agg [.sym 3, .sym 4, .sym 5], .agg [.sym 6, .sym 7, .sym 8], .sym 9] = some (.lit (.bool true)) := by kernel_rfl
theorem Ring_r61 (b10 b11 b20 : Bool) : @comes (Ring_k true true true true true true false false false b10 b11 true true true true true true true true b20 false) Tryd.prog glT 3000 10 [.agg [.sym 0, .sym 1, .sym 2], .agg [.sym 3, .sym 4, .sym 5], .agg [.sym 6, .sym 7, .sym 8], .sym 9] = some (.lit (.bool true)) := by kernel_rfl
theorem Ring_r62 (b10 b11 : Bool) : @comes (Ring_k true true true true true true false false false b10 b11 true true true true true true true false true false) Tryd.prog glT 3000 10 [.agg [.sym 0, .sym 1, .sym 2], .agg [.sym 3, .sym 4, .sym 5], .agg [.sym 6, .sym 7, .sym 8], .sym 9] = some (.lit (.bool true)) := by kernel_rfl
theorem Ring_r63 (b10 b11 b17 b18 b19 b20 : Bool) : @comes (Ring_k true true true true true true false false false b10 b11 true true true true false b17 b18 b19 b20 false) Tryd.prog glT 3000 10 [.agg [.sym 0, .sym 1, .sym 2], .agg [.sym 3, .sym 4, .sym 5], .agg [.sym 6, .sym 7, .sym 8], .sym 9] = some (.lit (.bool true)) := by kernel_rfl
theorem Ring_r64 (b10 b11 b15 b20 : Bool) : @comes (Ring_k true true true true true true false false false b10 b11 true true false b15 true true true true b20 false) Tryd.prog glT 3000 10 [.agg [.sym 0, .sym 1, .sym 2], .agg [.sym 3, .sym 4, .sym 5], .agg [.sym 6, .sym 7, .sym 8], .sym 9] = some (.lit (.bool true)) := by kernel_rfl
theorem Ring_r65 (b10 b11 b15 : Bool) : @comes (Ring_k true true true true true true false false false b10 b11 true true false b15 true true true false true false) Tryd.prog glT 3000 10 [.agg [.sym 0, .sym 1, .sym 2], .agg [.sym 3, .sym 4, .sym 5], .agg [.sym 6, .sym 7, .sym 8], .sym 9] = some (.lit (.bool true)) := by kernel_rfl
theorem Ring_r66 (b10 b11 b15 b17 b18 b19 b20 : Bool) : @comes (Ring_k true true true true true true false false false b10 b11 true true false b15 false b17 b18 b19 b20 false) Tryd.prog glT 3000 10 [.agg [.sym 0, .sym 1, .sym 2], .agg [.sym 3, .sym 4, .sym 5], .agg [.sym 6, .sym 7, .sym 8], .sym 9] = some (.lit (.bool true)) := by kernel_rfl
theorem Ring_r67 (b10 b11 b13 b20 : Bool) : @comes (Ring_k true true true true true true false false false b10 b11 false b13 true true true true true true b20 false) Tryd.prog glT 3000 10 [.agg [.sym 0, .sym 1, .sym 2], .agg [.sym 3, .sym 4, .sym 5], .agg [.sym 6, .sym 7, .sym 8], .sym 9] = some (.lit (.bool true)) := by kernel_rfl
theorem Ring_r68 (b10 b11 b13 : Bool) : @comes (Ring_k true true true true true true false false false b10 b11 false b13 true true true true true false true false) Tryd.prog glT 3000 10 [.agg [.sym 0, .sym 1, .sym 2], .agg [.sym 3, .sym 4, .sym 5], .agg [.sym 6, .sym 7, .sym 8], .sym 9] = some (.lit (.bool true)) := by kernel_rfl
theorem Ring_r69 (b10 b11 b13 b17 b18 b19 b20 : Bool) : @comes (Ring_k true true true true true true false false false b10 b11 false b13 true true false b17 b18 b19 b20 false) Tryd.prog glT 3000 10 [.agg [.sym 0, .sym 1, .sym 2], .agg [.sym 3, .sym 4, .sym 5], .agg [.sym 6, .sym 7, .sym 8], .sym 9] = some (.lit (.bool true)) := by kernel_rfl
theorem Ring_r70 (b10 b11 b13 b15 b20 : Bool) : @comes (Ring_k true true true true true true false false false b10 b11 false b13 false b15 true true true true b20 false) Tryd.prog glT 3000 10 [.agg [.sym 0, .sym 1, .sym 2], .agg [.sym 3, .sym 4, .sym 5], .agg [.sym 6, .sym 7, .sym 8], .sym 9] = some (.lit (.bool true)) := by kernel_rfl
theorem Ring_r71 (b10 b11 b13 b15 : Bool) : @comes (Ring_k true true true true true true false false false b10 b11 false b13 false b15 true true true false true false) Tryd.prog glT 3000 10 [.agg [.sym 0, .sym 1, .sym 2], .agg [.sym 3, .sym 4, .sym 5], .agg [.sym 6, .sym 7, .sym 8], .sym 9] = some (.lit (.bool true)) := by kernel_rfl
theorem Ring_r72 (b10 b11 b13 b15 b17 b18 b19 b20 : Bool) : @comes (Ring_k true true true true true true false false false b10 b11 false b13 false b15 false b17 b18 b19 b20 false) Tryd.prog glT 3000 10 [.agg [.sym 0, .sym 1, .sym 2], .agg [.sym 3, .sym 4, .sym 5], .agg [.sym 6, .sym 7, .sym 8], .sym 9] = some (.lit (.bool true)) := by kernel_rfl
theorem Ring_r73 (b7 b8 b20 b21 : Bool) : @comes (Ring_k true true true true true false b7 b8 true true true true true true true true true true true b20 b21) Tryd.prog glT 3000 10 [.agg [.sym 0, .sym 1, .sym 2], .agg [.sym 3, .sym 4, .sym 5], .agg [.sym 6, .sym 7, .sym 8], .sym 9] = some (.lit (.bool true)) := by kernel_rfl
theorem Ring_r74 (b7 b8 b21 : Bool) : @comes (Ring_k true true true true true false b7 b8 true true true true true true true true true true false true b21) Tryd.prog glT 3000 10 [.agg [.sym 0, .sym 1, .sym 2], .agg [.sym 3, .sym 4, .sym 5], .agg [.sym 6, .sym 7, .sym 8], .sym 9] = some (.lit (.bool true)) := by kernel_rfl
theorem Ring_r75 (b7 b8 b17 b18 b19 b20 b21 : Bool) : @comes (Ring_k true true true true true false b7 b8 true true true true true true true false b17 b18 b19 b20 b21) Tryd.prog glT 3000 10 [.agg [.sym 0, .sym 1, .sym 2], .agg [.sym 3, .sym 4, .sym 5], .agg [.sym 6, .sym 7, .sym 8], .sym 9] = some (.lit (.bool true)) := by kernel_rfl
theorem Ring_r76 (b7 b8 b15 b20 b21 : Bool) : @comes (Ring_k true true true true true false b7 b8 true true true true true false b15 true true true true b20 b21) Tryd.prog glT 3000 10 [.agg [.sym 0, .sym 1, .sym 2], .agg [.sym 3, .sym 4, .sym 5], .agg [.sym 6, .sym 7, .sym 8], .sym 9] = some (.lit (.bool true)) := by kernel_rfl
theorem Ring_r77 (b7 b8 b15 b21 : Bool) : @comes (Ring_k true true true true true false b7 b8 true true true true true false b15 true true true false true b21) Tryd.prog glT 3000 10 [.agg [.sym 0, .sym 1, .sym 2], .agg [.sym 3, .sym 4, .sym 5], .agg [.sym 6, .sym 7, .sym 8], .sym 9] = some (.lit (.bool true)) := by kernel_rfl
theorem Ring_r78 (b7 b8 b15 b17 b18 b19 b20 b21 : Bool) : @comes (Ring_k true true true true true false b7 b8 true true true true true false b15 false b17 b18 b19 b20 b21) Tryd.prog glT 3000 10 [.agg [.sym 0, .sym 1, .sym 2], .agg [.sym 3, .sym 4, .sym 5], .agg [.sym 6, .sym 7, .sym 8], .sym 9] = some (.lit (.bool true)) := by kernel_rfl
theorem Ring_r79 (b7 b8 b13 b20 b21 : Bool) : @comes (Ring_k true true true true true false b7 b8 true true true false b13 true true true true true true b20 b21) Tryd.prog glT 3000 10 [.agg [.sym 0, .sym 1, .sym 2], .agg [.sym 3, .sym 4, .sym 5], .agg [.sym 6, .sym 7, .sym 8], .sym 9] = some (.lit (.bool true)) := by kernel_rfl
theorem Ring_r80 (b7 b8 b13 b21 : Bool) : @comes (Ring_k true true true true true false b7 b8 true true true false b13 true true true true true false true b21) Tryd.prog glT 3000 10 [.agg [.sym 0, .sym 1, .sym 2], .agg [.sym 3, .sym 4, .sym 5], .agg [.sym 6, .sym 7, .sym 8], .sym 9] = some (.lit (.bool true)) := by kernel_rfl
theorem Ring_r81 (b7 b8 b13 b17 b18 b19 b20 b21 : Bool) : @comes (Ring_k true true true true true false b7 b8 true true true false b13 true true false b17 b18 b19 b20 b21) Tryd.prog glT 3000 10 [.agg [.sym 0, .sym 1, .sym 2], .agg [.sym 3, .sym 4, .sym 5], .agg [.sym 6, .sym 7, .sym 8], .sym 9] = some (.lit (.bool true)) := by kernel_rfl
theorem Ring_r82 (b7 b8 b13 b15 b20 b21 : Bool) : @comes (Ring_k true true true true true false b7 b8 true true true false b13 false b15 true true true true b20 b21) Tryd.prog glT 3000 10 [.agg [.sym 0, .sym 1, .sym 2], .agg [.sym 3, .sym 4, .sym 5], .agg [.sym 6, .sym 7, .sym 8], .sym 9] = some (.lit (.bool true)) := by kernel_rfl
theorem Ring_r83 (b7 b8 b13 b15 b21 : Bool) : @comes (Ring_k true true true true true false b7 b8 true true true false b13 false b15 true true true false true b21) Tryd.prog glT 3000 10 [.agg [.sym 0, .sym 1, .sym 2], .agg [.sym 3, .sym 4, .sym 5], .agg [.sym 6, .sym 7, .sym 8], .sym 9] = some (.lit (.bool true)) := by kernel_rfl
theorem Ring_r84 (b7 b8 b13 b15 b17 b18 b19 b20 b21 : Bool) : @comes (Ring_k true true true true true false b7 b8 true true true false b13 false b15 false b17 b18 b19 b20 b21) Tryd.prog glT 3000 10 [.agg [.sym 0, .sym 1, .sym 2], .agg [.sym 3, .sym 4, .sym 5], .agg [.sym 6, .sym 7, .sym 8], .sym 9] = some (.lit (.bool true)) := by kernel_rfl
theorem Ring_r85 (b7 b8 b10 b11 b20 b21 : Bool) : @comes (Ring_k true true true true true false b7 b8 false b10 b11 true true true true true true true true b20 b21) Tryd.prog glT 3000 10 [.agg [.sym 0, .sym 1, .sym 2], .agg [.sym 3, .sym 4, .sym 5], .agg [.sym 6, .sym 7, .sym 8], .sym 9] = some (.lit (.bool true)) := by kernel_rfl
theorem Ring_r86 (b7 b8 b10 b11 b21 : Bool) : @comes (Ring_k true true true true true false b7 b8 false b10 b11 true true true true true true true false true b21) Tryd.prog glT 3000 10 [.agg [.sym 0, .sym 1, .sym 2], .agg [.sym 3, .sym 4, .sym 5], .agg [.sym 6, .sym 7, .sym 8], .sym 9] = some (.lit (.bool true)) := by kernel_rfl
theorem Ring_r87 (b7 b8 b10 b11 b17 b18 b19 b20 b21 : Bool) : @comes (Ring_k true true true true true false b7 b8 false b10 b11 true true true true false b17 b18 b19 b20 b21) Tryd.prog glT 3000 10 [.agg [.sym 0, .sym 1, .sym 2], .agg [.sym 3, .sym 4, .sym 5], .agg [.sym 6, .sym 7, .sym 8], .sym 9] = some (.lit (.bool true)) := by kernel_rfl
theorem Ring_r88 (b7 b8 b10 b11 b15 b20 b21 : Bool) : @comes (Ring_k true true true true true false b7 b8 false b10 b11 true true false b15 true true true true b20 b21) Tryd.prog glT 3000 10 [.agg [.sym 0, .sym 1, .sym 2], .agg [.sym 3, .sym 4, .sym 5], .agg [.sym 6, .sym 7, .sym 8], .sym 9] = some (.lit (.bool true)) := by kernel_rfl
theorem Ring_r89 (b7 b8 b10 b11 b15 b21 : Bool) : @comes (Ring_k true true true true true false b7 b8 false b10 b11 true true false b15 true true true false true b21) Tryd.prog glT 3000 10 [.agg [.sym 0, .sym 1, .sym 2], .agg [.sym 3, .sym 4, .sym 5], .agg [.sym 6, .sym 7, .sym 8], .sym 9] = some (.lit (.bool true)) := by kernel_rfl
theorem Ring_r90 (b7 b8 b10 b11 b15 b17 b18 b19 b20 b21 : Bool) : @comes (Ring_k true true true true true false b7 b8 false b10 b11 true true false b15 false b17 b18 b19 b20 b21) Tryd.prog glT 3000 10 [.agg [.sym 0, .sym 1, .sym 2], .agg [.sym 3, .sym 4, .sym 5], .agg [.sym 6, .sym 7, .sym 8], .sym 9] = some (.lit (.bool true)) := by kernel_rfl
theorem Ring_r91 (b7 b8 b10 b11 b13 b20 b21 : Bool) : @comes (Ring_k true true true true true false b7 b8 false b10 b11 false b13 true true true true true true b20 b21) Tryd.prog glT 3000 10 [.agg [.sym 0, .sym 1, .sym 2], .agg [.sym 3, .sym 4, .sym 5], .agg [.sym 6, .sym 7, .sym 8], .sym 9] = some (.lit (.bool true)) := by kernel_rfl
theorem Ring_r92 (b7 b8 b10 b11 b13 b21 : Bool) : @comes (Ring_k true true true true true false b7 b8 false b10 b11 false b13 true true true true true false true b21) Tryd.prog glT 3000 10 [.agg [.sym 0, .sym 1, .sym 2], .agg [.sym 3, .sym 4, .sym 5], .agg [.sym 6, .sym 7, .sym 8], .sym 9] = some (.lit (.bool true)) := by kernel_rfl
theorem Ring_r93 (b7 b8 b10 b11 b13 b17 b18 b19 b20 b21 : Bool) : @comes (Ring_k true true true true true false b7 b8 false b10 b11 false b13 true true false b17 b18 b19 b20 b21) Tryd.prog glT 3000 10 [.agg [.sym 0, .sym 1, .sym 2], .agg [.sym 3, .sym 4, .sym 5], .agg [.sym 6, .sym 7, .sym 8], .sym 9] = some (.lit (.bool true)) := by kernel_rfl
theorem Ring_r94 (b7 b8 b10 b11 b13 b15 b20 b21 : Bool) : @comes (Ring_k true true true true true false b7 b8 false b10 b11 false b13 false b15 true true true true b20 b21) Tryd.prog glT 3000 10 [.agg [.sym 0, .sym 1, .sym 2], .agg [.sym 3, .sym 4, .sym 5], .agg [.sym 6, .sym 7, .sym 8], .sym 9] = some (.lit (.bool true)) := by kernel_rfl
theorem Ring_r95 (b7 b8 b10 b11 b13 b15 b21 : Bool) : @comes (Ring_k true true true true true false b7 b8 false b10 b11 false b13 false b15 true true true false true b21) Tryd.prog glT 3000 10 [.agg [.sym 0, .sym 1, .sym 2], .agg [.sym 3, .sym 4, .sym 5], .agg [.sym 6, .sym 7, .sym 8], .sym 9] = some (.lit (.bool true)) := by kernel_rfl
theorem Ring_r96 (b7 b8 b10 b11 b13 b15 b17 b18 b19 b20 b21 : Bool) : @comes (Ring_k true true true true true false b7 b8 false b10 b11 false b13 false b15 false b17 b18 b19 b20 b21) Tryd.prog glT 3000 10 [.agg [.sym 0, .sym 1, .sym 2], .agg [.sym 3, .sym 4, .sym 5], .agg [.sym 6, .sym 7, .sym 8], .sym 9] = some (.lit (.bool true)) := by kernel_rfl
set_option maxRecDepth 100000 in
theorem DyadRing_ok (a b c : Dy) (k : Int) (w : World) (ha : a.Ok) (hb : b.Ok) (hc : c.Ok) (hk : -9223372036854775808 ≤ k ∧ k ≤ 9223372036854775807) (hG : Globs glT w) : Calls Tryd.prog 10 #[.agg #[.bool a.g, .string (natS a.n), .int .i64 a.x], .agg #[.bool b.g, .string (natS b.n), .int .i64 b.x], .agg #[.bool c.g, .string (natS c.n), .int .i64 c.x], .int .i64 k] w fun e w' => e = .returned (.bool true) ∧ Below w.heap.size w w' := by
  obtain ⟨b1, i1⟩ := bex (allB [0, 0, 0] = true)
  obtain ⟨b2, i2⟩ := bex (addD a b = addD b a)
  obtain ⟨b3, i3⟩ := bex (addE a b = addE b a)
  obtain ⟨b4, i4⟩ := bex (mulD a b = mulD b a)
  obtain ⟨b5, i5⟩ := bex (mulE a b = mulE b a)
  obtain ⟨b6, i6⟩ := bex (mulE a b = 0)
  obtain ⟨b7, i7⟩ := bex (sgD (mulD a b) = 0)
  obtain ⟨b8, i8⟩ := bex (sgD a = 0)
  obtain ⟨b9, i9⟩ := bex (addE a b = 0)
  obtain ⟨b10, i10⟩ := bex (addE (addD a b) (negD b) = 0)
  obtain ⟨b11, i11⟩ := bex (addD (addD a b) (negD b) = a)
  obtain ⟨b12, i12⟩ := bex (addE a (negD b) = 0)
  obtain ⟨b13, i13⟩ := bex (sgD (addD a (negD b)) = cmpD a b)
  obtain ⟨b14, i14⟩ := bex (allB [addE a b, mulE (addD a b) c, mulE a c, mulE b c, addE (mulD a c) (mulD b c)] = true)
  obtain ⟨b15, i15⟩ := bex (mulD (addD a b) c = addD (mulD a c) (mulD b c))
  obtain ⟨b16, i16⟩ := bex (allB [flE a k, mkE 1 k, addE (flD a k) (mkD false 1 k)] = true)
  obtain ⟨b17, i17⟩ := bex (cmpD (flD a k) a ≤ 0)
  obtain ⟨b18, i18⟩ := bex (cmpD (addD (flD a k) (mkD false 1 k)) a > 0)
  obtain ⟨b19, i19⟩ := bex (flD a k = Dy.zero)
  obtain ⟨b20, i20⟩ := bex ((flD a k).x ≥ k)
  obtain ⟨b21, i21⟩ := bex (sgD b = 0)
  letI : Env := mkEnv glT [.bool a.g, .string (natS a.n), .int .i64 a.x, .bool b.g, .string (natS b.n), .int .i64 b.x, .bool c.g, .string (natS c.n), .int .i64 c.x, .int .i64 k, .bool (addD a b).g, .string (natS (addD a b).n), .int .i64 (addD a b).x, .int .i64 (addE a b), .bool (addD b a).g, .string (natS (addD b a).n), .int .i64 (addD b a).x, .int .i64 (addE b a), .bool (mulD a b).g, .string (natS (mulD a b).n), .int .i64 (mulD a b).x, .int .i64 (mulE a b), .bool (mulD b a).g, .string (natS (mulD b a).n), .int .i64 (mulD b a).x, .int .i64 (mulE b a), .int .i64 (sgD (mulD a b)), .int .i64 (sgD a), .bool (addD (addD a b) (negD b)).g, .string (natS (addD (addD a b) (negD b)).n), .int .i64 (addD (addD a b) (negD b)).x, .int .i64 (addE (addD a b) (negD b)), .bool (addD a (negD b)).g, .string (natS (addD a (negD b)).n), .int .i64 (addD a (negD b)).x, .int .i64 (addE a (negD b)), .int .i64 (cmpD a b), .int .i64 (sgD (addD a (negD b))), .bool (mulD (addD a b) c).g, .string (natS (mulD (addD a b) c).n), .int .i64 (mulD (addD a b) c).x, .int .i64 (mulE (addD a b) c), .bool (mulD a c).g, .string (natS (mulD a c).n), .int .i64 (mulD a c).x, .int .i64 (mulE a c), .bool (mulD b c).g, .string (natS (mulD b c).n), .int .i64 (mulD b c).x, .int .i64 (mulE b c), .bool (addD (mulD a c) (mulD b c)).g, .string (natS (addD (mulD a c) (mulD b c)).n), .int .i64 (addD (mulD a c) (mulD b c)).x, .int .i64 (addE (mulD a c) (mulD b c)), .bool (flD a k).g, .string (natS (flD a k).n), .int .i64 (flD a k).x, .int .i64 (flE a k), .bool (mkD false 1 k).g, .string (natS (mkD false 1 k).n), .int .i64 (mkD false 1 k).x, .int .i64 (mkE 1 k), .bool (addD (flD a k) (mkD false 1 k)).g, .string (natS (addD (flD a k) (mkD false 1 k)).n), .int .i64 (addD (flD a k) (mkD false 1 k)).x, .int .i64 (addE (flD a k) (mkD false 1 k)), .int .i64 (cmpD (flD a k) a), .int .i64 (cmpD (addD (flD a k) (mkD false 1 k)) a), .int .i64 (sgD b)] rfl
  have hops : OpsT Tryd.prog (@Know.ops (Ring_k b1 b2 b3 b4 b5 b6 b7 b8 b9 b10 b11 b12 b13 b14 b15 b16 b17 b18 b19 b20 b21)) := ⟨optD_neq_i (a := addD a b) (b := addD b a) rfl rfl i2,
    opt_neq_i rfl rfl i3,
    optD_neq_i (a := mulD a b) (b := mulD b a) rfl rfl i4,
    opt_neq_i rfl rfl i5,
    opt_eql_i rfl rfl i6,
    opt_eql_i rfl rfl i7,
    opt_eql_i rfl rfl i8,
    opt_eql_i rfl rfl i9,
    opt_neq_i rfl rfl i10,
    optD_neq_i (a := addD (addD a b) (negD b)) (b := a) rfl rfl i11,
    opt_eql_i rfl rfl i12,
    opt_neq_i rfl rfl i13,
    optD_neq_i (a := mulD (addD a b) c) (b := addD (mulD a c) (mulD b c)) rfl rfl i15,
    opt_leq_i rfl rfl i17,
    opt_gtr_i rfl rfl i18,
    optD_eql_i (a := flD a k) (b := Dy.zero) rfl Dy.zero_v.symm i19,
    opt_geq_i rfl rfl i20,
    opt_eql_i rfl rfl i21,
    trivial⟩
  have hcalls : CallsT Tryd.prog (@Know.calls (Ring_k b1 b2 b3 b4 b5 b6 b7 b8 b9 b10 b11 b12 b13 b14 b15 b16 b17 b18 b19 b20 b21)) := ⟨callt rfl rfl fun w hG => awake3_c w hG,
    callt rfl rfl fun w hG => DCheck_dy a ha w,
    callt rfl rfl fun w hG => DCheck_dy b hb w,
    callt rfl rfl fun w hG => DCheck_dy c hc w,
    callt_row rfl fun w B0 c0 hG hB hC => lAll03_i B0 c0 [0, 0, 0] w (by simp) (ers_of hB hC rfl) i1,
    callt rfl rfl fun w hG => DAdd_c a b w ha hb hG,
    callt rfl rfl fun w hG => DAdd_c b a w hb ha hG,
    callt rfl rfl fun w hG => DMul_c a b w ha hb,
    callt rfl rfl fun w hG => DMul_c b a w hb ha,
    callt rfl rfl fun w hG => DSign_c (mulD a b) (mulD_Ok a b) w,
    callt rfl rfl fun w hG => DSign_c a ha w,
    callt rfl rfl fun w hG => DSub_c (addD a b) b w (add_Ok ha hb) hb hG,
    callt rfl rfl fun w hG => DSub_c a b w ha hb hG,
    callt rfl rfl fun w hG => DCmp_c a b w ha hb,
    callt rfl rfl fun w hG => DSign_c (addD a (negD b)) (add_Ok ha (negD_Ok hb)) w,
    callt rfl rfl fun w hG => DMul_c (addD a b) c w (add_Ok ha hb) hc,
    callt rfl rfl fun w hG => DMul_c a c w ha hc,
    callt rfl rfl fun w hG => DMul_c b c w hb hc,
    callt rfl rfl fun w hG => DAdd_c (mulD a c) (mulD b c) w (mulD_Ok a c) (mulD_Ok b c) hG,
    callt_row rfl fun w B0 c0 hG hB hC => lAll03_i B0 c0 [addE a b, mulE (addD a b) c, mulE a c, mulE b c, addE (mulD a c) (mulD b c)] w (by simp) (ers_of hB hC rfl) i14,
    callt rfl rfl fun w hG => DFloor_c a k w ha,
    callt rfl rfl fun w hG => DOf_c 1 k w (by decide) hk,
    callt rfl rfl fun w hG => DAdd_c (flD a k) (mkD false 1 k) w (flD_Ok ha) (mkD_Ok _ _ _) hG,
    callt_row rfl fun w B0 c0 hG hB hC => lAll03_i B0 c0 [flE a k, mkE 1 k, addE (flD a k) (mkD false 1 k)] w (by simp) (ers_of hB hC rfl) i16,
    callt rfl rfl fun w hG => DCmp_c (flD a k) a w (flD_Ok ha) ha,
    callt rfl rfl fun w hG => DCmp_c (addD (flD a k) (mkD false 1 k)) a w (add_Ok (flD_Ok ha) (mkD_Ok _ _ _)) ha,
    callt rfl rfl fun w hG => DSign_c b hb w,
    trivial⟩
  have fin : ∀ v, @comes (Ring_k b1 b2 b3 b4 b5 b6 b7 b8 b9 b10 b11 b12 b13 b14 b15 b16 b17 b18 b19 b20 b21) Tryd.prog glT 3000 10 [.agg [.sym 0, .sym 1, .sym 2], .agg [.sym 3, .sym 4, .sym 5], .agg [.sym 6, .sym 7, .sym 8], .sym 9] = some v → ground v = true → Ending.returned (gval v) = .returned (.bool true) → Calls Tryd.prog 10 #[.agg #[.bool a.g, .string (natS a.n), .int .i64 a.x], .agg #[.bool b.g, .string (natS b.n), .int .i64 b.x], .agg #[.bool c.g, .string (natS c.n), .int .i64 c.x], .int .i64 k] w fun e w' => e = .returned (.bool true) ∧ Below w.heap.size w w' := fun v h1 h2 h3 => (@sym_ok _ (Ring_k b1 b2 b3 b4 b5 b6 b7 b8 b9 b10 b11 b12 b13 b14 b15 b16 b17 b18 b19 b20 b21) _ (@KnowOk.of _ (Ring_k b1 b2 b3 b4 b5 b6 b7 b8 b9 b10 b11 b12 b13 b14 b15 b16 b17 b18 b19 b20 b21) _ hops hcalls) (by kernel_rfl) _ _ _ _ h1 rfl h2 _ hG).mono fun e w' h => ⟨h.1.trans h3, h.2⟩
  clear hops hcalls
  cases b1 with
  | true =>
    have h1 : allB [0, 0, 0] = true := i1.1 rfl
    cases b2 with
    | true =>
      have h2 : addD a b = addD b a := i2.1 rfl
      cases b3 with
      | true =>
        have h3 : addE a b = addE b a := i3.1 rfl
        cases b4 with
        | true =>
          have h4 : mulD a b = mulD b a := i4.1 rfl
          cases b5 with
          | true =>
            have h5 : mulE a b = mulE b a := i5.1 rfl
            cases b6 with
            | true =>
              have h6 : mulE a b = 0 := i6.1 rfl
              cases b7 with
              | true =>
                have h7 : sgD (mulD a b) = 0 := i7.1 rfl
                cases b8 with
                | true =>
                  have h8 : sgD a = 0 := i8.1 rfl
                  cases b9 with
                  | true =>
                    have h9 : addE a b = 0 := i9.1 rfl
                    cases b10 with
                    | true =>
                      have h10 : addE (addD a b) (negD b) = 0 := i10.1 rfl
                      cases b11 with
                      | true =>
                        have h11 : addD (addD a b) (negD b) = a := i11.1 rfl
                        cases b12 with
                        | true =>
                          have h12 : addE a (negD b) = 0 := i12.1 rfl
                          cases b13 with
                          | true =>
                            have h13 : sgD (addD a (negD b)) = cmpD a b := i13.1 rfl
                            cases b14 with
                            | true =>
                              have h14 : allB [addE a b, mulE (addD a b) c, mulE a c, mulE b c, addE (mulD a c) (mulD b c)] = true := i14.1 rfl
                              cases b15 with
                              | true =>
                                have h15 : mulD (addD a b) c = addD (mulD a c) (mulD b c) := i15.1 rfl
                                cases b16 with
                                | true =>
                                  have h16 : allB [flE a k, mkE 1 k, addE (flD a k) (mkD false 1 k)] = true := i16.1 rfl
                                  cases b17 with
                                  | true =>
                                    have h17 : cmpD (flD a k) a ≤ 0 := i17.1 rfl
                                    cases b18 with
                                    | true =>
                                      have h18 : cmpD (addD (flD a k) (mkD false 1 k)) a > 0 := i18.1 rfl
                                      cases b19 with
                                      | true =>
                                        have h19 : flD a k = Dy.zero := i19.1 rfl
                                        exact fin _ (Ring_r1 b20 b21) rfl rfl
                                      | false =>
                                        have h19 : ¬ (flD a k = Dy.zero) := fun c => Bool.false_ne_true (i19.2 c)
                                        cases b20 with
                                        | true =>
                                          have h20 : (flD a k).x ≥ k := i20.1 rfl
                                          exact fin _ (Ring_r2 b21) rfl rfl
                                        | false =>
                                          exact absurd (i20.2 ((ring_floor ha (allB_iff.1 h16 _ (by simp)) (allB_iff.1 h16 _ (by simp)) (allB_iff.1 h16 _ (by simp)) (flD_Ok ha)).2.2.resolve_left h19)) Bool.false_ne_true
                                    | false =>
                                      exact absurd (i18.2 ((ring_floor ha (allB_iff.1 h16 _ (by simp)) (allB_iff.1 h16 _ (by simp)) (allB_iff.1 h16 _ (by simp)) (flD_Ok ha)).2.1)) Bool.false_ne_true
                                  | false =>
                                    exact absurd (i17.2 ((ring_floor ha (allB_iff.1 h16 _ (by simp)) (allB_iff.1 h16 _ (by simp)) (allB_iff.1 h16 _ (by simp)) (flD_Ok ha)).1)) Bool.false_ne_true
                                | false =>
                                  have h16 : ¬ (allB [flE a k, mkE 1 k, addE (flD a k) (mkD false 1 k)] = true) := fun c => Bool.false_ne_true (i16.2 c)
                                  exact fin _ (Ring_r3 b17 b18 b19 b20 b21) rfl rfl
                              | false =>
                                exact absurd (i15.2 (distr ha hb hc (allB_iff.1 h14 _ (by simp)) (allB_iff.1 h14 _ (by simp)) (allB_iff.1 h14 _ (by simp)) (allB_iff.1 h14 _ (by simp)) (allB_iff.1 h14 _ (by simp)))) Bool.false_ne_true
                            | false =>
                              have h14 : ¬ (allB [addE a b, mulE (addD a b) c, mulE a c, mulE b c, addE (mulD a c) (mulD b c)] = true) := fun c => Bool.false_ne_true (i14.2 c)
                              cases b16 with
                              | true =>
                                have h16 : allB [flE a k, mkE 1 k, addE (flD a k) (mkD false 1 k)] = true := i16.1 rfl
                                cases b17 with
                                | true =>
                                  have h17 : cmpD (flD a k) a ≤ 0 := i17.1 rfl
                                  cases b18 with
                                  | true =>
                                    have h18 : cmpD (addD (flD a k) (mkD false 1 k)) a > 0 := i18.1 rfl
                                    cases b19 with
                                    | true =>
                                      have h19 : flD a k = Dy.zero := i19.1 rfl
                                      exact fin _ (Ring_r4 b15 b20 b21) rfl rfl
                                    | false =>
                                      have h19 : ¬ (flD a k = Dy.zero) := fun c => Bool.false_ne_true (i19.2 c)
                                      cases b20 with
                                      | true =>
                                        have h20 : (flD a k).x ≥ k := i20.1 rfl
                                        exact fin _ (Ring_r5 b15 b21) rfl rfl
                                      | false =>
                                        exact absurd (i20.2 ((ring_floor ha (allB_iff.1 h16 _ (by simp)) (allB_iff.1 h16 _ (by simp)) (allB_iff.1 h16 _ (by simp)) (flD_Ok ha)).2.2.resolve_left h19)) Bool.false_ne_true
                                  | false =>
                                    exact absurd (i18.2 ((ring_floor ha (allB_iff.1 h16 _ (by simp)) (allB_iff.1 h16 _ (by simp)) (allB_iff.1 h16 _ (by simp)) (flD_Ok ha)).2.1)) Bool.false_ne_true
                                | false =>
                                  exact absurd (i17.2 ((ring_floor ha (allB_iff.1 h16 _ (by simp)) (allB_iff.1 h16 _ (by simp)) (allB_iff.1 h16 _ (by simp)) (flD_Ok ha)).1)) Bool.false_ne_true
                              | false =>
                                have h16 : ¬ (allB [flE a k, mkE 1 k, addE (flD a k) (mkD false 1 k)] = true) := fun c => Bool.false_ne_true (i16.2 c)
                                exact fin _ (Ring_r6 b15 b17 b18 b19 b20 b21) rfl rfl
                          | false =>
                            exact absurd (i13.2 (sub_cmp ha hb h12)) Bool.false_ne_true
                        | false =>
                          have h12 : ¬ (addE a (negD b) = 0) := fun c => Bool.false_ne_true (i12.2 c)
                          cases b14 with
                          | true =>
                            have h14 : allB [addE a b, mulE (addD a b) c, mulE a c, mulE b c, addE (mulD a c) (mulD b c)] = true := i14.1 rfl
                            cases b15 with
                            | true =>
                              have h15 : mulD (addD a b) c = addD (mulD a c) (mulD b c) := i15.1 rfl
                              cases b16 with
                              | true =>
                                have h16 : allB [flE a k, mkE 1 k, addE (flD a k) (mkD false 1 k)] = true := i16.1 rfl
                                cases b17 with
                                | true =>
                                  have h17 : cmpD (flD a k) a ≤ 0 := i17.1 rfl
                                  cases b18 with
                                  | true =>
                                    have h18 : cmpD (addD (flD a k) (mkD false 1 k)) a > 0 := i18.1 rfl
                                    cases b19 with
                                    | true =>
                                      have h19 : flD a k = Dy.zero := i19.1 rfl
                                      exact fin _ (Ring_r7 b13 b20 b21) rfl rfl
                                    | false =>
                                      have h19 : ¬ (flD a k = Dy.zero) := fun c => Bool.false_ne_true (i19.2 c)
                                      cases b20 with
                                      | true =>
                                        have h20 : (flD a k).x ≥ k := i20.1 rfl
                                        exact fin _ (Ring_r8 b13 b21) rfl rfl
                                      | false =>
                                        exact absurd (i20.2 ((ring_floor ha (allB_iff.1 h16 _ (by simp)) (allB_iff.1 h16 _ (by simp)) (allB_iff.1 h16 _ (by simp)) (flD_Ok ha)).2.2.resolve_left h19)) Bool.false_ne_true
                                  | false =>
                                    exact absurd (i18.2 ((ring_floor ha (allB_iff.1 h16 _ (by simp)) (allB_iff.1 h16 _ (by simp)) (allB_iff.1 h16 _ (by simp)) (flD_Ok ha)).2.1)) Bool.false_ne_true
                                | false =>
                                  exact absurd (i17.2 ((ring_floor ha (allB_iff.1 h16 _ (by simp)) (allB_iff.1 h16 _ (by simp)) (allB_iff.1 h16 _ (by simp)) (flD_Ok ha)).1)) Bool.false_ne_true
                              | false =>
                                have h16 : ¬ (allB [flE a k, mkE 1 k, addE (flD a k) (mkD false 1 k)] = true) := fun c => Bool.false_ne_true (i16.2 c)
                                exact fin _ (Ring_r9 b13 b17 b18 b19 b20 b21) rfl rfl
                            | false =>
                              exact absurd (i15.2 (distr ha hb hc (allB_iff.1 h14 _ (by simp)) (allB_iff.1 h14 _ (by simp)) (allB_iff.1 h14 _ (by simp)) (allB_iff.1 h14 _ (by simp)) (allB_iff.1 h14 _ (by simp)))) Bool.false_ne_true
                          | false =>
                            have h14 : ¬ (allB [addE a b, mulE (addD a b) c, mulE a c, mulE b c, addE (mulD a c) (mulD b c)] = true) := fun c => Bool.false_ne_true (i14.2 c)
                            cases b16 with
                            | true =>
                              have h16 : allB [flE a k, mkE 1 k, addE (flD a k) (mkD false 1 k)] = true := i16.1 rfl
                              cases b17 with
                              | true =>
                                have h17 : cmpD (flD a k) a ≤ 0 := i17.1 rfl
                                cases b18 with
                                | true =>
                                  have h18 : cmpD (addD (flD a k) (mkD false 1 k)) a > 0 := i18.1 rfl
                                  cases b19 with
                                  | true =>
                                    have h19 : flD a k = Dy.zero := i19.1 rfl
                                    exact fin _ (Ring_r10 b13 b15 b20 b21) rfl rfl
                                  | false =>
                                    have h19 : ¬ (flD a k = Dy.zero) := fun c => Bool.false_ne_true (i19.2 c)
                                    cases b20 with
                                    | true =>
                                      have h20 : (flD a k).x ≥ k := i20.1 rfl
                                      exact fin _ (Ring_r11 b13 b15 b21) rfl rfl
                                    | false =>
                                      exact absurd (i20.2 ((ring_floor ha (allB_iff.1 h16 _ (by simp)) (allB_iff.1 h16 _ (by simp)) (allB_iff.1 h16 _ (by simp)) (flD_Ok ha)).2.2.resolve_left h19)) Bool.false_ne_true
                                | false =>
                                  exact absurd (i18.2 ((ring_floor ha (allB_iff.1 h16 _ (by simp)) (allB_iff.1 h16 _ (by simp)) (allB_iff.1 h16 _ (by simp)) (flD_Ok ha)).2.1)) Bool.false_ne_true
                              | false =>
                                exact absurd (i17.2 ((ring_floor ha (allB_iff.1 h16 _ (by simp)) (allB_iff.1 h16 _ (by simp)) (allB_iff.1 h16 _ (by simp)) (flD_Ok ha)).1)) Bool.false_ne_true
                            | false =>
                              have h16 : ¬ (allB [flE a k, mkE 1 k, addE (flD a k) (mkD false 1 k)] = true) := fun c => Bool.false_ne_true (i16.2 c)
                              exact fin _ (Ring_r12 b13 b15 b17 b18 b19 b20 b21) rfl rfl
                      | false =>
                        exact absurd (i11.2 ((sub_back ha hb h9).1)) Bool.false_ne_true
                    | false =>
                      exact absurd (i10.2 ((sub_back ha hb h9).2)) Bool.false_ne_true
                  | false =>
                    have h9 : ¬ (addE a b = 0) := fun c => Bool.false_ne_true (i9.2 c)
                    cases b12 with
                    | true =>
                      have h12 : addE a (negD b) = 0 := i12.1 rfl
                      cases b13 with
                      | true =>
                        have h13 : sgD (addD a (negD b)) = cmpD a b := i13.1 rfl
                        cases b14 with
                        | true =>
                          have h14 : allB [addE a b, mulE (addD a b) c, mulE a c, mulE b c, addE (mulD a c) (mulD b c)] = true := i14.1 rfl
                          cases b15 with
                          | true =>
                            have h15 : mulD (addD a b) c = addD (mulD a c) (mulD b c) := i15.1 rfl
                            cases b16 with
                            | true =>
                              have h16 : allB [flE a k, mkE 1 k, addE (flD a k) (mkD false 1 k)] = true := i16.1 rfl
                              cases b17 with
                              | true =>
                                have h17 : cmpD (flD a k) a ≤ 0 := i17.1 rfl
                                cases b18 with
                                | true =>
                                  have h18 : cmpD (addD (flD a k) (mkD false 1 k)) a > 0 := i18.1 rfl
                                  cases b19 with
                                  | true =>
                                    have h19 : flD a k = Dy.zero := i19.1 rfl
                                    exact fin _ (Ring_r13 b10 b11 b20 b21) rfl rfl
                                  | false =>
                                    have h19 : ¬ (flD a k = Dy.zero) := fun c => Bool.false_ne_true (i19.2 c)
                                    cases b20 with
                                    | true =>
                                      have h20 : (flD a k).x ≥ k := i20.1 rfl
                                      exact fin _ (Ring_r14 b10 b11 b21) rfl rfl
                                    | false =>
                                      exact absurd (i20.2 ((ring_floor ha (allB_iff.1 h16 _ (by simp)) (allB_iff.1 h16 _ (by simp)) (allB_iff.1 h16 _ (by simp)) (flD_Ok ha)).2.2.resolve_left h19)) Bool.false_ne_true
                                | false =>
                                  exact absurd (i18.2 ((ring_floor ha (allB_iff.1 h16 _ (by simp)) (allB_iff.1 h16 _ (by simp)) (allB_iff.1 h16 _ (by simp)) (flD_Ok ha)).2.1)) Bool.false_ne_true
                              | false =>
                                exact absurd (i17.2 ((ring_floor ha (allB_iff.1 h16 _ (by simp)) (allB_iff.1 h16 _ (by simp)) (allB_iff.1 h16 _ (by simp)) (flD_Ok ha)).1)) Bool.false_ne_true
                            | false =>
                              have h16 : ¬ (allB [flE a k, mkE 1 k, addE (flD a k) (mkD false 1 k)] = true) := fun c => Bool.false_ne_true (i16.2 c)
                              exact fin _ (Ring_r15 b10 b11 b17 b18 b19 b20 b21) rfl rfl
                          | false =>
                            exact absurd (i15.2 (distr ha hb hc (allB_iff.1 h14 _ (by simp)) (allB_iff.1 h14 _ (by simp)) (allB_iff.1 h14 _ (by simp)) (allB_iff.1 h14 _ (by simp)) (allB_iff.1 h14 _ (by simp)))) Bool.false_ne_true
                        | false =>
                          have h14 : ¬ (allB [addE a b, mulE (addD a b) c, mulE a c, mulE b c, addE (mulD a c) (mulD b c)] = true) := fun c => Bool.false_ne_true (i14.2 c)
                          cases b16 with
                          | true =>
                            have h16 : allB [flE a k, mkE 1 k, addE (flD a k) (mkD false 1 k)] = true := i16.1 rfl
                            cases b17 with
                            | true =>
                              have h17 : cmpD (flD a k) a ≤ 0 := i17.1 rfl
                              cases b18 with
                              | true =>
                                have h18 : cmpD (addD (flD a k) (mkD false 1 k)) a > 0 := i18.1 rfl
                                cases b19 with
                                | true =>
                                  have h19 : flD a k = Dy.zero := i19.1 rfl
                                  exact fin _ (Ring_r16 b10 b11 b15 b20 b21) rfl rfl
                                | false =>
                                  have h19 : ¬ (flD a k = Dy.zero) := fun c => Bool.false_ne_true (i19.2 c)
                                  cases b20 with
                                  | true =>
                                    have h20 : (flD a k).x ≥ k := i20.1 rfl
                                    exact fin _ (Ring_r17 b10 b11 b15 b21) rfl rfl
                                  | false =>
                                    exact absurd (i20.2 ((ring_floor ha (allB_iff.1 h16 _ (by simp)) (allB_iff.1 h16 _ (by simp)) (allB_iff.1 h16 _ (by simp)) (flD_Ok ha)).2.2.resolve_left h19)) Bool.false_ne_true
                              | false =>
                                exact absurd (i18.2 ((ring_floor ha (allB_iff.1 h16 _ (by simp)) (allB_iff.1 h16 _ (by simp)) (allB_iff.1 h16 _ (by simp)) (flD_Ok ha)).2.1)) Bool.false_ne_true
                            | false =>
                              exact absurd (i17.2 ((ring_floor ha (allB_iff.1 h16 _ (by simp)) (allB_iff.1 h16 _ (by simp)) (allB_iff.1 h16 _ (by simp)) (flD_Ok ha)).1)) Bool.false_ne_true
                          | false =>
                            have h16 : ¬ (allB [flE a k, mkE 1 k, addE (flD a k) (mkD false 1 k)] = true) := fun c => Bool.false_ne_true (i16.2 c)
                            exact fin _ (Ring_r18 b10 b11 b15 b17 b18 b19 b20 b21) rfl rfl
                      | false =>
                        exact absurd (i13.2 (sub_cmp ha hb h12)) Bool.false_ne_true
                    | false =>
                      have h12 : ¬ (addE a (negD b) = 0) := fun c => Bool.false_ne_true (i12.2 c)
                      cases b14 with
                      | true =>
                        have h14 : allB [addE a b, mulE (addD a b) c, mulE a c, mulE b c, addE (mulD a c) (mulD b c)] = true := i14.1 rfl
                        cases b15 with
                        | true =>
                          have h15 : mulD (addD a b) c = addD (mulD a c) (mulD b c) := i15.1 rfl
                          cases b16 with
                          | true =>
                            have h16 : allB [flE a k, mkE 1 k, addE (flD a k) (mkD false 1 k)] = true := i16.1 rfl
                            cases b17 with
                            | true =>
                              have h17 : cmpD (flD a k) a ≤ 0 := i17.1 rfl
                              cases b18 with
                              | true =>
                                have h18 : cmpD (addD (flD a k) (mkD false 1 k)) a > 0 := i18.1 rfl
                                cases b19 with
                                | true =>
                                  have h19 : flD a k = Dy.zero := i19.1 rfl
                                  exact fin _ (Ring_r19 b10 b11 b13 b20 b21) rfl rfl
                                | false =>
                                  have h19 : ¬ (flD a k = Dy.zero) := fun c => Bool.false_ne_true (i19.2 c)
                                  cases b20 with
                                  | true =>
                                    have h20 : (flD a k).x ≥ k := i20.1 rfl
                                    exact fin _ (Ring_r20 b10 b11 b13 b21) rfl rfl
                                  | false =>
                                    exact absurd (i20.2 ((ring_floor ha (allB_iff.1 h16 _ (by simp)) (allB_iff.1 h16 _ (by simp)) (allB_iff.1 h16 _ (by simp)) (flD_Ok ha)).2.2.resolve_left h19)) Bool.false_ne_true
                              | false =>
                                exact absurd (i18.2 ((ring_floor ha (allB_iff.1 h16 _ (by simp)) (allB_iff.1 h16 _ (by simp)) (allB_iff.1 h16 _ (by simp)) (flD_Ok ha)).2.1)) Bool.false_ne_true
                            | false =>
                              exact absurd (i17.2 ((ring_floor ha (allB_iff.1 h16 _ (by simp)) (allB_iff.1 h16 _ (by simp)) (allB_iff.1 h16 _ (by simp)) (flD_Ok ha)).1)) Bool.false_ne_true
                          | false =>
                            have h16 : ¬ (allB [flE a k, mkE 1 k, addE (flD a k) (mkD false 1 k)] = true) := fun c => Bool.false_ne_true (i16.2 c)
                            exact fin _ (Ring_r21 b10 b11 b13 b17 b18 b19 b20 b21) rfl rfl
                        | false =>
                          exact absurd (i15.2 (distr ha hb hc (allB_iff.1 h14 _ (by simp)) (allB_iff.1 h14 _ (by simp)) (allB_iff.1 h14 _ (by simp)) (allB_iff.1 h14 _ (by simp)) (allB_iff.1 h14 _ (by simp)))) Bool.false_ne_true
                      | false =>
                        have h14 : ¬ (allB [addE a b, mulE (addD a b) c, mulE a c, mulE b c, addE (mulD a c) (mulD b c)] = true) := fun c => Bool.false_ne_true (i14.2 c)
                        cases b16 with
                        | true =>
                          have h16 : allB [flE a k, mkE 1 k, addE (flD a k) (mkD false 1 k)] = true := i16.1 rfl
                          cases b17 with
                          | true =>
                            have h17 : cmpD (flD a k) a ≤ 0 := i17.1 rfl
                            cases b18 with
                            | true =>
                              have h18 : cmpD (addD (flD a k) (mkD false 1 k)) a > 0 := i18.1 rfl
                              cases b19 with
                              | true =>
                                have h19 : flD a k = Dy.zero := i19.1 rfl
                                exact fin _ (Ring_r22 b10 b11 b13 b15 b20 b21) rfl rfl
                              | false =>
                                have h19 : ¬ (flD a k = Dy.zero) := fun c => Bool.false_ne_true (i19.2 c)
                                cases b20 with
                                | true =>
                                  have h20 : (flD a k).x ≥ k := i20.1 rfl
                                  exact fin _ (Ring_r23 b10 b11 b13 b15 b21) rfl rfl
                                | false =>
                                  exact absurd (i20.2 ((ring_floor ha (allB_iff.1 h16 _ (by simp)) (allB_iff.1 h16 _ (by simp)) (allB_iff.1 h16 _ (by simp)) (flD_Ok ha)).2.2.resolve_left h19)) Bool.false_ne_true
                            | false =>
                              exact absurd (i18.2 ((ring_floor ha (allB_iff.1 h16 _ (by simp)) (allB_iff.1 h16 _ (by simp)) (allB_iff.1 h16 _ (by simp)) (flD_Ok ha)).2.1)) Bool.false_ne_true
                          | false =>
                            exact absurd (i17.2 ((ring_floor ha (allB_iff.1 h16 _ (by simp)) (allB_iff.1 h16 _ (by simp)) (allB_iff.1 h16 _ (by simp)) (flD_Ok ha)).1)) Bool.false_ne_true
                        | false =>
                          have h16 : ¬ (allB [flE a k, mkE 1 k, addE (flD a k) (mkD false 1 k)] = true) := fun c => Bool.false_ne_true (i16.2 c)
                          exact fin _ (Ring_r24 b10 b11 b13 b15 b17 b18 b19 b20 b21) rfl rfl
                | false =>
                  have h8 : ¬ (sgD a = 0) := fun c => Bool.false_ne_true (i8.2 c)
                  cases b21 with
                  | true =>
                    have h21 : sgD b = 0 := i21.1 rfl
                    cases b9 with
                    | true =>
                      have h9 : addE a b = 0 := i9.1 rfl
                      cases b10 with
                      | true =>
                        have h10 : addE (addD a b) (negD b) = 0 := i10.1 rfl
                        cases b11 with
                        | true =>
                          have h11 : addD (addD a b) (negD b) = a := i11.1 rfl
                          cases b12 with
                          | true =>
                            have h12 : addE a (negD b) = 0 := i12.1 rfl
                            cases b13 with
                            | true =>
                              have h13 : sgD (addD a (negD b)) = cmpD a b := i13.1 rfl
                              cases b14 with
                              | true =>
                                have h14 : allB [addE a b, mulE (addD a b) c, mulE a c, mulE b c, addE (mulD a c) (mulD b c)] = true := i14.1 rfl
                                cases b15 with
                                | true =>
                                  have h15 : mulD (addD a b) c = addD (mulD a c) (mulD b c) := i15.1 rfl
                                  cases b16 with
                                  | true =>
                                    have h16 : allB [flE a k, mkE 1 k, addE (flD a k) (mkD false 1 k)] = true := i16.1 rfl
                                    cases b17 with
                                    | true =>
                                      have h17 : cmpD (flD a k) a ≤ 0 := i17.1 rfl
                                      cases b18 with
                                      | true =>
                                        have h18 : cmpD (addD (flD a k) (mkD false 1 k)) a > 0 := i18.1 rfl
                                        cases b19 with
                                        | true =>
                                          have h19 : flD a k = Dy.zero := i19.1 rfl
                                          exact fin _ (Ring_r25 b20) rfl rfl
                                        | false =>
                                          have h19 : ¬ (flD a k = Dy.zero) := fun c => Bool.false_ne_true (i19.2 c)
                                          cases b20 with
                                          | true =>
                                            have h20 : (flD a k).x ≥ k := i20.1 rfl
                                            exact fin _ (Ring_r26) rfl rfl
                                          | false =>
                                            exact absurd (i20.2 ((ring_floor ha (allB_iff.1 h16 _ (by simp)) (allB_iff.1 h16 _ (by simp)) (allB_iff.1 h16 _ (by simp)) (flD_Ok ha)).2.2.resolve_left h19)) Bool.false_ne_true
                                      | false =>
                                        exact absurd (i18.2 ((ring_floor ha (allB_iff.1 h16 _ (by simp)) (allB_iff.1 h16 _ (by simp)) (allB_iff.1 h16 _ (by simp)) (flD_Ok ha)).2.1)) Bool.false_ne_true
                                    | false =>
                                      exact absurd (i17.2 ((ring_floor ha (allB_iff.1 h16 _ (by simp)) (allB_iff.1 h16 _ (by simp)) (allB_iff.1 h16 _ (by simp)) (flD_Ok ha)).1)) Bool.false_ne_true
                                  | false =>
                                    have h16 : ¬ (allB [flE a k, mkE 1 k, addE (flD a k) (mkD false 1 k)] = true) := fun c => Bool.false_ne_true (i16.2 c)
                                    exact fin _ (Ring_r27 b17 b18 b19 b20) rfl rfl
                                | false =>
                                  exact absurd (i15.2 (distr ha hb hc (allB_iff.1 h14 _ (by simp)) (allB_iff.1 h14 _ (by simp)) (allB_iff.1 h14 _ (by simp)) (allB_iff.1 h14 _ (by simp)) (allB_iff.1 h14 _ (by simp)))) Bool.false_ne_true
                              | false =>
                                have h14 : ¬ (allB [addE a b, mulE (addD a b) c, mulE a c, mulE b c, addE (mulD a c) (mulD b c)] = true) := fun c => Bool.false_ne_true (i14.2 c)
                                cases b16 with
                                | true =>
                                  have h16 : allB [flE a k, mkE 1 k, addE (flD a k) (mkD false 1 k)] = true := i16.1 rfl
                                  cases b17 with
                                  | true =>
                                    have h17 : cmpD (flD a k) a ≤ 0 := i17.1 rfl
                                    cases b18 with
                                    | true =>
                                      have h18 : cmpD (addD (flD a k) (mkD false 1 k)) a > 0 := i18.1 rfl
                                      cases b19 with
                                      | true =>
                                        have h19 : flD a k = Dy.zero := i19.1 rfl
                                        exact fin _ (Ring_r28 b15 b20) rfl rfl
                                      | false =>
                                        have h19 : ¬ (flD a k = Dy.zero) := fun c => Bool.false_ne_true (i19.2 c)
                                        cases b20 with
                                        | true =>
                                          have h20 : (flD a k).x ≥ k := i20.1 rfl
                                          exact fin _ (Ring_r29 b15) rfl rfl
                                        | false =>
                                          exact absurd (i20.2 ((ring_floor ha (allB_iff.1 h16 _ (by simp)) (allB_iff.1 h16 _ (by simp)) (allB_iff.1 h16 _ (by simp)) (flD_Ok ha)).2.2.resolve_left h19)) Bool.false_ne_true
                                    | false =>
                                      exact absurd (i18.2 ((ring_floor ha (allB_iff.1 h16 _ (by simp)) (allB_iff.1 h16 _ (by simp)) (allB_iff.1 h16 _ (by simp)) (flD_Ok ha)).2.1)) Bool.false_ne_true
                                  | false =>
                                    exact absurd (i17.2 ((ring_floor ha (allB_iff.1 h16 _ (by simp)) (allB_iff.1 h16 _ (by simp)) (allB_iff.1 h16 _ (by simp)) (flD_Ok ha)).1)) Bool.false_ne_true
                                | false =>
                                  have h16 : ¬ (allB [flE a k, mkE 1 k, addE (flD a k) (mkD false 1 k)] = true) := fun c => Bool.false_ne_true (i16.2 c)
                                  exact fin _ (Ring_r30 b15 b17 b18 b19 b20) rfl rfl
                            | false =>
                              exact absurd (i13.2 (sub_cmp ha hb h12)) Bool.false_ne_true
                          | false =>
                            have h12 : ¬ (addE a (negD b) = 0) := fun c => Bool.false_ne_true (i12.2 c)
                            cases b14 with
                            | true =>
                              have h14 : allB [addE a b, mulE (addD a b) c, mulE a c, mulE b c, addE (mulD a c) (mulD b c)] = true := i14.1 rfl
                              cases b15 with
                              | true =>
                                have h15 : mulD (addD a b) c = addD (mulD a c) (mulD b c) := i15.1 rfl
                                cases b16 with
                                | true =>
                                  have h16 : allB [flE a k, mkE 1 k, addE (flD a k) (mkD false 1 k)] = true := i16.1 rfl
                                  cases b17 with
                                  | true =>
                                    have h17 : cmpD (flD a k) a ≤ 0 := i17.1 rfl
                                    cases b18 with
                                    | true =>
                                      have h18 : cmpD (addD (flD a k) (mkD false 1 k)) a > 0 := i18.1 rfl
                                      cases b19 with
                                      | true =>
                                        have h19 : flD a k = Dy.zero := i19.1 rfl
                                        exact fin _ (Ring_r31 b13 b20) rfl rfl
                                      | false =>
                                        have h19 : ¬ (flD a k = Dy.zero) := fun c => Bool.false_ne_true (i19.2 c)
                                        cases b20 with
                                        | true =>
                                          have h20 : (flD a k).x ≥ k := i20.1 rfl
                                          exact fin _ (Ring_r32 b13) rfl rfl
                                        | false =>
                                          exact absurd (i20.2 ((ring_floor ha (allB_iff.1 h16 _ (by simp)) (allB_iff.1 h16 _ (by simp)) (allB_iff.1 h16 _ (by simp)) (flD_Ok ha)).2.2.resolve_left h19)) Bool.false_ne_true
                                    | false =>
                                      exact absurd (i18.2 ((ring_floor ha (allB_iff.1 h16 _ (by simp)) (allB_iff.1 h16 _ (by simp)) (allB_iff.1 h16 _ (by simp)) (flD_Ok ha)).2.1)) Bool.false_ne_true
                                  | false =>
                                    exact absurd (i17.2 ((ring_floor ha (allB_iff.1 h16 _ (by simp)) (allB_iff.1 h16 _ (by simp)) (allB_iff.1 h16 _ (by simp)) (flD_Ok ha)).1)) Bool.false_ne_true
                                | false =>
                                  have h16 : ¬ (allB [flE a k, mkE 1 k, addE (flD a k) (mkD false 1 k)] = true) := fun c => Bool.false_ne_true (i16.2 c)
                                  exact fin _ (Ring_r33 b13 b17 b18 b19 b20) rfl rfl
                              | false =>
                                exact absurd (i15.2 (distr ha hb hc (allB_iff.1 h14 _ (by simp)) (allB_iff.1 h14 _ (by simp)) (allB_iff.1 h14 _ (by simp)) (allB_iff.1 h14 _ (by simp)) (allB_iff.1 h14 _ (by simp)))) Bool.false_ne_true
                            | false =>
                              have h14 : ¬ (allB [addE a b, mulE (addD a b) c, mulE a c, mulE b c, addE (mulD a c) (mulD b c)] = true) := fun c => Bool.false_ne_true (i14.2 c)
                              cases b16 with
                              | true =>
                                have h16 : allB [flE a k, mkE 1 k, addE (flD a k) (mkD false 1 k)] = true := i16.1 rfl
                                cases b17 with
                                | true =>
                                  have h17 : cmpD (flD a k) a ≤ 0 := i17.1 rfl
                                  cases b18 with
                                  | true =>
                                    have h18 : cmpD (addD (flD a k) (mkD false 1 k)) a > 0 := i18.1 rfl
                                    cases b19 with
                                    | true =>
                                      have h19 : flD a k = Dy.zero := i19.1 rfl
                                      exact fin _ (Ring_r34 b13 b15 b20) rfl rfl
                                    | false =>
                                      have h19 : ¬ (flD a k = Dy.zero) := fun c => Bool.false_ne_true (i19.2 c)
                                      cases b20 with
                                      | true =>
                                        have h20 : (flD a k).x ≥ k := i20.1 rfl
                                        exact fin _ (Ring_r35 b13 b15) rfl rfl
                                      | false =>
                                        exact absurd (i20.2 ((ring_floor ha (allB_iff.1 h16 _ (by simp)) (allB_iff.1 h16 _ (by simp)) (allB_iff.1 h16 _ (by simp)) (flD_Ok ha)).2.2.resolve_left h19)) Bool.false_ne_true
                                  | false =>
                                    exact absurd (i18.2 ((ring_floor ha (allB_iff.1 h16 _ (by simp)) (allB_iff.1 h16 _ (by simp)) (allB_iff.1 h16 _ (by simp)) (flD_Ok ha)).2.1)) Bool.false_ne_true
                                | false =>
                                  exact absurd (i17.2 ((ring_floor ha (allB_iff.1 h16 _ (by simp)) (allB_iff.1 h16 _ (by simp)) (allB_iff.1 h16 _ (by simp)) (flD_Ok ha)).1)) Bool.false_ne_true
                              | false =>
                                have h16 : ¬ (allB [flE a k, mkE 1 k, addE (flD a k) (mkD false 1 k)] = true) := fun c => Bool.false_ne_true (i16.2 c)
                                exact fin _ (Ring_r36 b13 b15 b17 b18 b19 b20) rfl rfl
                        | false =>
                          exact absurd (i11.2 ((sub_back ha hb h9).1)) Bool.false_ne_true
                      | false =>
                        exact absurd (i10.2 ((sub_back ha hb h9).2)) Bool.false_ne_true
                    | false =>
                      have h9 : ¬ (addE a b = 0) := fun c => Bool.false_ne_true (i9.2 c)
                      cases b12 with
                      | true =>
                        have h12 : addE a (negD b) = 0 := i12.1 rfl
                        cases b13 with
                        | true =>
                          have h13 : sgD (addD a (negD b)) = cmpD a b := i13.1 rfl
                          cases b14 with
                          | true =>
                            have h14 : allB [addE a b, mulE (addD a b) c, mulE a c, mulE b c, addE (mulD a c) (mulD b c)] = true := i14.1 rfl
                            cases b15 with
                            | true =>
                              have h15 : mulD (addD a b) c = addD (mulD a c) (mulD b c) := i15.1 rfl
                              cases b16 with
                              | true =>
                                have h16 : allB [flE a k, mkE 1 k, addE (flD a k) (mkD false 1 k)] = true := i16.1 rfl
                                cases b17 with
                                | true =>
                                  have h17 : cmpD (flD a k) a ≤ 0 := i17.1 rfl
                                  cases b18 with
                                  | true =>
                                    have h18 : cmpD (addD (flD a k) (mkD false 1 k)) a > 0 := i18.1 rfl
                                    cases b19 with
                                    | true =>
                                      have h19 : flD a k = Dy.zero := i19.1 rfl
                                      exact fin _ (Ring_r37 b10 b11 b20) rfl rfl
                                    | false =>
                                      have h19 : ¬ (flD a k = Dy.zero) := fun c => Bool.false_ne_true (i19.2 c)
                                      cases b20 with
                                      | true =>
                                        have h20 : (flD a k).x ≥ k := i20.1 rfl
                                        exact fin _ (Ring_r38 b10 b11) rfl rfl
                                      | false =>
                                        exact absurd (i20.2 ((ring_floor ha (allB_iff.1 h16 _ (by simp)) (allB_iff.1 h16 _ (by simp)) (allB_iff.1 h16 _ (by simp)) (flD_Ok ha)).2.2.resolve_left h19)) Bool.false_ne_true
                                  | false =>
                                    exact absurd (i18.2 ((ring_floor ha (allB_iff.1 h16 _ (by simp)) (allB_iff.1 h16 _ (by simp)) (allB_iff.1 h16 _ (by simp)) (flD_Ok ha)).2.1)) Bool.false_ne_true
                                | false =>
                                  exact absurd (i17.2 ((ring_floor ha (allB_iff.1 h16 _ (by simp)) (allB_iff.1 h16 _ (by simp)) (allB_iff.1 h16 _ (by simp)) (flD_Ok ha)).1)) Bool.false_ne_true
                              | false =>
                                have h16 : ¬ (allB [flE a k, mkE 1 k, addE (flD a k) (mkD false 1 k)] = true) := fun c => Bool.false_ne_true (i16.2 c)
                                exact fin _ (Ring_r39 b10 b11 b17 b18 b19 b20) rfl rfl
                            | false =>
                              exact absurd (i15.2 (distr ha hb hc (allB_iff.1 h14 _ (by simp)) (allB_iff.1 h14 _ (by simp)) (allB_iff.1 h14 _ (by simp)) (allB_iff.1 h14 _ (by simp)) (allB_iff.1 h14 _ (by simp)))) Bool.false_ne_true
                          | false =>
                            have h14 : ¬ (allB [addE a b, mulE (addD a b) c, mulE a c, mulE b c, addE (mulD a c) (mulD b c)] = true) := fun c => Bool.false_ne_true (i14.2 c)
                            cases b16 with
                            | true =>
                              have h16 : allB [flE a k, mkE 1 k, addE (flD a k) (mkD false 1 k)] = true := i16.1 rfl
                              cases b17 with
                              | true =>
                                have h17 : cmpD (flD a k) a ≤ 0 := i17.1 rfl
                                cases b18 with
                                | true =>
                                  have h18 : cmpD (addD (flD a k) (mkD false 1 k)) a > 0 := i18.1 rfl
                                  cases b19 with
                                  | true =>
                                    have h19 : flD a k = Dy.zero := i19.1 rfl
                                    exact fin _ (Ring_r40 b10 b11 b15 b20) rfl rfl
                                  | false =>
                                    have h19 : ¬ (flD a k = Dy.zero) := fun c => Bool.false_ne_true (i19.2 c)
                                    cases b20 with
                                    | true =>
                                      have h20 : (flD a k).x ≥ k := i20.1 rfl
                                      exact fin _ (Ring_r41 b10 b11 b15) rfl rfl
                                    | false =>
                                      exact absurd (i20.2 ((ring_floor ha (allB_iff.1 h16 _ (by simp)) (allB_iff.1 h16 _ (by simp)) (allB_iff.1 h16 _ (by simp)) (flD_Ok ha)).2.2.resolve_left h19)) Bool.false_ne_true
                                | false =>
                                  exact absurd (i18.2 ((ring_floor ha (allB_iff.1 h16 _ (by simp)) (allB_iff.1 h16 _ (by simp)) (allB_iff.1 h16 _ (by simp)) (flD_Ok ha)).2.1)) Bool.false_ne_true
                              | false =>
                                exact absurd (i17.2 ((ring_floor ha (allB_iff.1 h16 _ (by simp)) (allB_iff.1 h16 _ (by simp)) (allB_iff.1 h16 _ (by simp)) (flD_Ok ha)).1)) Bool.false_ne_true
                            | false =>
                              have h16 : ¬ (allB [flE a k, mkE 1 k, addE (flD a k) (mkD false 1 k)] = true) := fun c => Bool.false_ne_true (i16.2 c)
                              exact fin _ (Ring_r42 b10 b11 b15 b17 b18 b19 b20) rfl rfl
                        | false =>
                          exact absurd (i13.2 (sub_cmp ha hb h12)) Bool.false_ne_true
                      | false =>
                        have h12 : ¬ (addE a (negD b) = 0) := fun c => Bool.false_ne_true (i12.2 c)
                        cases b14 with
                        | true =>
                          have h14 : allB [addE a b, mulE (addD a b) c, mulE a c, mulE b c, addE (mulD a c) (mulD b c)] = true := i14.1 rfl
                          cases b15 with
                          | true =>
                            have h15 : mulD (addD a b) c = addD (mulD a c) (mulD b c) := i15.1 rfl
                            cases b16 with
                            | true =>
                              have h16 : allB [flE a k, mkE 1 k, addE (flD a k) (mkD false 1 k)] = true := i16.1 rfl
                              cases b17 with
                              | true =>
                                have h17 : cmpD (flD a k) a ≤ 0 := i17.1 rfl
                                cases b18 with
                                | true =>
                                  have h18 : cmpD (addD (flD a k) (mkD false 1 k)) a > 0 := i18.1 rfl
                                  cases b19 with
                                  | true =>
                                    have h19 : flD a k = Dy.zero := i19.1 rfl
                                    exact fin _ (Ring_r43 b10 b11 b13 b20) rfl rfl
                                  | false =>
                                    have h19 : ¬ (flD a k = Dy.zero) := fun c => Bool.false_ne_true (i19.2 c)
                                    cases b20 with
                                    | true =>
                                      have h20 : (flD a k).x ≥ k := i20.1 rfl
                                      exact fin _ (Ring_r44 b10 b11 b13) rfl rfl
                                    | false =>
                                      exact absurd (i20.2 ((ring_floor ha (allB_iff.1 h16 _ (by simp)) (allB_iff.1 h16 _ (by simp)) (allB_iff.1 h16 _ (by simp)) (flD_Ok ha)).2.2.resolve_left h19)) Bool.false_ne_true
                                | false =>
                                  exact absurd (i18.2 ((ring_floor ha (allB_iff.1 h16 _ (by simp)) (allB_iff.1 h16 _ (by simp)) (allB_iff.1 h16 _ (by simp)) (flD_Ok ha)).2.1)) Bool.false_ne_true
                              | false =>
                                exact absurd (i17.2 ((ring_floor ha (allB_iff.1 h16 _ (by simp)) (allB_iff.1 h16 _ (by simp)) (allB_iff.1 h16 _ (by simp)) (flD_Ok ha)).1)) Bool.false_ne_true
                            | false =>
                              have h16 : ¬ (allB [flE a k, mkE 1 k, addE (flD a k) (mkD false 1 k)] = true) := fun c => Bool.false_ne_true (i16.2 c)
                              exact fin _ (Ring_r45 b10 b11 b13 b17 b18 b19 b20) rfl rfl
                          | false =>
                            exact absurd (i15.2 (distr ha hb hc (allB_iff.1 h14 _ (by simp)) (allB_iff.1 h14 _ (by simp)) (allB_iff.1 h14 _ (by simp)) (allB_iff.1 h14 _ (by simp)) (allB_iff.1 h14 _ (by simp)))) Bool.false_ne_true
                        | false =>
                          have h14 : ¬ (allB [addE a b, mulE (addD a b) c, mulE a c, mulE b c, addE (mulD a c) (mulD b c)] = true) := fun c => Bool.false_ne_true (i14.2 c)
                          cases b16 with
                          | true =>
                            have h16 : allB [flE a k, mkE 1 k, addE (flD a k) (mkD false 1 k)] = true := i16.1 rfl
                            cases b17 with
                            | true =>
                              have h17 : cmpD (flD a k) a ≤ 0 := i17.1 rfl
                              cases b18 with
                              | true =>
                                have h18 : cmpD (addD (flD a k) (mkD false 1 k)) a > 0 := i18.1 rfl
                                cases b19 with
                                | true =>
                                  have h19 : flD a k = Dy.zero := i19.1 rfl
                                  exact fin _ (Ring_r46 b10 b11 b13 b15 b20) rfl rfl
                                | false =>
                                  have h19 : ¬ (flD a k = Dy.zero) := fun c => Bool.false_ne_true (i19.2 c)
                                  cases b20 with
                                  | true =>
                                    have h20 : (flD a k).x ≥ k := i20.1 rfl
                                    exact fin _ (Ring_r47 b10 b11 b13 b15) rfl rfl
                                  | false =>
                                    exact absurd (i20.2 ((ring_floor ha (allB_iff.1 h16 _ (by simp)) (allB_iff.1 h16 _ (by simp)) (allB_iff.1 h16 _ (by simp)) (flD_Ok ha)).2.2.resolve_left h19)) Bool.false_ne_true
                              | false =>
                                exact absurd (i18.2 ((ring_floor ha (allB_iff.1 h16 _ (by simp)) (allB_iff.1 h16 _ (by simp)) (allB_iff.1 h16 _ (by simp)) (flD_Ok ha)).2.1)) Bool.false_ne_true
                            | false =>
                              exact absurd (i17.2 ((ring_floor ha (allB_iff.1 h16 _ (by simp)) (allB_iff.1 h16 _ (by simp)) (allB_iff.1 h16 _ (by simp)) (flD_Ok ha)).1)) Bool.false_ne_true
                          | false =>
                            have h16 : ¬ (allB [flE a k, mkE 1 k, addE (flD a k) (mkD false 1 k)] = true) := fun c => Bool.false_ne_true (i16.2 c)
                            exact fin _ (Ring_r48 b10 b11 b13 b15 b17 b18 b19 b20) rfl rfl
                  | false =>
                    exact absurd (i21.2 (((mul_sg ha hb h6).1 h7).resolve_left h8)) Bool.false_ne_true
              | false =>
                have h7 : ¬ (sgD (mulD a b) = 0) := fun c => Bool.false_ne_true (i7.2 c)
                cases b8 with
                | true =>
                  exact absurd (i8.1 rfl) (fun c => h7 ((mul_sg ha hb h6).2 (Or.inl c)))
                | false =>
                  have h8 : ¬ (sgD a = 0) := fun c => Bool.false_ne_true (i8.2 c)
                  cases b21 with
                  | true =>
                    exact absurd (i21.1 rfl) (fun c => h7 ((mul_sg ha hb h6).2 (Or.inr c)))
                  | false =>
                    have h21 : ¬ (sgD b = 0) := fun c => Bool.false_ne_true (i21.2 c)
                    cases b9 with
                    | true =>
                      have h9 : addE a b = 0 := i9.1 rfl
                      cases b10 with
                      | true =>
                        have h10 : addE (addD a b) (negD b) = 0 := i10.1 rfl
                        cases b11 with
                        | true =>
                          have h11 : addD (addD a b) (negD b) = a := i11.1 rfl
                          cases b12 with
                          | true =>
                            have h12 : addE a (negD b) = 0 := i12.1 rfl
                            cases b13 with
                            | true =>
                              have h13 : sgD (addD a (negD b)) = cmpD a b := i13.1 rfl
                              cases b14 with
                              | true =>
                                have h14 : allB [addE a b, mulE (addD a b) c, mulE a c, mulE b c, addE (mulD a c) (mulD b c)] = true := i14.1 rfl
                                cases b15 with
                                | true =>
                                  have h15 : mulD (addD a b) c = addD (mulD a c) (mulD b c) := i15.1 rfl
                                  cases b16 with
                                  | true =>
                                    have h16 : allB [flE a k, mkE 1 k, addE (flD a k) (mkD false 1 k)] = true := i16.1 rfl
                                    cases b17 with
                                    | true =>
                                      have h17 : cmpD (flD a k) a ≤ 0 := i17.1 rfl
                                      cases b18 with
                                      | true =>
                                        have h18 : cmpD (addD (flD a k) (mkD false 1 k)) a > 0 := i18.1 rfl
                                        cases b19 with
                                        | true =>
                                          have h19 : flD a k = Dy.zero := i19.1 rfl
                                          exact fin _ (Ring_r49 b20) rfl rfl
                                        | false =>
                                          have h19 : ¬ (flD a k = Dy.zero) := fun c => Bool.false_ne_true (i19.2 c)
                                          cases b20 with
                                          | true =>
                                            have h20 : (flD a k).x ≥ k := i20.1 rfl
                                            exact fin _ (Ring_r50) rfl rfl
                                          | false =>
                                            exact absurd (i20.2 ((ring_floor ha (allB_iff.1 h16 _ (by simp)) (allB_iff.1 h16 _ (by simp)) (allB_iff.1 h16 _ (by simp)) (flD_Ok ha)).2.2.resolve_left h19)) Bool.false_ne_true
                                      | false =>
                                        exact absurd (i18.2 ((ring_floor ha (allB_iff.1 h16 _ (by simp)) (allB_iff.1 h16 _ (by simp)) (allB_iff.1 h16 _ (by simp)) (flD_Ok ha)).2.1)) Bool.false_ne_true
                                    | false =>
                                      exact absurd (i17.2 ((ring_floor ha (allB_iff.1 h16 _ (by simp)) (allB_iff.1 h16 _ (by simp)) (allB_iff.1 h16 _ (by simp)) (flD_Ok ha)).1)) Bool.false_ne_true
                                  | false =>
                                    have h16 : ¬ (allB [flE a k, mkE 1 k, addE (flD a k) (mkD false 1 k)] = true) := fun c => Bool.false_ne_true (i16.2 c)
                                    exact fin _ (Ring_r51 b17 b18 b19 b20) rfl rfl
                                | false =>
                                  exact absurd (i15.2 (distr ha hb hc (allB_iff.1 h14 _ (by simp)) (allB_iff.1 h14 _ (by simp)) (allB_iff.1 h14 _ (by simp)) (allB_iff.1 h14 _ (by simp)) (allB_iff.1 h14 _ (by simp)))) Bool.false_ne_true
                              | false =>
                                have h14 : ¬ (allB [addE a b, mulE (addD a b) c, mulE a c, mulE b c, addE (mulD a c) (mulD b c)] = true) := fun c => Bool.false_ne_true (i14.2 c)
                                cases b16 with
                                | true =>
                                  have h16 : allB [flE a k, mkE 1 k, addE (flD a k) (mkD false 1 k)] = true := i16.1 rfl
                                  cases b17 with
                                  | true =>
                                    have h17 : cmpD (flD a k) a ≤ 0 := i17.1 rfl
                                    cases b18 with
                                    | true =>
                                      have h18 : cmpD (addD (flD a k) (mkD false 1 k)) a > 0 := i18.1 rfl
                                      cases b19 with
                                      | true =>
                                        have h19 : flD a k = Dy.zero := i19.1 rfl
                                        exact fin _ (Ring_r52 b15 b20) rfl rfl
                                      | false =>
                                        have h19 : ¬ (flD a k = Dy.zero) := fun c => Bool.false_ne_true (i19.2 c)
                                        cases b20 with
                                        | true =>
                                          have h20 : (flD a k).x ≥ k := i20.1 rfl
                                          exact fin _ (Ring_r53 b15) rfl rfl
                                        | false =>
                                          exact absurd (i20.2 ((ring_floor ha (allB_iff.1 h16 _ (by simp)) (allB_iff.1 h16 _ (by simp)) (allB_iff.1 h16 _ (by simp)) (flD_Ok ha)).2.2.resolve_left h19)) Bool.false_ne_true
                                    | false =>
                                      exact absurd (i18.2 ((ring_floor ha (allB_iff.1 h16 _ (by simp)) (allB_iff.1 h16 _ (by simp)) (allB_iff.1 h16 _ (by simp)) (flD_Ok ha)).2.1)) Bool.false_ne_true
                                  | false =>
                                    exact absurd (i17.2 ((ring_floor ha (allB_iff.1 h16 _ (by simp)) (allB_iff.1 h16 _ (by simp)) (allB_iff.1 h16 _ (by simp)) (flD_Ok ha)).1)) Bool.false_ne_true
                                | false =>
                                  have h16 : ¬ (allB [flE a k, mkE 1 k, addE (flD a k) (mkD false 1 k)] = true) := fun c => Bool.false_ne_true (i16.2 c)
                                  exact fin _ (Ring_r54 b15 b17 b18 b19 b20) rfl rfl
                            | false =>
                              exact absurd (i13.2 (sub_cmp ha hb h12)) Bool.false_ne_true
                          | false =>
                            have h12 : ¬ (addE a (negD b) = 0) := fun c => Bool.false_ne_true (i12.2 c)
                            cases b14 with
                            | true =>
                              have h14 : allB [addE a b, mulE (addD a b) c, mulE a c, mulE b c, addE (mulD a c) (mulD b c)] = true := i14.1 rfl
                              cases b15 with
                              | true =>
                                have h15 : mulD (addD a b) c = addD (mulD a c) (mulD b c) := i15.1 rfl
                                cases b16 with
                                | true =>
                                  have h16 : allB [flE a k, mkE 1 k, addE (flD a k) (mkD false 1 k)] = true := i16.1 rfl
                                  cases b17 with
                                  | true =>
                                    have h17 : cmpD (flD a k) a ≤ 0 := i17.1 rfl
                                    cases b18 with
                                    | true =>
                                      have h18 : cmpD (addD (flD a k) (mkD false 1 k)) a > 0 := i18.1 rfl
                                      cases b19 with
                                      | true =>
                                        have h19 : flD a k = Dy.zero := i19.1 rfl
                                        exact fin _ (Ring_r55 b13 b20) rfl rfl
                                      | false =>
                                        have h19 : ¬ (flD a k = Dy.zero) := fun c => Bool.false_ne_true (i19.2 c)
                                        cases b20 with
                                        | true =>
                                          have h20 : (flD a k).x ≥ k := i20.1 rfl
                                          exact fin _ (Ring_r56 b13) rfl rfl
                                        | false =>
                                          exact absurd (i20.2 ((ring_floor ha (allB_iff.1 h16 _ (by simp)) (allB_iff.1 h16 _ (by simp)) (allB_iff.1 h16 _ (by simp)) (flD_Ok ha)).2.2.resolve_left h19)) Bool.false_ne_true
                                    | false =>
                                      exact absurd (i18.2 ((ring_floor ha (allB_iff.1 h16 _ (by simp)) (allB_iff.1 h16 _ (by simp)) (allB_iff.1 h16 _ (by simp)) (flD_Ok ha)).2.1)) Bool.false_ne_true
                                  | false =>
                                    exact absurd (i17.2 ((ring_floor ha (allB_iff.1 h16 _ (by simp)) (allB_iff.1 h16 _ (by simp)) (allB_iff.1 h16 _ (by simp)) (flD_Ok ha)).1)) Bool.false_ne_true
                                | false =>
                                  have h16 : ¬ (allB [flE a k, mkE 1 k, addE (flD a k) (mkD false 1 k)] = true) := fun c => Bool.false_ne_true (i16.2 c)
                                  exact fin _ (Ring_r57 b13 b17 b18 b19 b20) rfl rfl
                              | false =>
                                exact absurd (i15.2 (distr ha hb hc (allB_iff.1 h14 _ (by simp)) (allB_iff.1 h14 _ (by simp)) (allB_iff.1 h14 _ (by simp)) (allB_iff.1 h14 _ (by simp)) (allB_iff.1 h14 _ (by simp)))) Bool.false_ne_true
                            | false =>
                              have h14 : ¬ (allB [addE a b, mulE (addD a b) c, mulE a c, mulE b c, addE (mulD a c) (mulD b c)] = true) := fun c => Bool.false_ne_true (i14.2 c)
                              cases b16 with
                              | true =>
                                have h16 : allB [flE a k, mkE 1 k, addE (flD a k) (mkD false 1 k)] = true := i16.1 rfl
                                cases b17 with
                                | true =>
                                  have h17 : cmpD (flD a k) a ≤ 0 := i17.1 rfl
                                  cases b18 with
                                  | true =>
                                    have h18 : cmpD (addD (flD a k) (mkD false 1 k)) a > 0 := i18.1 rfl
                                    cases b19 with
                                    | true =>
                                      have h19 : flD a k = Dy.zero := i19.1 rfl
                                      exact fin _ (Ring_r58 b13 b15 b20) rfl rfl
                                    | false =>
                                      have h19 : ¬ (flD a k = Dy.zero) := fun c => Bool.false_ne_true (i19.2 c)
                                      cases b20 with
                                      | true =>
                                        have h20 : (flD a k).x ≥ k := i20.1 rfl
                                        exact fin _ (Ring_r59 b13 b15) rfl rfl
                                      | false =>
                                        exact absurd (i20.2 ((ring_floor ha (allB_iff.1 h16 _ (by simp)) (allB_iff.1 h16 _ (by simp)) (allB_iff.1 h16 _ (by simp)) (flD_Ok ha)).2.2.resolve_left h19)) Bool.false_ne_true
                                  | false =>
                                    exact absurd (i18.2 ((ring_floor ha (allB_iff.1 h16 _ (by simp)) (allB_iff.1 h16 _ (by simp)) (allB_iff.1 h16 _ (by simp)) (flD_Ok ha)).2.1)) Bool.false_ne_true
                                | false =>
                                  exact absurd (i17.2 ((ring_floor ha (allB_iff.1 h16 _ (by simp)) (allB_iff.1 h16 _ (by simp)) (allB_iff.1 h16 _ (by simp)) (flD_Ok ha)).1)) Bool.false_ne_true
                              | false =>
                                have h16 : ¬ (allB [flE a k, mkE 1 k, addE (flD a k) (mkD false 1 k)] = true) := fun c => Bool.false_ne_true (i16.2 c)
                                exact fin _ (Ring_r60 b13 b15 b17 b18 b19 b20) rfl rfl
                        | false =>
                          exact absurd (i11.2 ((sub_back ha hb h9).1)) Bool.false_ne_true
                      | false =>
                        exact absurd (i10.2 ((sub_back ha hb h9).2)) Bool.false_ne_true
                    | false =>
                      have h9 : ¬ (addE a b = 0) := fun c => Bool.false_ne_true (i9.2 c)
                      cases b12 with
                      | true =>
                        have h12 : addE a (negD b) = 0 := i12.1 rfl
                        cases b13 with
                        | true =>
                          have h13 : sgD (addD a (negD b)) = cmpD a b := i13.1 rfl
                          cases b14 with
                          | true =>
                            have h14 : allB [addE a b, mulE (addD a b) c, mulE a c, mulE b c, addE (mulD a c) (mulD b c)] = true := i14.1 rfl
                            cases b15 with
                            | true =>
                              have h15 : mulD (addD a b) c = addD (mulD a c) (mulD b c) := i15.1 rfl
                              cases b16 with
                              | true =>
                                have h16 : allB [flE a k, mkE 1 k, addE (flD a k) (mkD false 1 k)] = true := i16.1 rfl
                                cases b17 with
                                | true =>
                                  have h17 : cmpD (flD a k) a ≤ 0 := i17.1 rfl
                                  cases b18 with
                                  | true =>
                                    have h18 : cmpD (addD (flD a k) (mkD false 1 k)) a > 0 := i18.1 rfl
                                    cases b19 with
                                    | true =>
                                      have h19 : flD a k = Dy.zero := i19.1 rfl
                                      exact fin _ (Ring_r61 b10 b11 b20) rfl rfl
                                    | false =>
                                      have h19 : ¬ (flD a k = Dy.zero) := fun c => Bool.false_ne_true (i19.2 c)
                                      cases b20 with
                                      | true =>
                                        have h20 : (flD a k).x ≥ k := i20.1 rfl
                                        exact fin _ (Ring_r62 b10 b11) rfl rfl
                                      | false =>
                                        exact absurd (i20.2 ((ring_floor ha (allB_iff.1 h16 _ (by simp)) (allB_iff.1 h16 _ (by simp)) (allB_iff.1 h16 _ (by simp)) (flD_Ok ha)).2.2.resolve_left h19)) Bool.false_ne_true
                                  | false =>
                                    exact absurd (i18.2 ((ring_floor ha (allB_iff.1 h16 _ (by simp)) (allB_iff.1 h16 _ (by simp)) (allB_iff.1 h16 _ (by simp)) (flD_Ok ha)).2.1)) Bool.false_ne_true
                                | false =>
                                  exact absurd (i17.2 ((ring_floor ha (allB_iff.1 h16 _ (by simp)) (allB_iff.1 h16 _ (by simp)) (allB_iff.1 h16 _ (by simp)) (flD_Ok ha)).1)) Bool.false_ne_true
                              | false =>
                                have h16 : ¬ (allB [flE a k, mkE 1 k, addE (flD a k) (mkD false 1 k)] = true) := fun c => Bool.false_ne_true (i16.2 c)
                                exact fin _ (Ring_r63 b10 b11 b17 b18 b19 b20) rfl rfl
                            | false =>
                              exact absurd (i15.2 (distr ha hb hc (allB_iff.1 h14 _ (by simp)) (allB_iff.1 h14 _ (by simp)) (allB_iff.1 h14 _ (by simp)) (allB_iff.1 h14 _ (by simp)) (allB_iff.1 h14 _ (by simp)))) Bool.false_ne_true
                          | false =>
                            have h14 : ¬ (allB [addE a b, mulE (addD a b) c, mulE a c, mulE b c, addE (mulD a c) (mulD b c)] = true) := fun c => Bool.false_ne_true (i14.2 c)
                            cases b16 with
                            | true =>
                              have h16 : allB [flE a k, mkE 1 k, addE (flD a k) (mkD false 1 k)] = true := i16.1 rfl
                              cases b17 with
                              | true =>
                                have h17 : cmpD (flD a k) a ≤ 0 := i17.1 rfl
                                cases b18 with
                                | true =>
                                  have h18 : cmpD (addD (flD a k) (mkD false 1 k)) a > 0 := i18.1 rfl
                                  cases b19 with
                                  | true =>
                                    have h19 : flD a k = Dy.zero := i19.1 rfl
                                    exact fin _ (Ring_r64 b10 b11 b15 b20) rfl rfl
                                  | false =>
                                    have h19 : ¬ (flD a k = Dy.zero) := fun c => Bool.false_ne_true (i19.2 c)
                                    cases b20 with
                                    | true =>
                                      have h20 : (flD a k).x ≥ k := i20.1 rfl
                                      exact fin _ (Ring_r65 b10 b11 b15) rfl rfl
                                    | false =>
                                      exact absurd (i20.2 ((ring_floor ha (allB_iff.1 h16 _ (by simp)) (allB_iff.1 h16 _ (by simp)) (allB_iff.1 h16 _ (by simp)) (flD_Ok ha)).2.2.resolve_left h19)) Bool.false_ne_true
                                | false =>
                                  exact absurd (i18.2 ((ring_floor ha (allB_iff.1 h16 _ (by simp)) (allB_iff.1 h16 _ (by simp)) (allB_iff.1 h16 _ (by simp)) (flD_Ok ha)).2.1)) Bool.false_ne_true
                              | false =>
                                exact absurd (i17.2 ((ring_floor ha (allB_iff.1 h16 _ (by simp)) (allB_iff.1 h16 _ (by simp)) (allB_iff.1 h16 _ (by simp)) (flD_Ok ha)).1)) Bool.false_ne_true
                            | false =>
                              have h16 : ¬ (allB [flE a k, mkE 1 k, addE (flD a k) (mkD false 1 k)] = true) := fun c => Bool.false_ne_true (i16.2 c)
                              exact fin _ (Ring_r66 b10 b11 b15 b17 b18 b19 b20) rfl rfl
                        | false =>
                          exact absurd (i13.2 (sub_cmp ha hb h12)) Bool.false_ne_true
                      | false =>
                        have h12 : ¬ (addE a (negD b) = 0) := fun c => Bool.false_ne_true (i12.2 c)
                        cases b14 with
                        | true =>
                          have h14 : allB [addE a b, mulE (addD a b) c, mulE a c, mulE b c, addE (mulD a c) (mulD b c)] = true := i14.1 rfl
                          cases b15 with
                          | true =>
                            have h15 : mulD (addD a b) c = addD (mulD a c) (mulD b c) := i15.1 rfl
                            cases b16 with
                            | true =>
                              have h16 : allB [flE a k, mkE 1 k, addE (flD a k) (mkD false 1 k)] = true := i16.1 rfl
                              cases b17 with
                              | true =>
                                have h17 : cmpD (flD a k) a ≤ 0 := i17.1 rfl
                                cases b18 with
                                | true =>
                                  have h18 : cmpD (addD (flD a k) (mkD false 1 k)) a > 0 := i18.1 rfl
                                  cases b19 with
                                  | true =>
                                    have h19 : flD a k = Dy.zero := i19.1 rfl
                                    exact fin _ (Ring_r67 b10 b11 b13 b20) rfl rfl
                                  | false =>
                                    have h19 : ¬ (flD a k = Dy.zero) := fun c => Bool.false_ne_true (i19.2 c)
                                    cases b20 with
                                    | true =>
                                      have h20 : (flD a k).x ≥ k := i20.1 rfl
                                      exact fin _ (Ring_r68 b10 b11 b13) rfl rfl
                                    | false =>
                                      exact absurd (i20.2 ((ring_floor ha (allB_iff.1 h16 _ (by simp)) (allB_iff.1 h16 _ (by simp)) (allB_iff.1 h16 _ (by simp)) (flD_Ok ha)).2.2.resolve_left h19)) Bool.false_ne_true
                                | false =>
                                  exact absurd (i18.2 ((ring_floor ha (allB_iff.1 h16 _ (by simp)) (allB_iff.1 h16 _ (by simp)) (allB_iff.1 h16 _ (by simp)) (flD_Ok ha)).2.1)) Bool.false_ne_true
                              | false =>
                                exact absurd (i17.2 ((ring_floor ha (allB_iff.1 h16 _ (by simp)) (allB_iff.1 h16 _ (by simp)) (allB_iff.1 h16 _ (by simp)) (flD_Ok ha)).1)) Bool.false_ne_true
                            | false =>
                              have h16 : ¬ (allB [flE a k, mkE 1 k, addE (flD a k) (mkD false 1 k)] = true) := fun c => Bool.false_ne_true (i16.2 c)
                              exact fin _ (Ring_r69 b10 b11 b13 b17 b18 b19 b20) rfl rfl
                          | false =>
                            exact absurd (i15.2 (distr ha hb hc (allB_iff.1 h14 _ (by simp)) (allB_iff.1 h14 _ (by simp)) (allB_iff.1 h14 _ (by simp)) (allB_iff.1 h14 _ (by simp)) (allB_iff.1 h14 _ (by simp)))) Bool.false_ne_true
                        | false =>
                          have h14 : ¬ (allB [addE a b, mulE (addD a b) c, mulE a c, mulE b c, addE (mulD a c) (mulD b c)] = true) := fun c => Bool.false_ne_true (i14.2 c)
                          cases b16 with
                          | true =>
                            have h16 : allB [flE a k, mkE 1 k, addE (flD a k) (mkD false 1 k)] = true := i16.1 rfl
                            cases b17 with
                            | true =>
                              have h17 : cmpD (flD a k) a ≤ 0 := i17.1 rfl
                              cases b18 with
                              | true =>
                                have h18 : cmpD (addD (flD a k) (mkD false 1 k)) a > 0 := i18.1 rfl
                                cases b19 with
                                | true =>
                                  have h19 : flD a k = Dy.zero := i19.1 rfl
                                  exact fin _ (Ring_r70 b10 b11 b13 b15 b20) rfl rfl
                                | false =>
                                  have h19 : ¬ (flD a k = Dy.zero) := fun c => Bool.false_ne_true (i19.2 c)
                                  cases b20 with
                                  | true =>
                                    have h20 : (flD a k).x ≥ k := i20.1 rfl
                                    exact fin _ (Ring_r71 b10 b11 b13 b15) rfl rfl
                                  | false =>
                                    exact absurd (i20.2 ((ring_floor ha (allB_iff.1 h16 _ (by simp)) (allB_iff.1 h16 _ (by simp)) (allB_iff.1 h16 _ (by simp)) (flD_Ok ha)).2.2.resolve_left h19)) Bool.false_ne_true
                              | false =>
                                exact absurd (i18.2 ((ring_floor ha (allB_iff.1 h16 _ (by simp)) (allB_iff.1 h16 _ (by simp)) (allB_iff.1 h16 _ (by simp)) (flD_Ok ha)).2.1)) Bool.false_ne_true
                            | false =>
                              exact absurd (i17.2 ((ring_floor ha (allB_iff.1 h16 _ (by simp)) (allB_iff.1 h16 _ (by simp)) (allB_iff.1 h16 _ (by simp)) (flD_Ok ha)).1)) Bool.false_ne_true
                          | false =>
                            have h16 : ¬ (allB [flE a k, mkE 1 k, addE (flD a k) (mkD false 1 k)] = true) := fun c => Bool.false_ne_true (i16.2 c)
                            exact fin _ (Ring_r72 b10 b11 b13 b15 b17 b18 b19 b20) rfl rfl
            | false =>
              have h6 : ¬ (mulE a b = 0) := fun c => Bool.false_ne_true (i6.2 c)
              cases b9 with
              | true =>
                have h9 : addE a b = 0 := i9.1 rfl
                cases b10 with
                | true =>
                  have h10 : addE (addD a b) (negD b) = 0 := i10.1 rfl
                  cases b11 with
                  | true =>
                    have h11 : addD (addD a b) (negD b) = a := i11.1 rfl
                    cases b12 with
                    | true =>
                      have h12 : addE a (negD b) = 0 := i12.1 rfl
                      cases b13 with
                      | true =>
                        have h13 : sgD (addD a (negD b)) = cmpD a b := i13.1 rfl
                        cases b14 with
                        | true =>
                          have h14 : allB [addE a b, mulE (addD a b) c, mulE a c, mulE b c, addE (mulD a c) (mulD b c)] = true := i14.1 rfl
                          cases b15 with
                          | true =>
                            have h15 : mulD (addD a b) c = addD (mulD a c) (mulD b c) := i15.1 rfl
                            cases b16 with
                            | true =>
                              have h16 : allB [flE a k, mkE 1 k, addE (flD a k) (mkD false 1 k)] = true := i16.1 rfl
                              cases b17 with
                              | true =>
                                have h17 : cmpD (flD a k) a ≤ 0 := i17.1 rfl
                                cases b18 with
                                | true =>
                                  have h18 : cmpD (addD (flD a k) (mkD false 1 k)) a > 0 := i18.1 rfl
                                  cases b19 with
                                  | true =>
                                    have h19 : flD a k = Dy.zero := i19.1 rfl
                                    exact fin _ (Ring_r73 b7 b8 b20 b21) rfl rfl
                                  | false =>
                                    have h19 : ¬ (flD a k = Dy.zero) := fun c => Bool.false_ne_true (i19.2 c)
                                    cases b20 with
                                    | true =>
                                      have h20 : (flD a k).x ≥ k := i20.1 rfl
                                      exact fin _ (Ring_r74 b7 b8 b21) rfl rfl
                                    | false =>
                                      exact absurd (i20.2 ((ring_floor ha (allB_iff.1 h16 _ (by simp)) (allB_iff.1 h16 _ (by simp)) (allB_iff.1 h16 _ (by simp)) (flD_Ok ha)).2.2.resolve_left h19)) Bool.false_ne_true
                                | false =>
                                  exact absurd (i18.2 ((ring_floor ha (allB_iff.1 h16 _ (by simp)) (allB_iff.1 h16 _ (by simp)) (allB_iff.1 h16 _ (by simp)) (flD_Ok ha)).2.1)) Bool.false_ne_true
                              | false =>
                                exact absurd (i17.2 ((ring_floor ha (allB_iff.1 h16 _ (by simp)) (allB_iff.1 h16 _ (by simp)) (allB_iff.1 h16 _ (by simp)) (flD_Ok ha)).1)) Bool.false_ne_true
                            | false =>
                              have h16 : ¬ (allB [flE a k, mkE 1 k, addE (flD a k) (mkD false 1 k)] = true) := fun c => Bool.false_ne_true (i16.2 c)
                              exact fin _ (Ring_r75 b7 b8 b17 b18 b19 b20 b21) rfl rfl
                          | false =>
                            exact absurd (i15.2 (distr ha hb hc (allB_iff.1 h14 _ (by simp)) (allB_iff.1 h14 _ (by simp)) (allB_iff.1 h14 _ (by simp)) (allB_iff.1 h14 _ (by simp)) (allB_iff.1 h14 _ (by simp)))) Bool.false_ne_true
                        | false =>
                          have h14 : ¬ (allB [addE a b, mulE (addD a b) c, mulE a c, mulE b c, addE (mulD a c) (mulD b c)] = true) := fun c => Bool.false_ne_true (i14.2 c)
                          cases b16 with
                          | true =>
                            have h16 : allB [flE a k, mkE 1 k, addE (flD a k) (mkD false 1 k)] = true := i16.1 rfl
                            cases b17 with
                            | true =>
                              have h17 : cmpD (flD a k) a ≤ 0 := i17.1 rfl
                              cases b18 with
                              | true =>
                                have h18 : cmpD (addD (flD a k) (mkD false 1 k)) a > 0 := i18.1 rfl
                                cases b19 with
                                | true =>
                                  have h19 : flD a k = Dy.zero := i19.1 rfl
                                  exact fin _ (Ring_r76 b7 b8 b15 b20 b21) rfl rfl
                                | false =>
                                  have h19 : ¬ (flD a k = Dy.zero) := fun c => Bool.false_ne_true (i19.2 c)
                                  cases b20 with
                                  | true =>
                                    have h20 : (flD a k).x ≥ k := i20.1 rfl
                                    exact fin _ (Ring_r77 b7 b8 b15 b21) rfl rfl
                                  | false =>
                                    exact absurd (i20.2 ((ring_floor ha (allB_iff.1 h16 _ (by simp)) (allB_iff.1 h16 _ (by simp)) (allB_iff.1 h16 _ (by simp)) (flD_Ok ha)).2.2.resolve_left h19)) Bool.false_ne_true
                              | false =>
                                exact absurd (i18.2 ((ring_floor ha (allB_iff.1 h16 _ (by simp)) (allB_iff.1 h16 _ (by simp)) (allB_iff.1 h16 _ (by simp)) (flD_Ok ha)).2.1)) Bool.false_ne_true
                            | false =>
                              exact absurd (i17.2 ((ring_floor ha (allB_iff.1 h16 _ (by simp)) (allB_iff.1 h16 _ (by simp)) (allB_iff.1 h16 _ (by simp)) (flD_Ok ha)).1)) Bool.false_ne_true
                          | false =>
                            have h16 : ¬ (allB [flE a k, mkE 1 k, addE (flD a k) (mkD false 1 k)] = true) := fun c => Bool.false_ne_true (i16.2 c)
                            exact fin _ (Ring_r78 b7 b8 b15 b17 b18 b19 b20 b21) rfl rfl
                      | false =>
                        exact absurd (i13.2 (sub_cmp ha hb h12)) Bool.false_ne_true
                    | false =>
                      have h12 : ¬ (addE a (negD b) = 0) := fun c => Bool.false_ne_true (i12.2 c)
                      cases b14 with
                      | true =>
                        have h14 : allB [addE a b, mulE (addD a b) c, mulE a c, mulE b c, addE (mulD a c) (mulD b c)] = true := i14.1 rfl
                        cases b15 with
                        | true =>
                          have h15 : mulD (addD a b) c = addD (mulD a c) (mulD b c) := i15.1 rfl
                          cases b16 with
                          | true =>
                            have h16 : allB [flE a k, mkE 1 k, addE (flD a k) (mkD false 1 k)] = true := i16.1 rfl
                            cases b17 with
                            | true =>
                              have h17 : cmpD (flD a k) a ≤ 0 := i17.1 rfl
                              cases b18 with
                              | true =>
                                have h18 : cmpD (addD (flD a k) (mkD false 1 k)) a > 0 := i18.1 rfl
                                cases b19 with
                                | true =>
                                  have h19 : flD a k = Dy.zero := i19.1 rfl
                                  exact fin _ (Ring_r79 b7 b8 b13 b20 b21) rfl rfl
                                | false =>
                                  have h19 : ¬ (flD a k = Dy.zero) := fun c => Bool.false_ne_true (i19.2 c)
                                  cases b20 with
                                  | true =>
                                    have h20 : (flD a k).x ≥ k := i20.1 rfl
                                    exact fin _ (Ring_r80 b7 b8 b13 b21) rfl rfl
                                  | false =>
                                    exact absurd (i20.2 ((ring_floor ha (allB_iff.1 h16 _ (by simp)) (allB_iff.1 h16 _ (by simp)) (allB_iff.1 h16 _ (by simp)) (flD_Ok ha)).2.2.resolve_left h19)) Bool.false_ne_true
                              | false =>
                                exact absurd (i18.2 ((ring_floor ha (allB_iff.1 h16 _ (by simp)) (allB_iff.1 h16 _ (by simp)) (allB_iff.1 h16 _ (by simp)) (flD_Ok ha)).2.1)) Bool.false_ne_true
                            | false =>
                              exact absurd (i17.2 ((ring_floor ha (allB_iff.1 h16 _ (by simp)) (allB_iff.1 h16 _ (by simp)) (allB_iff.1 h16 _ (by simp)) (flD_Ok ha)).1)) Bool.false_ne_true
                          | false =>
                            have h16 : ¬ (allB [flE a k, mkE 1 k, addE (flD a k) (mkD false 1 k)] = true) := fun c => Bool.false_ne_true (i16.2 c)
                            exact fin _ (Ring_r81 b7 b8 b13 b17 b18 b19 b20 b21) rfl rfl
                        | false =>
                          exact absurd (i15.2 (distr ha hb hc (allB_iff.1 h14 _ (by simp)) (allB_iff.1 h14 _ (by simp)) (allB_iff.1 h14 _ (by simp)) (allB_iff.1 h14 _ (by simp)) (allB_iff.1 h14 _ (by simp)))) Bool.false_ne_true
                      | false =>
                        have h14 : ¬ (allB [addE a b, mulE (addD a b) c, mulE a c, mulE b c, addE (mulD a c) (mulD b c)] = true) := fun c => Bool.false_ne_true (i14.2 c)
                        cases b16 with
                        | true =>
                          have h16 : allB [flE a k, mkE 1 k, addE (flD a k) (mkD false 1 k)] = true := i16.1 rfl
                          cases b17 with
                          | true =>
                            have h17 : cmpD (flD a k) a ≤ 0 := i17.1 rfl
                            cases b18 with
                            | true =>
                              have h18 : cmpD (addD (flD a k) (mkD false 1 k)) a > 0 := i18.1 rfl
                              cases b19 with
                              | true =>
                                have h19 : flD a k = Dy.zero := i19.1 rfl
                                exact fin _ (Ring_r82 b7 b8 b13 b15 b20 b21) rfl rfl
                              | false =>
                                have h19 : ¬ (flD a k = Dy.zero) := fun c => Bool.false_ne_true (i19.2 c)
                                cases b20 with
                                | true =>
                                  have h20 : (flD a k).x ≥ k := i20.1 rfl
                                  exact fin _ (Ring_r83 b7 b8 b13 b15 b21) rfl rfl
                                | false =>
                                  exact absurd (i20.2 ((ring_floor ha (allB_iff.1 h16 _ (by simp)) (allB_iff.1 h16 _ (by simp)) (allB_iff.1 h16 _ (by simp)) (flD_Ok ha)).2.2.resolve_left h19)) Bool.false_ne_true
                            | false =>
                              exact absurd (i18.2 ((ring_floor ha (allB_iff.1 h16 _ (by simp)) (allB_iff.1 h16 _ (by simp)) (allB_iff.1 h16 _ (by simp)) (flD_Ok ha)).2.1)) Bool.false_ne_true
                          | false =>
                            exact absurd (i17.2 ((ring_floor ha (allB_iff.1 h16 _ (by simp)) (allB_iff.1 h16 _ (by simp)) (allB_iff.1 h16 _ (by simp)) (flD_Ok ha)).1)) Bool.false_ne_true
                        | false =>
                          have h16 : ¬ (allB [flE a k, mkE 1 k, addE (flD a k) (mkD false 1 k)] = true) := fun c => Bool.false_ne_true (i16.2 c)
                          exact fin _ (Ring_r84 b7 b8 b13 b15 b17 b18 b19 b20 b21) rfl rfl
                  | false =>
                    exact absurd (i11.2 ((sub_back ha hb h9).1)) Bool.false_ne_true
                | false =>
                  exact absurd (i10.2 ((sub_back ha hb h9).2)) Bool.false_ne_true
              | false =>
                have h9 : ¬ (addE a b = 0) := fun c => Bool.false_ne_true (i9.2 c)
                cases b12 with
                | true =>
                  have h12 : addE a (negD b) = 0 := i12.1 rfl
                  cases b13 with
                  | true =>
                    have h13 : sgD (addD a (negD b)) = cmpD a b := i13.1 rfl
                    cases b14 with
                    | true =>
                      have h14 : allB [addE a b, mulE (addD a b) c, mulE a c, mulE b c, addE (mulD a c) (mulD b c)] = true := i14.1 rfl
                      cases b15 with
                      | true =>
                        have h15 : mulD (addD a b) c = addD (mulD a c) (mulD b c) := i15.1 rfl
                        cases b16 with
                        | true =>
                          have h16 : allB [flE a k, mkE 1 k, addE (flD a k) (mkD false 1 k)] = true := i16.1 rfl
                          cases b17 with
                          | true =>
                            have h17 : cmpD (flD a k) a ≤ 0 := i17.1 rfl
                            cases b18 with
                            | true =>
                              have h18 : cmpD (addD (flD a k) (mkD false 1 k)) a > 0 := i18.1 rfl
                              cases b19 with
                              | true =>
                                have h19 : flD a k = Dy.zero := i19.1 rfl
                                exact fin _ (Ring_r85 b7 b8 b10 b11 b20 b21) rfl rfl
                              | false =>
                                have h19 : ¬ (flD a k = Dy.zero) := fun c => Bool.false_ne_true (i19.2 c)
                                cases b20 with
                                | true =>
                                  have h20 : (flD a k).x ≥ k := i20.1 rfl
                                  exact fin _ (Ring_r86 b7 b8 b10 b11 b21) rfl rfl
                                | false =>
                                  exact absurd (i20.2 ((ring_floor ha (allB_iff.1 h16 _ (by simp)) (allB_iff.1 h16 _ (by simp)) (allB_iff.1 h16 _ (by simp)) (flD_Ok ha)).2.2.resolve_left h19)) Bool.false_ne_true
                            | false =>
                              exact absurd (i18.2 ((ring_floor ha (allB_iff.1 h16 _ (by simp)) (allB_iff.1 h16 _ (by simp)) (allB_iff.1 h16 _ (by simp)) (flD_Ok ha)).2.1)) Bool.false_ne_true
                          | false =>
                            exact absurd (i17.2 ((ring_floor ha (allB_iff.1 h16 _ (by simp)) (allB_iff.1 h16 _ (by simp)) (allB_iff.1 h16 _ (by simp)) (flD_Ok ha)).1)) Bool.false_ne_true
                        | false =>
                          have h16 : ¬ (allB [flE a k, mkE 1 k, addE (flD a k) (mkD false 1 k)] = true) := fun c => Bool.false_ne_true (i16.2 c)
                          exact fin _ (Ring_r87 b7 b8 b10 b11 b17 b18 b19 b20 b21) rfl rfl
                      | false =>
                        exact absurd (i15.2 (distr ha hb hc (allB_iff.1 h14 _ (by simp)) (allB_iff.1 h14 _ (by simp)) (allB_iff.1 h14 _ (by simp)) (allB_iff.1 h14 _ (by simp)) (allB_iff.1 h14 _ (by simp)))) Bool.false_ne_true
                    | false =>
                      have h14 : ¬ (allB [addE a b, mulE (addD a b) c, mulE a c, mulE b c, addE (mulD a c) (mulD b c)] = true) := fun c => Bool.false_ne_true (i14.2 c)
                      cases b16 with
                      | true =>
                        have h16 : allB [flE a k, mkE 1 k, addE (flD a k) (mkD false 1 k)] = true := i16.1 rfl
                        cases b17 with
                        | true =>
                          have h17 : cmpD (flD a k) a ≤ 0 := i17.1 rfl
                          cases b18 with
                          | true =>
                            have h18 : cmpD (addD (flD a k) (mkD false 1 k)) a > 0 := i18.1 rfl
                            cases b19 with
                            | true =>
                              have h19 : flD a k = Dy.zero := i19.1 rfl
                              exact fin _ (Ring_r88 b7 b8 b10 b11 b15 b20 b21) rfl rfl
                            | false =>
                              have h19 : ¬ (flD a k = Dy.zero) := fun c => Bool.false_ne_true (i19.2 c)
                              cases b20 with
                              | true =>
                                have h20 : (flD a k).x ≥ k := i20.1 rfl
                                exact fin _ (Ring_r89 b7 b8 b10 b11 b15 b21) rfl rfl
                              | false =>
                                exact absurd (i20.2 ((ring_floor ha (allB_iff.1 h16 _ (by simp)) (allB_iff.1 h16 _ (by simp)) (allB_iff.1 h16 _ (by simp)) (flD_Ok ha)).2.2.resolve_left h19)) Bool.false_ne_true
                          | false =>
                            exact absurd (i18.2 ((ring_floor ha (allB_iff.1 h16 _ (by simp)) (allB_iff.1 h16 _ (by simp)) (allB_iff.1 h16 _ (by simp)) (flD_Ok ha)).2.1)) Bool.false_ne_true
                        | false =>
                          exact absurd (i17.2 ((ring_floor ha (allB_iff.1 h16 _ (by simp)) (allB_iff.1 h16 _ (by simp)) (allB_iff.1 h16 _ (by simp)) (flD_Ok ha)).1)) Bool.false_ne_true
                      | false =>
                        have h16 : ¬ (allB [flE a k, mkE 1 k, addE (flD a k) (mkD false 1 k)] = true) := fun c => Bool.false_ne_true (i16.2 c)
                        exact fin _ (Ring_r90 b7 b8 b10 b11 b15 b17 b18 b19 b20 b21) rfl rfl
                  | false =>
                    exact absurd (i13.2 (sub_cmp ha hb h12)) Bool.false_ne_true
                | false =>
                  have h12 : ¬ (addE a (negD b) = 0) := fun c => Bool.false_ne_true (i12.2 c)
                  cases b14 with
                  | true =>
                    have h14 : allB [addE a b, mulE (addD a b) c, mulE a c, mulE b c, addE (mulD a c) (mulD b c)] = true := i14.1 rfl
                    cases b15 with
                    | true =>
                      have h15 : mulD (addD a b) c = addD (mulD a c) (mulD b c) := i15.1 rfl
                      cases b16 with
                      | true =>
                        have h16 : allB [flE a k, mkE 1 k, addE (flD a k) (mkD false 1 k)] = true := i16.1 rfl
                        cases b17 with
                        | true =>
                          have h17 : cmpD (flD a k) a ≤ 0 := i17.1 rfl
                          cases b18 with
                          | true =>
                            have h18 : cmpD (addD (flD a k) (mkD false 1 k)) a > 0 := i18.1 rfl
                            cases b19 with
                            | true =>
                              have h19 : flD a k = Dy.zero := i19.1 rfl
                              exact fin _ (Ring_r91 b7 b8 b10 b11 b13 b20 b21) rfl rfl
                            | false =>
                              have h19 : ¬ (flD a k = Dy.zero) := fun c => Bool.false_ne_true (i19.2 c)
                              cases b20 with
                              | true =>
                                have h20 : (flD a k).x ≥ k := i20.1 rfl
                                exact fin _ (Ring_r92 b7 b8 b10 b11 b13 b21) rfl rfl
                              | false =>
                                exact absurd (i20.2 ((ring_floor ha (allB_iff.1 h16 _ (by simp)) (allB_iff.1 h16 _ (by simp)) (allB_iff.1 h16 _ (by simp)) (flD_Ok ha)).2.2.resolve_left h19)) Bool.false_ne_true
                          | false =>
                            exact absurd (i18.2 ((ring_floor ha (allB_iff.1 h16 _ (by simp)) (allB_iff.1 h16 _ (by simp)) (allB_iff.1 h16 _ (by simp)) (flD_Ok ha)).2.1)) Bool.false_ne_true
                        | false =>
                          exact absurd (i17.2 ((ring_floor ha (allB_iff.1 h16 _ (by simp)) (allB_iff.1 h16 _ (by simp)) (allB_iff.1 h16 _ (by simp)) (flD_Ok ha)).1)) Bool.false_ne_true
                      | false =>
                        have h16 : ¬ (allB [flE a k, mkE 1 k, addE (flD a k) (mkD false 1 k)] = true) := fun c => Bool.false_ne_true (i16.2 c)
                        exact fin _ (Ring_r93 b7 b8 b10 b11 b13 b17 b18 b19 b20 b21) rfl rfl
                    | false =>
                      exact absurd (i15.2 (distr ha hb hc (allB_iff.1 h14 _ (by simp)) (allB_iff.1 h14 _ (by simp)) (allB_iff.1 h14 _ (by simp)) (allB_iff.1 h14 _ (by simp)) (allB_iff.1 h14 _ (by simp)))) Bool.false_ne_true
                  | false =>
                    have h14 : ¬ (allB [addE a b, mulE (addD a b) c, mulE a c, mulE b c, addE (mulD a c) (mulD b c)] = true) := fun c => Bool.false_ne_true (i14.2 c)
                    cases b16 with
                    | true =>
                      have h16 : allB [flE a k, mkE 1 k, addE (flD a k) (mkD false 1 k)] = true := i16.1 rfl
                      cases b17 with
                      | true =>
                        have h17 : cmpD (flD a k) a ≤ 0 := i17.1 rfl
                        cases b18 with
                        | true =>
                          have h18 : cmpD (addD (flD a k) (mkD false 1 k)) a > 0 := i18.1 rfl
                          cases b19 with
                          | true =>
                            have h19 : flD a k = Dy.zero := i19.1 rfl
                            exact fin _ (Ring_r94 b7 b8 b10 b11 b13 b15 b20 b21) rfl rfl
                          | false =>
                            have h19 : ¬ (flD a k = Dy.zero) := fun c => Bool.false_ne_true (i19.2 c)
                            cases b20 with
                            | true =>
                              have h20 : (flD a k).x ≥ k := i20.1 rfl
                              exact fin _ (Ring_r95 b7 b8 b10 b11 b13 b15 b21) rfl rfl
                            | false =>
                              exact absurd (i20.2 ((ring_floor ha (allB_iff.1 h16 _ (by simp)) (allB_iff.1 h16 _ (by simp)) (allB_iff.1 h16 _ (by simp)) (flD_Ok ha)).2.2.resolve_left h19)) Bool.false_ne_true
                        | false =>
                          exact absurd (i18.2 ((ring_floor ha (allB_iff.1 h16 _ (by simp)) (allB_iff.1 h16 _ (by simp)) (allB_iff.1 h16 _ (by simp)) (flD_Ok ha)).2.1)) Bool.false_ne_true
                      | false =>
                        exact absurd (i17.2 ((ring_floor ha (allB_iff.1 h16 _ (by simp)) (allB_iff.1 h16 _ (by simp)) (allB_iff.1 h16 _ (by simp)) (flD_Ok ha)).1)) Bool.false_ne_true
                    | false =>
                      have h16 : ¬ (allB [flE a k, mkE 1 k, addE (flD a k) (mkD false 1 k)] = true) := fun c => Bool.false_ne_true (i16.2 c)
                      exact fin _ (Ring_r96 b7 b8 b10 b11 b13 b15 b17 b18 b19 b20 b21) rfl rfl
          | false =>
            exact absurd (i5.2 ((mul_comm3 ha hb).2)) Bool.false_ne_true
        | false =>
          exact absurd (i4.2 ((mul_comm3 ha hb).1)) Bool.false_ne_true
      | false =>
        exact absurd (i3.2 ((add_comm3 ha hb).2)) Bool.false_ne_true
    | false =>
      exact absurd (i2.2 ((add_comm3 ha hb).1)) Bool.false_ne_true
  | false =>
    exact absurd (i1.2 (allB_ok (fun t ht => by simpa using ht))) Bool.false_ne_true
end Go.Proofs.YtjkonfopajihdaaDoor
set_option linter.unusedVariables false
set_option linter.unusedSimpArgs false
namespace Go.Proofs.YtjkonfopajihdaaDoor
open Go Go.RowKit Nt

theorem dE1r {t : Dt} : dE [t] = 0 ↔ t.Ok := by
  constructor
  · intro h
    by_cases hn : t.Ok
    · exact hn
    · rw [dE_no (List.mem_singleton.2 rfl) hn] at h; cases h
  · intro h
    exact dE_ok fun u hu => by rw [List.mem_singleton.1 hu]; exact h
@[reducible] noncomputable def RingB_k (b1 : Bool) : Know := ⟨[],
  [(19, [], .lit (.bool true)),
  (15, [.agg [.sym 0, .sym 1, .sym 2]], .sym 10),
  (15, [.agg [.sym 3, .sym 4, .sym 5]], .sym 11),
  (15, [.agg [.sym 6, .sym 7, .sym 8]], .sym 12),
  (53, [.row 3 0 [.sym 10, .sym 11, .sym 12]], .lit (.bool b1))]⟩
theorem RingB_r1 : @comes (RingB_k false) Tryd.prog glT 3000 10 [.agg [.sym 0, .sym 1, .sym 2], .agg [.sym 3, .sym 4, .sym 5], .agg [.sym 6, .sym 7, .sym 8], .sym 9] = some (.lit (.bool true)) := by kernel_rfl
set_option maxRecDepth 100000 in
theorem DyadRing_bad (a b c : Dt) (k : Int) (w : World) (za : a.s.size ≤ 9223372036854775807) (zb : b.s.size ≤ 9223372036854775807) (zc : c.s.size ≤ 9223372036854775807) (hn : ¬ (a.Ok ∧ b.Ok ∧ c.Ok)) (hG : Globs glT w) : Calls Tryd.prog 10 #[.agg #[.bool a.g, .string a.s, .int .i64 a.x], .agg #[.bool b.g, .string b.s, .int .i64 b.x], .agg #[.bool c.g, .string c.s, .int .i64 c.x], .int .i64 k] w fun e w' => e = .returned (.bool true) ∧ Below w.heap.size w w' := by
  obtain ⟨b1, i1⟩ := bex (allB [dE [a], dE [b], dE [c]] = true)
  letI : Env := mkEnv glT [.bool a.g, .string a.s, .int .i64 a.x, .bool b.g, .string b.s, .int .i64 b.x, .bool c.g, .string c.s, .int .i64 c.x, .int .i64 k, .int .i64 (dE [a]), .int .i64 (dE [b]), .int .i64 (dE [c])] rfl
  have hops : OpsT Tryd.prog (@Know.ops (RingB_k b1)) := trivial
  have hcalls : CallsT Tryd.prog (@Know.calls (RingB_k b1)) := ⟨callt rfl rfl fun w hG => awake3_c w hG,
    callt rfl rfl fun w hG => DCheck_c a w za,
    callt rfl rfl fun w hG => DCheck_c b w zb,
    callt rfl rfl fun w hG => DCheck_c c w zc,
    callt_row rfl fun w B0 c0 hG hB hC => lAll03_i B0 c0 [dE [a], dE [b], dE [c]] w (by simp) (ers_of hB hC rfl) i1,
    trivial⟩
  have fin : ∀ v, @comes (RingB_k b1) Tryd.prog glT 3000 10 [.agg [.sym 0, .sym 1, .sym 2], .agg [.sym 3, .sym 4, .sym 5], .agg [.sym 6, .sym 7, .sym 8], .sym 9] = some v → ground v = true → Ending.returned (gval v) = .returned (.bool true) → Calls Tryd.prog 10 #[.agg #[.bool a.g, .string a.s, .int .i64 a.x], .agg #[.bool b.g, .string b.s, .int .i64 b.x], .agg #[.bool c.g, .string c.s, .int .i64 c.x], .int .i64 k] w fun e w' => e = .returned (.bool true) ∧ Below w.heap.size w w' := fun v h1 h2 h3 => (@sym_ok _ (RingB_k b1) _ (@KnowOk.of _ (RingB_k b1) _ hops hcalls) (by kernel_rfl) _ _ _ _ h1 rfl h2 _ hG).mono fun e w' h => ⟨h.1.trans h3, h.2⟩
  clear hops hcalls
  cases b1 with
  | true =>
    exact absurd (i1.1 rfl) (fun h => hn ⟨dE1r.1 (allB_iff.1 h _ (by simp)), dE1r.1 (allB_iff.1 h _ (by simp)), dE1r.1 (allB_iff.1 h _ (by simp))⟩)
  | false =>
    have h1 : ¬ (allB [dE [a], dE [b], dE [c]] = true) := fun c => Bool.false_ne_true (i1.2 c)
    exact fin _ (RingB_r1) rfl rfl
theorem DyadRing_law (g1 : Bool) (s1 : ByteArray) (x1 : Int) (g2 : Bool) (s2 : ByteArray) (x2 : Int) (g3 : Bool) (s3 : ByteArray) (x3 k : Int) (w : World) (h1 : s1.size ≤ 9223372036854775807) (h2 : s2.size ≤ 9223372036854775807) (h3 : s3.size ≤ 9223372036854775807) (hk : -9223372036854775808 ≤ k ∧ k ≤ 9223372036854775807) (hG : Globs glT w) :
    Calls Tryd.prog 10 #[.agg #[.bool g1, .string s1, .int .i64 x1], .agg #[.bool g2, .string s2, .int .i64 x2], .agg #[.bool g3, .string s3, .int .i64 x3], .int .i64 k] w fun e w' => e = .returned (.bool true) ∧ Below w.heap.size w w' := by
  by_cases hn : (Dt.mk g1 s1 x1).Ok ∧ (Dt.mk g2 s2 x2).Ok ∧ (Dt.mk g3 s3 x3).Ok
  · obtain ⟨ha, hb, hc⟩ := hn
    obtain ⟨a, ha1, ha2⟩ := Dt.dy ha
    unfold Dy.t at ha2
    injection ha2 with e1 e2 e3
    subst e1 e2 e3
    obtain ⟨b, hb1, hb2⟩ := Dt.dy hb
    unfold Dy.t at hb2
    injection hb2 with e1 e2 e3
    subst e1 e2 e3
    obtain ⟨c, hc1, hc2⟩ := Dt.dy hc
    unfold Dy.t at hc2
    injection hc2 with e1 e2 e3
    subst e1 e2 e3
    exact DyadRing_ok a b c k w ha1 hb1 hc1 hk hG
  · exact DyadRing_bad ⟨g1, s1, x1⟩ ⟨g2, s2, x2⟩ ⟨g3, s3, x3⟩ k w h1 h2 h3 hn hG
end Go.Proofs.YtjkonfopajihdaaDoor
