/- Texts put together: V6 V7 V8. -/
import Derived.Test.YtjalpocjgpgcfaaGreatDoorQ5
import Derived.Test.YtjalpocjgpgcfaaGreatDoorQ6
set_option linter.unusedVariables false
set_option linter.unusedSimpArgs false
namespace Go.Proofs.YtjalpocjgpgcfaaGreatDoor
open Go Go.RowKit Nt


@[reducible] def Zm_C0E_f : FuncId := 5
@[reducible] def Zm_C0E_a : List AV := [.agg [.sym 0, .sym 1, .sym 2, .sym 3, .sym 4, .sym 5, .sym 6, .sym 7, .sym 8], .sym 9, .sym 10, .sym 11, .sym 12, .sym 13, .sym 14]
@[reducible] noncomputable def Zm_C0E_k (b13 b16 b18 b19 b20 b21 b22 b23 b24 b25 : Bool) : Know := ⟨[([0, 16, 3], [.sym 6, .lit (.int .i64 (-4096))], .lit (.bool true)),
  ([0, 14, 3], [.sym 6, .lit (.int .i64 4096)], .lit (.bool true)),
  ([0, 16, 3], [.sym 7, .lit (.int .i64 1)], .lit (.bool true)),
  ([0, 14, 3], [.sym 7, .lit (.int .i64 65536)], .lit (.bool true)),
  ([0, 16, 3], [.sym 8, .lit (.int .i64 1)], .lit (.bool true)),
  ([0, 14, 3], [.sym 8, .lit (.int .i64 65536)], .lit (.bool true)),
  ([0, 1, 3], [.sym 7, .lit (.int .i64 1)], .sym 18),
  ([0, 16, 3], [.sym 9, .lit (.int .i64 0)], .lit (.bool true)),
  ([0, 14, 3], [.sym 9, .sym 18], .lit (.bool true)),
  ([0, 1, 3], [.sym 8, .lit (.int .i64 1)], .sym 19),
  ([0, 16, 3], [.sym 10, .lit (.int .i64 0)], .lit (.bool true)),
  ([0, 14, 3], [.sym 10, .sym 19], .lit (.bool true)),
  ([0, 2, 3], [.lit (.int .i64 2), .sym 9], .sym 20),
  ([0, 1, 3], [.sym 20, .sym 7], .sym 21),
  ([0, 2, 3], [.lit (.int .i64 2), .sym 10], .sym 33),
  ([0, 1, 3], [.sym 8, .sym 33], .sym 34),
  ([0, 1, 3], [.sym 34, .lit (.int .i64 2)], .sym 35),
  ([0, 12, 30], [.sym 28, .lit (.int .i64 0)], .lit (.bool false)),
  ([0, 12, 30], [.sym 42, .lit (.int .i64 0)], .lit (.bool false)),
  ([0, 1, 3], [.sym 6, .lit (.int .i64 1)], .sym 47),
  ([0, 8, 3], [.sym 7, .lit (.int .i64 1)], .sym 48),
  ([0, 8, 3], [.sym 8, .lit (.int .i64 1)], .sym 49),
  ([0, 16, 3], [.sym 47, .lit (.int .i64 (-4096))], .lit (.bool b13)),
  ([0, 14, 3], [.sym 47, .lit (.int .i64 4096)], .lit (.bool true)),
  ([0, 16, 3], [.sym 48, .lit (.int .i64 1)], .lit (.bool true)),
  ([0, 14, 3], [.sym 48, .lit (.int .i64 65536)], .lit (.bool b16)),
  ([0, 16, 3], [.sym 49, .lit (.int .i64 1)], .lit (.bool true)),
  ([0, 14, 3], [.sym 49, .lit (.int .i64 65536)], .lit (.bool b18)),
  ([0, 11, 3], [.sym 6, .lit (.int .i64 (-4096))], .lit (.bool b19)),
  ([0, 12, 30], [.sym 32, .lit (.int .i64 0)], .lit (.bool (!b20))),
  ([0, 1, 3], [.sym 7, .sym 9], .sym 50),
  ([0, 16, 3], [.sym 11, .lit (.int .i64 1)], .lit (.bool b21)),
  ([0, 14, 3], [.sym 11, .sym 50], .lit (.bool b22)),
  ([0, 1, 3], [.sym 8, .sym 10], .sym 51),
  ([0, 16, 3], [.sym 12, .lit (.int .i64 1)], .lit (.bool b23)),
  ([0, 14, 3], [.sym 12, .sym 51], .lit (.bool b24)),
  ([0, 12, 30], [.sym 46, .lit (.int .i64 0)], .lit (.bool (!b25))),
  ([0, 0, 3], [.sym 20, .lit (.int .i64 0)], .sym 52),
  ([0, 0, 3], [.sym 33, .lit (.int .i64 1)], .sym 53),
  ([0, 1, 3], [.sym 53, .lit (.int .i64 0)], .sym 54),
  ([0, 1, 3], [.sym 48, .lit (.int .i64 1)], .sym 55),
  ([0, 16, 3], [.sym 52, .lit (.int .i64 0)], .lit (.bool true)),
  ([0, 14, 3], [.sym 52, .sym 55], .lit (.bool true)),
  ([0, 1, 3], [.sym 49, .lit (.int .i64 1)], .sym 56),
  ([0, 16, 3], [.sym 54, .lit (.int .i64 0)], .lit (.bool true)),
  ([0, 14, 3], [.sym 54, .sym 56], .lit (.bool true)),
  ([0, 2, 3], [.lit (.int .i64 2), .sym 52], .sym 57),
  ([0, 1, 3], [.sym 57, .sym 48], .sym 58),
  ([0, 2, 3], [.lit (.int .i64 2), .sym 54], .sym 59),
  ([0, 1, 3], [.sym 49, .sym 59], .sym 60),
  ([0, 1, 3], [.sym 60, .lit (.int .i64 2)], .sym 61),
  ([0, 12, 26], [.agg [.sym 25, .sym 26, .sym 27, .sym 39, .sym 40, .sym 41, .sym 47], .agg [.sym 25, .sym 26, .sym 27, .sym 39, .sym 40, .sym 41, .sym 47]], .lit (.bool false)),
  ([0, 0, 3], [.sym 20, .lit (.int .i64 1)], .sym 62),
  ([0, 16, 3], [.sym 62, .lit (.int .i64 0)], .lit (.bool true)),
  ([0, 14, 3], [.sym 62, .sym 55], .lit (.bool true)),
  ([0, 2, 3], [.lit (.int .i64 2), .sym 62], .sym 63),
  ([0, 1, 3], [.sym 63, .sym 48], .sym 64),
  ([0, 12, 26], [.agg [.sym 29, .sym 30, .sym 31, .sym 39, .sym 40, .sym 41, .sym 47], .agg [.sym 29, .sym 30, .sym 31, .sym 39, .sym 40, .sym 41, .sym 47]], .lit (.bool false)),
  ([0, 1, 3], [.sym 53, .lit (.int .i64 1)], .sym 68),
  ([0, 16, 3], [.sym 68, .lit (.int .i64 0)], .lit (.bool true)),
  ([0, 14, 3], [.sym 68, .sym 56], .lit (.bool true)),
  ([0, 2, 3], [.lit (.int .i64 2), .sym 68], .sym 69),
  ([0, 1, 3], [.sym 49, .sym 69], .sym 70),
  ([0, 1, 3], [.sym 70, .lit (.int .i64 2)], .sym 71),
  ([0, 12, 26], [.agg [.sym 25, .sym 26, .sym 27, .sym 43, .sym 44, .sym 45, .sym 47], .agg [.sym 25, .sym 26, .sym 27, .sym 43, .sym 44, .sym 45, .sym 47]], .lit (.bool false)),
  ([0, 12, 26], [.agg [.sym 29, .sym 30, .sym 31, .sym 43, .sym 44, .sym 45, .sym 47], .agg [.sym 29, .sym 30, .sym 31, .sym 43, .sym 44, .sym 45, .sym 47]], .lit (.bool false))],
  [(13, [], .lit (.bool true)),
  (25, [.agg [.sym 0, .sym 1, .sym 2, .sym 3, .sym 4, .sym 5]], .lit (.int .i64 0)),
  (50, [.lit (.int .i64 1), .sym 6], .agg [.sym 15, .sym 16, .sym 17]),
  (50, [.sym 21, .sym 6], .agg [.sym 22, .sym 23, .sym 24]),
  (20, [.agg [.sym 0, .sym 1, .sym 2], .agg [.sym 22, .sym 23, .sym 24]], .tup [.agg [.sym 25, .sym 26, .sym 27], .sym 28]),
  (30, [.agg [.sym 25, .sym 26, .sym 27]], .lit (.int .i64 0)),
  (20, [.agg [.sym 25, .sym 26, .sym 27], .agg [.sym 15, .sym 16, .sym 17]], .tup [.agg [.sym 29, .sym 30, .sym 31], .sym 32]),
  (50, [.sym 35, .sym 6], .agg [.sym 36, .sym 37, .sym 38]),
  (20, [.agg [.sym 3, .sym 4, .sym 5], .agg [.sym 36, .sym 37, .sym 38]], .tup [.agg [.sym 39, .sym 40, .sym 41], .sym 42]),
  (30, [.agg [.sym 39, .sym 40, .sym 41]], .lit (.int .i64 0)),
  (20, [.agg [.sym 39, .sym 40, .sym 41], .agg [.sym 15, .sym 16, .sym 17]], .tup [.agg [.sym 43, .sym 44, .sym 45], .sym 46]),
  (50, [.sym 58, .sym 47], .agg [.sym 22, .sym 23, .sym 24]),
  (50, [.sym 61, .sym 47], .agg [.sym 36, .sym 37, .sym 38]),
  (50, [.sym 64, .sym 47], .agg [.sym 65, .sym 66, .sym 67]),
  (20, [.agg [.sym 0, .sym 1, .sym 2], .agg [.sym 65, .sym 66, .sym 67]], .tup [.agg [.sym 29, .sym 30, .sym 31], .sym 32]),
  (50, [.sym 71, .sym 47], .agg [.sym 72, .sym 73, .sym 74]),
  (20, [.agg [.sym 3, .sym 4, .sym 5], .agg [.sym 72, .sym 73, .sym 74]], .tup [.agg [.sym 43, .sym 44, .sym 45], .sym 46])]⟩
theorem Zm_C0E_r1 : @comes (Zm_C0E_k true true true false true true true true false true) Tryz.prog glT 3000 Zm_C0E_f Zm_C0E_a = some (.lit (.bool true)) := by kernel_rfl
theorem Zm_C0E_r2 (b24 : Bool) : @comes (Zm_C0E_k true true true false true true true false b24 true) Tryz.prog glT 3000 Zm_C0E_f Zm_C0E_a = some (.lit (.bool true)) := by kernel_rfl
theorem Zm_C0E_r3 (b23 b24 : Bool) : @comes (Zm_C0E_k true true true false true true false b23 b24 true) Tryz.prog glT 3000 Zm_C0E_f Zm_C0E_a = some (.lit (.bool true)) := by kernel_rfl
theorem Zm_C0E_r4 (b22 b23 b24 : Bool) : @comes (Zm_C0E_k true true true false true false b22 b23 b24 true) Tryz.prog glT 3000 Zm_C0E_f Zm_C0E_a = some (.lit (.bool true)) := by kernel_rfl
theorem Zm_C0E_r5 : @comes (Zm_C0E_k true true true false true true true true false false) Tryz.prog glT 3000 Zm_C0E_f Zm_C0E_a = some (.lit (.bool true)) := by kernel_rfl
theorem Zm_C0E_r6 (b24 : Bool) : @comes (Zm_C0E_k true true true false true true true false b24 false) Tryz.prog glT 3000 Zm_C0E_f Zm_C0E_a = some (.lit (.bool true)) := by kernel_rfl
theorem Zm_C0E_r7 (b23 b24 : Bool) : @comes (Zm_C0E_k true true true false true true false b23 b24 false) Tryz.prog glT 3000 Zm_C0E_f Zm_C0E_a = some (.lit (.bool true)) := by kernel_rfl
theorem Zm_C0E_r8 (b22 b23 b24 : Bool) : @comes (Zm_C0E_k true true true false true false b22 b23 b24 false) Tryz.prog glT 3000 Zm_C0E_f Zm_C0E_a = some (.lit (.bool true)) := by kernel_rfl
theorem Zm_C0E_r9 (b25 : Bool) : @comes (Zm_C0E_k true true true false false true true true false b25) Tryz.prog glT 3000 Zm_C0E_f Zm_C0E_a = some (.lit (.bool true)) := by kernel_rfl
theorem Zm_C0E_r10 (b24 b25 : Bool) : @comes (Zm_C0E_k true true true false false true true false b24 b25) Tryz.prog glT 3000 Zm_C0E_f Zm_C0E_a = some (.lit (.bool true)) := by kernel_rfl
theorem Zm_C0E_r11 (b23 b24 b25 : Bool) : @comes (Zm_C0E_k true true true false false true false b23 b24 b25) Tryz.prog glT 3000 Zm_C0E_f Zm_C0E_a = some (.lit (.bool true)) := by kernel_rfl
theorem Zm_C0E_r12 (b22 b23 b24 b25 : Bool) : @comes (Zm_C0E_k true true true false false false b22 b23 b24 b25) Tryz.prog glT 3000 Zm_C0E_f Zm_C0E_a = some (.lit (.bool true)) := by kernel_rfl
theorem Zm_C0E_r13 (b19 b20 b25 : Bool) : @comes (Zm_C0E_k true true false b19 b20 true true true false b25) Tryz.prog glT 3000 Zm_C0E_f Zm_C0E_a = some (.lit (.bool true)) := by kernel_rfl
theorem Zm_C0E_r14 (b19 b20 b24 b25 : Bool) : @comes (Zm_C0E_k true true false b19 b20 true true false b24 b25) Tryz.prog glT 3000 Zm_C0E_f Zm_C0E_a = some (.lit (.bool true)) := by kernel_rfl
theorem Zm_C0E_r15 (b19 b20 b23 b24 b25 : Bool) : @comes (Zm_C0E_k true true false b19 b20 true false b23 b24 b25) Tryz.prog glT 3000 Zm_C0E_f Zm_C0E_a = some (.lit (.bool true)) := by kernel_rfl
theorem Zm_C0E_r16 (b19 b20 b22 b23 b24 b25 : Bool) : @comes (Zm_C0E_k true true false b19 b20 false b22 b23 b24 b25) Tryz.prog glT 3000 Zm_C0E_f Zm_C0E_a = some (.lit (.bool true)) := by kernel_rfl
theorem Zm_C0E_r17 (b18 b19 b20 b25 : Bool) : @comes (Zm_C0E_k true false b18 b19 b20 true true true false b25) Tryz.prog glT 3000 Zm_C0E_f Zm_C0E_a = some (.lit (.bool true)) := by kernel_rfl
theorem Zm_C0E_r18 (b18 b19 b20 b24 b25 : Bool) : @comes (Zm_C0E_k true false b18 b19 b20 true true false b24 b25) Tryz.prog glT 3000 Zm_C0E_f Zm_C0E_a = some (.lit (.bool true)) := by kernel_rfl
theorem Zm_C0E_r19 (b18 b19 b20 b23 b24 b25 : Bool) : @comes (Zm_C0E_k true false b18 b19 b20 true false b23 b24 b25) Tryz.prog glT 3000 Zm_C0E_f Zm_C0E_a = some (.lit (.bool true)) := by kernel_rfl
theorem Zm_C0E_r20 (b18 b19 b20 b22 b23 b24 b25 : Bool) : @comes (Zm_C0E_k true false b18 b19 b20 false b22 b23 b24 b25) Tryz.prog glT 3000 Zm_C0E_f Zm_C0E_a = some (.lit (.bool true)) := by kernel_rfl
theorem Zm_C0E_r21 (b16 b18 b19 b20 b25 : Bool) : @comes (Zm_C0E_k false b16 b18 b19 b20 true true true false b25) Tryz.prog glT 3000 Zm_C0E_f Zm_C0E_a = some (.lit (.bool true)) := by kernel_rfl
theorem Zm_C0E_r22 (b16 b18 b19 b20 b24 b25 : Bool) : @comes (Zm_C0E_k false b16 b18 b19 b20 true true false b24 b25) Tryz.prog glT 3000 Zm_C0E_f Zm_C0E_a = some (.lit (.bool true)) := by kernel_rfl
theorem Zm_C0E_r23 (b16 b18 b19 b20 b23 b24 b25 : Bool) : @comes (Zm_C0E_k false b16 b18 b19 b20 true false b23 b24 b25) Tryz.prog glT 3000 Zm_C0E_f Zm_C0E_a = some (.lit (.bool true)) := by kernel_rfl
theorem Zm_C0E_r24 (b16 b18 b19 b20 b22 b23 b24 b25 : Bool) : @comes (Zm_C0E_k false b16 b18 b19 b20 false b22 b23 b24 b25) Tryz.prog glT 3000 Zm_C0E_f Zm_C0E_a = some (.lit (.bool true)) := by kernel_rfl

set_option maxRecDepth 100000 in
set_option maxHeartbeats 4000000 in
theorem Zm_C0E (p q : Dy) (y a b c r s t u z : Int) (w : World) (hp : p.Ok) (hq : q.Ok) (e1 : -4096 ≤ y) (e2 : y ≤ 4096) (a1 : 1 ≤ a) (a2 : a ≤ 65536) (b1 : 1 ≤ b) (b2 : b ≤ 65536) (c1 : 0 ≤ c) (c2 : c ≤ a - 1) (r1 : 0 ≤ r) (r2 : r ≤ b - 1) (hx : addE p (hz ((2 * c) - a) (y - 1)) = 0) (hy0 : addE q (hz ((b - (2 * r)) - 2) (y - 1)) = 0) (hn2 : ¬ (s ≥ 1 ∧ s ≤ a - c ∧ t ≥ 1 ∧ t ≤ b - r)) (hG : Globs glT w) : Calls Tryz.prog 5 #[.agg #[.bool p.g, .string (natS p.n), .int .i64 p.x, .bool q.g, .string (natS q.n), .int .i64 q.x, .int .i64 y, .int .i64 a, .int .i64 b], .int .i64 c, .int .i64 r, .int .i64 s, .int .i64 t, .int .i64 u, .int .i64 z] w fun e w' => e = .returned (.bool true) ∧ Below w.heap.size w w' := by
  have h1 : y ≥ -4096 := (by omega)
  have i1 : true = true ↔ (y ≥ -4096) := ⟨fun _ => h1, fun _ => rfl⟩
  have h2 : y ≤ 4096 := (by omega)
  have i2 : true = true ↔ (y ≤ 4096) := ⟨fun _ => h2, fun _ => rfl⟩
  have h3 : a ≥ 1 := (by omega)
  have i3 : true = true ↔ (a ≥ 1) := ⟨fun _ => h3, fun _ => rfl⟩
  have h4 : a ≤ 65536 := (by omega)
  have i4 : true = true ↔ (a ≤ 65536) := ⟨fun _ => h4, fun _ => rfl⟩
  have h5 : b ≥ 1 := (by omega)
  have i5 : true = true ↔ (b ≥ 1) := ⟨fun _ => h5, fun _ => rfl⟩
  have h6 : b ≤ 65536 := (by omega)
  have i6 : true = true ↔ (b ≤ 65536) := ⟨fun _ => h6, fun _ => rfl⟩
  have h7 : c ≥ 0 := (by omega)
  have i7 : true = true ↔ (c ≥ 0) := ⟨fun _ => h7, fun _ => rfl⟩
  have h8 : c ≤ a - 1 := (by omega)
  have i8 : true = true ↔ (c ≤ a - 1) := ⟨fun _ => h8, fun _ => rfl⟩
  have h9 : r ≥ 0 := (by omega)
  have i9 : true = true ↔ (r ≥ 0) := ⟨fun _ => h9, fun _ => rfl⟩
  have h10 : r ≤ b - 1 := (by omega)
  have i10 : true = true ↔ (r ≤ b - 1) := ⟨fun _ => h10, fun _ => rfl⟩
  have h11 : addE p (hz ((2 * c) - a) (y - 1)) = 0 := hx
  have i11 : true = true ↔ (addE p (hz ((2 * c) - a) (y - 1)) = 0) := ⟨fun _ => h11, fun _ => rfl⟩
  have h12 : addE q (hz ((b - (2 * r)) - 2) (y - 1)) = 0 := hy0
  have i12 : true = true ↔ (addE q (hz ((b - (2 * r)) - 2) (y - 1)) = 0) := ⟨fun _ => h12, fun _ => rfl⟩
  obtain ⟨b13, i13⟩ := bex (y - 1 ≥ -4096)
  have h14 : y - 1 ≤ 4096 := (by omega)
  have i14 : true = true ↔ (y - 1 ≤ 4096) := ⟨fun _ => h14, fun _ => rfl⟩
  have h15 : 2 * a ≥ 1 := (by omega)
  have i15 : true = true ↔ (2 * a ≥ 1) := ⟨fun _ => h15, fun _ => rfl⟩
  obtain ⟨b16, i16⟩ := bex (2 * a ≤ 65536)
  have h17 : 2 * b ≥ 1 := (by omega)
  have i17 : true = true ↔ (2 * b ≥ 1) := ⟨fun _ => h17, fun _ => rfl⟩
  obtain ⟨b18, i18⟩ := bex (2 * b ≤ 65536)
  obtain ⟨b19, i19⟩ := bex (y = -4096)
  obtain ⟨b20, i20⟩ := bex (addE (addD p (hz ((2 * c) - a) (y - 1))) (hz 1 (y - 1)) = 0)
  obtain ⟨b21, i21⟩ := bex (s ≥ 1)
  obtain ⟨b22, i22⟩ := bex (s ≤ a - c)
  obtain ⟨b23, i23⟩ := bex (t ≥ 1)
  obtain ⟨b24, i24⟩ := bex (t ≤ b - r)
  obtain ⟨b25, i25⟩ := bex (addE (addD q (hz ((b - (2 * r)) - 2) (y - 1))) (hz 1 (y - 1)) = 0)
  have h26 : (2 * c) + 0 ≥ 0 := (by omega)
  have i26 : true = true ↔ ((2 * c) + 0 ≥ 0) := ⟨fun _ => h26, fun _ => rfl⟩
  have h27 : (2 * c) + 0 ≤ (2 * a) - 1 := (by omega)
  have i27 : true = true ↔ ((2 * c) + 0 ≤ (2 * a) - 1) := ⟨fun _ => h27, fun _ => rfl⟩
  have h28 : ((2 * r) + 1) - 0 ≥ 0 := (by omega)
  have i28 : true = true ↔ (((2 * r) + 1) - 0 ≥ 0) := ⟨fun _ => h28, fun _ => rfl⟩
  have h29 : ((2 * r) + 1) - 0 ≤ (2 * b) - 1 := (by omega)
  have i29 : true = true ↔ (((2 * r) + 1) - 0 ≤ (2 * b) - 1) := ⟨fun _ => h29, fun _ => rfl⟩
  have h30 : (2 * c) + 1 ≥ 0 := (by omega)
  have i30 : true = true ↔ ((2 * c) + 1 ≥ 0) := ⟨fun _ => h30, fun _ => rfl⟩
  have h31 : (2 * c) + 1 ≤ (2 * a) - 1 := (by omega)
  have i31 : true = true ↔ ((2 * c) + 1 ≤ (2 * a) - 1) := ⟨fun _ => h31, fun _ => rfl⟩
  have h32 : ((2 * r) + 1) - 1 ≥ 0 := (by omega)
  have i32 : true = true ↔ (((2 * r) + 1) - 1 ≥ 0) := ⟨fun _ => h32, fun _ => rfl⟩
  have h33 : ((2 * r) + 1) - 1 ≤ (2 * b) - 1 := (by omega)
  have i33 : true = true ↔ (((2 * r) + 1) - 1 ≤ (2 * b) - 1) := ⟨fun _ => h33, fun _ => rfl⟩
  letI : Env := mkEnv glT [.bool p.g, .string (natS p.n), .int .i64 p.x, .bool q.g, .string (natS q.n), .int .i64 q.x, .int .i64 y, .int .i64 a, .int .i64 b, .int .i64 c, .int .i64 r, .int .i64 s, .int .i64 t, .int .i64 u, .int .i64 z, .bool (hz 1 (y - 1)).g, .string (natS (hz 1 (y - 1)).n), .int .i64 (hz 1 (y - 1)).x, .int .i64 (a - 1), .int .i64 (b - 1), .int .i64 (2 * c), .int .i64 ((2 * c) - a), .bool (hz ((2 * c) - a) (y - 1)).g, .string (natS (hz ((2 * c) - a) (y - 1)).n), .int .i64 (hz ((2 * c) - a) (y - 1)).x, .bool (addD p (hz ((2 * c) - a) (y - 1))).g, .string (natS (addD p (hz ((2 * c) - a) (y - 1))).n), .int .i64 (addD p (hz ((2 * c) - a) (y - 1))).x, .int .i64 (addE p (hz ((2 * c) - a) (y - 1))), .bool (addD (addD p (hz ((2 * c) - a) (y - 1))) (hz 1 (y - 1))).g, .string (natS (addD (addD p (hz ((2 * c) - a) (y - 1))) (hz 1 (y - 1))).n), .int .i64 (addD (addD p (hz ((2 * c) - a) (y - 1))) (hz 1 (y - 1))).x, .int .i64 (addE (addD p (hz ((2 * c) - a) (y - 1))) (hz 1 (y - 1))), .int .i64 (2 * r), .int .i64 (b - (2 * r)), .int .i64 ((b - (2 * r)) - 2), .bool (hz ((b - (2 * r)) - 2) (y - 1)).g, .string (natS (hz ((b - (2 * r)) - 2) (y - 1)).n), .int .i64 (hz ((b - (2 * r)) - 2) (y - 1)).x, .bool (addD q (hz ((b - (2 * r)) - 2) (y - 1))).g, .string (natS (addD q (hz ((b - (2 * r)) - 2) (y - 1))).n), .int .i64 (addD q (hz ((b - (2 * r)) - 2) (y - 1))).x, .int .i64 (addE q (hz ((b - (2 * r)) - 2) (y - 1))), .bool (addD (addD q (hz ((b - (2 * r)) - 2) (y - 1))) (hz 1 (y - 1))).g, .string (natS (addD (addD q (hz ((b - (2 * r)) - 2) (y - 1))) (hz 1 (y - 1))).n), .int .i64 (addD (addD q (hz ((b - (2 * r)) - 2) (y - 1))) (hz 1 (y - 1))).x, .int .i64 (addE (addD q (hz ((b - (2 * r)) - 2) (y - 1))) (hz 1 (y - 1))), .int .i64 (y - 1), .int .i64 (2 * a), .int .i64 (2 * b), .int .i64 (a - c), .int .i64 (b - r), .int .i64 ((2 * c) + 0), .int .i64 ((2 * r) + 1), .int .i64 (((2 * r) + 1) - 0), .int .i64 ((2 * a) - 1), .int .i64 ((2 * b) - 1), .int .i64 (2 * ((2 * c) + 0)), .int .i64 ((2 * ((2 * c) + 0)) - (2 * a)), .int .i64 (2 * (((2 * r) + 1) - 0)), .int .i64 ((2 * b) - (2 * (((2 * r) + 1) - 0))), .int .i64 (((2 * b) - (2 * (((2 * r) + 1) - 0))) - 2), .int .i64 ((2 * c) + 1), .int .i64 (2 * ((2 * c) + 1)), .int .i64 ((2 * ((2 * c) + 1)) - (2 * a)), .bool (hz (1 - a + 2 * c) (y - 1)).g, .string (natS (hz (1 - a + 2 * c) (y - 1)).n), .int .i64 (hz (1 - a + 2 * c) (y - 1)).x, .int .i64 (((2 * r) + 1) - 1), .int .i64 (2 * (((2 * r) + 1) - 1)), .int .i64 ((2 * b) - (2 * (((2 * r) + 1) - 1))), .int .i64 (((2 * b) - (2 * (((2 * r) + 1) - 1))) - 2), .bool (hz (0 - 1 + b - 2 * r) (y - 1)).g, .string (natS (hz (0 - 1 + b - 2 * r) (y - 1)).n), .int .i64 (hz (0 - 1 + b - 2 * r) (y - 1)).x] rfl
  have hops : OpsT Tryz.prog (@Know.ops (Zm_C0E_k b13 b16 b18 b19 b20 b21 b22 b23 b24 b25)) := ⟨opt_geq_i rfl rfl i1,
    opt_leq_i rfl rfl i2,
    opt_geq_i rfl rfl i3,
    opt_leq_i rfl rfl i4,
    opt_geq_i rfl rfl i5,
    opt_leq_i rfl rfl i6,
    vopt_sub rfl rfl rfl rfl (by omega) ⟨by omega, by omega⟩,
    opt_geq_i rfl rfl i7,
    opt_leq_i rfl rfl i8,
    vopt_sub rfl rfl rfl rfl (by omega) ⟨by omega, by omega⟩,
    opt_geq_i rfl rfl i9,
    opt_leq_i rfl rfl i10,
    vopt_mul rfl rfl rfl rfl (by omega) ⟨by omega, by omega⟩,
    vopt_sub rfl rfl rfl rfl (by omega) ⟨by omega, by omega⟩,
    vopt_mul rfl rfl rfl rfl (by omega) ⟨by omega, by omega⟩,
    vopt_sub rfl rfl rfl rfl (by omega) ⟨by omega, by omega⟩,
    vopt_sub rfl rfl rfl rfl (by omega) ⟨by omega, by omega⟩,
    opt_neq_i rfl rfl i11,
    opt_neq_i rfl rfl i12,
    vopt_sub rfl rfl rfl rfl (by omega) ⟨by omega, by omega⟩,
    vopt_shl rfl rfl rfl rfl (by omega) ⟨by omega, by omega⟩,
    vopt_shl rfl rfl rfl rfl (by omega) ⟨by omega, by omega⟩,
    opt_geq_i rfl rfl i13,
    opt_leq_i rfl rfl i14,
    opt_geq_i rfl rfl i15,
    opt_leq_i rfl rfl i16,
    opt_geq_i rfl rfl i17,
    opt_leq_i rfl rfl i18,
    opt_eql_i rfl rfl i19,
    opt_neq_i rfl rfl i20,
    vopt_sub rfl rfl rfl rfl (by omega) ⟨by omega, by omega⟩,
    opt_geq_i rfl rfl i21,
    opt_leq_i rfl rfl i22,
    vopt_sub rfl rfl rfl rfl (by omega) ⟨by omega, by omega⟩,
    opt_geq_i rfl rfl i23,
    opt_leq_i rfl rfl i24,
    opt_neq_i rfl rfl i25,
    vopt_add rfl rfl rfl rfl (by omega) ⟨by omega, by omega⟩,
    vopt_add rfl rfl rfl rfl (by omega) ⟨by omega, by omega⟩,
    vopt_sub rfl rfl rfl rfl (by omega) ⟨by omega, by omega⟩,
    vopt_sub rfl rfl rfl rfl (by omega) ⟨by omega, by omega⟩,
    opt_geq_i rfl rfl i26,
    opt_leq_i rfl rfl i27,
    vopt_sub rfl rfl rfl rfl (by omega) ⟨by omega, by omega⟩,
    opt_geq_i rfl rfl i28,
    opt_leq_i rfl rfl i29,
    vopt_mul rfl rfl rfl rfl (by omega) ⟨by omega, by omega⟩,
    vopt_sub rfl rfl rfl rfl (by omega) ⟨by omega, by omega⟩,
    vopt_mul rfl rfl rfl rfl (by omega) ⟨by omega, by omega⟩,
    vopt_sub rfl rfl rfl rfl (by omega) ⟨by omega, by omega⟩,
    vopt_sub rfl rfl rfl rfl (by omega) ⟨by omega, by omega⟩,
    opt_self_neq fun p q w => self_7 p q w,
    vopt_add rfl rfl rfl rfl (by omega) ⟨by omega, by omega⟩,
    opt_geq_i rfl rfl i30,
    opt_leq_i rfl rfl i31,
    vopt_mul rfl rfl rfl rfl (by omega) ⟨by omega, by omega⟩,
    vopt_sub rfl rfl rfl rfl (by omega) ⟨by omega, by omega⟩,
    opt_self_neq fun p q w => self_7 p q w,
    vopt_sub rfl rfl rfl rfl (by omega) ⟨by omega, by omega⟩,
    opt_geq_i rfl rfl i32,
    opt_leq_i rfl rfl i33,
    vopt_mul rfl rfl rfl rfl (by omega) ⟨by omega, by omega⟩,
    vopt_sub rfl rfl rfl rfl (by omega) ⟨by omega, by omega⟩,
    vopt_sub rfl rfl rfl rfl (by omega) ⟨by omega, by omega⟩,
    opt_self_neq fun p q w => self_7 p q w,
    opt_self_neq fun p q w => self_7 p q w,
    trivial⟩
  have hcalls : CallsT Tryz.prog (@Know.calls (Zm_C0E_k b13 b16 b18 b19 b20 b21 b22 b23 b24 b25)) := ⟨callt rfl rfl fun w hG => awake24_c w hG,
    callt rfl rfl fun w hG => GCheck_gs ⟨p, q⟩ ⟨hp, hq⟩ w hG,
    callt rfl rfl fun w hG => halves_z 1 y w ⟨by omega, by omega⟩ ⟨by omega, by omega⟩ hG,
    callt rfl rfl fun w hG => halves_z ((2 * c) - a) y w ⟨by omega, by omega⟩ ⟨by omega, by omega⟩ hG,
    callt rfl rfl fun w hG => DAdd_c p (hz ((2 * c) - a) (y - 1)) w hp (hz_Ok _ _) hG,
    callt rfl rfl fun w hG => DCheck_dy (addD p (hz ((2 * c) - a) (y - 1))) (add_Ok hp (hz_Ok _ _)) w,
    callt rfl rfl fun w hG => DAdd_c (addD p (hz ((2 * c) - a) (y - 1))) (hz 1 (y - 1)) w (add_Ok hp (hz_Ok _ _)) (hz_Ok _ _) hG,
    callt rfl rfl fun w hG => halves_z ((b - (2 * r)) - 2) y w ⟨by omega, by omega⟩ ⟨by omega, by omega⟩ hG,
    callt rfl rfl fun w hG => DAdd_c q (hz ((b - (2 * r)) - 2) (y - 1)) w hq (hz_Ok _ _) hG,
    callt rfl rfl fun w hG => DCheck_dy (addD q (hz ((b - (2 * r)) - 2) (y - 1))) (add_Ok hq (hz_Ok _ _)) w,
    callt rfl rfl fun w hG => DAdd_c (addD q (hz ((b - (2 * r)) - 2) (y - 1))) (hz 1 (y - 1)) w (add_Ok hq (hz_Ok _ _)) (hz_Ok _ _) hG,
    callt rfl rfl fun w hG => (by have h := halves_z ((2 * ((2 * c) + 0)) - (2 * a)) (y - 1) w ⟨by omega, by omega⟩ ⟨by omega, by omega⟩ hG; rw [((show hz ((2 * ((2 * c) + 0)) - (2 * a)) ((y - 1) - 1) = hz ((2 * ((2 * c) + 0)) - (2 * a)) ((y - 1) - 1) from by rw [show (y - 1) - 1 = (y - 1) - 1 from by omega]).trans (hz_two (by omega) ⟨by omega, by omega⟩ ⟨by omega, by omega⟩) : hz ((2 * ((2 * c) + 0)) - (2 * a)) ((y - 1) - 1) = hz ((2 * c) - a) (y - 1))] at h; exact h),
    callt rfl rfl fun w hG => (by have h := halves_z (((2 * b) - (2 * (((2 * r) + 1) - 0))) - 2) (y - 1) w ⟨by omega, by omega⟩ ⟨by omega, by omega⟩ hG; rw [((show hz (((2 * b) - (2 * (((2 * r) + 1) - 0))) - 2) ((y - 1) - 1) = hz (((2 * b) - (2 * (((2 * r) + 1) - 0))) - 2) ((y - 1) - 1) from by rw [show (y - 1) - 1 = (y - 1) - 1 from by omega]).trans (hz_two (by omega) ⟨by omega, by omega⟩ ⟨by omega, by omega⟩) : hz (((2 * b) - (2 * (((2 * r) + 1) - 0))) - 2) ((y - 1) - 1) = hz ((b - (2 * r)) - 2) (y - 1))] at h; exact h),
    callt rfl rfl fun w hG => (by have h := halves_z ((2 * ((2 * c) + 1)) - (2 * a)) (y - 1) w ⟨by omega, by omega⟩ ⟨by omega, by omega⟩ hG; rw [((show hz ((2 * ((2 * c) + 1)) - (2 * a)) ((y - 1) - 1) = hz ((2 * ((2 * c) + 1)) - (2 * a)) ((y - 1) - 1) from by rw [show (y - 1) - 1 = (y - 1) - 1 from by omega]).trans (hz_two (by omega) ⟨by omega, by omega⟩ ⟨by omega, by omega⟩) : hz ((2 * ((2 * c) + 1)) - (2 * a)) ((y - 1) - 1) = hz (1 - a + 2 * c) (y - 1))] at h; exact h),
    callt rfl rfl fun w hG => DAdd_canon hp (hz_Ok _ _) (show addD p (hz (1 - a + 2 * c) (y - 1)) = addD (addD p (hz ((2 * c) - a) (y - 1))) (hz 1 (y - 1)) ∧ addE p (hz (1 - a + 2 * c) (y - 1)) = addE (addD p (hz ((2 * c) - a) (y - 1))) (hz 1 (y - 1)) from add_hz hp ⟨by omega, by omega⟩ ⟨by omega, by omega⟩ ⟨by omega, by omega⟩ (by omega) hx) w hG,
    callt rfl rfl fun w hG => (by have h := halves_z (((2 * b) - (2 * (((2 * r) + 1) - 1))) - 2) (y - 1) w ⟨by omega, by omega⟩ ⟨by omega, by omega⟩ hG; rw [((show hz (((2 * b) - (2 * (((2 * r) + 1) - 1))) - 2) ((y - 1) - 1) = hz (((2 * b) - (2 * (((2 * r) + 1) - 1))) - 2) ((y - 1) - 1) from by rw [show (y - 1) - 1 = (y - 1) - 1 from by omega]).trans (hz_two (by omega) ⟨by omega, by omega⟩ ⟨by omega, by omega⟩) : hz (((2 * b) - (2 * (((2 * r) + 1) - 1))) - 2) ((y - 1) - 1) = hz (0 - 1 + b - 2 * r) (y - 1))] at h; exact h),
    callt rfl rfl fun w hG => DAdd_canon hq (hz_Ok _ _) (show addD q (hz (0 - 1 + b - 2 * r) (y - 1)) = addD (addD q (hz ((b - (2 * r)) - 2) (y - 1))) (hz 1 (y - 1)) ∧ addE q (hz (0 - 1 + b - 2 * r) (y - 1)) = addE (addD q (hz ((b - (2 * r)) - 2) (y - 1))) (hz 1 (y - 1)) from add_hz hq ⟨by omega, by omega⟩ ⟨by omega, by omega⟩ ⟨by omega, by omega⟩ (by omega) hy0) w hG,
    trivial⟩
  have fin : ∀ v, @comes (Zm_C0E_k b13 b16 b18 b19 b20 b21 b22 b23 b24 b25) Tryz.prog glT 3000 Zm_C0E_f Zm_C0E_a = some v → ground v = true → Ending.returned (gval v) = .returned (.bool true) → Calls Tryz.prog 5 #[.agg #[.bool p.g, .string (natS p.n), .int .i64 p.x, .bool q.g, .string (natS q.n), .int .i64 q.x, .int .i64 y, .int .i64 a, .int .i64 b], .int .i64 c, .int .i64 r, .int .i64 s, .int .i64 t, .int .i64 u, .int .i64 z] w fun e w' => e = .returned (.bool true) ∧ Below w.heap.size w w' := fun v h1 h2 h3 => (@sym_ok _ (Zm_C0E_k b13 b16 b18 b19 b20 b21 b22 b23 b24 b25) _ (@KnowOk.of _ (Zm_C0E_k b13 b16 b18 b19 b20 b21 b22 b23 b24 b25) _ hops hcalls) (by kernel_rfl) _ _ _ _ h1 rfl h2 _ hG).mono fun e w' h => ⟨h.1.trans h3, h.2⟩
  clear hops hcalls
  cases b13 with
  | true =>
    have h13 : y - 1 ≥ -4096 := i13.1 rfl
    cases b16 with
    | true =>
      have h16 : 2 * a ≤ 65536 := i16.1 rfl
      cases b18 with
      | true =>
        have h18 : 2 * b ≤ 65536 := i18.1 rfl
        cases b19 with
        | true =>
          exact absurd (i19.1 rfl) ((by omega))
        | false =>
          have h19 : ¬ (y = -4096) := fun c => Bool.false_ne_true (i19.2 c)
          cases b20 with
          | true =>
            have h20 : addE (addD p (hz ((2 * c) - a) (y - 1))) (hz 1 (y - 1)) = 0 := i20.1 rfl
            cases b25 with
            | true =>
              have h25 : addE (addD q (hz ((b - (2 * r)) - 2) (y - 1))) (hz 1 (y - 1)) = 0 := i25.1 rfl
              cases b21 with
              | true =>
                have h21 : s ≥ 1 := i21.1 rfl
                cases b22 with
                | true =>
                  have h22 : s ≤ a - c := i22.1 rfl
                  cases b23 with
                  | true =>
                    have h23 : t ≥ 1 := i23.1 rfl
                    cases b24 with
                    | true =>
                      exact absurd (i24.1 rfl) (fun c => hn2 ⟨h21, h22, h23, c⟩)
                    | false =>
                      have h24 : ¬ (t ≤ b - r) := fun c => Bool.false_ne_true (i24.2 c)
                      exact fin _ (Zm_C0E_r1) rfl rfl
                  | false =>
                    have h23 : ¬ (t ≥ 1) := fun c => Bool.false_ne_true (i23.2 c)
                    exact fin _ (Zm_C0E_r2 b24) rfl rfl
                | false =>
                  have h22 : ¬ (s ≤ a - c) := fun c => Bool.false_ne_true (i22.2 c)
                  exact fin _ (Zm_C0E_r3 b23 b24) rfl rfl
              | false =>
                have h21 : ¬ (s ≥ 1) := fun c => Bool.false_ne_true (i21.2 c)
                exact fin _ (Zm_C0E_r4 b22 b23 b24) rfl rfl
            | false =>
              have h25 : ¬ (addE (addD q (hz ((b - (2 * r)) - 2) (y - 1))) (hz 1 (y - 1)) = 0) := fun c => Bool.false_ne_true (i25.2 c)
              cases b21 with
              | true =>
                have h21 : s ≥ 1 := i21.1 rfl
                cases b22 with
                | true =>
                  have h22 : s ≤ a - c := i22.1 rfl
                  cases b23 with
                  | true =>
                    have h23 : t ≥ 1 := i23.1 rfl
                    cases b24 with
                    | true =>
                      exact absurd (i24.1 rfl) (fun c => hn2 ⟨h21, h22, h23, c⟩)
                    | false =>
                      have h24 : ¬ (t ≤ b - r) := fun c => Bool.false_ne_true (i24.2 c)
                      exact fin _ (Zm_C0E_r5) rfl rfl
                  | false =>
                    have h23 : ¬ (t ≥ 1) := fun c => Bool.false_ne_true (i23.2 c)
                    exact fin _ (Zm_C0E_r6 b24) rfl rfl
                | false =>
                  have h22 : ¬ (s ≤ a - c) := fun c => Bool.false_ne_true (i22.2 c)
                  exact fin _ (Zm_C0E_r7 b23 b24) rfl rfl
              | false =>
                have h21 : ¬ (s ≥ 1) := fun c => Bool.false_ne_true (i21.2 c)
                exact fin _ (Zm_C0E_r8 b22 b23 b24) rfl rfl
          | false =>
            have h20 : ¬ (addE (addD p (hz ((2 * c) - a) (y - 1))) (hz 1 (y - 1)) = 0) := fun c => Bool.false_ne_true (i20.2 c)
            cases b21 with
            | true =>
              have h21 : s ≥ 1 := i21.1 rfl
              cases b22 with
              | true =>
                have h22 : s ≤ a - c := i22.1 rfl
                cases b23 with
                | true =>
                  have h23 : t ≥ 1 := i23.1 rfl
                  cases b24 with
                  | true =>
                    exact absurd (i24.1 rfl) (fun c => hn2 ⟨h21, h22, h23, c⟩)
                  | false =>
                    have h24 : ¬ (t ≤ b - r) := fun c => Bool.false_ne_true (i24.2 c)
                    exact fin _ (Zm_C0E_r9 b25) rfl rfl
                | false =>
                  have h23 : ¬ (t ≥ 1) := fun c => Bool.false_ne_true (i23.2 c)
                  exact fin _ (Zm_C0E_r10 b24 b25) rfl rfl
              | false =>
                have h22 : ¬ (s ≤ a - c) := fun c => Bool.false_ne_true (i22.2 c)
                exact fin _ (Zm_C0E_r11 b23 b24 b25) rfl rfl
            | false =>
              have h21 : ¬ (s ≥ 1) := fun c => Bool.false_ne_true (i21.2 c)
              exact fin _ (Zm_C0E_r12 b22 b23 b24 b25) rfl rfl
      | false =>
        have h18 : ¬ (2 * b ≤ 65536) := fun c => Bool.false_ne_true (i18.2 c)
        cases b21 with
        | true =>
          have h21 : s ≥ 1 := i21.1 rfl
          cases b22 with
          | true =>
            have h22 : s ≤ a - c := i22.1 rfl
            cases b23 with
            | true =>
              have h23 : t ≥ 1 := i23.1 rfl
              cases b24 with
              | true =>
                exact absurd (i24.1 rfl) (fun c => hn2 ⟨h21, h22, h23, c⟩)
              | false =>
                have h24 : ¬ (t ≤ b - r) := fun c => Bool.false_ne_true (i24.2 c)
                exact fin _ (Zm_C0E_r13 b19 b20 b25) rfl rfl
            | false =>
              have h23 : ¬ (t ≥ 1) := fun c => Bool.false_ne_true (i23.2 c)
              exact fin _ (Zm_C0E_r14 b19 b20 b24 b25) rfl rfl
          | false =>
            have h22 : ¬ (s ≤ a - c) := fun c => Bool.false_ne_true (i22.2 c)
            exact fin _ (Zm_C0E_r15 b19 b20 b23 b24 b25) rfl rfl
        | false =>
          have h21 : ¬ (s ≥ 1) := fun c => Bool.false_ne_true (i21.2 c)
          exact fin _ (Zm_C0E_r16 b19 b20 b22 b23 b24 b25) rfl rfl
    | false =>
      have h16 : ¬ (2 * a ≤ 65536) := fun c => Bool.false_ne_true (i16.2 c)
      cases b21 with
      | true =>
        have h21 : s ≥ 1 := i21.1 rfl
        cases b22 with
        | true =>
          have h22 : s ≤ a - c := i22.1 rfl
          cases b23 with
          | true =>
            have h23 : t ≥ 1 := i23.1 rfl
            cases b24 with
            | true =>
              exact absurd (i24.1 rfl) (fun c => hn2 ⟨h21, h22, h23, c⟩)
            | false =>
              have h24 : ¬ (t ≤ b - r) := fun c => Bool.false_ne_true (i24.2 c)
              exact fin _ (Zm_C0E_r17 b18 b19 b20 b25) rfl rfl
          | false =>
            have h23 : ¬ (t ≥ 1) := fun c => Bool.false_ne_true (i23.2 c)
            exact fin _ (Zm_C0E_r18 b18 b19 b20 b24 b25) rfl rfl
        | false =>
          have h22 : ¬ (s ≤ a - c) := fun c => Bool.false_ne_true (i22.2 c)
          exact fin _ (Zm_C0E_r19 b18 b19 b20 b23 b24 b25) rfl rfl
      | false =>
        have h21 : ¬ (s ≥ 1) := fun c => Bool.false_ne_true (i21.2 c)
        exact fin _ (Zm_C0E_r20 b18 b19 b20 b22 b23 b24 b25) rfl rfl
  | false =>
    have h13 : ¬ (y - 1 ≥ -4096) := fun c => Bool.false_ne_true (i13.2 c)
    cases b21 with
    | true =>
      have h21 : s ≥ 1 := i21.1 rfl
      cases b22 with
      | true =>
        have h22 : s ≤ a - c := i22.1 rfl
        cases b23 with
        | true =>
          have h23 : t ≥ 1 := i23.1 rfl
          cases b24 with
          | true =>
            exact absurd (i24.1 rfl) (fun c => hn2 ⟨h21, h22, h23, c⟩)
          | false =>
            have h24 : ¬ (t ≤ b - r) := fun c => Bool.false_ne_true (i24.2 c)
            exact fin _ (Zm_C0E_r21 b16 b18 b19 b20 b25) rfl rfl
        | false =>
          have h23 : ¬ (t ≥ 1) := fun c => Bool.false_ne_true (i23.2 c)
          exact fin _ (Zm_C0E_r22 b16 b18 b19 b20 b24 b25) rfl rfl
      | false =>
        have h22 : ¬ (s ≤ a - c) := fun c => Bool.false_ne_true (i22.2 c)
        exact fin _ (Zm_C0E_r23 b16 b18 b19 b20 b23 b24 b25) rfl rfl
    | false =>
      have h21 : ¬ (s ≥ 1) := fun c => Bool.false_ne_true (i21.2 c)
      exact fin _ (Zm_C0E_r24 b16 b18 b19 b20 b22 b23 b24 b25) rfl rfl

@[reducible] def Zm_C1E_f : FuncId := 5
@[reducible] def Zm_C1E_a : List AV := [.agg [.sym 0, .sym 1, .sym 2, .sym 3, .sym 4, .sym 5, .sym 6, .sym 7, .sym 8], .sym 9, .sym 10, .sym 11, .sym 12, .sym 13, .sym 14]
@[reducible] noncomputable def Zm_C1E_k (b13 b16 b18 b19 b20 b25 b26 b27 b28 b29 b30 b31 b32 : Bool) : Know := ⟨[([0, 16, 3], [.sym 6, .lit (.int .i64 (-4096))], .lit (.bool true)),
  ([0, 14, 3], [.sym 6, .lit (.int .i64 4096)], .lit (.bool true)),
  ([0, 16, 3], [.sym 7, .lit (.int .i64 1)], .lit (.bool true)),
  ([0, 14, 3], [.sym 7, .lit (.int .i64 65536)], .lit (.bool true)),
  ([0, 16, 3], [.sym 8, .lit (.int .i64 1)], .lit (.bool true)),
  ([0, 14, 3], [.sym 8, .lit (.int .i64 65536)], .lit (.bool true)),
  ([0, 1, 3], [.sym 7, .lit (.int .i64 1)], .sym 18),
  ([0, 16, 3], [.sym 9, .lit (.int .i64 0)], .lit (.bool true)),
  ([0, 14, 3], [.sym 9, .sym 18], .lit (.bool true)),
  ([0, 1, 3], [.sym 8, .lit (.int .i64 1)], .sym 19),
  ([0, 16, 3], [.sym 10, .lit (.int .i64 0)], .lit (.bool true)),
  ([0, 14, 3], [.sym 10, .sym 19], .lit (.bool true)),
  ([0, 2, 3], [.lit (.int .i64 2), .sym 9], .sym 20),
  ([0, 1, 3], [.sym 20, .sym 7], .sym 21),
  ([0, 2, 3], [.lit (.int .i64 2), .sym 10], .sym 33),
  ([0, 1, 3], [.sym 8, .sym 33], .sym 34),
  ([0, 1, 3], [.sym 34, .lit (.int .i64 2)], .sym 35),
  ([0, 12, 30], [.sym 28, .lit (.int .i64 0)], .lit (.bool false)),
  ([0, 12, 30], [.sym 42, .lit (.int .i64 0)], .lit (.bool false)),
  ([0, 1, 3], [.sym 6, .lit (.int .i64 1)], .sym 47),
  ([0, 8, 3], [.sym 7, .lit (.int .i64 1)], .sym 48),
  ([0, 8, 3], [.sym 8, .lit (.int .i64 1)], .sym 49),
  ([0, 16, 3], [.sym 47, .lit (.int .i64 (-4096))], .lit (.bool b13)),
  ([0, 14, 3], [.sym 47, .lit (.int .i64 4096)], .lit (.bool true)),
  ([0, 16, 3], [.sym 48, .lit (.int .i64 1)], .lit (.bool true)),
  ([0, 14, 3], [.sym 48, .lit (.int .i64 65536)], .lit (.bool b16)),
  ([0, 16, 3], [.sym 49, .lit (.int .i64 1)], .lit (.bool true)),
  ([0, 14, 3], [.sym 49, .lit (.int .i64 65536)], .lit (.bool b18)),
  ([0, 11, 3], [.sym 6, .lit (.int .i64 (-4096))], .lit (.bool b19)),
  ([0, 12, 30], [.sym 32, .lit (.int .i64 0)], .lit (.bool (!b20))),
  ([0, 1, 3], [.sym 7, .sym 9], .sym 50),
  ([0, 16, 3], [.sym 11, .lit (.int .i64 1)], .lit (.bool true)),
  ([0, 14, 3], [.sym 11, .sym 50], .lit (.bool true)),
  ([0, 1, 3], [.sym 8, .sym 10], .sym 51),
  ([0, 16, 3], [.sym 12, .lit (.int .i64 1)], .lit (.bool true)),
  ([0, 14, 3], [.sym 12, .sym 51], .lit (.bool true)),
  ([0, 11, 100], [.agg [.sym 11, .sym 12], .agg [.sym 7, .sym 8]], .lit (.bool b25)),
  ([0, 13, 3], [.sym 13, .lit (.int .i64 0)], .lit (.bool b26)),
  ([0, 13, 3], [.sym 14, .lit (.int .i64 0)], .lit (.bool b27)),
  ([0, 16, 3], [.sym 13, .sym 11], .lit (.bool b28)),
  ([0, 16, 3], [.sym 14, .sym 12], .lit (.bool b29)),
  ([0, 0, 3], [.sym 20, .sym 11], .sym 52),
  ([0, 1, 3], [.sym 52, .sym 7], .sym 53),
  ([0, 1, 3], [.sym 34, .sym 12], .sym 61),
  ([0, 12, 30], [.sym 60, .lit (.int .i64 0)], .lit (.bool (!b30))),
  ([0, 12, 30], [.sym 68, .lit (.int .i64 0)], .lit (.bool (!b31))),
  ([0, 12, 30], [.sym 46, .lit (.int .i64 0)], .lit (.bool (!b32))),
  ([0, 0, 3], [.sym 20, .lit (.int .i64 0)], .sym 69),
  ([0, 0, 3], [.sym 33, .lit (.int .i64 1)], .sym 70),
  ([0, 1, 3], [.sym 70, .lit (.int .i64 0)], .sym 71),
  ([0, 1, 3], [.sym 48, .lit (.int .i64 1)], .sym 72),
  ([0, 16, 3], [.sym 69, .lit (.int .i64 0)], .lit (.bool true)),
  ([0, 14, 3], [.sym 69, .sym 72], .lit (.bool true)),
  ([0, 1, 3], [.sym 49, .lit (.int .i64 1)], .sym 73),
  ([0, 16, 3], [.sym 71, .lit (.int .i64 0)], .lit (.bool true)),
  ([0, 14, 3], [.sym 71, .sym 73], .lit (.bool true)),
  ([0, 2, 3], [.lit (.int .i64 2), .sym 69], .sym 74),
  ([0, 1, 3], [.sym 74, .sym 48], .sym 75),
  ([0, 2, 3], [.lit (.int .i64 2), .sym 71], .sym 76),
  ([0, 1, 3], [.sym 49, .sym 76], .sym 77),
  ([0, 1, 3], [.sym 77, .lit (.int .i64 2)], .sym 78),
  ([0, 12, 26], [.agg [.sym 25, .sym 26, .sym 27, .sym 39, .sym 40, .sym 41, .sym 47], .agg [.sym 25, .sym 26, .sym 27, .sym 39, .sym 40, .sym 41, .sym 47]], .lit (.bool false)),
  ([0, 0, 3], [.sym 20, .lit (.int .i64 1)], .sym 79),
  ([0, 16, 3], [.sym 79, .lit (.int .i64 0)], .lit (.bool true)),
  ([0, 14, 3], [.sym 79, .sym 72], .lit (.bool true)),
  ([0, 2, 3], [.lit (.int .i64 2), .sym 79], .sym 80),
  ([0, 1, 3], [.sym 80, .sym 48], .sym 81),
  ([0, 12, 26], [.agg [.sym 29, .sym 30, .sym 31, .sym 39, .sym 40, .sym 41, .sym 47], .agg [.sym 29, .sym 30, .sym 31, .sym 39, .sym 40, .sym 41, .sym 47]], .lit (.bool false)),
  ([0, 1, 3], [.sym 70, .lit (.int .i64 1)], .sym 85),
  ([0, 16, 3], [.sym 85, .lit (.int .i64 0)], .lit (.bool true)),
  ([0, 14, 3], [.sym 85, .sym 73], .lit (.bool true)),
  ([0, 2, 3], [.lit (.int .i64 2), .sym 85], .sym 86),
  ([0, 1, 3], [.sym 49, .sym 86], .sym 87),
  ([0, 1, 3], [.sym 87, .lit (.int .i64 2)], .sym 88),
  ([0, 12, 26], [.agg [.sym 25, .sym 26, .sym 27, .sym 43, .sym 44, .sym 45, .sym 47], .agg [.sym 25, .sym 26, .sym 27, .sym 43, .sym 44, .sym 45, .sym 47]], .lit (.bool false)),
  ([0, 12, 26], [.agg [.sym 29, .sym 30, .sym 31, .sym 43, .sym 44, .sym 45, .sym 47], .agg [.sym 29, .sym 30, .sym 31, .sym 43, .sym 44, .sym 45, .sym 47]], .lit (.bool false))],
  [(13, [], .lit (.bool true)),
  (25, [.agg [.sym 0, .sym 1, .sym 2, .sym 3, .sym 4, .sym 5]], .lit (.int .i64 0)),
  (50, [.lit (.int .i64 1), .sym 6], .agg [.sym 15, .sym 16, .sym 17]),
  (50, [.sym 21, .sym 6], .agg [.sym 22, .sym 23, .sym 24]),
  (20, [.agg [.sym 0, .sym 1, .sym 2], .agg [.sym 22, .sym 23, .sym 24]], .tup [.agg [.sym 25, .sym 26, .sym 27], .sym 28]),
  (30, [.agg [.sym 25, .sym 26, .sym 27]], .lit (.int .i64 0)),
  (20, [.agg [.sym 25, .sym 26, .sym 27], .agg [.sym 15, .sym 16, .sym 17]], .tup [.agg [.sym 29, .sym 30, .sym 31], .sym 32]),
  (50, [.sym 35, .sym 6], .agg [.sym 36, .sym 37, .sym 38]),
  (20, [.agg [.sym 3, .sym 4, .sym 5], .agg [.sym 36, .sym 37, .sym 38]], .tup [.agg [.sym 39, .sym 40, .sym 41], .sym 42]),
  (30, [.agg [.sym 39, .sym 40, .sym 41]], .lit (.int .i64 0)),
  (20, [.agg [.sym 39, .sym 40, .sym 41], .agg [.sym 15, .sym 16, .sym 17]], .tup [.agg [.sym 43, .sym 44, .sym 45], .sym 46]),
  (50, [.sym 53, .sym 6], .agg [.sym 54, .sym 55, .sym 56]),
  (20, [.agg [.sym 0, .sym 1, .sym 2], .agg [.sym 54, .sym 55, .sym 56]], .tup [.agg [.sym 57, .sym 58, .sym 59], .sym 60]),
  (50, [.sym 61, .sym 6], .agg [.sym 62, .sym 63, .sym 64]),
  (20, [.agg [.sym 3, .sym 4, .sym 5], .agg [.sym 62, .sym 63, .sym 64]], .tup [.agg [.sym 65, .sym 66, .sym 67], .sym 68]),
  (50, [.sym 75, .sym 47], .agg [.sym 22, .sym 23, .sym 24]),
  (50, [.sym 78, .sym 47], .agg [.sym 36, .sym 37, .sym 38]),
  (50, [.sym 81, .sym 47], .agg [.sym 82, .sym 83, .sym 84]),
  (20, [.agg [.sym 0, .sym 1, .sym 2], .agg [.sym 82, .sym 83, .sym 84]], .tup [.agg [.sym 29, .sym 30, .sym 31], .sym 32]),
  (50, [.sym 88, .sym 47], .agg [.sym 89, .sym 90, .sym 91]),
  (20, [.agg [.sym 3, .sym 4, .sym 5], .agg [.sym 89, .sym 90, .sym 91]], .tup [.agg [.sym 43, .sym 44, .sym 45], .sym 46])]⟩
theorem Zm_C1E_r1 (b27 b28 b29 b30 b31 : Bool) : @comes (Zm_C1E_k true true true false true true true b27 b28 b29 b30 b31 true) Tryz.prog glT 3000 Zm_C1E_f Zm_C1E_a = some (.lit (.bool true)) := by kernel_rfl
theorem Zm_C1E_r2 (b28 b29 b30 b31 : Bool) : @comes (Zm_C1E_k true true true false true true false true b28 b29 b30 b31 true) Tryz.prog glT 3000 Zm_C1E_f Zm_C1E_a = some (.lit (.bool true)) := by kernel_rfl
theorem Zm_C1E_r3 (b29 b30 b31 : Bool) : @comes (Zm_C1E_k true true true false true true false false true b29 b30 b31 true) Tryz.prog glT 3000 Zm_C1E_f Zm_C1E_a = some (.lit (.bool true)) := by kernel_rfl
theorem Zm_C1E_r4 (b30 b31 : Bool) : @comes (Zm_C1E_k true true true false true true false false false true b30 b31 true) Tryz.prog glT 3000 Zm_C1E_f Zm_C1E_a = some (.lit (.bool true)) := by kernel_rfl
theorem Zm_C1E_r5 (b27 b28 b29 : Bool) : @comes (Zm_C1E_k true true true false true false true b27 b28 b29 true true true) Tryz.prog glT 3000 Zm_C1E_f Zm_C1E_a = some (.lit (.bool true)) := by kernel_rfl
theorem Zm_C1E_r6 (b28 b29 : Bool) : @comes (Zm_C1E_k true true true false true false false true b28 b29 true true true) Tryz.prog glT 3000 Zm_C1E_f Zm_C1E_a = some (.lit (.bool true)) := by kernel_rfl
theorem Zm_C1E_r7 (b29 : Bool) : @comes (Zm_C1E_k true true true false true false false false true b29 true true true) Tryz.prog glT 3000 Zm_C1E_f Zm_C1E_a = some (.lit (.bool true)) := by kernel_rfl
theorem Zm_C1E_r8 : @comes (Zm_C1E_k true true true false true false false false false true true true true) Tryz.prog glT 3000 Zm_C1E_f Zm_C1E_a = some (.lit (.bool true)) := by kernel_rfl
theorem Zm_C1E_r9 (b26 b27 b28 b29 : Bool) : @comes (Zm_C1E_k true true true false true false b26 b27 b28 b29 true false true) Tryz.prog glT 3000 Zm_C1E_f Zm_C1E_a = some (.lit (.bool true)) := by kernel_rfl
theorem Zm_C1E_r10 (b26 b27 b28 b29 b31 : Bool) : @comes (Zm_C1E_k true true true false true false b26 b27 b28 b29 false b31 true) Tryz.prog glT 3000 Zm_C1E_f Zm_C1E_a = some (.lit (.bool true)) := by kernel_rfl
theorem Zm_C1E_r11 (b27 b28 b29 b30 b31 : Bool) : @comes (Zm_C1E_k true true true false true true true b27 b28 b29 b30 b31 false) Tryz.prog glT 3000 Zm_C1E_f Zm_C1E_a = some (.lit (.bool true)) := by kernel_rfl
theorem Zm_C1E_r12 (b28 b29 b30 b31 : Bool) : @comes (Zm_C1E_k true true true false true true false true b28 b29 b30 b31 false) Tryz.prog glT 3000 Zm_C1E_f Zm_C1E_a = some (.lit (.bool true)) := by kernel_rfl
theorem Zm_C1E_r13 (b29 b30 b31 : Bool) : @comes (Zm_C1E_k true true true false true true false false true b29 b30 b31 false) Tryz.prog glT 3000 Zm_C1E_f Zm_C1E_a = some (.lit (.bool true)) := by kernel_rfl
theorem Zm_C1E_r14 (b30 b31 : Bool) : @comes (Zm_C1E_k true true true false true true false false false true b30 b31 false) Tryz.prog glT 3000 Zm_C1E_f Zm_C1E_a = some (.lit (.bool true)) := by kernel_rfl
theorem Zm_C1E_r15 (b27 b28 b29 : Bool) : @comes (Zm_C1E_k true true true false true false true b27 b28 b29 true true false) Tryz.prog glT 3000 Zm_C1E_f Zm_C1E_a = some (.lit (.bool true)) := by kernel_rfl
theorem Zm_C1E_r16 (b28 b29 : Bool) : @comes (Zm_C1E_k true true true false true false false true b28 b29 true true false) Tryz.prog glT 3000 Zm_C1E_f Zm_C1E_a = some (.lit (.bool true)) := by kernel_rfl
theorem Zm_C1E_r17 (b29 : Bool) : @comes (Zm_C1E_k true true true false true false false false true b29 true true false) Tryz.prog glT 3000 Zm_C1E_f Zm_C1E_a = some (.lit (.bool true)) := by kernel_rfl
theorem Zm_C1E_r18 : @comes (Zm_C1E_k true true true false true false false false false true true true false) Tryz.prog glT 3000 Zm_C1E_f Zm_C1E_a = some (.lit (.bool true)) := by kernel_rfl
theorem Zm_C1E_r19 (b26 b27 b28 b29 : Bool) : @comes (Zm_C1E_k true true true false true false b26 b27 b28 b29 true false false) Tryz.prog glT 3000 Zm_C1E_f Zm_C1E_a = some (.lit (.bool true)) := by kernel_rfl
theorem Zm_C1E_r20 (b26 b27 b28 b29 b31 : Bool) : @comes (Zm_C1E_k true true true false true false b26 b27 b28 b29 false b31 false) Tryz.prog glT 3000 Zm_C1E_f Zm_C1E_a = some (.lit (.bool true)) := by kernel_rfl
theorem Zm_C1E_r21 (b27 b28 b29 b30 b31 b32 : Bool) : @comes (Zm_C1E_k true true true false false true true b27 b28 b29 b30 b31 b32) Tryz.prog glT 3000 Zm_C1E_f Zm_C1E_a = some (.lit (.bool true)) := by kernel_rfl
theorem Zm_C1E_r22 (b28 b29 b30 b31 b32 : Bool) : @comes (Zm_C1E_k true true true false false true false true b28 b29 b30 b31 b32) Tryz.prog glT 3000 Zm_C1E_f Zm_C1E_a = some (.lit (.bool true)) := by kernel_rfl
theorem Zm_C1E_r23 (b29 b30 b31 b32 : Bool) : @comes (Zm_C1E_k true true true false false true false false true b29 b30 b31 b32) Tryz.prog glT 3000 Zm_C1E_f Zm_C1E_a = some (.lit (.bool true)) := by kernel_rfl
theorem Zm_C1E_r24 (b30 b31 b32 : Bool) : @comes (Zm_C1E_k true true true false false true false false false true b30 b31 b32) Tryz.prog glT 3000 Zm_C1E_f Zm_C1E_a = some (.lit (.bool true)) := by kernel_rfl
theorem Zm_C1E_r25 (b27 b28 b29 b32 : Bool) : @comes (Zm_C1E_k true true true false false false true b27 b28 b29 true true b32) Tryz.prog glT 3000 Zm_C1E_f Zm_C1E_a = some (.lit (.bool true)) := by kernel_rfl
theorem Zm_C1E_r26 (b28 b29 b32 : Bool) : @comes (Zm_C1E_k true true true false false false false true b28 b29 true true b32) Tryz.prog glT 3000 Zm_C1E_f Zm_C1E_a = some (.lit (.bool true)) := by kernel_rfl
theorem Zm_C1E_r27 (b29 b32 : Bool) : @comes (Zm_C1E_k true true true false false false false false true b29 true true b32) Tryz.prog glT 3000 Zm_C1E_f Zm_C1E_a = some (.lit (.bool true)) := by kernel_rfl
theorem Zm_C1E_r28 (b32 : Bool) : @comes (Zm_C1E_k true true true false false false false false false true true true b32) Tryz.prog glT 3000 Zm_C1E_f Zm_C1E_a = some (.lit (.bool true)) := by kernel_rfl
theorem Zm_C1E_r29 (b26 b27 b28 b29 b32 : Bool) : @comes (Zm_C1E_k true true true false false false b26 b27 b28 b29 true false b32) Tryz.prog glT 3000 Zm_C1E_f Zm_C1E_a = some (.lit (.bool true)) := by kernel_rfl
theorem Zm_C1E_r30 (b26 b27 b28 b29 b31 b32 : Bool) : @comes (Zm_C1E_k true true true false false false b26 b27 b28 b29 false b31 b32) Tryz.prog glT 3000 Zm_C1E_f Zm_C1E_a = some (.lit (.bool true)) := by kernel_rfl
theorem Zm_C1E_r31 (b19 b20 b27 b28 b29 b30 b31 b32 : Bool) : @comes (Zm_C1E_k true true false b19 b20 true true b27 b28 b29 b30 b31 b32) Tryz.prog glT 3000 Zm_C1E_f Zm_C1E_a = some (.lit (.bool true)) := by kernel_rfl
theorem Zm_C1E_r32 (b19 b20 b28 b29 b30 b31 b32 : Bool) : @comes (Zm_C1E_k true true false b19 b20 true false true b28 b29 b30 b31 b32) Tryz.prog glT 3000 Zm_C1E_f Zm_C1E_a = some (.lit (.bool true)) := by kernel_rfl
theorem Zm_C1E_r33 (b19 b20 b29 b30 b31 b32 : Bool) : @comes (Zm_C1E_k true true false b19 b20 true false false true b29 b30 b31 b32) Tryz.prog glT 3000 Zm_C1E_f Zm_C1E_a = some (.lit (.bool true)) := by kernel_rfl
theorem Zm_C1E_r34 (b19 b20 b30 b31 b32 : Bool) : @comes (Zm_C1E_k true true false b19 b20 true false false false true b30 b31 b32) Tryz.prog glT 3000 Zm_C1E_f Zm_C1E_a = some (.lit (.bool true)) := by kernel_rfl
theorem Zm_C1E_r35 (b19 b20 b27 b28 b29 b32 : Bool) : @comes (Zm_C1E_k true true false b19 b20 false true b27 b28 b29 true true b32) Tryz.prog glT 3000 Zm_C1E_f Zm_C1E_a = some (.lit (.bool true)) := by kernel_rfl
theorem Zm_C1E_r36 (b19 b20 b28 b29 b32 : Bool) : @comes (Zm_C1E_k true true false b19 b20 false false true b28 b29 true true b32) Tryz.prog glT 3000 Zm_C1E_f Zm_C1E_a = some (.lit (.bool true)) := by kernel_rfl
theorem Zm_C1E_r37 (b19 b20 b29 b32 : Bool) : @comes (Zm_C1E_k true true false b19 b20 false false false true b29 true true b32) Tryz.prog glT 3000 Zm_C1E_f Zm_C1E_a = some (.lit (.bool true)) := by kernel_rfl
theorem Zm_C1E_r38 (b19 b20 b32 : Bool) : @comes (Zm_C1E_k true true false b19 b20 false false false false true true true b32) Tryz.prog glT 3000 Zm_C1E_f Zm_C1E_a = some (.lit (.bool true)) := by kernel_rfl
theorem Zm_C1E_r39 (b19 b20 b26 b27 b28 b29 b32 : Bool) : @comes (Zm_C1E_k true true false b19 b20 false b26 b27 b28 b29 true false b32) Tryz.prog glT 3000 Zm_C1E_f Zm_C1E_a = some (.lit (.bool true)) := by kernel_rfl
theorem Zm_C1E_r40 (b19 b20 b26 b27 b28 b29 b31 b32 : Bool) : @comes (Zm_C1E_k true true false b19 b20 false b26 b27 b28 b29 false b31 b32) Tryz.prog glT 3000 Zm_C1E_f Zm_C1E_a = some (.lit (.bool true)) := by kernel_rfl
theorem Zm_C1E_r41 (b18 b19 b20 b27 b28 b29 b30 b31 b32 : Bool) : @comes (Zm_C1E_k true false b18 b19 b20 true true b27 b28 b29 b30 b31 b32) Tryz.prog glT 3000 Zm_C1E_f Zm_C1E_a = some (.lit (.bool true)) := by kernel_rfl
theorem Zm_C1E_r42 (b18 b19 b20 b28 b29 b30 b31 b32 : Bool) : @comes (Zm_C1E_k true false b18 b19 b20 true false true b28 b29 b30 b31 b32) Tryz.prog glT 3000 Zm_C1E_f Zm_C1E_a = some (.lit (.bool true)) := by kernel_rfl
theorem Zm_C1E_r43 (b18 b19 b20 b29 b30 b31 b32 : Bool) : @comes (Zm_C1E_k true false b18 b19 b20 true false false true b29 b30 b31 b32) Tryz.prog glT 3000 Zm_C1E_f Zm_C1E_a = some (.lit (.bool true)) := by kernel_rfl
theorem Zm_C1E_r44 (b18 b19 b20 b30 b31 b32 : Bool) : @comes (Zm_C1E_k true false b18 b19 b20 true false false false true b30 b31 b32) Tryz.prog glT 3000 Zm_C1E_f Zm_C1E_a = some (.lit (.bool true)) := by kernel_rfl
theorem Zm_C1E_r45 (b18 b19 b20 b27 b28 b29 b32 : Bool) : @comes (Zm_C1E_k true false b18 b19 b20 false true b27 b28 b29 true true b32) Tryz.prog glT 3000 Zm_C1E_f Zm_C1E_a = some (.lit (.bool true)) := by kernel_rfl
theorem Zm_C1E_r46 (b18 b19 b20 b28 b29 b32 : Bool) : @comes (Zm_C1E_k true false b18 b19 b20 false false true b28 b29 true true b32) Tryz.prog glT 3000 Zm_C1E_f Zm_C1E_a = some (.lit (.bool true)) := by kernel_rfl
theorem Zm_C1E_r47 (b18 b19 b20 b29 b32 : Bool) : @comes (Zm_C1E_k true false b18 b19 b20 false false false true b29 true true b32) Tryz.prog glT 3000 Zm_C1E_f Zm_C1E_a = some (.lit (.bool true)) := by kernel_rfl
theorem Zm_C1E_r48 (b18 b19 b20 b32 : Bool) : @comes (Zm_C1E_k true false b18 b19 b20 false false false false true true true b32) Tryz.prog glT 3000 Zm_C1E_f Zm_C1E_a = some (.lit (.bool true)) := by kernel_rfl
theorem Zm_C1E_r49 (b18 b19 b20 b26 b27 b28 b29 b32 : Bool) : @comes (Zm_C1E_k true false b18 b19 b20 false b26 b27 b28 b29 true false b32) Tryz.prog glT 3000 Zm_C1E_f Zm_C1E_a = some (.lit (.bool true)) := by kernel_rfl
theorem Zm_C1E_r50 (b18 b19 b20 b26 b27 b28 b29 b31 b32 : Bool) : @comes (Zm_C1E_k true false b18 b19 b20 false b26 b27 b28 b29 false b31 b32) Tryz.prog glT 3000 Zm_C1E_f Zm_C1E_a = some (.lit (.bool true)) := by kernel_rfl
theorem Zm_C1E_r51 (b16 b18 b19 b20 b27 b28 b29 b30 b31 b32 : Bool) : @comes (Zm_C1E_k false b16 b18 b19 b20 true true b27 b28 b29 b30 b31 b32) Tryz.prog glT 3000 Zm_C1E_f Zm_C1E_a = some (.lit (.bool true)) := by kernel_rfl
theorem Zm_C1E_r52 (b16 b18 b19 b20 b28 b29 b30 b31 b32 : Bool) : @comes (Zm_C1E_k false b16 b18 b19 b20 true false true b28 b29 b30 b31 b32) Tryz.prog glT 3000 Zm_C1E_f Zm_C1E_a = some (.lit (.bool true)) := by kernel_rfl
theorem Zm_C1E_r53 (b16 b18 b19 b20 b29 b30 b31 b32 : Bool) : @comes (Zm_C1E_k false b16 b18 b19 b20 true false false true b29 b30 b31 b32) Tryz.prog glT 3000 Zm_C1E_f Zm_C1E_a = some (.lit (.bool true)) := by kernel_rfl
theorem Zm_C1E_r54 (b16 b18 b19 b20 b30 b31 b32 : Bool) : @comes (Zm_C1E_k false b16 b18 b19 b20 true false false false true b30 b31 b32) Tryz.prog glT 3000 Zm_C1E_f Zm_C1E_a = some (.lit (.bool true)) := by kernel_rfl
theorem Zm_C1E_r55 (b16 b18 b19 b20 b27 b28 b29 b32 : Bool) : @comes (Zm_C1E_k false b16 b18 b19 b20 false true b27 b28 b29 true true b32) Tryz.prog glT 3000 Zm_C1E_f Zm_C1E_a = some (.lit (.bool true)) := by kernel_rfl
theorem Zm_C1E_r56 (b16 b18 b19 b20 b28 b29 b32 : Bool) : @comes (Zm_C1E_k false b16 b18 b19 b20 false false true b28 b29 true true b32) Tryz.prog glT 3000 Zm_C1E_f Zm_C1E_a = some (.lit (.bool true)) := by kernel_rfl
theorem Zm_C1E_r57 (b16 b18 b19 b20 b29 b32 : Bool) : @comes (Zm_C1E_k false b16 b18 b19 b20 false false false true b29 true true b32) Tryz.prog glT 3000 Zm_C1E_f Zm_C1E_a = some (.lit (.bool true)) := by kernel_rfl
theorem Zm_C1E_r58 (b16 b18 b19 b20 b32 : Bool) : @comes (Zm_C1E_k false b16 b18 b19 b20 false false false false true true true b32) Tryz.prog glT 3000 Zm_C1E_f Zm_C1E_a = some (.lit (.bool true)) := by kernel_rfl
theorem Zm_C1E_r59 (b16 b18 b19 b20 b26 b27 b28 b29 b32 : Bool) : @comes (Zm_C1E_k false b16 b18 b19 b20 false b26 b27 b28 b29 true false b32) Tryz.prog glT 3000 Zm_C1E_f Zm_C1E_a = some (.lit (.bool true)) := by kernel_rfl
theorem Zm_C1E_r60 (b16 b18 b19 b20 b26 b27 b28 b29 b31 b32 : Bool) : @comes (Zm_C1E_k false b16 b18 b19 b20 false b26 b27 b28 b29 false b31 b32) Tryz.prog glT 3000 Zm_C1E_f Zm_C1E_a = some (.lit (.bool true)) := by kernel_rfl

set_option maxRecDepth 100000 in
set_option maxHeartbeats 4000000 in
theorem Zm_C1E (p q : Dy) (y a b c r s t u z : Int) (w : World) (hp : p.Ok) (hq : q.Ok) (e1 : -4096 ≤ y) (e2 : y ≤ 4096) (a1 : 1 ≤ a) (a2 : a ≤ 65536) (b1 : 1 ≤ b) (b2 : b ≤ 65536) (c1 : 0 ≤ c) (c2 : c ≤ a - 1) (r1 : 0 ≤ r) (r2 : r ≤ b - 1) (hx : addE p (hz ((2 * c) - a) (y - 1)) = 0) (hy0 : addE q (hz ((b - (2 * r)) - 2) (y - 1)) = 0) (s1 : 1 ≤ s) (s2 : s ≤ a - c) (t1 : 1 ≤ t) (t2 : t ≤ b - r) (hn3 : u < 0 ∨ z < 0 ∨ u ≥ s ∨ z ≥ t) (hG : Globs glT w) : Calls Tryz.prog 5 #[.agg #[.bool p.g, .string (natS p.n), .int .i64 p.x, .bool q.g, .string (natS q.n), .int .i64 q.x, .int .i64 y, .int .i64 a, .int .i64 b], .int .i64 c, .int .i64 r, .int .i64 s, .int .i64 t, .int .i64 u, .int .i64 z] w fun e w' => e = .returned (.bool true) ∧ Below w.heap.size w w' := by
  have h1 : y ≥ -4096 := (by omega)
  have i1 : true = true ↔ (y ≥ -4096) := ⟨fun _ => h1, fun _ => rfl⟩
  have h2 : y ≤ 4096 := (by omega)
  have i2 : true = true ↔ (y ≤ 4096) := ⟨fun _ => h2, fun _ => rfl⟩
  have h3 : a ≥ 1 := (by omega)
  have i3 : true = true ↔ (a ≥ 1) := ⟨fun _ => h3, fun _ => rfl⟩
  have h4 : a ≤ 65536 := (by omega)
  have i4 : true = true ↔ (a ≤ 65536) := ⟨fun _ => h4, fun _ => rfl⟩
  have h5 : b ≥ 1 := (by omega)
  have i5 : true = true ↔ (b ≥ 1) := ⟨fun _ => h5, fun _ => rfl⟩
  have h6 : b ≤ 65536 := (by omega)
  have i6 : true = true ↔ (b ≤ 65536) := ⟨fun _ => h6, fun _ => rfl⟩
  have h7 : c ≥ 0 := (by omega)
  have i7 : true = true ↔ (c ≥ 0) := ⟨fun _ => h7, fun _ => rfl⟩
  have h8 : c ≤ a - 1 := (by omega)
  have i8 : true = true ↔ (c ≤ a - 1) := ⟨fun _ => h8, fun _ => rfl⟩
  have h9 : r ≥ 0 := (by omega)
  have i9 : true = true ↔ (r ≥ 0) := ⟨fun _ => h9, fun _ => rfl⟩
  have h10 : r ≤ b - 1 := (by omega)
  have i10 : true = true ↔ (r ≤ b - 1) := ⟨fun _ => h10, fun _ => rfl⟩
  have h11 : addE p (hz ((2 * c) - a) (y - 1)) = 0 := hx
  have i11 : true = true ↔ (addE p (hz ((2 * c) - a) (y - 1)) = 0) := ⟨fun _ => h11, fun _ => rfl⟩
  have h12 : addE q (hz ((b - (2 * r)) - 2) (y - 1)) = 0 := hy0
  have i12 : true = true ↔ (addE q (hz ((b - (2 * r)) - 2) (y - 1)) = 0) := ⟨fun _ => h12, fun _ => rfl⟩
  obtain ⟨b13, i13⟩ := bex (y - 1 ≥ -4096)
  have h14 : y - 1 ≤ 4096 := (by omega)
  have i14 : true = true ↔ (y - 1 ≤ 4096) := ⟨fun _ => h14, fun _ => rfl⟩
  have h15 : 2 * a ≥ 1 := (by omega)
  have i15 : true = true ↔ (2 * a ≥ 1) := ⟨fun _ => h15, fun _ => rfl⟩
  obtain ⟨b16, i16⟩ := bex (2 * a ≤ 65536)
  have h17 : 2 * b ≥ 1 := (by omega)
  have i17 : true = true ↔ (2 * b ≥ 1) := ⟨fun _ => h17, fun _ => rfl⟩
  obtain ⟨b18, i18⟩ := bex (2 * b ≤ 65536)
  obtain ⟨b19, i19⟩ := bex (y = -4096)
  obtain ⟨b20, i20⟩ := bex (addE (addD p (hz ((2 * c) - a) (y - 1))) (hz 1 (y - 1)) = 0)
  have h21 : s ≥ 1 := (by omega)
  have i21 : true = true ↔ (s ≥ 1) := ⟨fun _ => h21, fun _ => rfl⟩
  have h22 : s ≤ a - c := (by omega)
  have i22 : true = true ↔ (s ≤ a - c) := ⟨fun _ => h22, fun _ => rfl⟩
  have h23 : t ≥ 1 := (by omega)
  have i23 : true = true ↔ (t ≥ 1) := ⟨fun _ => h23, fun _ => rfl⟩
  have h24 : t ≤ b - r := (by omega)
  have i24 : true = true ↔ (t ≤ b - r) := ⟨fun _ => h24, fun _ => rfl⟩
  obtain ⟨b25, i25⟩ := bex ((s, t) = (a, b))
  obtain ⟨b26, i26⟩ := bex (u < 0)
  obtain ⟨b27, i27⟩ := bex (z < 0)
  obtain ⟨b28, i28⟩ := bex (u ≥ s)
  obtain ⟨b29, i29⟩ := bex (z ≥ t)
  obtain ⟨b30, i30⟩ := bex (addE p (hz (((2 * c) + s) - a) (y - 1)) = 0)
  obtain ⟨b31, i31⟩ := bex (addE q (hz ((b - (2 * r)) - t) (y - 1)) = 0)
  obtain ⟨b32, i32⟩ := bex (addE (addD q (hz ((b - (2 * r)) - 2) (y - 1))) (hz 1 (y - 1)) = 0)
  have h33 : (2 * c) + 0 ≥ 0 := (by omega)
  have i33 : true = true ↔ ((2 * c) + 0 ≥ 0) := ⟨fun _ => h33, fun _ => rfl⟩
  have h34 : (2 * c) + 0 ≤ (2 * a) - 1 := (by omega)
  have i34 : true = true ↔ ((2 * c) + 0 ≤ (2 * a) - 1) := ⟨fun _ => h34, fun _ => rfl⟩
  have h35 : ((2 * r) + 1) - 0 ≥ 0 := (by omega)
  have i35 : true = true ↔ (((2 * r) + 1) - 0 ≥ 0) := ⟨fun _ => h35, fun _ => rfl⟩
  have h36 : ((2 * r) + 1) - 0 ≤ (2 * b) - 1 := (by omega)
  have i36 : true = true ↔ (((2 * r) + 1) - 0 ≤ (2 * b) - 1) := ⟨fun _ => h36, fun _ => rfl⟩
  have h37 : (2 * c) + 1 ≥ 0 := (by omega)
  have i37 : true = true ↔ ((2 * c) + 1 ≥ 0) := ⟨fun _ => h37, fun _ => rfl⟩
  have h38 : (2 * c) + 1 ≤ (2 * a) - 1 := (by omega)
  have i38 : true = true ↔ ((2 * c) + 1 ≤ (2 * a) - 1) := ⟨fun _ => h38, fun _ => rfl⟩
  have h39 : ((2 * r) + 1) - 1 ≥ 0 := (by omega)
  have i39 : true = true ↔ (((2 * r) + 1) - 1 ≥ 0) := ⟨fun _ => h39, fun _ => rfl⟩
  have h40 : ((2 * r) + 1) - 1 ≤ (2 * b) - 1 := (by omega)
  have i40 : true = true ↔ (((2 * r) + 1) - 1 ≤ (2 * b) - 1) := ⟨fun _ => h40, fun _ => rfl⟩
  letI : Env := mkEnv glT [.bool p.g, .string (natS p.n), .int .i64 p.x, .bool q.g, .string (natS q.n), .int .i64 q.x, .int .i64 y, .int .i64 a, .int .i64 b, .int .i64 c, .int .i64 r, .int .i64 s, .int .i64 t, .int .i64 u, .int .i64 z, .bool (hz 1 (y - 1)).g, .string (natS (hz 1 (y - 1)).n), .int .i64 (hz 1 (y - 1)).x, .int .i64 (a - 1), .int .i64 (b - 1), .int .i64 (2 * c), .int .i64 ((2 * c) - a), .bool (hz ((2 * c) - a) (y - 1)).g, .string (natS (hz ((2 * c) - a) (y - 1)).n), .int .i64 (hz ((2 * c) - a) (y - 1)).x, .bool (addD p (hz ((2 * c) - a) (y - 1))).g, .string (natS (addD p (hz ((2 * c) - a) (y - 1))).n), .int .i64 (addD p (hz ((2 * c) - a) (y - 1))).x, .int .i64 (addE p (hz ((2 * c) - a) (y - 1))), .bool (addD (addD p (hz ((2 * c) - a) (y - 1))) (hz 1 (y - 1))).g, .string (natS (addD (addD p (hz ((2 * c) - a) (y - 1))) (hz 1 (y - 1))).n), .int .i64 (addD (addD p (hz ((2 * c) - a) (y - 1))) (hz 1 (y - 1))).x, .int .i64 (addE (addD p (hz ((2 * c) - a) (y - 1))) (hz 1 (y - 1))), .int .i64 (2 * r), .int .i64 (b - (2 * r)), .int .i64 ((b - (2 * r)) - 2), .bool (hz ((b - (2 * r)) - 2) (y - 1)).g, .string (natS (hz ((b - (2 * r)) - 2) (y - 1)).n), .int .i64 (hz ((b - (2 * r)) - 2) (y - 1)).x, .bool (addD q (hz ((b - (2 * r)) - 2) (y - 1))).g, .string (natS (addD q (hz ((b - (2 * r)) - 2) (y - 1))).n), .int .i64 (addD q (hz ((b - (2 * r)) - 2) (y - 1))).x, .int .i64 (addE q (hz ((b - (2 * r)) - 2) (y - 1))), .bool (addD (addD q (hz ((b - (2 * r)) - 2) (y - 1))) (hz 1 (y - 1))).g, .string (natS (addD (addD q (hz ((b - (2 * r)) - 2) (y - 1))) (hz 1 (y - 1))).n), .int .i64 (addD (addD q (hz ((b - (2 * r)) - 2) (y - 1))) (hz 1 (y - 1))).x, .int .i64 (addE (addD q (hz ((b - (2 * r)) - 2) (y - 1))) (hz 1 (y - 1))), .int .i64 (y - 1), .int .i64 (2 * a), .int .i64 (2 * b), .int .i64 (a - c), .int .i64 (b - r), .int .i64 ((2 * c) + s), .int .i64 (((2 * c) + s) - a), .bool (hz (((2 * c) + s) - a) (y - 1)).g, .string (natS (hz (((2 * c) + s) - a) (y - 1)).n), .int .i64 (hz (((2 * c) + s) - a) (y - 1)).x, .bool (addD p (hz (((2 * c) + s) - a) (y - 1))).g, .string (natS (addD p (hz (((2 * c) + s) - a) (y - 1))).n), .int .i64 (addD p (hz (((2 * c) + s) - a) (y - 1))).x, .int .i64 (addE p (hz (((2 * c) + s) - a) (y - 1))), .int .i64 ((b - (2 * r)) - t), .bool (hz ((b - (2 * r)) - t) (y - 1)).g, .string (natS (hz ((b - (2 * r)) - t) (y - 1)).n), .int .i64 (hz ((b - (2 * r)) - t) (y - 1)).x, .bool (addD q (hz ((b - (2 * r)) - t) (y - 1))).g, .string (natS (addD q (hz ((b - (2 * r)) - t) (y - 1))).n), .int .i64 (addD q (hz ((b - (2 * r)) - t) (y - 1))).x, .int .i64 (addE q (hz ((b - (2 * r)) - t) (y - 1))), .int .i64 ((2 * c) + 0), .int .i64 ((2 * r) + 1), .int .i64 (((2 * r) + 1) - 0), .int .i64 ((2 * a) - 1), .int .i64 ((2 * b) - 1), .int .i64 (2 * ((2 * c) + 0)), .int .i64 ((2 * ((2 * c) + 0)) - (2 * a)), .int .i64 (2 * (((2 * r) + 1) - 0)), .int .i64 ((2 * b) - (2 * (((2 * r) + 1) - 0))), .int .i64 (((2 * b) - (2 * (((2 * r) + 1) - 0))) - 2), .int .i64 ((2 * c) + 1), .int .i64 (2 * ((2 * c) + 1)), .int .i64 ((2 * ((2 * c) + 1)) - (2 * a)), .bool (hz (1 - a + 2 * c) (y - 1)).g, .string (natS (hz (1 - a + 2 * c) (y - 1)).n), .int .i64 (hz (1 - a + 2 * c) (y - 1)).x, .int .i64 (((2 * r) + 1) - 1), .int .i64 (2 * (((2 * r) + 1) - 1)), .int .i64 ((2 * b) - (2 * (((2 * r) + 1) - 1))), .int .i64 (((2 * b) - (2 * (((2 * r) + 1) - 1))) - 2), .bool (hz (0 - 1 + b - 2 * r) (y - 1)).g, .string (natS (hz (0 - 1 + b - 2 * r) (y - 1)).n), .int .i64 (hz (0 - 1 + b - 2 * r) (y - 1)).x] rfl
  have hops : OpsT Tryz.prog (@Know.ops (Zm_C1E_k b13 b16 b18 b19 b20 b25 b26 b27 b28 b29 b30 b31 b32)) := ⟨opt_geq_i rfl rfl i1,
    opt_leq_i rfl rfl i2,
    opt_geq_i rfl rfl i3,
    opt_leq_i rfl rfl i4,
    opt_geq_i rfl rfl i5,
    opt_leq_i rfl rfl i6,
    vopt_sub rfl rfl rfl rfl (by omega) ⟨by omega, by omega⟩,
    opt_geq_i rfl rfl i7,
    opt_leq_i rfl rfl i8,
    vopt_sub rfl rfl rfl rfl (by omega) ⟨by omega, by omega⟩,
    opt_geq_i rfl rfl i9,
    opt_leq_i rfl rfl i10,
    vopt_mul rfl rfl rfl rfl (by omega) ⟨by omega, by omega⟩,
    vopt_sub rfl rfl rfl rfl (by omega) ⟨by omega, by omega⟩,
    vopt_mul rfl rfl rfl rfl (by omega) ⟨by omega, by omega⟩,
    vopt_sub rfl rfl rfl rfl (by omega) ⟨by omega, by omega⟩,
    vopt_sub rfl rfl rfl rfl (by omega) ⟨by omega, by omega⟩,
    opt_neq_i rfl rfl i11,
    opt_neq_i rfl rfl i12,
    vopt_sub rfl rfl rfl rfl (by omega) ⟨by omega, by omega⟩,
    vopt_shl rfl rfl rfl rfl (by omega) ⟨by omega, by omega⟩,
    vopt_shl rfl rfl rfl rfl (by omega) ⟨by omega, by omega⟩,
    opt_geq_i rfl rfl i13,
    opt_leq_i rfl rfl i14,
    opt_geq_i rfl rfl i15,
    opt_leq_i rfl rfl i16,
    opt_geq_i rfl rfl i17,
    opt_leq_i rfl rfl i18,
    opt_eql_i rfl rfl i19,
    opt_neq_i rfl rfl i20,
    vopt_sub rfl rfl rfl rfl (by omega) ⟨by omega, by omega⟩,
    opt_geq_i rfl rfl i21,
    opt_leq_i rfl rfl i22,
    vopt_sub rfl rfl rfl rfl (by omega) ⟨by omega, by omega⟩,
    opt_geq_i rfl rfl i23,
    opt_leq_i rfl rfl i24,
    optI2_eql_i rfl rfl i25,
    opt_lss_i rfl rfl i26,
    opt_lss_i rfl rfl i27,
    opt_geq_i rfl rfl i28,
    opt_geq_i rfl rfl i29,
    vopt_add rfl rfl rfl rfl (by omega) ⟨by omega, by omega⟩,
    vopt_sub rfl rfl rfl rfl (by omega) ⟨by omega, by omega⟩,
    vopt_sub rfl rfl rfl rfl (by omega) ⟨by omega, by omega⟩,
    opt_neq_i rfl rfl i30,
    opt_neq_i rfl rfl i31,
    opt_neq_i rfl rfl i32,
    vopt_add rfl rfl rfl rfl (by omega) ⟨by omega, by omega⟩,
    vopt_add rfl rfl rfl rfl (by omega) ⟨by omega, by omega⟩,
    vopt_sub rfl rfl rfl rfl (by omega) ⟨by omega, by omega⟩,
    vopt_sub rfl rfl rfl rfl (by omega) ⟨by omega, by omega⟩,
    opt_geq_i rfl rfl i33,
    opt_leq_i rfl rfl i34,
    vopt_sub rfl rfl rfl rfl (by omega) ⟨by omega, by omega⟩,
    opt_geq_i rfl rfl i35,
    opt_leq_i rfl rfl i36,
    vopt_mul rfl rfl rfl rfl (by omega) ⟨by omega, by omega⟩,
    vopt_sub rfl rfl rfl rfl (by omega) ⟨by omega, by omega⟩,
    vopt_mul rfl rfl rfl rfl (by omega) ⟨by omega, by omega⟩,
    vopt_sub rfl rfl rfl rfl (by omega) ⟨by omega, by omega⟩,
    vopt_sub rfl rfl rfl rfl (by omega) ⟨by omega, by omega⟩,
    opt_self_neq fun p q w => self_7 p q w,
    vopt_add rfl rfl rfl rfl (by omega) ⟨by omega, by omega⟩,
    opt_geq_i rfl rfl i37,
    opt_leq_i rfl rfl i38,
    vopt_mul rfl rfl rfl rfl (by omega) ⟨by omega, by omega⟩,
    vopt_sub rfl rfl rfl rfl (by omega) ⟨by omega, by omega⟩,
    opt_self_neq fun p q w => self_7 p q w,
    vopt_sub rfl rfl rfl rfl (by omega) ⟨by omega, by omega⟩,
    opt_geq_i rfl rfl i39,
    opt_leq_i rfl rfl i40,
    vopt_mul rfl rfl rfl rfl (by omega) ⟨by omega, by omega⟩,
    vopt_sub rfl rfl rfl rfl (by omega) ⟨by omega, by omega⟩,
    vopt_sub rfl rfl rfl rfl (by omega) ⟨by omega, by omega⟩,
    opt_self_neq fun p q w => self_7 p q w,
    opt_self_neq fun p q w => self_7 p q w,
    trivial⟩
  have hcalls : CallsT Tryz.prog (@Know.calls (Zm_C1E_k b13 b16 b18 b19 b20 b25 b26 b27 b28 b29 b30 b31 b32)) := ⟨callt rfl rfl fun w hG => awake24_c w hG,
    callt rfl rfl fun w hG => GCheck_gs ⟨p, q⟩ ⟨hp, hq⟩ w hG,
    callt rfl rfl fun w hG => halves_z 1 y w ⟨by omega, by omega⟩ ⟨by omega, by omega⟩ hG,
    callt rfl rfl fun w hG => halves_z ((2 * c) - a) y w ⟨by omega, by omega⟩ ⟨by omega, by omega⟩ hG,
    callt rfl rfl fun w hG => DAdd_c p (hz ((2 * c) - a) (y - 1)) w hp (hz_Ok _ _) hG,
    callt rfl rfl fun w hG => DCheck_dy (addD p (hz ((2 * c) - a) (y - 1))) (add_Ok hp (hz_Ok _ _)) w,
    callt rfl rfl fun w hG => DAdd_c (addD p (hz ((2 * c) - a) (y - 1))) (hz 1 (y - 1)) w (add_Ok hp (hz_Ok _ _)) (hz_Ok _ _) hG,
    callt rfl rfl fun w hG => halves_z ((b - (2 * r)) - 2) y w ⟨by omega, by omega⟩ ⟨by omega, by omega⟩ hG,
    callt rfl rfl fun w hG => DAdd_c q (hz ((b - (2 * r)) - 2) (y - 1)) w hq (hz_Ok _ _) hG,
    callt rfl rfl fun w hG => DCheck_dy (addD q (hz ((b - (2 * r)) - 2) (y - 1))) (add_Ok hq (hz_Ok _ _)) w,
    callt rfl rfl fun w hG => DAdd_c (addD q (hz ((b - (2 * r)) - 2) (y - 1))) (hz 1 (y - 1)) w (add_Ok hq (hz_Ok _ _)) (hz_Ok _ _) hG,
    callt rfl rfl fun w hG => halves_z (((2 * c) + s) - a) y w ⟨by omega, by omega⟩ ⟨by omega, by omega⟩ hG,
    callt rfl rfl fun w hG => DAdd_c p (hz (((2 * c) + s) - a) (y - 1)) w hp (hz_Ok _ _) hG,
    callt rfl rfl fun w hG => halves_z ((b - (2 * r)) - t) y w ⟨by omega, by omega⟩ ⟨by omega, by omega⟩ hG,
    callt rfl rfl fun w hG => DAdd_c q (hz ((b - (2 * r)) - t) (y - 1)) w hq (hz_Ok _ _) hG,
    callt rfl rfl fun w hG => (by have h := halves_z ((2 * ((2 * c) + 0)) - (2 * a)) (y - 1) w ⟨by omega, by omega⟩ ⟨by omega, by omega⟩ hG; rw [((show hz ((2 * ((2 * c) + 0)) - (2 * a)) ((y - 1) - 1) = hz ((2 * ((2 * c) + 0)) - (2 * a)) ((y - 1) - 1) from by rw [show (y - 1) - 1 = (y - 1) - 1 from by omega]).trans (hz_two (by omega) ⟨by omega, by omega⟩ ⟨by omega, by omega⟩) : hz ((2 * ((2 * c) + 0)) - (2 * a)) ((y - 1) - 1) = hz ((2 * c) - a) (y - 1))] at h; exact h),
    callt rfl rfl fun w hG => (by have h := halves_z (((2 * b) - (2 * (((2 * r) + 1) - 0))) - 2) (y - 1) w ⟨by omega, by omega⟩ ⟨by omega, by omega⟩ hG; rw [((show hz (((2 * b) - (2 * (((2 * r) + 1) - 0))) - 2) ((y - 1) - 1) = hz (((2 * b) - (2 * (((2 * r) + 1) - 0))) - 2) ((y - 1) - 1) from by rw [show (y - 1) - 1 = (y - 1) - 1 from by omega]).trans (hz_two (by omega) ⟨by omega, by omega⟩ ⟨by omega, by omega⟩) : hz (((2 * b) - (2 * (((2 * r) + 1) - 0))) - 2) ((y - 1) - 1) = hz ((b - (2 * r)) - 2) (y - 1))] at h; exact h),
    callt rfl rfl fun w hG => (by have h := halves_z ((2 * ((2 * c) + 1)) - (2 * a)) (y - 1) w ⟨by omega, by omega⟩ ⟨by omega, by omega⟩ hG; rw [((show hz ((2 * ((2 * c) + 1)) - (2 * a)) ((y - 1) - 1) = hz ((2 * ((2 * c) + 1)) - (2 * a)) ((y - 1) - 1) from by rw [show (y - 1) - 1 = (y - 1) - 1 from by omega]).trans (hz_two (by omega) ⟨by omega, by omega⟩ ⟨by omega, by omega⟩) : hz ((2 * ((2 * c) + 1)) - (2 * a)) ((y - 1) - 1) = hz (1 - a + 2 * c) (y - 1))] at h; exact h),
    callt rfl rfl fun w hG => DAdd_canon hp (hz_Ok _ _) (show addD p (hz (1 - a + 2 * c) (y - 1)) = addD (addD p (hz ((2 * c) - a) (y - 1))) (hz 1 (y - 1)) ∧ addE p (hz (1 - a + 2 * c) (y - 1)) = addE (addD p (hz ((2 * c) - a) (y - 1))) (hz 1 (y - 1)) from add_hz hp ⟨by omega, by omega⟩ ⟨by omega, by omega⟩ ⟨by omega, by omega⟩ (by omega) hx) w hG,
    callt rfl rfl fun w hG => (by have h := halves_z (((2 * b) - (2 * (((2 * r) + 1) - 1))) - 2) (y - 1) w ⟨by omega, by omega⟩ ⟨by omega, by omega⟩ hG; rw [((show hz (((2 * b) - (2 * (((2 * r) + 1) - 1))) - 2) ((y - 1) - 1) = hz (((2 * b) - (2 * (((2 * r) + 1) - 1))) - 2) ((y - 1) - 1) from by rw [show (y - 1) - 1 = (y - 1) - 1 from by omega]).trans (hz_two (by omega) ⟨by omega, by omega⟩ ⟨by omega, by omega⟩) : hz (((2 * b) - (2 * (((2 * r) + 1) - 1))) - 2) ((y - 1) - 1) = hz (0 - 1 + b - 2 * r) (y - 1))] at h; exact h),
    callt rfl rfl fun w hG => DAdd_canon hq (hz_Ok _ _) (show addD q (hz (0 - 1 + b - 2 * r) (y - 1)) = addD (addD q (hz ((b - (2 * r)) - 2) (y - 1))) (hz 1 (y - 1)) ∧ addE q (hz (0 - 1 + b - 2 * r) (y - 1)) = addE (addD q (hz ((b - (2 * r)) - 2) (y - 1))) (hz 1 (y - 1)) from add_hz hq ⟨by omega, by omega⟩ ⟨by omega, by omega⟩ ⟨by omega, by omega⟩ (by omega) hy0) w hG,
    trivial⟩
  have fin : ∀ v, @comes (Zm_C1E_k b13 b16 b18 b19 b20 b25 b26 b27 b28 b29 b30 b31 b32) Tryz.prog glT 3000 Zm_C1E_f Zm_C1E_a = some v → ground v = true → Ending.returned (gval v) = .returned (.bool true) → Calls Tryz.prog 5 #[.agg #[.bool p.g, .string (natS p.n), .int .i64 p.x, .bool q.g, .string (natS q.n), .int .i64 q.x, .int .i64 y, .int .i64 a, .int .i64 b], .int .i64 c, .int .i64 r, .int .i64 s, .int .i64 t, .int .i64 u, .int .i64 z] w fun e w' => e = .returned (.bool true) ∧ Below w.heap.size w w' := fun v h1 h2 h3 => (@sym_ok _ (Zm_C1E_k b13 b16 b18 b19 b20 b25 b26 b27 b28 b29 b30 b31 b32) _ (@KnowOk.of _ (Zm_C1E_k b13 b16 b18 b19 b20 b25 b26 b27 b28 b29 b30 b31 b32) _ hops hcalls) (by kernel_rfl) _ _ _ _ h1 rfl h2 _ hG).mono fun e w' h => ⟨h.1.trans h3, h.2⟩
  clear hops hcalls
  cases b13 with
  | true =>
    have h13 : y - 1 ≥ -4096 := i13.1 rfl
    cases b16 with
    | true =>
      have h16 : 2 * a ≤ 65536 := i16.1 rfl
      cases b18 with
      | true =>
        have h18 : 2 * b ≤ 65536 := i18.1 rfl
        cases b19 with
        | true =>
          exact absurd (i19.1 rfl) ((by omega))
        | false =>
          have h19 : ¬ (y = -4096) := fun c => Bool.false_ne_true (i19.2 c)
          cases b20 with
          | true =>
            have h20 : addE (addD p (hz ((2 * c) - a) (y - 1))) (hz 1 (y - 1)) = 0 := i20.1 rfl
            cases b32 with
            | true =>
              have h32 : addE (addD q (hz ((b - (2 * r)) - 2) (y - 1))) (hz 1 (y - 1)) = 0 := i32.1 rfl
              cases b25 with
              | true =>
                have h25 : (s, t) = (a, b) := i25.1 rfl
                cases b26 with
                | true =>
                  have h26 : u < 0 := i26.1 rfl
                  exact fin _ (Zm_C1E_r1 b27 b28 b29 b30 b31) rfl rfl
                | false =>
                  have h26 : ¬ (u < 0) := fun c => Bool.false_ne_true (i26.2 c)
                  cases b27 with
                  | true =>
                    have h27 : z < 0 := i27.1 rfl
                    exact fin _ (Zm_C1E_r2 b28 b29 b30 b31) rfl rfl
                  | false =>
                    have h27 : ¬ (z < 0) := fun c => Bool.false_ne_true (i27.2 c)
                    cases b28 with
                    | true =>
                      have h28 : u ≥ s := i28.1 rfl
                      exact fin _ (Zm_C1E_r3 b29 b30 b31) rfl rfl
                    | false =>
                      have h28 : ¬ (u ≥ s) := fun c => Bool.false_ne_true (i28.2 c)
                      cases b29 with
                      | true =>
                        have h29 : z ≥ t := i29.1 rfl
                        exact fin _ (Zm_C1E_r4 b30 b31) rfl rfl
                      | false =>
                        exact absurd (i29.2 ((by omega))) Bool.false_ne_true
              | false =>
                have h25 : ¬ ((s, t) = (a, b)) := fun c => Bool.false_ne_true (i25.2 c)
                cases b30 with
                | true =>
                  have h30 : addE p (hz (((2 * c) + s) - a) (y - 1)) = 0 := i30.1 rfl
                  cases b31 with
                  | true =>
                    have h31 : addE q (hz ((b - (2 * r)) - t) (y - 1)) = 0 := i31.1 rfl
                    cases b26 with
                    | true =>
                      have h26 : u < 0 := i26.1 rfl
                      exact fin _ (Zm_C1E_r5 b27 b28 b29) rfl rfl
                    | false =>
                      have h26 : ¬ (u < 0) := fun c => Bool.false_ne_true (i26.2 c)
                      cases b27 with
                      | true =>
                        have h27 : z < 0 := i27.1 rfl
                        exact fin _ (Zm_C1E_r6 b28 b29) rfl rfl
                      | false =>
                        have h27 : ¬ (z < 0) := fun c => Bool.false_ne_true (i27.2 c)
                        cases b28 with
                        | true =>
                          have h28 : u ≥ s := i28.1 rfl
                          exact fin _ (Zm_C1E_r7 b29) rfl rfl
                        | false =>
                          have h28 : ¬ (u ≥ s) := fun c => Bool.false_ne_true (i28.2 c)
                          cases b29 with
                          | true =>
                            have h29 : z ≥ t := i29.1 rfl
                            exact fin _ (Zm_C1E_r8) rfl rfl
                          | false =>
                            exact absurd (i29.2 ((by omega))) Bool.false_ne_true
                  | false =>
                    have h31 : ¬ (addE q (hz ((b - (2 * r)) - t) (y - 1)) = 0) := fun c => Bool.false_ne_true (i31.2 c)
                    exact fin _ (Zm_C1E_r9 b26 b27 b28 b29) rfl rfl
                | false =>
                  have h30 : ¬ (addE p (hz (((2 * c) + s) - a) (y - 1)) = 0) := fun c => Bool.false_ne_true (i30.2 c)
                  exact fin _ (Zm_C1E_r10 b26 b27 b28 b29 b31) rfl rfl
            | false =>
              have h32 : ¬ (addE (addD q (hz ((b - (2 * r)) - 2) (y - 1))) (hz 1 (y - 1)) = 0) := fun c => Bool.false_ne_true (i32.2 c)
              cases b25 with
              | true =>
                have h25 : (s, t) = (a, b) := i25.1 rfl
                cases b26 with
                | true =>
                  have h26 : u < 0 := i26.1 rfl
                  exact fin _ (Zm_C1E_r11 b27 b28 b29 b30 b31) rfl rfl
                | false =>
                  have h26 : ¬ (u < 0) := fun c => Bool.false_ne_true (i26.2 c)
                  cases b27 with
                  | true =>
                    have h27 : z < 0 := i27.1 rfl
                    exact fin _ (Zm_C1E_r12 b28 b29 b30 b31) rfl rfl
                  | false =>
                    have h27 : ¬ (z < 0) := fun c => Bool.false_ne_true (i27.2 c)
                    cases b28 with
                    | true =>
                      have h28 : u ≥ s := i28.1 rfl
                      exact fin _ (Zm_C1E_r13 b29 b30 b31) rfl rfl
                    | false =>
                      have h28 : ¬ (u ≥ s) := fun c => Bool.false_ne_true (i28.2 c)
                      cases b29 with
                      | true =>
                        have h29 : z ≥ t := i29.1 rfl
                        exact fin _ (Zm_C1E_r14 b30 b31) rfl rfl
                      | false =>
                        exact absurd (i29.2 ((by omega))) Bool.false_ne_true
              | false =>
                have h25 : ¬ ((s, t) = (a, b)) := fun c => Bool.false_ne_true (i25.2 c)
                cases b30 with
                | true =>
                  have h30 : addE p (hz (((2 * c) + s) - a) (y - 1)) = 0 := i30.1 rfl
                  cases b31 with
                  | true =>
                    have h31 : addE q (hz ((b - (2 * r)) - t) (y - 1)) = 0 := i31.1 rfl
                    cases b26 with
                    | true =>
                      have h26 : u < 0 := i26.1 rfl
                      exact fin _ (Zm_C1E_r15 b27 b28 b29) rfl rfl
                    | false =>
                      have h26 : ¬ (u < 0) := fun c => Bool.false_ne_true (i26.2 c)
                      cases b27 with
                      | true =>
                        have h27 : z < 0 := i27.1 rfl
                        exact fin _ (Zm_C1E_r16 b28 b29) rfl rfl
                      | false =>
                        have h27 : ¬ (z < 0) := fun c => Bool.false_ne_true (i27.2 c)
                        cases b28 with
                        | true =>
                          have h28 : u ≥ s := i28.1 rfl
                          exact fin _ (Zm_C1E_r17 b29) rfl rfl
                        | false =>
                          have h28 : ¬ (u ≥ s) := fun c => Bool.false_ne_true (i28.2 c)
                          cases b29 with
                          | true =>
                            have h29 : z ≥ t := i29.1 rfl
                            exact fin _ (Zm_C1E_r18) rfl rfl
                          | false =>
                            exact absurd (i29.2 ((by omega))) Bool.false_ne_true
                  | false =>
                    have h31 : ¬ (addE q (hz ((b - (2 * r)) - t) (y - 1)) = 0) := fun c => Bool.false_ne_true (i31.2 c)
                    exact fin _ (Zm_C1E_r19 b26 b27 b28 b29) rfl rfl
                | false =>
                  have h30 : ¬ (addE p (hz (((2 * c) + s) - a) (y - 1)) = 0) := fun c => Bool.false_ne_true (i30.2 c)
                  exact fin _ (Zm_C1E_r20 b26 b27 b28 b29 b31) rfl rfl
          | false =>
            have h20 : ¬ (addE (addD p (hz ((2 * c) - a) (y - 1))) (hz 1 (y - 1)) = 0) := fun c => Bool.false_ne_true (i20.2 c)
            cases b25 with
            | true =>
              have h25 : (s, t) = (a, b) := i25.1 rfl
              cases b26 with
              | true =>
                have h26 : u < 0 := i26.1 rfl
                exact fin _ (Zm_C1E_r21 b27 b28 b29 b30 b31 b32) rfl rfl
              | false =>
                have h26 : ¬ (u < 0) := fun c => Bool.false_ne_true (i26.2 c)
                cases b27 with
                | true =>
                  have h27 : z < 0 := i27.1 rfl
                  exact fin _ (Zm_C1E_r22 b28 b29 b30 b31 b32) rfl rfl
                | false =>
                  have h27 : ¬ (z < 0) := fun c => Bool.false_ne_true (i27.2 c)
                  cases b28 with
                  | true =>
                    have h28 : u ≥ s := i28.1 rfl
                    exact fin _ (Zm_C1E_r23 b29 b30 b31 b32) rfl rfl
                  | false =>
                    have h28 : ¬ (u ≥ s) := fun c => Bool.false_ne_true (i28.2 c)
                    cases b29 with
                    | true =>
                      have h29 : z ≥ t := i29.1 rfl
                      exact fin _ (Zm_C1E_r24 b30 b31 b32) rfl rfl
                    | false =>
                      exact absurd (i29.2 ((by omega))) Bool.false_ne_true
            | false =>
              have h25 : ¬ ((s, t) = (a, b)) := fun c => Bool.false_ne_true (i25.2 c)
              cases b30 with
              | true =>
                have h30 : addE p (hz (((2 * c) + s) - a) (y - 1)) = 0 := i30.1 rfl
                cases b31 with
                | true =>
                  have h31 : addE q (hz ((b - (2 * r)) - t) (y - 1)) = 0 := i31.1 rfl
                  cases b26 with
                  | true =>
                    have h26 : u < 0 := i26.1 rfl
                    exact fin _ (Zm_C1E_r25 b27 b28 b29 b32) rfl rfl
                  | false =>
                    have h26 : ¬ (u < 0) := fun c => Bool.false_ne_true (i26.2 c)
                    cases b27 with
                    | true =>
                      have h27 : z < 0 := i27.1 rfl
                      exact fin _ (Zm_C1E_r26 b28 b29 b32) rfl rfl
                    | false =>
                      have h27 : ¬ (z < 0) := fun c => Bool.false_ne_true (i27.2 c)
                      cases b28 with
                      | true =>
                        have h28 : u ≥ s := i28.1 rfl
                        exact fin _ (Zm_C1E_r27 b29 b32) rfl rfl
                      | false =>
                        have h28 : ¬ (u ≥ s) := fun c => Bool.false_ne_true (i28.2 c)
                        cases b29 with
                        | true =>
                          have h29 : z ≥ t := i29.1 rfl
                          exact fin _ (Zm_C1E_r28 b32) rfl rfl
                        | false =>
                          exact absurd (i29.2 ((by omega))) Bool.false_ne_true
                | false =>
                  have h31 : ¬ (addE q (hz ((b - (2 * r)) - t) (y - 1)) = 0) := fun c => Bool.false_ne_true (i31.2 c)
                  exact fin _ (Zm_C1E_r29 b26 b27 b28 b29 b32) rfl rfl
              | false =>
                have h30 : ¬ (addE p (hz (((2 * c) + s) - a) (y - 1)) = 0) := fun c => Bool.false_ne_true (i30.2 c)
                exact fin _ (Zm_C1E_r30 b26 b27 b28 b29 b31 b32) rfl rfl
      | false =>
        have h18 : ¬ (2 * b ≤ 65536) := fun c => Bool.false_ne_true (i18.2 c)
        cases b25 with
        | true =>
          have h25 : (s, t) = (a, b) := i25.1 rfl
          cases b26 with
          | true =>
            have h26 : u < 0 := i26.1 rfl
            exact fin _ (Zm_C1E_r31 b19 b20 b27 b28 b29 b30 b31 b32) rfl rfl
          | false =>
            have h26 : ¬ (u < 0) := fun c => Bool.false_ne_true (i26.2 c)
            cases b27 with
            | true =>
              have h27 : z < 0 := i27.1 rfl
              exact fin _ (Zm_C1E_r32 b19 b20 b28 b29 b30 b31 b32) rfl rfl
            | false =>
              have h27 : ¬ (z < 0) := fun c => Bool.false_ne_true (i27.2 c)
              cases b28 with
              | true =>
                have h28 : u ≥ s := i28.1 rfl
                exact fin _ (Zm_C1E_r33 b19 b20 b29 b30 b31 b32) rfl rfl
              | false =>
                have h28 : ¬ (u ≥ s) := fun c => Bool.false_ne_true (i28.2 c)
                cases b29 with
                | true =>
                  have h29 : z ≥ t := i29.1 rfl
                  exact fin _ (Zm_C1E_r34 b19 b20 b30 b31 b32) rfl rfl
                | false =>
                  exact absurd (i29.2 ((by omega))) Bool.false_ne_true
        | false =>
          have h25 : ¬ ((s, t) = (a, b)) := fun c => Bool.false_ne_true (i25.2 c)
          cases b30 with
          | true =>
            have h30 : addE p (hz (((2 * c) + s) - a) (y - 1)) = 0 := i30.1 rfl
            cases b31 with
            | true =>
              have h31 : addE q (hz ((b - (2 * r)) - t) (y - 1)) = 0 := i31.1 rfl
              cases b26 with
              | true =>
                have h26 : u < 0 := i26.1 rfl
                exact fin _ (Zm_C1E_r35 b19 b20 b27 b28 b29 b32) rfl rfl
              | false =>
                have h26 : ¬ (u < 0) := fun c => Bool.false_ne_true (i26.2 c)
                cases b27 with
                | true =>
                  have h27 : z < 0 := i27.1 rfl
                  exact fin _ (Zm_C1E_r36 b19 b20 b28 b29 b32) rfl rfl
                | false =>
                  have h27 : ¬ (z < 0) := fun c => Bool.false_ne_true (i27.2 c)
                  cases b28 with
                  | true =>
                    have h28 : u ≥ s := i28.1 rfl
                    exact fin _ (Zm_C1E_r37 b19 b20 b29 b32) rfl rfl
                  | false =>
                    have h28 : ¬ (u ≥ s) := fun c => Bool.false_ne_true (i28.2 c)
                    cases b29 with
                    | true =>
                      have h29 : z ≥ t := i29.1 rfl
                      exact fin _ (Zm_C1E_r38 b19 b20 b32) rfl rfl
                    | false =>
                      exact absurd (i29.2 ((by omega))) Bool.false_ne_true
            | false =>
              have h31 : ¬ (addE q (hz ((b - (2 * r)) - t) (y - 1)) = 0) := fun c => Bool.false_ne_true (i31.2 c)
              exact fin _ (Zm_C1E_r39 b19 b20 b26 b27 b28 b29 b32) rfl rfl
          | false =>
            have h30 : ¬ (addE p (hz (((2 * c) + s) - a) (y - 1)) = 0) := fun c => Bool.false_ne_true (i30.2 c)
            exact fin _ (Zm_C1E_r40 b19 b20 b26 b27 b28 b29 b31 b32) rfl rfl
    | false =>
      have h16 : ¬ (2 * a ≤ 65536) := fun c => Bool.false_ne_true (i16.2 c)
      cases b25 with
      | true =>
        have h25 : (s, t) = (a, b) := i25.1 rfl
        cases b26 with
        | true =>
          have h26 : u < 0 := i26.1 rfl
          exact fin _ (Zm_C1E_r41 b18 b19 b20 b27 b28 b29 b30 b31 b32) rfl rfl
        | false =>
          have h26 : ¬ (u < 0) := fun c => Bool.false_ne_true (i26.2 c)
          cases b27 with
          | true =>
            have h27 : z < 0 := i27.1 rfl
            exact fin _ (Zm_C1E_r42 b18 b19 b20 b28 b29 b30 b31 b32) rfl rfl
          | false =>
            have h27 : ¬ (z < 0) := fun c => Bool.false_ne_true (i27.2 c)
            cases b28 with
            | true =>
              have h28 : u ≥ s := i28.1 rfl
              exact fin _ (Zm_C1E_r43 b18 b19 b20 b29 b30 b31 b32) rfl rfl
            | false =>
              have h28 : ¬ (u ≥ s) := fun c => Bool.false_ne_true (i28.2 c)
              cases b29 with
              | true =>
                have h29 : z ≥ t := i29.1 rfl
                exact fin _ (Zm_C1E_r44 b18 b19 b20 b30 b31 b32) rfl rfl
              | false =>
                exact absurd (i29.2 ((by omega))) Bool.false_ne_true
      | false =>
        have h25 : ¬ ((s, t) = (a, b)) := fun c => Bool.false_ne_true (i25.2 c)
        cases b30 with
        | true =>
          have h30 : addE p (hz (((2 * c) + s) - a) (y - 1)) = 0 := i30.1 rfl
          cases b31 with
          | true =>
            have h31 : addE q (hz ((b - (2 * r)) - t) (y - 1)) = 0 := i31.1 rfl
            cases b26 with
            | true =>
              have h26 : u < 0 := i26.1 rfl
              exact fin _ (Zm_C1E_r45 b18 b19 b20 b27 b28 b29 b32) rfl rfl
            | false =>
              have h26 : ¬ (u < 0) := fun c => Bool.false_ne_true (i26.2 c)
              cases b27 with
              | true =>
                have h27 : z < 0 := i27.1 rfl
                exact fin _ (Zm_C1E_r46 b18 b19 b20 b28 b29 b32) rfl rfl
              | false =>
                have h27 : ¬ (z < 0) := fun c => Bool.false_ne_true (i27.2 c)
                cases b28 with
                | true =>
                  have h28 : u ≥ s := i28.1 rfl
                  exact fin _ (Zm_C1E_r47 b18 b19 b20 b29 b32) rfl rfl
                | false =>
                  have h28 : ¬ (u ≥ s) := fun c => Bool.false_ne_true (i28.2 c)
                  cases b29 with
                  | true =>
                    have h29 : z ≥ t := i29.1 rfl
                    exact fin _ (Zm_C1E_r48 b18 b19 b20 b32) rfl rfl
                  | false =>
                    exact absurd (i29.2 ((by omega))) Bool.false_ne_true
          | false =>
            have h31 : ¬ (addE q (hz ((b - (2 * r)) - t) (y - 1)) = 0) := fun c => Bool.false_ne_true (i31.2 c)
            exact fin _ (Zm_C1E_r49 b18 b19 b20 b26 b27 b28 b29 b32) rfl rfl
        | false =>
          have h30 : ¬ (addE p (hz (((2 * c) + s) - a) (y - 1)) = 0) := fun c => Bool.false_ne_true (i30.2 c)
          exact fin _ (Zm_C1E_r50 b18 b19 b20 b26 b27 b28 b29 b31 b32) rfl rfl
  | false =>
    have h13 : ¬ (y - 1 ≥ -4096) := fun c => Bool.false_ne_true (i13.2 c)
    cases b25 with
    | true =>
      have h25 : (s, t) = (a, b) := i25.1 rfl
      cases b26 with
      | true =>
        have h26 : u < 0 := i26.1 rfl
        exact fin _ (Zm_C1E_r51 b16 b18 b19 b20 b27 b28 b29 b30 b31 b32) rfl rfl
      | false =>
        have h26 : ¬ (u < 0) := fun c => Bool.false_ne_true (i26.2 c)
        cases b27 with
        | true =>
          have h27 : z < 0 := i27.1 rfl
          exact fin _ (Zm_C1E_r52 b16 b18 b19 b20 b28 b29 b30 b31 b32) rfl rfl
        | false =>
          have h27 : ¬ (z < 0) := fun c => Bool.false_ne_true (i27.2 c)
          cases b28 with
          | true =>
            have h28 : u ≥ s := i28.1 rfl
            exact fin _ (Zm_C1E_r53 b16 b18 b19 b20 b29 b30 b31 b32) rfl rfl
          | false =>
            have h28 : ¬ (u ≥ s) := fun c => Bool.false_ne_true (i28.2 c)
            cases b29 with
            | true =>
              have h29 : z ≥ t := i29.1 rfl
              exact fin _ (Zm_C1E_r54 b16 b18 b19 b20 b30 b31 b32) rfl rfl
            | false =>
              exact absurd (i29.2 ((by omega))) Bool.false_ne_true
    | false =>
      have h25 : ¬ ((s, t) = (a, b)) := fun c => Bool.false_ne_true (i25.2 c)
      cases b30 with
      | true =>
        have h30 : addE p (hz (((2 * c) + s) - a) (y - 1)) = 0 := i30.1 rfl
        cases b31 with
        | true =>
          have h31 : addE q (hz ((b - (2 * r)) - t) (y - 1)) = 0 := i31.1 rfl
          cases b26 with
          | true =>
            have h26 : u < 0 := i26.1 rfl
            exact fin _ (Zm_C1E_r55 b16 b18 b19 b20 b27 b28 b29 b32) rfl rfl
          | false =>
            have h26 : ¬ (u < 0) := fun c => Bool.false_ne_true (i26.2 c)
            cases b27 with
            | true =>
              have h27 : z < 0 := i27.1 rfl
              exact fin _ (Zm_C1E_r56 b16 b18 b19 b20 b28 b29 b32) rfl rfl
            | false =>
              have h27 : ¬ (z < 0) := fun c => Bool.false_ne_true (i27.2 c)
              cases b28 with
              | true =>
                have h28 : u ≥ s := i28.1 rfl
                exact fin _ (Zm_C1E_r57 b16 b18 b19 b20 b29 b32) rfl rfl
              | false =>
                have h28 : ¬ (u ≥ s) := fun c => Bool.false_ne_true (i28.2 c)
                cases b29 with
                | true =>
                  have h29 : z ≥ t := i29.1 rfl
                  exact fin _ (Zm_C1E_r58 b16 b18 b19 b20 b32) rfl rfl
                | false =>
                  exact absurd (i29.2 ((by omega))) Bool.false_ne_true
        | false =>
          have h31 : ¬ (addE q (hz ((b - (2 * r)) - t) (y - 1)) = 0) := fun c => Bool.false_ne_true (i31.2 c)
          exact fin _ (Zm_C1E_r59 b16 b18 b19 b20 b26 b27 b28 b29 b32) rfl rfl
      | false =>
        have h30 : ¬ (addE p (hz (((2 * c) + s) - a) (y - 1)) = 0) := fun c => Bool.false_ne_true (i30.2 c)
        exact fin _ (Zm_C1E_r60 b16 b18 b19 b20 b26 b27 b28 b29 b31 b32) rfl rfl

end Go.Proofs.YtjalpocjgpgcfaaGreatDoor
set_option linter.unusedVariables false
set_option linter.unusedSimpArgs false
namespace Go.Proofs.YtjalpocjgpgcfaaGreatDoor
open Go Go.RowKit Nt


@[reducible] def Zm_C2E_f : FuncId := 5
@[reducible] def Zm_C2E_a : List AV := [.agg [.sym 0, .sym 1, .sym 2, .sym 3, .sym 4, .sym 5, .sym 6, .sym 7, .sym 8], .sym 9, .sym 10, .sym 11, .sym 12, .sym 13, .sym 14]
@[reducible] noncomputable def Zm_C2E_k (b13 b16 b18 b19 b20 b26 b27 b28 : Bool) : Know := ⟨[([0, 16, 3], [.sym 6, .lit (.int .i64 (-4096))], .lit (.bool true)),
  ([0, 14, 3], [.sym 6, .lit (.int .i64 4096)], .lit (.bool true)),
  ([0, 16, 3], [.sym 7, .lit (.int .i64 1)], .lit (.bool true)),
  ([0, 14, 3], [.sym 7, .lit (.int .i64 65536)], .lit (.bool true)),
  ([0, 16, 3], [.sym 8, .lit (.int .i64 1)], .lit (.bool true)),
  ([0, 14, 3], [.sym 8, .lit (.int .i64 65536)], .lit (.bool true)),
  ([0, 1, 3], [.sym 7, .lit (.int .i64 1)], .sym 18),
  ([0, 16, 3], [.sym 9, .lit (.int .i64 0)], .lit (.bool true)),
  ([0, 14, 3], [.sym 9, .sym 18], .lit (.bool true)),
  ([0, 1, 3], [.sym 8, .lit (.int .i64 1)], .sym 19),
  ([0, 16, 3], [.sym 10, .lit (.int .i64 0)], .lit (.bool true)),
  ([0, 14, 3], [.sym 10, .sym 19], .lit (.bool true)),
  ([0, 2, 3], [.lit (.int .i64 2), .sym 9], .sym 20),
  ([0, 1, 3], [.sym 20, .sym 7], .sym 21),
  ([0, 2, 3], [.lit (.int .i64 2), .sym 10], .sym 33),
  ([0, 1, 3], [.sym 8, .sym 33], .sym 34),
  ([0, 1, 3], [.sym 34, .lit (.int .i64 2)], .sym 35),
  ([0, 12, 30], [.sym 28, .lit (.int .i64 0)], .lit (.bool false)),
  ([0, 12, 30], [.sym 42, .lit (.int .i64 0)], .lit (.bool false)),
  ([0, 1, 3], [.sym 6, .lit (.int .i64 1)], .sym 47),
  ([0, 8, 3], [.sym 7, .lit (.int .i64 1)], .sym 48),
  ([0, 8, 3], [.sym 8, .lit (.int .i64 1)], .sym 49),
  ([0, 16, 3], [.sym 47, .lit (.int .i64 (-4096))], .lit (.bool b13)),
  ([0, 14, 3], [.sym 47, .lit (.int .i64 4096)], .lit (.bool true)),
  ([0, 16, 3], [.sym 48, .lit (.int .i64 1)], .lit (.bool true)),
  ([0, 14, 3], [.sym 48, .lit (.int .i64 65536)], .lit (.bool b16)),
  ([0, 16, 3], [.sym 49, .lit (.int .i64 1)], .lit (.bool true)),
  ([0, 14, 3], [.sym 49, .lit (.int .i64 65536)], .lit (.bool b18)),
  ([0, 11, 3], [.sym 6, .lit (.int .i64 (-4096))], .lit (.bool b19)),
  ([0, 12, 30], [.sym 32, .lit (.int .i64 0)], .lit (.bool (!b20))),
  ([0, 1, 3], [.sym 7, .sym 9], .sym 50),
  ([0, 16, 3], [.sym 11, .lit (.int .i64 1)], .lit (.bool true)),
  ([0, 14, 3], [.sym 11, .sym 50], .lit (.bool true)),
  ([0, 1, 3], [.sym 8, .sym 10], .sym 51),
  ([0, 16, 3], [.sym 12, .lit (.int .i64 1)], .lit (.bool true)),
  ([0, 14, 3], [.sym 12, .sym 51], .lit (.bool true)),
  ([0, 11, 100], [.agg [.sym 11, .sym 12], .agg [.sym 7, .sym 8]], .lit (.bool false)),
  ([0, 0, 3], [.sym 20, .sym 11], .sym 52),
  ([0, 1, 3], [.sym 52, .sym 7], .sym 53),
  ([0, 1, 3], [.sym 34, .sym 12], .sym 61),
  ([0, 12, 30], [.sym 60, .lit (.int .i64 0)], .lit (.bool (!b26))),
  ([0, 12, 30], [.sym 68, .lit (.int .i64 0)], .lit (.bool (!b27))),
  ([0, 12, 30], [.sym 46, .lit (.int .i64 0)], .lit (.bool (!b28))),
  ([0, 0, 3], [.sym 20, .lit (.int .i64 0)], .sym 69),
  ([0, 0, 3], [.sym 33, .lit (.int .i64 1)], .sym 70),
  ([0, 1, 3], [.sym 70, .lit (.int .i64 0)], .sym 71),
  ([0, 1, 3], [.sym 48, .lit (.int .i64 1)], .sym 72),
  ([0, 16, 3], [.sym 69, .lit (.int .i64 0)], .lit (.bool true)),
  ([0, 14, 3], [.sym 69, .sym 72], .lit (.bool true)),
  ([0, 1, 3], [.sym 49, .lit (.int .i64 1)], .sym 73),
  ([0, 16, 3], [.sym 71, .lit (.int .i64 0)], .lit (.bool true)),
  ([0, 14, 3], [.sym 71, .sym 73], .lit (.bool true)),
  ([0, 2, 3], [.lit (.int .i64 2), .sym 69], .sym 74),
  ([0, 1, 3], [.sym 74, .sym 48], .sym 75),
  ([0, 2, 3], [.lit (.int .i64 2), .sym 71], .sym 76),
  ([0, 1, 3], [.sym 49, .sym 76], .sym 77),
  ([0, 1, 3], [.sym 77, .lit (.int .i64 2)], .sym 78),
  ([0, 12, 26], [.agg [.sym 25, .sym 26, .sym 27, .sym 39, .sym 40, .sym 41, .sym 47], .agg [.sym 25, .sym 26, .sym 27, .sym 39, .sym 40, .sym 41, .sym 47]], .lit (.bool false)),
  ([0, 0, 3], [.sym 20, .lit (.int .i64 1)], .sym 79),
  ([0, 16, 3], [.sym 79, .lit (.int .i64 0)], .lit (.bool true)),
  ([0, 14, 3], [.sym 79, .sym 72], .lit (.bool true)),
  ([0, 2, 3], [.lit (.int .i64 2), .sym 79], .sym 80),
  ([0, 1, 3], [.sym 80, .sym 48], .sym 81),
  ([0, 12, 26], [.agg [.sym 29, .sym 30, .sym 31, .sym 39, .sym 40, .sym 41, .sym 47], .agg [.sym 29, .sym 30, .sym 31, .sym 39, .sym 40, .sym 41, .sym 47]], .lit (.bool false)),
  ([0, 1, 3], [.sym 70, .lit (.int .i64 1)], .sym 85),
  ([0, 16, 3], [.sym 85, .lit (.int .i64 0)], .lit (.bool true)),
  ([0, 14, 3], [.sym 85, .sym 73], .lit (.bool true)),
  ([0, 2, 3], [.lit (.int .i64 2), .sym 85], .sym 86),
  ([0, 1, 3], [.sym 49, .sym 86], .sym 87),
  ([0, 1, 3], [.sym 87, .lit (.int .i64 2)], .sym 88),
  ([0, 12, 26], [.agg [.sym 25, .sym 26, .sym 27, .sym 43, .sym 44, .sym 45, .sym 47], .agg [.sym 25, .sym 26, .sym 27, .sym 43, .sym 44, .sym 45, .sym 47]], .lit (.bool false)),
  ([0, 12, 26], [.agg [.sym 29, .sym 30, .sym 31, .sym 43, .sym 44, .sym 45, .sym 47], .agg [.sym 29, .sym 30, .sym 31, .sym 43, .sym 44, .sym 45, .sym 47]], .lit (.bool false))],
  [(13, [], .lit (.bool true)),
  (25, [.agg [.sym 0, .sym 1, .sym 2, .sym 3, .sym 4, .sym 5]], .lit (.int .i64 0)),
  (50, [.lit (.int .i64 1), .sym 6], .agg [.sym 15, .sym 16, .sym 17]),
  (50, [.sym 21, .sym 6], .agg [.sym 22, .sym 23, .sym 24]),
  (20, [.agg [.sym 0, .sym 1, .sym 2], .agg [.sym 22, .sym 23, .sym 24]], .tup [.agg [.sym 25, .sym 26, .sym 27], .sym 28]),
  (30, [.agg [.sym 25, .sym 26, .sym 27]], .lit (.int .i64 0)),
  (20, [.agg [.sym 25, .sym 26, .sym 27], .agg [.sym 15, .sym 16, .sym 17]], .tup [.agg [.sym 29, .sym 30, .sym 31], .sym 32]),
  (50, [.sym 35, .sym 6], .agg [.sym 36, .sym 37, .sym 38]),
  (20, [.agg [.sym 3, .sym 4, .sym 5], .agg [.sym 36, .sym 37, .sym 38]], .tup [.agg [.sym 39, .sym 40, .sym 41], .sym 42]),
  (30, [.agg [.sym 39, .sym 40, .sym 41]], .lit (.int .i64 0)),
  (20, [.agg [.sym 39, .sym 40, .sym 41], .agg [.sym 15, .sym 16, .sym 17]], .tup [.agg [.sym 43, .sym 44, .sym 45], .sym 46]),
  (50, [.sym 53, .sym 6], .agg [.sym 54, .sym 55, .sym 56]),
  (20, [.agg [.sym 0, .sym 1, .sym 2], .agg [.sym 54, .sym 55, .sym 56]], .tup [.agg [.sym 57, .sym 58, .sym 59], .sym 60]),
  (50, [.sym 61, .sym 6], .agg [.sym 62, .sym 63, .sym 64]),
  (20, [.agg [.sym 3, .sym 4, .sym 5], .agg [.sym 62, .sym 63, .sym 64]], .tup [.agg [.sym 65, .sym 66, .sym 67], .sym 68]),
  (50, [.sym 75, .sym 47], .agg [.sym 22, .sym 23, .sym 24]),
  (50, [.sym 78, .sym 47], .agg [.sym 36, .sym 37, .sym 38]),
  (50, [.sym 81, .sym 47], .agg [.sym 82, .sym 83, .sym 84]),
  (20, [.agg [.sym 0, .sym 1, .sym 2], .agg [.sym 82, .sym 83, .sym 84]], .tup [.agg [.sym 29, .sym 30, .sym 31], .sym 32]),
  (50, [.sym 88, .sym 47], .agg [.sym 89, .sym 90, .sym 91]),
  (20, [.agg [.sym 3, .sym 4, .sym 5], .agg [.sym 89, .sym 90, .sym 91]], .tup [.agg [.sym 43, .sym 44, .sym 45], .sym 46])]⟩
theorem Zm_C2E_r1 : @comes (Zm_C2E_k true true true false true true false true) Tryz.prog glT 3000 Zm_C2E_f Zm_C2E_a = some (.lit (.bool true)) := by kernel_rfl
theorem Zm_C2E_r2 (b27 : Bool) : @comes (Zm_C2E_k true true true false true false b27 true) Tryz.prog glT 3000 Zm_C2E_f Zm_C2E_a = some (.lit (.bool true)) := by kernel_rfl
theorem Zm_C2E_r3 : @comes (Zm_C2E_k true true true false true true false false) Tryz.prog glT 3000 Zm_C2E_f Zm_C2E_a = some (.lit (.bool true)) := by kernel_rfl
theorem Zm_C2E_r4 (b27 : Bool) : @comes (Zm_C2E_k true true true false true false b27 false) Tryz.prog glT 3000 Zm_C2E_f Zm_C2E_a = some (.lit (.bool true)) := by kernel_rfl
theorem Zm_C2E_r5 (b28 : Bool) : @comes (Zm_C2E_k true true true false false true false b28) Tryz.prog glT 3000 Zm_C2E_f Zm_C2E_a = some (.lit (.bool true)) := by kernel_rfl
theorem Zm_C2E_r6 (b27 b28 : Bool) : @comes (Zm_C2E_k true true true false false false b27 b28) Tryz.prog glT 3000 Zm_C2E_f Zm_C2E_a = some (.lit (.bool true)) := by kernel_rfl
theorem Zm_C2E_r7 (b19 b20 b28 : Bool) : @comes (Zm_C2E_k true true false b19 b20 true false b28) Tryz.prog glT 3000 Zm_C2E_f Zm_C2E_a = some (.lit (.bool true)) := by kernel_rfl
theorem Zm_C2E_r8 (b19 b20 b27 b28 : Bool) : @comes (Zm_C2E_k true true false b19 b20 false b27 b28) Tryz.prog glT 3000 Zm_C2E_f Zm_C2E_a = some (.lit (.bool true)) := by kernel_rfl
theorem Zm_C2E_r9 (b18 b19 b20 b28 : Bool) : @comes (Zm_C2E_k true false b18 b19 b20 true false b28) Tryz.prog glT 3000 Zm_C2E_f Zm_C2E_a = some (.lit (.bool true)) := by kernel_rfl
theorem Zm_C2E_r10 (b18 b19 b20 b27 b28 : Bool) : @comes (Zm_C2E_k true false b18 b19 b20 false b27 b28) Tryz.prog glT 3000 Zm_C2E_f Zm_C2E_a = some (.lit (.bool true)) := by kernel_rfl
theorem Zm_C2E_r11 (b16 b18 b19 b20 b28 : Bool) : @comes (Zm_C2E_k false b16 b18 b19 b20 true false b28) Tryz.prog glT 3000 Zm_C2E_f Zm_C2E_a = some (.lit (.bool true)) := by kernel_rfl
theorem Zm_C2E_r12 (b16 b18 b19 b20 b27 b28 : Bool) : @comes (Zm_C2E_k false b16 b18 b19 b20 false b27 b28) Tryz.prog glT 3000 Zm_C2E_f Zm_C2E_a = some (.lit (.bool true)) := by kernel_rfl

set_option maxRecDepth 100000 in
set_option maxHeartbeats 4000000 in
theorem Zm_C2E (p q : Dy) (y a b c r s t u z : Int) (w : World) (hp : p.Ok) (hq : q.Ok) (e1 : -4096 ≤ y) (e2 : y ≤ 4096) (a1 : 1 ≤ a) (a2 : a ≤ 65536) (b1 : 1 ≤ b) (b2 : b ≤ 65536) (c1 : 0 ≤ c) (c2 : c ≤ a - 1) (r1 : 0 ≤ r) (r2 : r ≤ b - 1) (hx : addE p (hz ((2 * c) - a) (y - 1)) = 0) (hy0 : addE q (hz ((b - (2 * r)) - 2) (y - 1)) = 0) (s1 : 1 ≤ s) (s2 : s ≤ a - c) (t1 : 1 ≤ t) (t2 : t ≤ b - r) (u1 : 0 ≤ u) (u2 : u < s) (v1 : 0 ≤ z) (v2 : z < t) (hsp : ¬ (s, t) = (a, b)) (hn4 : ¬ (addE p (hz (((2 * c) + s) - a) (y - 1)) = 0 ∧ addE q (hz ((b - (2 * r)) - t) (y - 1)) = 0)) (hG : Globs glT w) : Calls Tryz.prog 5 #[.agg #[.bool p.g, .string (natS p.n), .int .i64 p.x, .bool q.g, .string (natS q.n), .int .i64 q.x, .int .i64 y, .int .i64 a, .int .i64 b], .int .i64 c, .int .i64 r, .int .i64 s, .int .i64 t, .int .i64 u, .int .i64 z] w fun e w' => e = .returned (.bool true) ∧ Below w.heap.size w w' := by
  have h1 : y ≥ -4096 := (by omega)
  have i1 : true = true ↔ (y ≥ -4096) := ⟨fun _ => h1, fun _ => rfl⟩
  have h2 : y ≤ 4096 := (by omega)
  have i2 : true = true ↔ (y ≤ 4096) := ⟨fun _ => h2, fun _ => rfl⟩
  have h3 : a ≥ 1 := (by omega)
  have i3 : true = true ↔ (a ≥ 1) := ⟨fun _ => h3, fun _ => rfl⟩
  have h4 : a ≤ 65536 := (by omega)
  have i4 : true = true ↔ (a ≤ 65536) := ⟨fun _ => h4, fun _ => rfl⟩
  have h5 : b ≥ 1 := (by omega)
  have i5 : true = true ↔ (b ≥ 1) := ⟨fun _ => h5, fun _ => rfl⟩
  have h6 : b ≤ 65536 := (by omega)
  have i6 : true = true ↔ (b ≤ 65536) := ⟨fun _ => h6, fun _ => rfl⟩
  have h7 : c ≥ 0 := (by omega)
  have i7 : true = true ↔ (c ≥ 0) := ⟨fun _ => h7, fun _ => rfl⟩
  have h8 : c ≤ a - 1 := (by omega)
  have i8 : true = true ↔ (c ≤ a - 1) := ⟨fun _ => h8, fun _ => rfl⟩
  have h9 : r ≥ 0 := (by omega)
  have i9 : true = true ↔ (r ≥ 0) := ⟨fun _ => h9, fun _ => rfl⟩
  have h10 : r ≤ b - 1 := (by omega)
  have i10 : true = true ↔ (r ≤ b - 1) := ⟨fun _ => h10, fun _ => rfl⟩
  have h11 : addE p (hz ((2 * c) - a) (y - 1)) = 0 := hx
  have i11 : true = true ↔ (addE p (hz ((2 * c) - a) (y - 1)) = 0) := ⟨fun _ => h11, fun _ => rfl⟩
  have h12 : addE q (hz ((b - (2 * r)) - 2) (y - 1)) = 0 := hy0
  have i12 : true = true ↔ (addE q (hz ((b - (2 * r)) - 2) (y - 1)) = 0) := ⟨fun _ => h12, fun _ => rfl⟩
  obtain ⟨b13, i13⟩ := bex (y - 1 ≥ -4096)
  have h14 : y - 1 ≤ 4096 := (by omega)
  have i14 : true = true ↔ (y - 1 ≤ 4096) := ⟨fun _ => h14, fun _ => rfl⟩
  have h15 : 2 * a ≥ 1 := (by omega)
  have i15 : true = true ↔ (2 * a ≥ 1) := ⟨fun _ => h15, fun _ => rfl⟩
  obtain ⟨b16, i16⟩ := bex (2 * a ≤ 65536)
  have h17 : 2 * b ≥ 1 := (by omega)
  have i17 : true = true ↔ (2 * b ≥ 1) := ⟨fun _ => h17, fun _ => rfl⟩
  obtain ⟨b18, i18⟩ := bex (2 * b ≤ 65536)
  obtain ⟨b19, i19⟩ := bex (y = -4096)
  obtain ⟨b20, i20⟩ := bex (addE (addD p (hz ((2 * c) - a) (y - 1))) (hz 1 (y - 1)) = 0)
  have h21 : s ≥ 1 := (by omega)
  have i21 : true = true ↔ (s ≥ 1) := ⟨fun _ => h21, fun _ => rfl⟩
  have h22 : s ≤ a - c := (by omega)
  have i22 : true = true ↔ (s ≤ a - c) := ⟨fun _ => h22, fun _ => rfl⟩
  have h23 : t ≥ 1 := (by omega)
  have i23 : true = true ↔ (t ≥ 1) := ⟨fun _ => h23, fun _ => rfl⟩
  have h24 : t ≤ b - r := (by omega)
  have i24 : true = true ↔ (t ≤ b - r) := ⟨fun _ => h24, fun _ => rfl⟩
  have h25 : ¬ ((s, t) = (a, b)) := hsp
  have i25 : false = true ↔ ((s, t) = (a, b)) := ⟨fun k => absurd k Bool.false_ne_true, fun k => absurd k h25⟩
  obtain ⟨b26, i26⟩ := bex (addE p (hz (((2 * c) + s) - a) (y - 1)) = 0)
  obtain ⟨b27, i27⟩ := bex (addE q (hz ((b - (2 * r)) - t) (y - 1)) = 0)
  obtain ⟨b28, i28⟩ := bex (addE (addD q (hz ((b - (2 * r)) - 2) (y - 1))) (hz 1 (y - 1)) = 0)
  have h29 : (2 * c) + 0 ≥ 0 := (by omega)
  have i29 : true = true ↔ ((2 * c) + 0 ≥ 0) := ⟨fun _ => h29, fun _ => rfl⟩
  have h30 : (2 * c) + 0 ≤ (2 * a) - 1 := (by omega)
  have i30 : true = true ↔ ((2 * c) + 0 ≤ (2 * a) - 1) := ⟨fun _ => h30, fun _ => rfl⟩
  have h31 : ((2 * r) + 1) - 0 ≥ 0 := (by omega)
  have i31 : true = true ↔ (((2 * r) + 1) - 0 ≥ 0) := ⟨fun _ => h31, fun _ => rfl⟩
  have h32 : ((2 * r) + 1) - 0 ≤ (2 * b) - 1 := (by omega)
  have i32 : true = true ↔ (((2 * r) + 1) - 0 ≤ (2 * b) - 1) := ⟨fun _ => h32, fun _ => rfl⟩
  have h33 : (2 * c) + 1 ≥ 0 := (by omega)
  have i33 : true = true ↔ ((2 * c) + 1 ≥ 0) := ⟨fun _ => h33, fun _ => rfl⟩
  have h34 : (2 * c) + 1 ≤ (2 * a) - 1 := (by omega)
  have i34 : true = true ↔ ((2 * c) + 1 ≤ (2 * a) - 1) := ⟨fun _ => h34, fun _ => rfl⟩
  have h35 : ((2 * r) + 1) - 1 ≥ 0 := (by omega)
  have i35 : true = true ↔ (((2 * r) + 1) - 1 ≥ 0) := ⟨fun _ => h35, fun _ => rfl⟩
  have h36 : ((2 * r) + 1) - 1 ≤ (2 * b) - 1 := (by omega)
  have i36 : true = true ↔ (((2 * r) + 1) - 1 ≤ (2 * b) - 1) := ⟨fun _ => h36, fun _ => rfl⟩
  letI : Env := mkEnv glT [.bool p.g, .string (natS p.n), .int .i64 p.x, .bool q.g, .string (natS q.n), .int .i64 q.x, .int .i64 y, .int .i64 a, .int .i64 b, .int .i64 c, .int .i64 r, .int .i64 s, .int .i64 t, .int .i64 u, .int .i64 z, .bool (hz 1 (y - 1)).g, .string (natS (hz 1 (y - 1)).n), .int .i64 (hz 1 (y - 1)).x, .int .i64 (a - 1), .int .i64 (b - 1), .int .i64 (2 * c), .int .i64 ((2 * c) - a), .bool (hz ((2 * c) - a) (y - 1)).g, .string (natS (hz ((2 * c) - a) (y - 1)).n), .int .i64 (hz ((2 * c) - a) (y - 1)).x, .bool (addD p (hz ((2 * c) - a) (y - 1))).g, .string (natS (addD p (hz ((2 * c) - a) (y - 1))).n), .int .i64 (addD p (hz ((2 * c) - a) (y - 1))).x, .int .i64 (addE p (hz ((2 * c) - a) (y - 1))), .bool (addD (addD p (hz ((2 * c) - a) (y - 1))) (hz 1 (y - 1))).g, .string (natS (addD (addD p (hz ((2 * c) - a) (y - 1))) (hz 1 (y - 1))).n), .int .i64 (addD (addD p (hz ((2 * c) - a) (y - 1))) (hz 1 (y - 1))).x, .int .i64 (addE (addD p (hz ((2 * c) - a) (y - 1))) (hz 1 (y - 1))), .int .i64 (2 * r), .int .i64 (b - (2 * r)), .int .i64 ((b - (2 * r)) - 2), .bool (hz ((b - (2 * r)) - 2) (y - 1)).g, .string (natS (hz ((b - (2 * r)) - 2) (y - 1)).n), .int .i64 (hz ((b - (2 * r)) - 2) (y - 1)).x, .bool (addD q (hz ((b - (2 * r)) - 2) (y - 1))).g, .string (natS (addD q (hz ((b - (2 * r)) - 2) (y - 1))).n), .int .i64 (addD q (hz ((b - (2 * r)) - 2) (y - 1))).x, .int .i64 (addE q (hz ((b - (2 * r)) - 2) (y - 1))), .bool (addD (addD q (hz ((b - (2 * r)) - 2) (y - 1))) (hz 1 (y - 1))).g, .string (natS (addD (addD q (hz ((b - (2 * r)) - 2) (y - 1))) (hz 1 (y - 1))).n), .int .i64 (addD (addD q (hz ((b - (2 * r)) - 2) (y - 1))) (hz 1 (y - 1))).x, .int .i64 (addE (addD q (hz ((b - (2 * r)) - 2) (y - 1))) (hz 1 (y - 1))), .int .i64 (y - 1), .int .i64 (2 * a), .int .i64 (2 * b), .int .i64 (a - c), .int .i64 (b - r), .int .i64 ((2 * c) + s), .int .i64 (((2 * c) + s) - a), .bool (hz (((2 * c) + s) - a) (y - 1)).g, .string (natS (hz (((2 * c) + s) - a) (y - 1)).n), .int .i64 (hz (((2 * c) + s) - a) (y - 1)).x, .bool (addD p (hz (((2 * c) + s) - a) (y - 1))).g, .string (natS (addD p (hz (((2 * c) + s) - a) (y - 1))).n), .int .i64 (addD p (hz (((2 * c) + s) - a) (y - 1))).x, .int .i64 (addE p (hz (((2 * c) + s) - a) (y - 1))), .int .i64 ((b - (2 * r)) - t), .bool (hz ((b - (2 * r)) - t) (y - 1)).g, .string (natS (hz ((b - (2 * r)) - t) (y - 1)).n), .int .i64 (hz ((b - (2 * r)) - t) (y - 1)).x, .bool (addD q (hz ((b - (2 * r)) - t) (y - 1))).g, .string (natS (addD q (hz ((b - (2 * r)) - t) (y - 1))).n), .int .i64 (addD q (hz ((b - (2 * r)) - t) (y - 1))).x, .int .i64 (addE q (hz ((b - (2 * r)) - t) (y - 1))), .int .i64 ((2 * c) + 0), .int .i64 ((2 * r) + 1), .int .i64 (((2 * r) + 1) - 0), .int .i64 ((2 * a) - 1), .int .i64 ((2 * b) - 1), .int .i64 (2 * ((2 * c) + 0)), .int .i64 ((2 * ((2 * c) + 0)) - (2 * a)), .int .i64 (2 * (((2 * r) + 1) - 0)), .int .i64 ((2 * b) - (2 * (((2 * r) + 1) - 0))), .int .i64 (((2 * b) - (2 * (((2 * r) + 1) - 0))) - 2), .int .i64 ((2 * c) + 1), .int .i64 (2 * ((2 * c) + 1)), .int .i64 ((2 * ((2 * c) + 1)) - (2 * a)), .bool (hz (1 - a + 2 * c) (y - 1)).g, .string (natS (hz (1 - a + 2 * c) (y - 1)).n), .int .i64 (hz (1 - a + 2 * c) (y - 1)).x, .int .i64 (((2 * r) + 1) - 1), .int .i64 (2 * (((2 * r) + 1) - 1)), .int .i64 ((2 * b) - (2 * (((2 * r) + 1) - 1))), .int .i64 (((2 * b) - (2 * (((2 * r) + 1) - 1))) - 2), .bool (hz (0 - 1 + b - 2 * r) (y - 1)).g, .string (natS (hz (0 - 1 + b - 2 * r) (y - 1)).n), .int .i64 (hz (0 - 1 + b - 2 * r) (y - 1)).x] rfl
  have hops : OpsT Tryz.prog (@Know.ops (Zm_C2E_k b13 b16 b18 b19 b20 b26 b27 b28)) := ⟨opt_geq_i rfl rfl i1,
    opt_leq_i rfl rfl i2,
    opt_geq_i rfl rfl i3,
    opt_leq_i rfl rfl i4,
    opt_geq_i rfl rfl i5,
    opt_leq_i rfl rfl i6,
    vopt_sub rfl rfl rfl rfl (by omega) ⟨by omega, by omega⟩,
    opt_geq_i rfl rfl i7,
    opt_leq_i rfl rfl i8,
    vopt_sub rfl rfl rfl rfl (by omega) ⟨by omega, by omega⟩,
    opt_geq_i rfl rfl i9,
    opt_leq_i rfl rfl i10,
    vopt_mul rfl rfl rfl rfl (by omega) ⟨by omega, by omega⟩,
    vopt_sub rfl rfl rfl rfl (by omega) ⟨by omega, by omega⟩,
    vopt_mul rfl rfl rfl rfl (by omega) ⟨by omega, by omega⟩,
    vopt_sub rfl rfl rfl rfl (by omega) ⟨by omega, by omega⟩,
    vopt_sub rfl rfl rfl rfl (by omega) ⟨by omega, by omega⟩,
    opt_neq_i rfl rfl i11,
    opt_neq_i rfl rfl i12,
    vopt_sub rfl rfl rfl rfl (by omega) ⟨by omega, by omega⟩,
    vopt_shl rfl rfl rfl rfl (by omega) ⟨by omega, by omega⟩,
    vopt_shl rfl rfl rfl rfl (by omega) ⟨by omega, by omega⟩,
    opt_geq_i rfl rfl i13,
    opt_leq_i rfl rfl i14,
    opt_geq_i rfl rfl i15,
    opt_leq_i rfl rfl i16,
    opt_geq_i rfl rfl i17,
    opt_leq_i rfl rfl i18,
    opt_eql_i rfl rfl i19,
    opt_neq_i rfl rfl i20,
    vopt_sub rfl rfl rfl rfl (by omega) ⟨by omega, by omega⟩,
    opt_geq_i rfl rfl i21,
    opt_leq_i rfl rfl i22,
    vopt_sub rfl rfl rfl rfl (by omega) ⟨by omega, by omega⟩,
    opt_geq_i rfl rfl i23,
    opt_leq_i rfl rfl i24,
    optI2_eql_i rfl rfl i25,
    vopt_add rfl rfl rfl rfl (by omega) ⟨by omega, by omega⟩,
    vopt_sub rfl rfl rfl rfl (by omega) ⟨by omega, by omega⟩,
    vopt_sub rfl rfl rfl rfl (by omega) ⟨by omega, by omega⟩,
    opt_neq_i rfl rfl i26,
    opt_neq_i rfl rfl i27,
    opt_neq_i rfl rfl i28,
    vopt_add rfl rfl rfl rfl (by omega) ⟨by omega, by omega⟩,
    vopt_add rfl rfl rfl rfl (by omega) ⟨by omega, by omega⟩,
    vopt_sub rfl rfl rfl rfl (by omega) ⟨by omega, by omega⟩,
    vopt_sub rfl rfl rfl rfl (by omega) ⟨by omega, by omega⟩,
    opt_geq_i rfl rfl i29,
    opt_leq_i rfl rfl i30,
    vopt_sub rfl rfl rfl rfl (by omega) ⟨by omega, by omega⟩,
    opt_geq_i rfl rfl i31,
    opt_leq_i rfl rfl i32,
    vopt_mul rfl rfl rfl rfl (by omega) ⟨by omega, by omega⟩,
    vopt_sub rfl rfl rfl rfl (by omega) ⟨by omega, by omega⟩,
    vopt_mul rfl rfl rfl rfl (by omega) ⟨by omega, by omega⟩,
    vopt_sub rfl rfl rfl rfl (by omega) ⟨by omega, by omega⟩,
    vopt_sub rfl rfl rfl rfl (by omega) ⟨by omega, by omega⟩,
    opt_self_neq fun p q w => self_7 p q w,
    vopt_add rfl rfl rfl rfl (by omega) ⟨by omega, by omega⟩,
    opt_geq_i rfl rfl i33,
    opt_leq_i rfl rfl i34,
    vopt_mul rfl rfl rfl rfl (by omega) ⟨by omega, by omega⟩,
    vopt_sub rfl rfl rfl rfl (by omega) ⟨by omega, by omega⟩,
    opt_self_neq fun p q w => self_7 p q w,
    vopt_sub rfl rfl rfl rfl (by omega) ⟨by omega, by omega⟩,
    opt_geq_i rfl rfl i35,
    opt_leq_i rfl rfl i36,
    vopt_mul rfl rfl rfl rfl (by omega) ⟨by omega, by omega⟩,
    vopt_sub rfl rfl rfl rfl (by omega) ⟨by omega, by omega⟩,
    vopt_sub rfl rfl rfl rfl (by omega) ⟨by omega, by omega⟩,
    opt_self_neq fun p q w => self_7 p q w,
    opt_self_neq fun p q w => self_7 p q w,
    trivial⟩
  have hcalls : CallsT Tryz.prog (@Know.calls (Zm_C2E_k b13 b16 b18 b19 b20 b26 b27 b28)) := ⟨callt rfl rfl fun w hG => awake24_c w hG,
    callt rfl rfl fun w hG => GCheck_gs ⟨p, q⟩ ⟨hp, hq⟩ w hG,
    callt rfl rfl fun w hG => halves_z 1 y w ⟨by omega, by omega⟩ ⟨by omega, by omega⟩ hG,
    callt rfl rfl fun w hG => halves_z ((2 * c) - a) y w ⟨by omega, by omega⟩ ⟨by omega, by omega⟩ hG,
    callt rfl rfl fun w hG => DAdd_c p (hz ((2 * c) - a) (y - 1)) w hp (hz_Ok _ _) hG,
    callt rfl rfl fun w hG => DCheck_dy (addD p (hz ((2 * c) - a) (y - 1))) (add_Ok hp (hz_Ok _ _)) w,
    callt rfl rfl fun w hG => DAdd_c (addD p (hz ((2 * c) - a) (y - 1))) (hz 1 (y - 1)) w (add_Ok hp (hz_Ok _ _)) (hz_Ok _ _) hG,
    callt rfl rfl fun w hG => halves_z ((b - (2 * r)) - 2) y w ⟨by omega, by omega⟩ ⟨by omega, by omega⟩ hG,
    callt rfl rfl fun w hG => DAdd_c q (hz ((b - (2 * r)) - 2) (y - 1)) w hq (hz_Ok _ _) hG,
    callt rfl rfl fun w hG => DCheck_dy (addD q (hz ((b - (2 * r)) - 2) (y - 1))) (add_Ok hq (hz_Ok _ _)) w,
    callt rfl rfl fun w hG => DAdd_c (addD q (hz ((b - (2 * r)) - 2) (y - 1))) (hz 1 (y - 1)) w (add_Ok hq (hz_Ok _ _)) (hz_Ok _ _) hG,
    callt rfl rfl fun w hG => halves_z (((2 * c) + s) - a) y w ⟨by omega, by omega⟩ ⟨by omega, by omega⟩ hG,
    callt rfl rfl fun w hG => DAdd_c p (hz (((2 * c) + s) - a) (y - 1)) w hp (hz_Ok _ _) hG,
    callt rfl rfl fun w hG => halves_z ((b - (2 * r)) - t) y w ⟨by omega, by omega⟩ ⟨by omega, by omega⟩ hG,
    callt rfl rfl fun w hG => DAdd_c q (hz ((b - (2 * r)) - t) (y - 1)) w hq (hz_Ok _ _) hG,
    callt rfl rfl fun w hG => (by have h := halves_z ((2 * ((2 * c) + 0)) - (2 * a)) (y - 1) w ⟨by omega, by omega⟩ ⟨by omega, by omega⟩ hG; rw [((show hz ((2 * ((2 * c) + 0)) - (2 * a)) ((y - 1) - 1) = hz ((2 * ((2 * c) + 0)) - (2 * a)) ((y - 1) - 1) from by rw [show (y - 1) - 1 = (y - 1) - 1 from by omega]).trans (hz_two (by omega) ⟨by omega, by omega⟩ ⟨by omega, by omega⟩) : hz ((2 * ((2 * c) + 0)) - (2 * a)) ((y - 1) - 1) = hz ((2 * c) - a) (y - 1))] at h; exact h),
    callt rfl rfl fun w hG => (by have h := halves_z (((2 * b) - (2 * (((2 * r) + 1) - 0))) - 2) (y - 1) w ⟨by omega, by omega⟩ ⟨by omega, by omega⟩ hG; rw [((show hz (((2 * b) - (2 * (((2 * r) + 1) - 0))) - 2) ((y - 1) - 1) = hz (((2 * b) - (2 * (((2 * r) + 1) - 0))) - 2) ((y - 1) - 1) from by rw [show (y - 1) - 1 = (y - 1) - 1 from by omega]).trans (hz_two (by omega) ⟨by omega, by omega⟩ ⟨by omega, by omega⟩) : hz (((2 * b) - (2 * (((2 * r) + 1) - 0))) - 2) ((y - 1) - 1) = hz ((b - (2 * r)) - 2) (y - 1))] at h; exact h),
    callt rfl rfl fun w hG => (by have h := halves_z ((2 * ((2 * c) + 1)) - (2 * a)) (y - 1) w ⟨by omega, by omega⟩ ⟨by omega, by omega⟩ hG; rw [((show hz ((2 * ((2 * c) + 1)) - (2 * a)) ((y - 1) - 1) = hz ((2 * ((2 * c) + 1)) - (2 * a)) ((y - 1) - 1) from by rw [show (y - 1) - 1 = (y - 1) - 1 from by omega]).trans (hz_two (by omega) ⟨by omega, by omega⟩ ⟨by omega, by omega⟩) : hz ((2 * ((2 * c) + 1)) - (2 * a)) ((y - 1) - 1) = hz (1 - a + 2 * c) (y - 1))] at h; exact h),
    callt rfl rfl fun w hG => DAdd_canon hp (hz_Ok _ _) (show addD p (hz (1 - a + 2 * c) (y - 1)) = addD (addD p (hz ((2 * c) - a) (y - 1))) (hz 1 (y - 1)) ∧ addE p (hz (1 - a + 2 * c) (y - 1)) = addE (addD p (hz ((2 * c) - a) (y - 1))) (hz 1 (y - 1)) from add_hz hp ⟨by omega, by omega⟩ ⟨by omega, by omega⟩ ⟨by omega, by omega⟩ (by omega) hx) w hG,
    callt rfl rfl fun w hG => (by have h := halves_z (((2 * b) - (2 * (((2 * r) + 1) - 1))) - 2) (y - 1) w ⟨by omega, by omega⟩ ⟨by omega, by omega⟩ hG; rw [((show hz (((2 * b) - (2 * (((2 * r) + 1) - 1))) - 2) ((y - 1) - 1) = hz (((2 * b) - (2 * (((2 * r) + 1) - 1))) - 2) ((y - 1) - 1) from by rw [show (y - 1) - 1 = (y - 1) - 1 from by omega]).trans (hz_two (by omega) ⟨by omega, by omega⟩ ⟨by omega, by omega⟩) : hz (((2 * b) - (2 * (((2 * r) + 1) - 1))) - 2) ((y - 1) - 1) = hz (0 - 1 + b - 2 * r) (y - 1))] at h; exact h),
    callt rfl rfl fun w hG => DAdd_canon hq (hz_Ok _ _) (show addD q (hz (0 - 1 + b - 2 * r) (y - 1)) = addD (addD q (hz ((b - (2 * r)) - 2) (y - 1))) (hz 1 (y - 1)) ∧ addE q (hz (0 - 1 + b - 2 * r) (y - 1)) = addE (addD q (hz ((b - (2 * r)) - 2) (y - 1))) (hz 1 (y - 1)) from add_hz hq ⟨by omega, by omega⟩ ⟨by omega, by omega⟩ ⟨by omega, by omega⟩ (by omega) hy0) w hG,
    trivial⟩
  have fin : ∀ v, @comes (Zm_C2E_k b13 b16 b18 b19 b20 b26 b27 b28) Tryz.prog glT 3000 Zm_C2E_f Zm_C2E_a = some v → ground v = true → Ending.returned (gval v) = .returned (.bool true) → Calls Tryz.prog 5 #[.agg #[.bool p.g, .string (natS p.n), .int .i64 p.x, .bool q.g, .string (natS q.n), .int .i64 q.x, .int .i64 y, .int .i64 a, .int .i64 b], .int .i64 c, .int .i64 r, .int .i64 s, .int .i64 t, .int .i64 u, .int .i64 z] w fun e w' => e = .returned (.bool true) ∧ Below w.heap.size w w' := fun v h1 h2 h3 => (@sym_ok _ (Zm_C2E_k b13 b16 b18 b19 b20 b26 b27 b28) _ (@KnowOk.of _ (Zm_C2E_k b13 b16 b18 b19 b20 b26 b27 b28) _ hops hcalls) (by kernel_rfl) _ _ _ _ h1 rfl h2 _ hG).mono fun e w' h => ⟨h.1.trans h3, h.2⟩
  clear hops hcalls
  cases b13 with
  | true =>
    have h13 : y - 1 ≥ -4096 := i13.1 rfl
    cases b16 with
    | true =>
      have h16 : 2 * a ≤ 65536 := i16.1 rfl
      cases b18 with
      | true =>
        have h18 : 2 * b ≤ 65536 := i18.1 rfl
        cases b19 with
        | true =>
          exact absurd (i19.1 rfl) ((by omega))
        | false =>
          have h19 : ¬ (y = -4096) := fun c => Bool.false_ne_true (i19.2 c)
          cases b20 with
          | true =>
            have h20 : addE (addD p (hz ((2 * c) - a) (y - 1))) (hz 1 (y - 1)) = 0 := i20.1 rfl
            cases b28 with
            | true =>
              have h28 : addE (addD q (hz ((b - (2 * r)) - 2) (y - 1))) (hz 1 (y - 1)) = 0 := i28.1 rfl
              cases b26 with
              | true =>
                have h26 : addE p (hz (((2 * c) + s) - a) (y - 1)) = 0 := i26.1 rfl
                cases b27 with
                | true =>
                  exact absurd (i27.1 rfl) (fun k => hn4 ⟨h26, k⟩)
                | false =>
                  have h27 : ¬ (addE q (hz ((b - (2 * r)) - t) (y - 1)) = 0) := fun c => Bool.false_ne_true (i27.2 c)
                  exact fin _ (Zm_C2E_r1) rfl rfl
              | false =>
                have h26 : ¬ (addE p (hz (((2 * c) + s) - a) (y - 1)) = 0) := fun c => Bool.false_ne_true (i26.2 c)
                exact fin _ (Zm_C2E_r2 b27) rfl rfl
            | false =>
              have h28 : ¬ (addE (addD q (hz ((b - (2 * r)) - 2) (y - 1))) (hz 1 (y - 1)) = 0) := fun c => Bool.false_ne_true (i28.2 c)
              cases b26 with
              | true =>
                have h26 : addE p (hz (((2 * c) + s) - a) (y - 1)) = 0 := i26.1 rfl
                cases b27 with
                | true =>
                  exact absurd (i27.1 rfl) (fun k => hn4 ⟨h26, k⟩)
                | false =>
                  have h27 : ¬ (addE q (hz ((b - (2 * r)) - t) (y - 1)) = 0) := fun c => Bool.false_ne_true (i27.2 c)
                  exact fin _ (Zm_C2E_r3) rfl rfl
              | false =>
                have h26 : ¬ (addE p (hz (((2 * c) + s) - a) (y - 1)) = 0) := fun c => Bool.false_ne_true (i26.2 c)
                exact fin _ (Zm_C2E_r4 b27) rfl rfl
          | false =>
            have h20 : ¬ (addE (addD p (hz ((2 * c) - a) (y - 1))) (hz 1 (y - 1)) = 0) := fun c => Bool.false_ne_true (i20.2 c)
            cases b26 with
            | true =>
              have h26 : addE p (hz (((2 * c) + s) - a) (y - 1)) = 0 := i26.1 rfl
              cases b27 with
              | true =>
                exact absurd (i27.1 rfl) (fun k => hn4 ⟨h26, k⟩)
              | false =>
                have h27 : ¬ (addE q (hz ((b - (2 * r)) - t) (y - 1)) = 0) := fun c => Bool.false_ne_true (i27.2 c)
                exact fin _ (Zm_C2E_r5 b28) rfl rfl
            | false =>
              have h26 : ¬ (addE p (hz (((2 * c) + s) - a) (y - 1)) = 0) := fun c => Bool.false_ne_true (i26.2 c)
              exact fin _ (Zm_C2E_r6 b27 b28) rfl rfl
      | false =>
        have h18 : ¬ (2 * b ≤ 65536) := fun c => Bool.false_ne_true (i18.2 c)
        cases b26 with
        | true =>
          have h26 : addE p (hz (((2 * c) + s) - a) (y - 1)) = 0 := i26.1 rfl
          cases b27 with
          | true =>
            exact absurd (i27.1 rfl) (fun k => hn4 ⟨h26, k⟩)
          | false =>
            have h27 : ¬ (addE q (hz ((b - (2 * r)) - t) (y - 1)) = 0) := fun c => Bool.false_ne_true (i27.2 c)
            exact fin _ (Zm_C2E_r7 b19 b20 b28) rfl rfl
        | false =>
          have h26 : ¬ (addE p (hz (((2 * c) + s) - a) (y - 1)) = 0) := fun c => Bool.false_ne_true (i26.2 c)
          exact fin _ (Zm_C2E_r8 b19 b20 b27 b28) rfl rfl
    | false =>
      have h16 : ¬ (2 * a ≤ 65536) := fun c => Bool.false_ne_true (i16.2 c)
      cases b26 with
      | true =>
        have h26 : addE p (hz (((2 * c) + s) - a) (y - 1)) = 0 := i26.1 rfl
        cases b27 with
        | true =>
          exact absurd (i27.1 rfl) (fun k => hn4 ⟨h26, k⟩)
        | false =>
          have h27 : ¬ (addE q (hz ((b - (2 * r)) - t) (y - 1)) = 0) := fun c => Bool.false_ne_true (i27.2 c)
          exact fin _ (Zm_C2E_r9 b18 b19 b20 b28) rfl rfl
      | false =>
        have h26 : ¬ (addE p (hz (((2 * c) + s) - a) (y - 1)) = 0) := fun c => Bool.false_ne_true (i26.2 c)
        exact fin _ (Zm_C2E_r10 b18 b19 b20 b27 b28) rfl rfl
  | false =>
    have h13 : ¬ (y - 1 ≥ -4096) := fun c => Bool.false_ne_true (i13.2 c)
    cases b26 with
    | true =>
      have h26 : addE p (hz (((2 * c) + s) - a) (y - 1)) = 0 := i26.1 rfl
      cases b27 with
      | true =>
        exact absurd (i27.1 rfl) (fun k => hn4 ⟨h26, k⟩)
      | false =>
        have h27 : ¬ (addE q (hz ((b - (2 * r)) - t) (y - 1)) = 0) := fun c => Bool.false_ne_true (i27.2 c)
        exact fin _ (Zm_C2E_r11 b16 b18 b19 b20 b28) rfl rfl
    | false =>
      have h26 : ¬ (addE p (hz (((2 * c) + s) - a) (y - 1)) = 0) := fun c => Bool.false_ne_true (i26.2 c)
      exact fin _ (Zm_C2E_r12 b16 b18 b19 b20 b27 b28) rfl rfl

@[reducible] def Zm_C3E_f : FuncId := 5
@[reducible] def Zm_C3E_a : List AV := [.agg [.sym 0, .sym 1, .sym 2, .sym 3, .sym 4, .sym 5, .sym 6, .sym 7, .sym 8], .sym 9, .sym 10, .sym 11, .sym 12, .sym 13, .sym 14]
@[reducible] noncomputable def Zm_C3E_k (b13 b16 b18 b19 b20 b38 b43 b44 : Bool) : Know := ⟨[([0, 16, 3], [.sym 6, .lit (.int .i64 (-4096))], .lit (.bool true)),
  ([0, 14, 3], [.sym 6, .lit (.int .i64 4096)], .lit (.bool true)),
  ([0, 16, 3], [.sym 7, .lit (.int .i64 1)], .lit (.bool true)),
  ([0, 14, 3], [.sym 7, .lit (.int .i64 65536)], .lit (.bool true)),
  ([0, 16, 3], [.sym 8, .lit (.int .i64 1)], .lit (.bool true)),
  ([0, 14, 3], [.sym 8, .lit (.int .i64 65536)], .lit (.bool true)),
  ([0, 1, 3], [.sym 7, .lit (.int .i64 1)], .sym 18),
  ([0, 16, 3], [.sym 9, .lit (.int .i64 0)], .lit (.bool true)),
  ([0, 14, 3], [.sym 9, .sym 18], .lit (.bool true)),
  ([0, 1, 3], [.sym 8, .lit (.int .i64 1)], .sym 19),
  ([0, 16, 3], [.sym 10, .lit (.int .i64 0)], .lit (.bool true)),
  ([0, 14, 3], [.sym 10, .sym 19], .lit (.bool true)),
  ([0, 2, 3], [.lit (.int .i64 2), .sym 9], .sym 20),
  ([0, 1, 3], [.sym 20, .sym 7], .sym 21),
  ([0, 2, 3], [.lit (.int .i64 2), .sym 10], .sym 33),
  ([0, 1, 3], [.sym 8, .sym 33], .sym 34),
  ([0, 1, 3], [.sym 34, .lit (.int .i64 2)], .sym 35),
  ([0, 12, 30], [.sym 28, .lit (.int .i64 0)], .lit (.bool false)),
  ([0, 12, 30], [.sym 42, .lit (.int .i64 0)], .lit (.bool false)),
  ([0, 1, 3], [.sym 6, .lit (.int .i64 1)], .sym 47),
  ([0, 8, 3], [.sym 7, .lit (.int .i64 1)], .sym 48),
  ([0, 8, 3], [.sym 8, .lit (.int .i64 1)], .sym 49),
  ([0, 16, 3], [.sym 47, .lit (.int .i64 (-4096))], .lit (.bool b13)),
  ([0, 14, 3], [.sym 47, .lit (.int .i64 4096)], .lit (.bool true)),
  ([0, 16, 3], [.sym 48, .lit (.int .i64 1)], .lit (.bool true)),
  ([0, 14, 3], [.sym 48, .lit (.int .i64 65536)], .lit (.bool b16)),
  ([0, 16, 3], [.sym 49, .lit (.int .i64 1)], .lit (.bool true)),
  ([0, 14, 3], [.sym 49, .lit (.int .i64 65536)], .lit (.bool b18)),
  ([0, 11, 3], [.sym 6, .lit (.int .i64 (-4096))], .lit (.bool b19)),
  ([0, 12, 30], [.sym 32, .lit (.int .i64 0)], .lit (.bool (!b20))),
  ([0, 1, 3], [.sym 7, .sym 9], .sym 50),
  ([0, 16, 3], [.sym 11, .lit (.int .i64 1)], .lit (.bool true)),
  ([0, 14, 3], [.sym 11, .sym 50], .lit (.bool true)),
  ([0, 1, 3], [.sym 8, .sym 10], .sym 51),
  ([0, 16, 3], [.sym 12, .lit (.int .i64 1)], .lit (.bool true)),
  ([0, 14, 3], [.sym 12, .sym 51], .lit (.bool true)),
  ([0, 11, 100], [.agg [.sym 11, .sym 12], .agg [.sym 7, .sym 8]], .lit (.bool false)),
  ([0, 0, 3], [.sym 20, .sym 11], .sym 52),
  ([0, 1, 3], [.sym 52, .sym 7], .sym 53),
  ([0, 1, 3], [.sym 34, .sym 12], .sym 61),
  ([0, 12, 30], [.sym 60, .lit (.int .i64 0)], .lit (.bool false)),
  ([0, 12, 30], [.sym 68, .lit (.int .i64 0)], .lit (.bool false)),
  ([0, 13, 3], [.sym 13, .lit (.int .i64 0)], .lit (.bool false)),
  ([0, 13, 3], [.sym 14, .lit (.int .i64 0)], .lit (.bool false)),
  ([0, 16, 3], [.sym 13, .sym 11], .lit (.bool false)),
  ([0, 16, 3], [.sym 14, .sym 12], .lit (.bool false)),
  ([0, 14, 3], [.sym 11, .lit (.int .i64 65536)], .lit (.bool true)),
  ([0, 14, 3], [.sym 12, .lit (.int .i64 65536)], .lit (.bool true)),
  ([0, 1, 3], [.sym 11, .lit (.int .i64 1)], .sym 69),
  ([0, 16, 3], [.sym 13, .lit (.int .i64 0)], .lit (.bool true)),
  ([0, 14, 3], [.sym 13, .sym 69], .lit (.bool true)),
  ([0, 1, 3], [.sym 12, .lit (.int .i64 1)], .sym 70),
  ([0, 16, 3], [.sym 14, .lit (.int .i64 0)], .lit (.bool true)),
  ([0, 14, 3], [.sym 14, .sym 70], .lit (.bool true)),
  ([0, 2, 3], [.lit (.int .i64 2), .sym 13], .sym 71),
  ([0, 1, 3], [.sym 71, .sym 11], .sym 72),
  ([0, 2, 3], [.lit (.int .i64 2), .sym 14], .sym 80),
  ([0, 1, 3], [.sym 12, .sym 80], .sym 81),
  ([0, 1, 3], [.sym 81, .lit (.int .i64 2)], .sym 82),
  ([0, 12, 30], [.sym 79, .lit (.int .i64 0)], .lit (.bool (!b38))),
  ([0, 0, 3], [.sym 9, .sym 13], .sym 90),
  ([0, 0, 3], [.sym 10, .sym 14], .sym 91),
  ([0, 16, 3], [.sym 90, .lit (.int .i64 0)], .lit (.bool true)),
  ([0, 14, 3], [.sym 90, .sym 18], .lit (.bool true)),
  ([0, 16, 3], [.sym 91, .lit (.int .i64 0)], .lit (.bool true)),
  ([0, 14, 3], [.sym 91, .sym 19], .lit (.bool true)),
  ([0, 2, 3], [.lit (.int .i64 2), .sym 90], .sym 92),
  ([0, 1, 3], [.sym 92, .sym 7], .sym 93),
  ([0, 2, 3], [.lit (.int .i64 2), .sym 91], .sym 97),
  ([0, 1, 3], [.sym 8, .sym 97], .sym 98),
  ([0, 1, 3], [.sym 98, .lit (.int .i64 2)], .sym 99),
  ([0, 12, 30], [.sym 89, .lit (.int .i64 0)], .lit (.bool (!b43))),
  ([0, 11, 26], [.agg [.sym 76, .sym 77, .sym 78, .sym 86, .sym 87, .sym 88, .sym 6], .agg [.sym 76, .sym 77, .sym 78, .sym 86, .sym 87, .sym 88, .sym 6]], .lit (.bool true)),
  ([0, 12, 30], [.sym 46, .lit (.int .i64 0)], .lit (.bool (!b44))),
  ([0, 0, 3], [.sym 20, .lit (.int .i64 0)], .sym 103),
  ([0, 0, 3], [.sym 33, .lit (.int .i64 1)], .sym 104),
  ([0, 1, 3], [.sym 104, .lit (.int .i64 0)], .sym 105),
  ([0, 1, 3], [.sym 48, .lit (.int .i64 1)], .sym 106),
  ([0, 16, 3], [.sym 103, .lit (.int .i64 0)], .lit (.bool true)),
  ([0, 14, 3], [.sym 103, .sym 106], .lit (.bool true)),
  ([0, 1, 3], [.sym 49, .lit (.int .i64 1)], .sym 107),
  ([0, 16, 3], [.sym 105, .lit (.int .i64 0)], .lit (.bool true)),
  ([0, 14, 3], [.sym 105, .sym 107], .lit (.bool true)),
  ([0, 2, 3], [.lit (.int .i64 2), .sym 103], .sym 108),
  ([0, 1, 3], [.sym 108, .sym 48], .sym 109),
  ([0, 2, 3], [.lit (.int .i64 2), .sym 105], .sym 110),
  ([0, 1, 3], [.sym 49, .sym 110], .sym 111),
  ([0, 1, 3], [.sym 111, .lit (.int .i64 2)], .sym 112),
  ([0, 12, 26], [.agg [.sym 25, .sym 26, .sym 27, .sym 39, .sym 40, .sym 41, .sym 47], .agg [.sym 25, .sym 26, .sym 27, .sym 39, .sym 40, .sym 41, .sym 47]], .lit (.bool false)),
  ([0, 0, 3], [.sym 20, .lit (.int .i64 1)], .sym 113),
  ([0, 16, 3], [.sym 113, .lit (.int .i64 0)], .lit (.bool true)),
  ([0, 14, 3], [.sym 113, .sym 106], .lit (.bool true)),
  ([0, 2, 3], [.lit (.int .i64 2), .sym 113], .sym 114),
  ([0, 1, 3], [.sym 114, .sym 48], .sym 115),
  ([0, 12, 26], [.agg [.sym 29, .sym 30, .sym 31, .sym 39, .sym 40, .sym 41, .sym 47], .agg [.sym 29, .sym 30, .sym 31, .sym 39, .sym 40, .sym 41, .sym 47]], .lit (.bool false)),
  ([0, 1, 3], [.sym 104, .lit (.int .i64 1)], .sym 119),
  ([0, 16, 3], [.sym 119, .lit (.int .i64 0)], .lit (.bool true)),
  ([0, 14, 3], [.sym 119, .sym 107], .lit (.bool true)),
  ([0, 2, 3], [.lit (.int .i64 2), .sym 119], .sym 120),
  ([0, 1, 3], [.sym 49, .sym 120], .sym 121),
  ([0, 1, 3], [.sym 121, .lit (.int .i64 2)], .sym 122),
  ([0, 12, 26], [.agg [.sym 25, .sym 26, .sym 27, .sym 43, .sym 44, .sym 45, .sym 47], .agg [.sym 25, .sym 26, .sym 27, .sym 43, .sym 44, .sym 45, .sym 47]], .lit (.bool false)),
  ([0, 12, 26], [.agg [.sym 29, .sym 30, .sym 31, .sym 43, .sym 44, .sym 45, .sym 47], .agg [.sym 29, .sym 30, .sym 31, .sym 43, .sym 44, .sym 45, .sym 47]], .lit (.bool false))],
  [(13, [], .lit (.bool true)),
  (25, [.agg [.sym 0, .sym 1, .sym 2, .sym 3, .sym 4, .sym 5]], .lit (.int .i64 0)),
  (50, [.lit (.int .i64 1), .sym 6], .agg [.sym 15, .sym 16, .sym 17]),
  (50, [.sym 21, .sym 6], .agg [.sym 22, .sym 23, .sym 24]),
  (20, [.agg [.sym 0, .sym 1, .sym 2], .agg [.sym 22, .sym 23, .sym 24]], .tup [.agg [.sym 25, .sym 26, .sym 27], .sym 28]),
  (30, [.agg [.sym 25, .sym 26, .sym 27]], .lit (.int .i64 0)),
  (20, [.agg [.sym 25, .sym 26, .sym 27], .agg [.sym 15, .sym 16, .sym 17]], .tup [.agg [.sym 29, .sym 30, .sym 31], .sym 32]),
  (50, [.sym 35, .sym 6], .agg [.sym 36, .sym 37, .sym 38]),
  (20, [.agg [.sym 3, .sym 4, .sym 5], .agg [.sym 36, .sym 37, .sym 38]], .tup [.agg [.sym 39, .sym 40, .sym 41], .sym 42]),
  (30, [.agg [.sym 39, .sym 40, .sym 41]], .lit (.int .i64 0)),
  (20, [.agg [.sym 39, .sym 40, .sym 41], .agg [.sym 15, .sym 16, .sym 17]], .tup [.agg [.sym 43, .sym 44, .sym 45], .sym 46]),
  (50, [.sym 53, .sym 6], .agg [.sym 54, .sym 55, .sym 56]),
  (20, [.agg [.sym 0, .sym 1, .sym 2], .agg [.sym 54, .sym 55, .sym 56]], .tup [.agg [.sym 57, .sym 58, .sym 59], .sym 60]),
  (50, [.sym 61, .sym 6], .agg [.sym 62, .sym 63, .sym 64]),
  (20, [.agg [.sym 3, .sym 4, .sym 5], .agg [.sym 62, .sym 63, .sym 64]], .tup [.agg [.sym 65, .sym 66, .sym 67], .sym 68]),
  (25, [.agg [.sym 57, .sym 58, .sym 59, .sym 65, .sym 66, .sym 67]], .lit (.int .i64 0)),
  (50, [.sym 72, .sym 6], .agg [.sym 73, .sym 74, .sym 75]),
  (20, [.agg [.sym 57, .sym 58, .sym 59], .agg [.sym 73, .sym 74, .sym 75]], .tup [.agg [.sym 76, .sym 77, .sym 78], .sym 79]),
  (50, [.sym 82, .sym 6], .agg [.sym 83, .sym 84, .sym 85]),
  (20, [.agg [.sym 65, .sym 66, .sym 67], .agg [.sym 83, .sym 84, .sym 85]], .tup [.agg [.sym 86, .sym 87, .sym 88], .sym 89]),
  (50, [.sym 93, .sym 6], .agg [.sym 94, .sym 95, .sym 96]),
  (20, [.agg [.sym 0, .sym 1, .sym 2], .agg [.sym 94, .sym 95, .sym 96]], .tup [.agg [.sym 76, .sym 77, .sym 78], .sym 79]),
  (50, [.sym 99, .sym 6], .agg [.sym 100, .sym 101, .sym 102]),
  (20, [.agg [.sym 3, .sym 4, .sym 5], .agg [.sym 100, .sym 101, .sym 102]], .tup [.agg [.sym 86, .sym 87, .sym 88], .sym 89]),
  (50, [.sym 109, .sym 47], .agg [.sym 22, .sym 23, .sym 24]),
  (50, [.sym 112, .sym 47], .agg [.sym 36, .sym 37, .sym 38]),
  (50, [.sym 115, .sym 47], .agg [.sym 116, .sym 117, .sym 118]),
  (20, [.agg [.sym 0, .sym 1, .sym 2], .agg [.sym 116, .sym 117, .sym 118]], .tup [.agg [.sym 29, .sym 30, .sym 31], .sym 32]),
  (50, [.sym 122, .sym 47], .agg [.sym 123, .sym 124, .sym 125]),
  (20, [.agg [.sym 3, .sym 4, .sym 5], .agg [.sym 123, .sym 124, .sym 125]], .tup [.agg [.sym 43, .sym 44, .sym 45], .sym 46])]⟩
theorem Zm_C3E_r1 : @comes (Zm_C3E_k true true true false true true true true) Tryz.prog glT 3000 Zm_C3E_f Zm_C3E_a = some (.lit (.bool true)) := by kernel_rfl
theorem Zm_C3E_r2 : @comes (Zm_C3E_k true true true false true true false true) Tryz.prog glT 3000 Zm_C3E_f Zm_C3E_a = some (.lit (.bool true)) := by kernel_rfl
theorem Zm_C3E_r3 (b43 : Bool) : @comes (Zm_C3E_k true true true false true false b43 true) Tryz.prog glT 3000 Zm_C3E_f Zm_C3E_a = some (.lit (.bool true)) := by kernel_rfl
theorem Zm_C3E_r4 : @comes (Zm_C3E_k true true true false true true true false) Tryz.prog glT 3000 Zm_C3E_f Zm_C3E_a = some (.lit (.bool true)) := by kernel_rfl
theorem Zm_C3E_r5 : @comes (Zm_C3E_k true true true false true true false false) Tryz.prog glT 3000 Zm_C3E_f Zm_C3E_a = some (.lit (.bool true)) := by kernel_rfl
theorem Zm_C3E_r6 (b43 : Bool) : @comes (Zm_C3E_k true true true false true false b43 false) Tryz.prog glT 3000 Zm_C3E_f Zm_C3E_a = some (.lit (.bool true)) := by kernel_rfl
theorem Zm_C3E_r7 (b44 : Bool) : @comes (Zm_C3E_k true true true false false true true b44) Tryz.prog glT 3000 Zm_C3E_f Zm_C3E_a = some (.lit (.bool true)) := by kernel_rfl
theorem Zm_C3E_r8 (b44 : Bool) : @comes (Zm_C3E_k true true true false false true false b44) Tryz.prog glT 3000 Zm_C3E_f Zm_C3E_a = some (.lit (.bool true)) := by kernel_rfl
theorem Zm_C3E_r9 (b43 b44 : Bool) : @comes (Zm_C3E_k true true true false false false b43 b44) Tryz.prog glT 3000 Zm_C3E_f Zm_C3E_a = some (.lit (.bool true)) := by kernel_rfl
theorem Zm_C3E_r10 (b19 b20 b44 : Bool) : @comes (Zm_C3E_k true true false b19 b20 true true b44) Tryz.prog glT 3000 Zm_C3E_f Zm_C3E_a = some (.lit (.bool true)) := by kernel_rfl
theorem Zm_C3E_r11 (b19 b20 b44 : Bool) : @comes (Zm_C3E_k true true false b19 b20 true false b44) Tryz.prog glT 3000 Zm_C3E_f Zm_C3E_a = some (.lit (.bool true)) := by kernel_rfl
theorem Zm_C3E_r12 (b19 b20 b43 b44 : Bool) : @comes (Zm_C3E_k true true false b19 b20 false b43 b44) Tryz.prog glT 3000 Zm_C3E_f Zm_C3E_a = some (.lit (.bool true)) := by kernel_rfl
theorem Zm_C3E_r13 (b18 b19 b20 b44 : Bool) : @comes (Zm_C3E_k true false b18 b19 b20 true true b44) Tryz.prog glT 3000 Zm_C3E_f Zm_C3E_a = some (.lit (.bool true)) := by kernel_rfl
theorem Zm_C3E_r14 (b18 b19 b20 b44 : Bool) : @comes (Zm_C3E_k true false b18 b19 b20 true false b44) Tryz.prog glT 3000 Zm_C3E_f Zm_C3E_a = some (.lit (.bool true)) := by kernel_rfl
theorem Zm_C3E_r15 (b18 b19 b20 b43 b44 : Bool) : @comes (Zm_C3E_k true false b18 b19 b20 false b43 b44) Tryz.prog glT 3000 Zm_C3E_f Zm_C3E_a = some (.lit (.bool true)) := by kernel_rfl
theorem Zm_C3E_r16 (b16 b18 b19 b20 b44 : Bool) : @comes (Zm_C3E_k false b16 b18 b19 b20 true true b44) Tryz.prog glT 3000 Zm_C3E_f Zm_C3E_a = some (.lit (.bool true)) := by kernel_rfl
theorem Zm_C3E_r17 (b16 b18 b19 b20 b44 : Bool) : @comes (Zm_C3E_k false b16 b18 b19 b20 true false b44) Tryz.prog glT 3000 Zm_C3E_f Zm_C3E_a = some (.lit (.bool true)) := by kernel_rfl
theorem Zm_C3E_r18 (b16 b18 b19 b20 b43 b44 : Bool) : @comes (Zm_C3E_k false b16 b18 b19 b20 false b43 b44) Tryz.prog glT 3000 Zm_C3E_f Zm_C3E_a = some (.lit (.bool true)) := by kernel_rfl

set_option maxRecDepth 100000 in
set_option maxHeartbeats 4000000 in
theorem Zm_C3E (p q : Dy) (y a b c r s t u z : Int) (w : World) (hp : p.Ok) (hq : q.Ok) (e1 : -4096 ≤ y) (e2 : y ≤ 4096) (a1 : 1 ≤ a) (a2 : a ≤ 65536) (b1 : 1 ≤ b) (b2 : b ≤ 65536) (c1 : 0 ≤ c) (c2 : c ≤ a - 1) (r1 : 0 ≤ r) (r2 : r ≤ b - 1) (hx : addE p (hz ((2 * c) - a) (y - 1)) = 0) (hy0 : addE q (hz ((b - (2 * r)) - 2) (y - 1)) = 0) (s1 : 1 ≤ s) (s2 : s ≤ a - c) (t1 : 1 ≤ t) (t2 : t ≤ b - r) (u1 : 0 ≤ u) (u2 : u < s) (v1 : 0 ≤ z) (v2 : z < t) (hsp : ¬ (s, t) = (a, b)) (cx : addE p (hz (((2 * c) + s) - a) (y - 1)) = 0) (cy : addE q (hz ((b - (2 * r)) - t) (y - 1)) = 0) (hG : Globs glT w) : Calls Tryz.prog 5 #[.agg #[.bool p.g, .string (natS p.n), .int .i64 p.x, .bool q.g, .string (natS q.n), .int .i64 q.x, .int .i64 y, .int .i64 a, .int .i64 b], .int .i64 c, .int .i64 r, .int .i64 s, .int .i64 t, .int .i64 u, .int .i64 z] w fun e w' => e = .returned (.bool true) ∧ Below w.heap.size w w' := by
  have h1 : y ≥ -4096 := (by omega)
  have i1 : true = true ↔ (y ≥ -4096) := ⟨fun _ => h1, fun _ => rfl⟩
  have h2 : y ≤ 4096 := (by omega)
  have i2 : true = true ↔ (y ≤ 4096) := ⟨fun _ => h2, fun _ => rfl⟩
  have h3 : a ≥ 1 := (by omega)
  have i3 : true = true ↔ (a ≥ 1) := ⟨fun _ => h3, fun _ => rfl⟩
  have h4 : a ≤ 65536 := (by omega)
  have i4 : true = true ↔ (a ≤ 65536) := ⟨fun _ => h4, fun _ => rfl⟩
  have h5 : b ≥ 1 := (by omega)
  have i5 : true = true ↔ (b ≥ 1) := ⟨fun _ => h5, fun _ => rfl⟩
  have h6 : b ≤ 65536 := (by omega)
  have i6 : true = true ↔ (b ≤ 65536) := ⟨fun _ => h6, fun _ => rfl⟩
  have h7 : c ≥ 0 := (by omega)
  have i7 : true = true ↔ (c ≥ 0) := ⟨fun _ => h7, fun _ => rfl⟩
  have h8 : c ≤ a - 1 := (by omega)
  have i8 : true = true ↔ (c ≤ a - 1) := ⟨fun _ => h8, fun _ => rfl⟩
  have h9 : r ≥ 0 := (by omega)
  have i9 : true = true ↔ (r ≥ 0) := ⟨fun _ => h9, fun _ => rfl⟩
  have h10 : r ≤ b - 1 := (by omega)
  have i10 : true = true ↔ (r ≤ b - 1) := ⟨fun _ => h10, fun _ => rfl⟩
  have h11 : addE p (hz ((2 * c) - a) (y - 1)) = 0 := hx
  have i11 : true = true ↔ (addE p (hz ((2 * c) - a) (y - 1)) = 0) := ⟨fun _ => h11, fun _ => rfl⟩
  have h12 : addE q (hz ((b - (2 * r)) - 2) (y - 1)) = 0 := hy0
  have i12 : true = true ↔ (addE q (hz ((b - (2 * r)) - 2) (y - 1)) = 0) := ⟨fun _ => h12, fun _ => rfl⟩
  obtain ⟨b13, i13⟩ := bex (y - 1 ≥ -4096)
  have h14 : y - 1 ≤ 4096 := (by omega)
  have i14 : true = true ↔ (y - 1 ≤ 4096) := ⟨fun _ => h14, fun _ => rfl⟩
  have h15 : 2 * a ≥ 1 := (by omega)
  have i15 : true = true ↔ (2 * a ≥ 1) := ⟨fun _ => h15, fun _ => rfl⟩
  obtain ⟨b16, i16⟩ := bex (2 * a ≤ 65536)
  have h17 : 2 * b ≥ 1 := (by omega)
  have i17 : true = true ↔ (2 * b ≥ 1) := ⟨fun _ => h17, fun _ => rfl⟩
  obtain ⟨b18, i18⟩ := bex (2 * b ≤ 65536)
  obtain ⟨b19, i19⟩ := bex (y = -4096)
  obtain ⟨b20, i20⟩ := bex (addE (addD p (hz ((2 * c) - a) (y - 1))) (hz 1 (y - 1)) = 0)
  have h21 : s ≥ 1 := (by omega)
  have i21 : true = true ↔ (s ≥ 1) := ⟨fun _ => h21, fun _ => rfl⟩
  have h22 : s ≤ a - c := (by omega)
  have i22 : true = true ↔ (s ≤ a - c) := ⟨fun _ => h22, fun _ => rfl⟩
  have h23 : t ≥ 1 := (by omega)
  have i23 : true = true ↔ (t ≥ 1) := ⟨fun _ => h23, fun _ => rfl⟩
  have h24 : t ≤ b - r := (by omega)
  have i24 : true = true ↔ (t ≤ b - r) := ⟨fun _ => h24, fun _ => rfl⟩
  have h25 : ¬ ((s, t) = (a, b)) := hsp
  have i25 : false = true ↔ ((s, t) = (a, b)) := ⟨fun k => absurd k Bool.false_ne_true, fun k => absurd k h25⟩
  have h26 : addE p (hz (((2 * c) + s) - a) (y - 1)) = 0 := cx
  have i26 : true = true ↔ (addE p (hz (((2 * c) + s) - a) (y - 1)) = 0) := ⟨fun _ => h26, fun _ => rfl⟩
  have h27 : addE q (hz ((b - (2 * r)) - t) (y - 1)) = 0 := cy
  have i27 : true = true ↔ (addE q (hz ((b - (2 * r)) - t) (y - 1)) = 0) := ⟨fun _ => h27, fun _ => rfl⟩
  have h28 : ¬ (u < 0) := (by omega)
  have i28 : false = true ↔ (u < 0) := ⟨fun k => absurd k Bool.false_ne_true, fun k => absurd k h28⟩
  have h29 : ¬ (z < 0) := (by omega)
  have i29 : false = true ↔ (z < 0) := ⟨fun k => absurd k Bool.false_ne_true, fun k => absurd k h29⟩
  have h30 : ¬ (u ≥ s) := (by omega)
  have i30 : false = true ↔ (u ≥ s) := ⟨fun k => absurd k Bool.false_ne_true, fun k => absurd k h30⟩
  have h31 : ¬ (z ≥ t) := (by omega)
  have i31 : false = true ↔ (z ≥ t) := ⟨fun k => absurd k Bool.false_ne_true, fun k => absurd k h31⟩
  have h32 : s ≤ 65536 := (by omega)
  have i32 : true = true ↔ (s ≤ 65536) := ⟨fun _ => h32, fun _ => rfl⟩
  have h33 : t ≤ 65536 := (by omega)
  have i33 : true = true ↔ (t ≤ 65536) := ⟨fun _ => h33, fun _ => rfl⟩
  have h34 : u ≥ 0 := (by omega)
  have i34 : true = true ↔ (u ≥ 0) := ⟨fun _ => h34, fun _ => rfl⟩
  have h35 : u ≤ s - 1 := (by omega)
  have i35 : true = true ↔ (u ≤ s - 1) := ⟨fun _ => h35, fun _ => rfl⟩
  have h36 : z ≥ 0 := (by omega)
  have i36 : true = true ↔ (z ≥ 0) := ⟨fun _ => h36, fun _ => rfl⟩
  have h37 : z ≤ t - 1 := (by omega)
  have i37 : true = true ↔ (z ≤ t - 1) := ⟨fun _ => h37, fun _ => rfl⟩
  obtain ⟨b38, i38⟩ := bex (addE (addD p (hz (((2 * c) + s) - a) (y - 1))) (hz ((2 * u) - s) (y - 1)) = 0)
  have h39 : c + u ≥ 0 := (by omega)
  have i39 : true = true ↔ (c + u ≥ 0) := ⟨fun _ => h39, fun _ => rfl⟩
  have h40 : c + u ≤ a - 1 := (by omega)
  have i40 : true = true ↔ (c + u ≤ a - 1) := ⟨fun _ => h40, fun _ => rfl⟩
  have h41 : r + z ≥ 0 := (by omega)
  have i41 : true = true ↔ (r + z ≥ 0) := ⟨fun _ => h41, fun _ => rfl⟩
  have h42 : r + z ≤ b - 1 := (by omega)
  have i42 : true = true ↔ (r + z ≤ b - 1) := ⟨fun _ => h42, fun _ => rfl⟩
  obtain ⟨b43, i43⟩ := bex (addE (addD q (hz ((b - (2 * r)) - t) (y - 1))) (hz ((t - (2 * z)) - 2) (y - 1)) = 0)
  obtain ⟨b44, i44⟩ := bex (addE (addD q (hz ((b - (2 * r)) - 2) (y - 1))) (hz 1 (y - 1)) = 0)
  have h45 : (2 * c) + 0 ≥ 0 := (by omega)
  have i45 : true = true ↔ ((2 * c) + 0 ≥ 0) := ⟨fun _ => h45, fun _ => rfl⟩
  have h46 : (2 * c) + 0 ≤ (2 * a) - 1 := (by omega)
  have i46 : true = true ↔ ((2 * c) + 0 ≤ (2 * a) - 1) := ⟨fun _ => h46, fun _ => rfl⟩
  have h47 : ((2 * r) + 1) - 0 ≥ 0 := (by omega)
  have i47 : true = true ↔ (((2 * r) + 1) - 0 ≥ 0) := ⟨fun _ => h47, fun _ => rfl⟩
  have h48 : ((2 * r) + 1) - 0 ≤ (2 * b) - 1 := (by omega)
  have i48 : true = true ↔ (((2 * r) + 1) - 0 ≤ (2 * b) - 1) := ⟨fun _ => h48, fun _ => rfl⟩
  have h49 : (2 * c) + 1 ≥ 0 := (by omega)
  have i49 : true = true ↔ ((2 * c) + 1 ≥ 0) := ⟨fun _ => h49, fun _ => rfl⟩
  have h50 : (2 * c) + 1 ≤ (2 * a) - 1 := (by omega)
  have i50 : true = true ↔ ((2 * c) + 1 ≤ (2 * a) - 1) := ⟨fun _ => h50, fun _ => rfl⟩
  have h51 : ((2 * r) + 1) - 1 ≥ 0 := (by omega)
  have i51 : true = true ↔ (((2 * r) + 1) - 1 ≥ 0) := ⟨fun _ => h51, fun _ => rfl⟩
  have h52 : ((2 * r) + 1) - 1 ≤ (2 * b) - 1 := (by omega)
  have i52 : true = true ↔ (((2 * r) + 1) - 1 ≤ (2 * b) - 1) := ⟨fun _ => h52, fun _ => rfl⟩
  letI : Env := mkEnv glT [.bool p.g, .string (natS p.n), .int .i64 p.x, .bool q.g, .string (natS q.n), .int .i64 q.x, .int .i64 y, .int .i64 a, .int .i64 b, .int .i64 c, .int .i64 r, .int .i64 s, .int .i64 t, .int .i64 u, .int .i64 z, .bool (hz 1 (y - 1)).g, .string (natS (hz 1 (y - 1)).n), .int .i64 (hz 1 (y - 1)).x, .int .i64 (a - 1), .int .i64 (b - 1), .int .i64 (2 * c), .int .i64 ((2 * c) - a), .bool (hz ((2 * c) - a) (y - 1)).g, .string (natS (hz ((2 * c) - a) (y - 1)).n), .int .i64 (hz ((2 * c) - a) (y - 1)).x, .bool (addD p (hz ((2 * c) - a) (y - 1))).g, .string (natS (addD p (hz ((2 * c) - a) (y - 1))).n), .int .i64 (addD p (hz ((2 * c) - a) (y - 1))).x, .int .i64 (addE p (hz ((2 * c) - a) (y - 1))), .bool (addD (addD p (hz ((2 * c) - a) (y - 1))) (hz 1 (y - 1))).g, .string (natS (addD (addD p (hz ((2 * c) - a) (y - 1))) (hz 1 (y - 1))).n), .int .i64 (addD (addD p (hz ((2 * c) - a) (y - 1))) (hz 1 (y - 1))).x, .int .i64 (addE (addD p (hz ((2 * c) - a) (y - 1))) (hz 1 (y - 1))), .int .i64 (2 * r), .int .i64 (b - (2 * r)), .int .i64 ((b - (2 * r)) - 2), .bool (hz ((b - (2 * r)) - 2) (y - 1)).g, .string (natS (hz ((b - (2 * r)) - 2) (y - 1)).n), .int .i64 (hz ((b - (2 * r)) - 2) (y - 1)).x, .bool (addD q (hz ((b - (2 * r)) - 2) (y - 1))).g, .string (natS (addD q (hz ((b - (2 * r)) - 2) (y - 1))).n), .int .i64 (addD q (hz ((b - (2 * r)) - 2) (y - 1))).x, .int .i64 (addE q (hz ((b - (2 * r)) - 2) (y - 1))), .bool (addD (addD q (hz ((b - (2 * r)) - 2) (y - 1))) (hz 1 (y - 1))).g, .string (natS (addD (addD q (hz ((b - (2 * r)) - 2) (y - 1))) (hz 1 (y - 1))).n), .int .i64 (addD (addD q (hz ((b - (2 * r)) - 2) (y - 1))) (hz 1 (y - 1))).x, .int .i64 (addE (addD q (hz ((b - (2 * r)) - 2) (y - 1))) (hz 1 (y - 1))), .int .i64 (y - 1), .int .i64 (2 * a), .int .i64 (2 * b), .int .i64 (a - c), .int .i64 (b - r), .int .i64 ((2 * c) + s), .int .i64 (((2 * c) + s) - a), .bool (hz (((2 * c) + s) - a) (y - 1)).g, .string (natS (hz (((2 * c) + s) - a) (y - 1)).n), .int .i64 (hz (((2 * c) + s) - a) (y - 1)).x, .bool (addD p (hz (((2 * c) + s) - a) (y - 1))).g, .string (natS (addD p (hz (((2 * c) + s) - a) (y - 1))).n), .int .i64 (addD p (hz (((2 * c) + s) - a) (y - 1))).x, .int .i64 (addE p (hz (((2 * c) + s) - a) (y - 1))), .int .i64 ((b - (2 * r)) - t), .bool (hz ((b - (2 * r)) - t) (y - 1)).g, .string (natS (hz ((b - (2 * r)) - t) (y - 1)).n), .int .i64 (hz ((b - (2 * r)) - t) (y - 1)).x, .bool (addD q (hz ((b - (2 * r)) - t) (y - 1))).g, .string (natS (addD q (hz ((b - (2 * r)) - t) (y - 1))).n), .int .i64 (addD q (hz ((b - (2 * r)) - t) (y - 1))).x, .int .i64 (addE q (hz ((b - (2 * r)) - t) (y - 1))), .int .i64 (s - 1), .int .i64 (t - 1), .int .i64 (2 * u), .int .i64 ((2 * u) - s), .bool (hz ((2 * u) - s) (y - 1)).g, .string (natS (hz ((2 * u) - s) (y - 1)).n), .int .i64 (hz ((2 * u) - s) (y - 1)).x, .bool (addD (addD p (hz (((2 * c) + s) - a) (y - 1))) (hz ((2 * u) - s) (y - 1))).g, .string (natS (addD (addD p (hz (((2 * c) + s) - a) (y - 1))) (hz ((2 * u) - s) (y - 1))).n), .int .i64 (addD (addD p (hz (((2 * c) + s) - a) (y - 1))) (hz ((2 * u) - s) (y - 1))).x, .int .i64 (addE (addD p (hz (((2 * c) + s) - a) (y - 1))) (hz ((2 * u) - s) (y - 1))), .int .i64 (2 * z), .int .i64 (t - (2 * z)), .int .i64 ((t - (2 * z)) - 2), .bool (hz ((t - (2 * z)) - 2) (y - 1)).g, .string (natS (hz ((t - (2 * z)) - 2) (y - 1)).n), .int .i64 (hz ((t - (2 * z)) - 2) (y - 1)).x, .bool (addD (addD q (hz ((b - (2 * r)) - t) (y - 1))) (hz ((t - (2 * z)) - 2) (y - 1))).g, .string (natS (addD (addD q (hz ((b - (2 * r)) - t) (y - 1))) (hz ((t - (2 * z)) - 2) (y - 1))).n), .int .i64 (addD (addD q (hz ((b - (2 * r)) - t) (y - 1))) (hz ((t - (2 * z)) - 2) (y - 1))).x, .int .i64 (addE (addD q (hz ((b - (2 * r)) - t) (y - 1))) (hz ((t - (2 * z)) - 2) (y - 1))), .int .i64 (c + u), .int .i64 (r + z), .int .i64 (2 * (c + u)), .int .i64 ((2 * (c + u)) - a), .bool (hz ((2 * (c + u)) - a) (y - 1)).g, .string (natS (hz ((2 * (c + u)) - a) (y - 1)).n), .int .i64 (hz ((2 * (c + u)) - a) (y - 1)).x, .int .i64 (2 * (r + z)), .int .i64 (b - (2 * (r + z))), .int .i64 ((b - (2 * (r + z))) - 2), .bool (hz ((b - (2 * (r + z))) - 2) (y - 1)).g, .string (natS (hz ((b - (2 * (r + z))) - 2) (y - 1)).n), .int .i64 (hz ((b - (2 * (r + z))) - 2) (y - 1)).x, .int .i64 ((2 * c) + 0), .int .i64 ((2 * r) + 1), .int .i64 (((2 * r) + 1) - 0), .int .i64 ((2 * a) - 1), .int .i64 ((2 * b) - 1), .int .i64 (2 * ((2 * c) + 0)), .int .i64 ((2 * ((2 * c) + 0)) - (2 * a)), .int .i64 (2 * (((2 * r) + 1) - 0)), .int .i64 ((2 * b) - (2 * (((2 * r) + 1) - 0))), .int .i64 (((2 * b) - (2 * (((2 * r) + 1) - 0))) - 2), .int .i64 ((2 * c) + 1), .int .i64 (2 * ((2 * c) + 1)), .int .i64 ((2 * ((2 * c) + 1)) - (2 * a)), .bool (hz (1 - a + 2 * c) (y - 1)).g, .string (natS (hz (1 - a + 2 * c) (y - 1)).n), .int .i64 (hz (1 - a + 2 * c) (y - 1)).x, .int .i64 (((2 * r) + 1) - 1), .int .i64 (2 * (((2 * r) + 1) - 1)), .int .i64 ((2 * b) - (2 * (((2 * r) + 1) - 1))), .int .i64 (((2 * b) - (2 * (((2 * r) + 1) - 1))) - 2), .bool (hz (0 - 1 + b - 2 * r) (y - 1)).g, .string (natS (hz (0 - 1 + b - 2 * r) (y - 1)).n), .int .i64 (hz (0 - 1 + b - 2 * r) (y - 1)).x] rfl
  have hops : OpsT Tryz.prog (@Know.ops (Zm_C3E_k b13 b16 b18 b19 b20 b38 b43 b44)) := ⟨opt_geq_i rfl rfl i1,
    opt_leq_i rfl rfl i2,
    opt_geq_i rfl rfl i3,
    opt_leq_i rfl rfl i4,
    opt_geq_i rfl rfl i5,
    opt_leq_i rfl rfl i6,
    vopt_sub rfl rfl rfl rfl (by omega) ⟨by omega, by omega⟩,
    opt_geq_i rfl rfl i7,
    opt_leq_i rfl rfl i8,
    vopt_sub rfl rfl rfl rfl (by omega) ⟨by omega, by omega⟩,
    opt_geq_i rfl rfl i9,
    opt_leq_i rfl rfl i10,
    vopt_mul rfl rfl rfl rfl (by omega) ⟨by omega, by omega⟩,
    vopt_sub rfl rfl rfl rfl (by omega) ⟨by omega, by omega⟩,
    vopt_mul rfl rfl rfl rfl (by omega) ⟨by omega, by omega⟩,
    vopt_sub rfl rfl rfl rfl (by omega) ⟨by omega, by omega⟩,
    vopt_sub rfl rfl rfl rfl (by omega) ⟨by omega, by omega⟩,
    opt_neq_i rfl rfl i11,
    opt_neq_i rfl rfl i12,
    vopt_sub rfl rfl rfl rfl (by omega) ⟨by omega, by omega⟩,
    vopt_shl rfl rfl rfl rfl (by omega) ⟨by omega, by omega⟩,
    vopt_shl rfl rfl rfl rfl (by omega) ⟨by omega, by omega⟩,
    opt_geq_i rfl rfl i13,
    opt_leq_i rfl rfl i14,
    opt_geq_i rfl rfl i15,
    opt_leq_i rfl rfl i16,
    opt_geq_i rfl rfl i17,
    opt_leq_i rfl rfl i18,
    opt_eql_i rfl rfl i19,
    opt_neq_i rfl rfl i20,
    vopt_sub rfl rfl rfl rfl (by omega) ⟨by omega, by omega⟩,
    opt_geq_i rfl rfl i21,
    opt_leq_i rfl rfl i22,
    vopt_sub rfl rfl rfl rfl (by omega) ⟨by omega, by omega⟩,
    opt_geq_i rfl rfl i23,
    opt_leq_i rfl rfl i24,
    optI2_eql_i rfl rfl i25,
    vopt_add rfl rfl rfl rfl (by omega) ⟨by omega, by omega⟩,
    vopt_sub rfl rfl rfl rfl (by omega) ⟨by omega, by omega⟩,
    vopt_sub rfl rfl rfl rfl (by omega) ⟨by omega, by omega⟩,
    opt_neq_i rfl rfl i26,
    opt_neq_i rfl rfl i27,
    opt_lss_i rfl rfl i28,
    opt_lss_i rfl rfl i29,
    opt_geq_i rfl rfl i30,
    opt_geq_i rfl rfl i31,
    opt_leq_i rfl rfl i32,
    opt_leq_i rfl rfl i33,
    vopt_sub rfl rfl rfl rfl (by omega) ⟨by omega, by omega⟩,
    opt_geq_i rfl rfl i34,
    opt_leq_i rfl rfl i35,
    vopt_sub rfl rfl rfl rfl (by omega) ⟨by omega, by omega⟩,
    opt_geq_i rfl rfl i36,
    opt_leq_i rfl rfl i37,
    vopt_mul rfl rfl rfl rfl (by omega) ⟨by omega, by omega⟩,
    vopt_sub rfl rfl rfl rfl (by omega) ⟨by omega, by omega⟩,
    vopt_mul rfl rfl rfl rfl (by omega) ⟨by omega, by omega⟩,
    vopt_sub rfl rfl rfl rfl (by omega) ⟨by omega, by omega⟩,
    vopt_sub rfl rfl rfl rfl (by omega) ⟨by omega, by omega⟩,
    opt_neq_i rfl rfl i38,
    vopt_add rfl rfl rfl rfl (by omega) ⟨by omega, by omega⟩,
    vopt_add rfl rfl rfl rfl (by omega) ⟨by omega, by omega⟩,
    opt_geq_i rfl rfl i39,
    opt_leq_i rfl rfl i40,
    opt_geq_i rfl rfl i41,
    opt_leq_i rfl rfl i42,
    vopt_mul rfl rfl rfl rfl (by omega) ⟨by omega, by omega⟩,
    vopt_sub rfl rfl rfl rfl (by omega) ⟨by omega, by omega⟩,
    vopt_mul rfl rfl rfl rfl (by omega) ⟨by omega, by omega⟩,
    vopt_sub rfl rfl rfl rfl (by omega) ⟨by omega, by omega⟩,
    vopt_sub rfl rfl rfl rfl (by omega) ⟨by omega, by omega⟩,
    opt_neq_i rfl rfl i43,
    opt_self_eql fun p q w => selfe_7 p q w,
    opt_neq_i rfl rfl i44,
    vopt_add rfl rfl rfl rfl (by omega) ⟨by omega, by omega⟩,
    vopt_add rfl rfl rfl rfl (by omega) ⟨by omega, by omega⟩,
    vopt_sub rfl rfl rfl rfl (by omega) ⟨by omega, by omega⟩,
    vopt_sub rfl rfl rfl rfl (by omega) ⟨by omega, by omega⟩,
    opt_geq_i rfl rfl i45,
    opt_leq_i rfl rfl i46,
    vopt_sub rfl rfl rfl rfl (by omega) ⟨by omega, by omega⟩,
    opt_geq_i rfl rfl i47,
    opt_leq_i rfl rfl i48,
    vopt_mul rfl rfl rfl rfl (by omega) ⟨by omega, by omega⟩,
    vopt_sub rfl rfl rfl rfl (by omega) ⟨by omega, by omega⟩,
    vopt_mul rfl rfl rfl rfl (by omega) ⟨by omega, by omega⟩,
    vopt_sub rfl rfl rfl rfl (by omega) ⟨by omega, by omega⟩,
    vopt_sub rfl rfl rfl rfl (by omega) ⟨by omega, by omega⟩,
    opt_self_neq fun p q w => self_7 p q w,
    vopt_add rfl rfl rfl rfl (by omega) ⟨by omega, by omega⟩,
    opt_geq_i rfl rfl i49,
    opt_leq_i rfl rfl i50,
    vopt_mul rfl rfl rfl rfl (by omega) ⟨by omega, by omega⟩,
    vopt_sub rfl rfl rfl rfl (by omega) ⟨by omega, by omega⟩,
    opt_self_neq fun p q w => self_7 p q w,
    vopt_sub rfl rfl rfl rfl (by omega) ⟨by omega, by omega⟩,
    opt_geq_i rfl rfl i51,
    opt_leq_i rfl rfl i52,
    vopt_mul rfl rfl rfl rfl (by omega) ⟨by omega, by omega⟩,
    vopt_sub rfl rfl rfl rfl (by omega) ⟨by omega, by omega⟩,
    vopt_sub rfl rfl rfl rfl (by omega) ⟨by omega, by omega⟩,
    opt_self_neq fun p q w => self_7 p q w,
    opt_self_neq fun p q w => self_7 p q w,
    trivial⟩
  have hcalls : CallsT Tryz.prog (@Know.calls (Zm_C3E_k b13 b16 b18 b19 b20 b38 b43 b44)) := ⟨callt rfl rfl fun w hG => awake24_c w hG,
    callt rfl rfl fun w hG => GCheck_gs ⟨p, q⟩ ⟨hp, hq⟩ w hG,
    callt rfl rfl fun w hG => halves_z 1 y w ⟨by omega, by omega⟩ ⟨by omega, by omega⟩ hG,
    callt rfl rfl fun w hG => halves_z ((2 * c) - a) y w ⟨by omega, by omega⟩ ⟨by omega, by omega⟩ hG,
    callt rfl rfl fun w hG => DAdd_c p (hz ((2 * c) - a) (y - 1)) w hp (hz_Ok _ _) hG,
    callt rfl rfl fun w hG => DCheck_dy (addD p (hz ((2 * c) - a) (y - 1))) (add_Ok hp (hz_Ok _ _)) w,
    callt rfl rfl fun w hG => DAdd_c (addD p (hz ((2 * c) - a) (y - 1))) (hz 1 (y - 1)) w (add_Ok hp (hz_Ok _ _)) (hz_Ok _ _) hG,
    callt rfl rfl fun w hG => halves_z ((b - (2 * r)) - 2) y w ⟨by omega, by omega⟩ ⟨by omega, by omega⟩ hG,
    callt rfl rfl fun w hG => DAdd_c q (hz ((b - (2 * r)) - 2) (y - 1)) w hq (hz_Ok _ _) hG,
    callt rfl rfl fun w hG => DCheck_dy (addD q (hz ((b - (2 * r)) - 2) (y - 1))) (add_Ok hq (hz_Ok _ _)) w,
    callt rfl rfl fun w hG => DAdd_c (addD q (hz ((b - (2 * r)) - 2) (y - 1))) (hz 1 (y - 1)) w (add_Ok hq (hz_Ok _ _)) (hz_Ok _ _) hG,
    callt rfl rfl fun w hG => halves_z (((2 * c) + s) - a) y w ⟨by omega, by omega⟩ ⟨by omega, by omega⟩ hG,
    callt rfl rfl fun w hG => DAdd_c p (hz (((2 * c) + s) - a) (y - 1)) w hp (hz_Ok _ _) hG,
    callt rfl rfl fun w hG => halves_z ((b - (2 * r)) - t) y w ⟨by omega, by omega⟩ ⟨by omega, by omega⟩ hG,
    callt rfl rfl fun w hG => DAdd_c q (hz ((b - (2 * r)) - t) (y - 1)) w hq (hz_Ok _ _) hG,
    callt rfl rfl fun w hG => GCheck_gs ⟨addD p (hz (((2 * c) + s) - a) (y - 1)), addD q (hz ((b - (2 * r)) - t) (y - 1))⟩ ⟨(add_Ok hp (hz_Ok _ _)), (add_Ok hq (hz_Ok _ _))⟩ w hG,
    callt rfl rfl fun w hG => halves_z ((2 * u) - s) y w ⟨by omega, by omega⟩ ⟨by omega, by omega⟩ hG,
    callt rfl rfl fun w hG => DAdd_c (addD p (hz (((2 * c) + s) - a) (y - 1))) (hz ((2 * u) - s) (y - 1)) w (add_Ok hp (hz_Ok _ _)) (hz_Ok _ _) hG,
    callt rfl rfl fun w hG => halves_z ((t - (2 * z)) - 2) y w ⟨by omega, by omega⟩ ⟨by omega, by omega⟩ hG,
    callt rfl rfl fun w hG => DAdd_c (addD q (hz ((b - (2 * r)) - t) (y - 1))) (hz ((t - (2 * z)) - 2) (y - 1)) w (add_Ok hq (hz_Ok _ _)) (hz_Ok _ _) hG,
    callt rfl rfl fun w hG => halves_z ((2 * (c + u)) - a) y w ⟨by omega, by omega⟩ ⟨by omega, by omega⟩ hG,
    callt rfl rfl fun w hG => DAdd_canon hp (hz_Ok _ _) (show addD p (hz ((2 * (c + u)) - a) (y - 1)) = addD (addD p (hz (((2 * c) + s) - a) (y - 1))) (hz ((2 * u) - s) (y - 1)) ∧ addE p (hz ((2 * (c + u)) - a) (y - 1)) = addE (addD p (hz (((2 * c) + s) - a) (y - 1))) (hz ((2 * u) - s) (y - 1)) from add_hz hp ⟨by omega, by omega⟩ ⟨by omega, by omega⟩ ⟨by omega, by omega⟩ (by omega) cx) w hG,
    callt rfl rfl fun w hG => halves_z ((b - (2 * (r + z))) - 2) y w ⟨by omega, by omega⟩ ⟨by omega, by omega⟩ hG,
    callt rfl rfl fun w hG => DAdd_canon hq (hz_Ok _ _) (show addD q (hz ((b - (2 * (r + z))) - 2) (y - 1)) = addD (addD q (hz ((b - (2 * r)) - t) (y - 1))) (hz ((t - (2 * z)) - 2) (y - 1)) ∧ addE q (hz ((b - (2 * (r + z))) - 2) (y - 1)) = addE (addD q (hz ((b - (2 * r)) - t) (y - 1))) (hz ((t - (2 * z)) - 2) (y - 1)) from add_hz hq ⟨by omega, by omega⟩ ⟨by omega, by omega⟩ ⟨by omega, by omega⟩ (by omega) cy) w hG,
    callt rfl rfl fun w hG => (by have h := halves_z ((2 * ((2 * c) + 0)) - (2 * a)) (y - 1) w ⟨by omega, by omega⟩ ⟨by omega, by omega⟩ hG; rw [((show hz ((2 * ((2 * c) + 0)) - (2 * a)) ((y - 1) - 1) = hz ((2 * ((2 * c) + 0)) - (2 * a)) ((y - 1) - 1) from by rw [show (y - 1) - 1 = (y - 1) - 1 from by omega]).trans (hz_two (by omega) ⟨by omega, by omega⟩ ⟨by omega, by omega⟩) : hz ((2 * ((2 * c) + 0)) - (2 * a)) ((y - 1) - 1) = hz ((2 * c) - a) (y - 1))] at h; exact h),
    callt rfl rfl fun w hG => (by have h := halves_z (((2 * b) - (2 * (((2 * r) + 1) - 0))) - 2) (y - 1) w ⟨by omega, by omega⟩ ⟨by omega, by omega⟩ hG; rw [((show hz (((2 * b) - (2 * (((2 * r) + 1) - 0))) - 2) ((y - 1) - 1) = hz (((2 * b) - (2 * (((2 * r) + 1) - 0))) - 2) ((y - 1) - 1) from by rw [show (y - 1) - 1 = (y - 1) - 1 from by omega]).trans (hz_two (by omega) ⟨by omega, by omega⟩ ⟨by omega, by omega⟩) : hz (((2 * b) - (2 * (((2 * r) + 1) - 0))) - 2) ((y - 1) - 1) = hz ((b - (2 * r)) - 2) (y - 1))] at h; exact h),
    callt rfl rfl fun w hG => (by have h := halves_z ((2 * ((2 * c) + 1)) - (2 * a)) (y - 1) w ⟨by omega, by omega⟩ ⟨by omega, by omega⟩ hG; rw [((show hz ((2 * ((2 * c) + 1)) - (2 * a)) ((y - 1) - 1) = hz ((2 * ((2 * c) + 1)) - (2 * a)) ((y - 1) - 1) from by rw [show (y - 1) - 1 = (y - 1) - 1 from by omega]).trans (hz_two (by omega) ⟨by omega, by omega⟩ ⟨by omega, by omega⟩) : hz ((2 * ((2 * c) + 1)) - (2 * a)) ((y - 1) - 1) = hz (1 - a + 2 * c) (y - 1))] at h; exact h),
    callt rfl rfl fun w hG => DAdd_canon hp (hz_Ok _ _) (show addD p (hz (1 - a + 2 * c) (y - 1)) = addD (addD p (hz ((2 * c) - a) (y - 1))) (hz 1 (y - 1)) ∧ addE p (hz (1 - a + 2 * c) (y - 1)) = addE (addD p (hz ((2 * c) - a) (y - 1))) (hz 1 (y - 1)) from add_hz hp ⟨by omega, by omega⟩ ⟨by omega, by omega⟩ ⟨by omega, by omega⟩ (by omega) hx) w hG,
    callt rfl rfl fun w hG => (by have h := halves_z (((2 * b) - (2 * (((2 * r) + 1) - 1))) - 2) (y - 1) w ⟨by omega, by omega⟩ ⟨by omega, by omega⟩ hG; rw [((show hz (((2 * b) - (2 * (((2 * r) + 1) - 1))) - 2) ((y - 1) - 1) = hz (((2 * b) - (2 * (((2 * r) + 1) - 1))) - 2) ((y - 1) - 1) from by rw [show (y - 1) - 1 = (y - 1) - 1 from by omega]).trans (hz_two (by omega) ⟨by omega, by omega⟩ ⟨by omega, by omega⟩) : hz (((2 * b) - (2 * (((2 * r) + 1) - 1))) - 2) ((y - 1) - 1) = hz (0 - 1 + b - 2 * r) (y - 1))] at h; exact h),
    callt rfl rfl fun w hG => DAdd_canon hq (hz_Ok _ _) (show addD q (hz (0 - 1 + b - 2 * r) (y - 1)) = addD (addD q (hz ((b - (2 * r)) - 2) (y - 1))) (hz 1 (y - 1)) ∧ addE q (hz (0 - 1 + b - 2 * r) (y - 1)) = addE (addD q (hz ((b - (2 * r)) - 2) (y - 1))) (hz 1 (y - 1)) from add_hz hq ⟨by omega, by omega⟩ ⟨by omega, by omega⟩ ⟨by omega, by omega⟩ (by omega) hy0) w hG,
    trivial⟩
  have fin : ∀ v, @comes (Zm_C3E_k b13 b16 b18 b19 b20 b38 b43 b44) Tryz.prog glT 3000 Zm_C3E_f Zm_C3E_a = some v → ground v = true → Ending.returned (gval v) = .returned (.bool true) → Calls Tryz.prog 5 #[.agg #[.bool p.g, .string (natS p.n), .int .i64 p.x, .bool q.g, .string (natS q.n), .int .i64 q.x, .int .i64 y, .int .i64 a, .int .i64 b], .int .i64 c, .int .i64 r, .int .i64 s, .int .i64 t, .int .i64 u, .int .i64 z] w fun e w' => e = .returned (.bool true) ∧ Below w.heap.size w w' := fun v h1 h2 h3 => (@sym_ok _ (Zm_C3E_k b13 b16 b18 b19 b20 b38 b43 b44) _ (@KnowOk.of _ (Zm_C3E_k b13 b16 b18 b19 b20 b38 b43 b44) _ hops hcalls) (by kernel_rfl) _ _ _ _ h1 rfl h2 _ hG).mono fun e w' h => ⟨h.1.trans h3, h.2⟩
  clear hops hcalls
  cases b13 with
  | true =>
    have h13 : y - 1 ≥ -4096 := i13.1 rfl
    cases b16 with
    | true =>
      have h16 : 2 * a ≤ 65536 := i16.1 rfl
      cases b18 with
      | true =>
        have h18 : 2 * b ≤ 65536 := i18.1 rfl
        cases b19 with
        | true =>
          exact absurd (i19.1 rfl) ((by omega))
        | false =>
          have h19 : ¬ (y = -4096) := fun c => Bool.false_ne_true (i19.2 c)
          cases b20 with
          | true =>
            have h20 : addE (addD p (hz ((2 * c) - a) (y - 1))) (hz 1 (y - 1)) = 0 := i20.1 rfl
            cases b44 with
            | true =>
              have h44 : addE (addD q (hz ((b - (2 * r)) - 2) (y - 1))) (hz 1 (y - 1)) = 0 := i44.1 rfl
              cases b38 with
              | true =>
                have h38 : addE (addD p (hz (((2 * c) + s) - a) (y - 1))) (hz ((2 * u) - s) (y - 1)) = 0 := i38.1 rfl
                cases b43 with
                | true =>
                  have h43 : addE (addD q (hz ((b - (2 * r)) - t) (y - 1))) (hz ((t - (2 * z)) - 2) (y - 1)) = 0 := i43.1 rfl
                  exact fin _ (Zm_C3E_r1) rfl rfl
                | false =>
                  have h43 : ¬ (addE (addD q (hz ((b - (2 * r)) - t) (y - 1))) (hz ((t - (2 * z)) - 2) (y - 1)) = 0) := fun c => Bool.false_ne_true (i43.2 c)
                  exact fin _ (Zm_C3E_r2) rfl rfl
              | false =>
                have h38 : ¬ (addE (addD p (hz (((2 * c) + s) - a) (y - 1))) (hz ((2 * u) - s) (y - 1)) = 0) := fun c => Bool.false_ne_true (i38.2 c)
                exact fin _ (Zm_C3E_r3 b43) rfl rfl
            | false =>
              have h44 : ¬ (addE (addD q (hz ((b - (2 * r)) - 2) (y - 1))) (hz 1 (y - 1)) = 0) := fun c => Bool.false_ne_true (i44.2 c)
              cases b38 with
              | true =>
                have h38 : addE (addD p (hz (((2 * c) + s) - a) (y - 1))) (hz ((2 * u) - s) (y - 1)) = 0 := i38.1 rfl
                cases b43 with
                | true =>
                  have h43 : addE (addD q (hz ((b - (2 * r)) - t) (y - 1))) (hz ((t - (2 * z)) - 2) (y - 1)) = 0 := i43.1 rfl
                  exact fin _ (Zm_C3E_r4) rfl rfl
                | false =>
                  have h43 : ¬ (addE (addD q (hz ((b - (2 * r)) - t) (y - 1))) (hz ((t - (2 * z)) - 2) (y - 1)) = 0) := fun c => Bool.false_ne_true (i43.2 c)
                  exact fin _ (Zm_C3E_r5) rfl rfl
              | false =>
                have h38 : ¬ (addE (addD p (hz (((2 * c) + s) - a) (y - 1))) (hz ((2 * u) - s) (y - 1)) = 0) := fun c => Bool.false_ne_true (i38.2 c)
                exact fin _ (Zm_C3E_r6 b43) rfl rfl
          | false =>
            have h20 : ¬ (addE (addD p (hz ((2 * c) - a) (y - 1))) (hz 1 (y - 1)) = 0) := fun c => Bool.false_ne_true (i20.2 c)
            cases b38 with
            | true =>
              have h38 : addE (addD p (hz (((2 * c) + s) - a) (y - 1))) (hz ((2 * u) - s) (y - 1)) = 0 := i38.1 rfl
              cases b43 with
              | true =>
                have h43 : addE (addD q (hz ((b - (2 * r)) - t) (y - 1))) (hz ((t - (2 * z)) - 2) (y - 1)) = 0 := i43.1 rfl
                exact fin _ (Zm_C3E_r7 b44) rfl rfl
              | false =>
                have h43 : ¬ (addE (addD q (hz ((b - (2 * r)) - t) (y - 1))) (hz ((t - (2 * z)) - 2) (y - 1)) = 0) := fun c => Bool.false_ne_true (i43.2 c)
                exact fin _ (Zm_C3E_r8 b44) rfl rfl
            | false =>
              have h38 : ¬ (addE (addD p (hz (((2 * c) + s) - a) (y - 1))) (hz ((2 * u) - s) (y - 1)) = 0) := fun c => Bool.false_ne_true (i38.2 c)
              exact fin _ (Zm_C3E_r9 b43 b44) rfl rfl
      | false =>
        have h18 : ¬ (2 * b ≤ 65536) := fun c => Bool.false_ne_true (i18.2 c)
        cases b38 with
        | true =>
          have h38 : addE (addD p (hz (((2 * c) + s) - a) (y - 1))) (hz ((2 * u) - s) (y - 1)) = 0 := i38.1 rfl
          cases b43 with
          | true =>
            have h43 : addE (addD q (hz ((b - (2 * r)) - t) (y - 1))) (hz ((t - (2 * z)) - 2) (y - 1)) = 0 := i43.1 rfl
            exact fin _ (Zm_C3E_r10 b19 b20 b44) rfl rfl
          | false =>
            have h43 : ¬ (addE (addD q (hz ((b - (2 * r)) - t) (y - 1))) (hz ((t - (2 * z)) - 2) (y - 1)) = 0) := fun c => Bool.false_ne_true (i43.2 c)
            exact fin _ (Zm_C3E_r11 b19 b20 b44) rfl rfl
        | false =>
          have h38 : ¬ (addE (addD p (hz (((2 * c) + s) - a) (y - 1))) (hz ((2 * u) - s) (y - 1)) = 0) := fun c => Bool.false_ne_true (i38.2 c)
          exact fin _ (Zm_C3E_r12 b19 b20 b43 b44) rfl rfl
    | false =>
      have h16 : ¬ (2 * a ≤ 65536) := fun c => Bool.false_ne_true (i16.2 c)
      cases b38 with
      | true =>
        have h38 : addE (addD p (hz (((2 * c) + s) - a) (y - 1))) (hz ((2 * u) - s) (y - 1)) = 0 := i38.1 rfl
        cases b43 with
        | true =>
          have h43 : addE (addD q (hz ((b - (2 * r)) - t) (y - 1))) (hz ((t - (2 * z)) - 2) (y - 1)) = 0 := i43.1 rfl
          exact fin _ (Zm_C3E_r13 b18 b19 b20 b44) rfl rfl
        | false =>
          have h43 : ¬ (addE (addD q (hz ((b - (2 * r)) - t) (y - 1))) (hz ((t - (2 * z)) - 2) (y - 1)) = 0) := fun c => Bool.false_ne_true (i43.2 c)
          exact fin _ (Zm_C3E_r14 b18 b19 b20 b44) rfl rfl
      | false =>
        have h38 : ¬ (addE (addD p (hz (((2 * c) + s) - a) (y - 1))) (hz ((2 * u) - s) (y - 1)) = 0) := fun c => Bool.false_ne_true (i38.2 c)
        exact fin _ (Zm_C3E_r15 b18 b19 b20 b43 b44) rfl rfl
  | false =>
    have h13 : ¬ (y - 1 ≥ -4096) := fun c => Bool.false_ne_true (i13.2 c)
    cases b38 with
    | true =>
      have h38 : addE (addD p (hz (((2 * c) + s) - a) (y - 1))) (hz ((2 * u) - s) (y - 1)) = 0 := i38.1 rfl
      cases b43 with
      | true =>
        have h43 : addE (addD q (hz ((b - (2 * r)) - t) (y - 1))) (hz ((t - (2 * z)) - 2) (y - 1)) = 0 := i43.1 rfl
        exact fin _ (Zm_C3E_r16 b16 b18 b19 b20 b44) rfl rfl
      | false =>
        have h43 : ¬ (addE (addD q (hz ((b - (2 * r)) - t) (y - 1))) (hz ((t - (2 * z)) - 2) (y - 1)) = 0) := fun c => Bool.false_ne_true (i43.2 c)
        exact fin _ (Zm_C3E_r17 b16 b18 b19 b20 b44) rfl rfl
    | false =>
      have h38 : ¬ (addE (addD p (hz (((2 * c) + s) - a) (y - 1))) (hz ((2 * u) - s) (y - 1)) = 0) := fun c => Bool.false_ne_true (i38.2 c)
      exact fin _ (Zm_C3E_r18 b16 b18 b19 b20 b43 b44) rfl rfl

@[reducible] def Zm_C4E_f : FuncId := 5
@[reducible] def Zm_C4E_a : List AV := [.agg [.sym 0, .sym 1, .sym 2, .sym 3, .sym 4, .sym 5, .sym 6, .sym 7, .sym 8], .lit (.int .i64 0), .lit (.int .i64 0), .sym 9, .sym 10, .sym 11, .sym 12]
@[reducible] noncomputable def Zm_C4E_k (b11 b14 b16 b17 b18 b29 b34 b35 : Bool) : Know := ⟨[([0, 16, 3], [.sym 6, .lit (.int .i64 (-4096))], .lit (.bool true)),
  ([0, 14, 3], [.sym 6, .lit (.int .i64 4096)], .lit (.bool true)),
  ([0, 16, 3], [.sym 7, .lit (.int .i64 1)], .lit (.bool true)),
  ([0, 14, 3], [.sym 7, .lit (.int .i64 65536)], .lit (.bool true)),
  ([0, 16, 3], [.sym 8, .lit (.int .i64 1)], .lit (.bool true)),
  ([0, 14, 3], [.sym 8, .lit (.int .i64 65536)], .lit (.bool true)),
  ([0, 1, 3], [.sym 7, .lit (.int .i64 1)], .sym 16),
  ([0, 14, 3], [.lit (.int .i64 0), .sym 16], .lit (.bool true)),
  ([0, 1, 3], [.sym 8, .lit (.int .i64 1)], .sym 17),
  ([0, 14, 3], [.lit (.int .i64 0), .sym 17], .lit (.bool true)),
  ([0, 1, 3], [.lit (.int .i64 0), .sym 7], .sym 18),
  ([0, 1, 3], [.sym 8, .lit (.int .i64 0)], .sym 30),
  ([0, 1, 3], [.sym 30, .lit (.int .i64 2)], .sym 31),
  ([0, 12, 30], [.sym 25, .lit (.int .i64 0)], .lit (.bool false)),
  ([0, 12, 30], [.sym 38, .lit (.int .i64 0)], .lit (.bool false)),
  ([0, 1, 3], [.sym 6, .lit (.int .i64 1)], .sym 43),
  ([0, 8, 3], [.sym 7, .lit (.int .i64 1)], .sym 44),
  ([0, 8, 3], [.sym 8, .lit (.int .i64 1)], .sym 45),
  ([0, 16, 3], [.sym 43, .lit (.int .i64 (-4096))], .lit (.bool b11)),
  ([0, 14, 3], [.sym 43, .lit (.int .i64 4096)], .lit (.bool true)),
  ([0, 16, 3], [.sym 44, .lit (.int .i64 1)], .lit (.bool true)),
  ([0, 14, 3], [.sym 44, .lit (.int .i64 65536)], .lit (.bool b14)),
  ([0, 16, 3], [.sym 45, .lit (.int .i64 1)], .lit (.bool true)),
  ([0, 14, 3], [.sym 45, .lit (.int .i64 65536)], .lit (.bool b16)),
  ([0, 11, 3], [.sym 6, .lit (.int .i64 (-4096))], .lit (.bool b17)),
  ([0, 12, 30], [.sym 29, .lit (.int .i64 0)], .lit (.bool (!b18))),
  ([0, 1, 3], [.sym 7, .lit (.int .i64 0)], .sym 46),
  ([0, 16, 3], [.sym 9, .lit (.int .i64 1)], .lit (.bool true)),
  ([0, 14, 3], [.sym 9, .sym 46], .lit (.bool true)),
  ([0, 16, 3], [.sym 10, .lit (.int .i64 1)], .lit (.bool true)),
  ([0, 14, 3], [.sym 10, .sym 30], .lit (.bool true)),
  ([0, 11, 100], [.agg [.sym 9, .sym 10], .agg [.sym 7, .sym 8]], .lit (.bool true)),
  ([0, 13, 3], [.sym 11, .lit (.int .i64 0)], .lit (.bool false)),
  ([0, 13, 3], [.sym 12, .lit (.int .i64 0)], .lit (.bool false)),
  ([0, 16, 3], [.sym 11, .sym 9], .lit (.bool false)),
  ([0, 16, 3], [.sym 12, .sym 10], .lit (.bool false)),
  ([0, 16, 3], [.sym 11, .lit (.int .i64 0)], .lit (.bool true)),
  ([0, 14, 3], [.sym 11, .sym 16], .lit (.bool true)),
  ([0, 16, 3], [.sym 12, .lit (.int .i64 0)], .lit (.bool true)),
  ([0, 14, 3], [.sym 12, .sym 17], .lit (.bool true)),
  ([0, 2, 3], [.lit (.int .i64 2), .sym 11], .sym 47),
  ([0, 1, 3], [.sym 47, .sym 7], .sym 48),
  ([0, 2, 3], [.lit (.int .i64 2), .sym 12], .sym 56),
  ([0, 1, 3], [.sym 8, .sym 56], .sym 57),
  ([0, 1, 3], [.sym 57, .lit (.int .i64 2)], .sym 58),
  ([0, 12, 30], [.sym 55, .lit (.int .i64 0)], .lit (.bool (!b29))),
  ([0, 0, 3], [.lit (.int .i64 0), .sym 11], .sym 66),
  ([0, 0, 3], [.lit (.int .i64 0), .sym 12], .sym 67),
  ([0, 16, 3], [.sym 66, .lit (.int .i64 0)], .lit (.bool true)),
  ([0, 14, 3], [.sym 66, .sym 16], .lit (.bool true)),
  ([0, 16, 3], [.sym 67, .lit (.int .i64 0)], .lit (.bool true)),
  ([0, 14, 3], [.sym 67, .sym 17], .lit (.bool true)),
  ([0, 2, 3], [.lit (.int .i64 2), .sym 66], .sym 68),
  ([0, 1, 3], [.sym 68, .sym 7], .sym 69),
  ([0, 2, 3], [.lit (.int .i64 2), .sym 67], .sym 70),
  ([0, 1, 3], [.sym 8, .sym 70], .sym 71),
  ([0, 1, 3], [.sym 71, .lit (.int .i64 2)], .sym 72),
  ([0, 12, 30], [.sym 65, .lit (.int .i64 0)], .lit (.bool (!b34))),
  ([0, 11, 26], [.agg [.sym 52, .sym 53, .sym 54, .sym 62, .sym 63, .sym 64, .sym 6], .agg [.sym 52, .sym 53, .sym 54, .sym 62, .sym 63, .sym 64, .sym 6]], .lit (.bool true)),
  ([0, 12, 30], [.sym 42, .lit (.int .i64 0)], .lit (.bool (!b35))),
  ([0, 1, 3], [.sym 44, .lit (.int .i64 1)], .sym 73),
  ([0, 14, 3], [.lit (.int .i64 0), .sym 73], .lit (.bool true)),
  ([0, 1, 3], [.sym 45, .lit (.int .i64 1)], .sym 74),
  ([0, 14, 3], [.lit (.int .i64 1), .sym 74], .lit (.bool true)),
  ([0, 1, 3], [.lit (.int .i64 0), .sym 44], .sym 75),
  ([0, 1, 3], [.sym 45, .lit (.int .i64 2)], .sym 76),
  ([0, 1, 3], [.sym 76, .lit (.int .i64 2)], .sym 77),
  ([0, 12, 26], [.agg [.sym 22, .sym 23, .sym 24, .sym 35, .sym 36, .sym 37, .sym 43], .agg [.sym 22, .sym 23, .sym 24, .sym 35, .sym 36, .sym 37, .sym 43]], .lit (.bool false)),
  ([0, 14, 3], [.lit (.int .i64 1), .sym 73], .lit (.bool true)),
  ([0, 1, 3], [.lit (.int .i64 2), .sym 44], .sym 78),
  ([0, 12, 26], [.agg [.sym 26, .sym 27, .sym 28, .sym 35, .sym 36, .sym 37, .sym 43], .agg [.sym 26, .sym 27, .sym 28, .sym 35, .sym 36, .sym 37, .sym 43]], .lit (.bool false)),
  ([0, 14, 3], [.lit (.int .i64 0), .sym 74], .lit (.bool true)),
  ([0, 1, 3], [.sym 45, .lit (.int .i64 0)], .sym 82),
  ([0, 1, 3], [.sym 82, .lit (.int .i64 2)], .sym 83),
  ([0, 12, 26], [.agg [.sym 22, .sym 23, .sym 24, .sym 39, .sym 40, .sym 41, .sym 43], .agg [.sym 22, .sym 23, .sym 24, .sym 39, .sym 40, .sym 41, .sym 43]], .lit (.bool false)),
  ([0, 12, 26], [.agg [.sym 26, .sym 27, .sym 28, .sym 39, .sym 40, .sym 41, .sym 43], .agg [.sym 26, .sym 27, .sym 28, .sym 39, .sym 40, .sym 41, .sym 43]], .lit (.bool false))],
  [(13, [], .lit (.bool true)),
  (25, [.agg [.sym 0, .sym 1, .sym 2, .sym 3, .sym 4, .sym 5]], .lit (.int .i64 0)),
  (50, [.lit (.int .i64 1), .sym 6], .agg [.sym 13, .sym 14, .sym 15]),
  (50, [.sym 18, .sym 6], .agg [.sym 19, .sym 20, .sym 21]),
  (20, [.agg [.sym 0, .sym 1, .sym 2], .agg [.sym 19, .sym 20, .sym 21]], .tup [.agg [.sym 22, .sym 23, .sym 24], .sym 25]),
  (30, [.agg [.sym 22, .sym 23, .sym 24]], .lit (.int .i64 0)),
  (20, [.agg [.sym 22, .sym 23, .sym 24], .agg [.sym 13, .sym 14, .sym 15]], .tup [.agg [.sym 26, .sym 27, .sym 28], .sym 29]),
  (50, [.sym 31, .sym 6], .agg [.sym 32, .sym 33, .sym 34]),
  (20, [.agg [.sym 3, .sym 4, .sym 5], .agg [.sym 32, .sym 33, .sym 34]], .tup [.agg [.sym 35, .sym 36, .sym 37], .sym 38]),
  (30, [.agg [.sym 35, .sym 36, .sym 37]], .lit (.int .i64 0)),
  (20, [.agg [.sym 35, .sym 36, .sym 37], .agg [.sym 13, .sym 14, .sym 15]], .tup [.agg [.sym 39, .sym 40, .sym 41], .sym 42]),
  (50, [.sym 48, .sym 6], .agg [.sym 49, .sym 50, .sym 51]),
  (20, [.agg [.sym 0, .sym 1, .sym 2], .agg [.sym 49, .sym 50, .sym 51]], .tup [.agg [.sym 52, .sym 53, .sym 54], .sym 55]),
  (50, [.sym 58, .sym 6], .agg [.sym 59, .sym 60, .sym 61]),
  (20, [.agg [.sym 3, .sym 4, .sym 5], .agg [.sym 59, .sym 60, .sym 61]], .tup [.agg [.sym 62, .sym 63, .sym 64], .sym 65]),
  (50, [.sym 69, .sym 6], .agg [.sym 49, .sym 50, .sym 51]),
  (50, [.sym 72, .sym 6], .agg [.sym 59, .sym 60, .sym 61]),
  (50, [.sym 75, .sym 43], .agg [.sym 19, .sym 20, .sym 21]),
  (50, [.sym 77, .sym 43], .agg [.sym 32, .sym 33, .sym 34]),
  (50, [.sym 78, .sym 43], .agg [.sym 79, .sym 80, .sym 81]),
  (20, [.agg [.sym 0, .sym 1, .sym 2], .agg [.sym 79, .sym 80, .sym 81]], .tup [.agg [.sym 26, .sym 27, .sym 28], .sym 29]),
  (50, [.sym 83, .sym 43], .agg [.sym 84, .sym 85, .sym 86]),
  (20, [.agg [.sym 3, .sym 4, .sym 5], .agg [.sym 84, .sym 85, .sym 86]], .tup [.agg [.sym 39, .sym 40, .sym 41], .sym 42])]⟩
theorem Zm_C4E_r1 : @comes (Zm_C4E_k true true true false true true true true) Tryz.prog glT 3000 Zm_C4E_f Zm_C4E_a = some (.lit (.bool true)) := by kernel_rfl
theorem Zm_C4E_r2 : @comes (Zm_C4E_k true true true false true true false true) Tryz.prog glT 3000 Zm_C4E_f Zm_C4E_a = some (.lit (.bool true)) := by kernel_rfl
theorem Zm_C4E_r3 (b34 : Bool) : @comes (Zm_C4E_k true true true false true false b34 true) Tryz.prog glT 3000 Zm_C4E_f Zm_C4E_a = some (.lit (.bool true)) := by kernel_rfl
theorem Zm_C4E_r4 : @comes (Zm_C4E_k true true true false true true true false) Tryz.prog glT 3000 Zm_C4E_f Zm_C4E_a = some (.lit (.bool true)) := by kernel_rfl
theorem Zm_C4E_r5 : @comes (Zm_C4E_k true true true false true true false false) Tryz.prog glT 3000 Zm_C4E_f Zm_C4E_a = some (.lit (.bool true)) := by kernel_rfl
theorem Zm_C4E_r6 (b34 : Bool) : @comes (Zm_C4E_k true true true false true false b34 false) Tryz.prog glT 3000 Zm_C4E_f Zm_C4E_a = some (.lit (.bool true)) := by kernel_rfl
theorem Zm_C4E_r7 (b35 : Bool) : @comes (Zm_C4E_k true true true false false true true b35) Tryz.prog glT 3000 Zm_C4E_f Zm_C4E_a = some (.lit (.bool true)) := by kernel_rfl
theorem Zm_C4E_r8 (b35 : Bool) : @comes (Zm_C4E_k true true true false false true false b35) Tryz.prog glT 3000 Zm_C4E_f Zm_C4E_a = some (.lit (.bool true)) := by kernel_rfl
theorem Zm_C4E_r9 (b34 b35 : Bool) : @comes (Zm_C4E_k true true true false false false b34 b35) Tryz.prog glT 3000 Zm_C4E_f Zm_C4E_a = some (.lit (.bool true)) := by kernel_rfl
theorem Zm_C4E_r10 (b17 b18 b35 : Bool) : @comes (Zm_C4E_k true true false b17 b18 true true b35) Tryz.prog glT 3000 Zm_C4E_f Zm_C4E_a = some (.lit (.bool true)) := by kernel_rfl
theorem Zm_C4E_r11 (b17 b18 b35 : Bool) : @comes (Zm_C4E_k true true false b17 b18 true false b35) Tryz.prog glT 3000 Zm_C4E_f Zm_C4E_a = some (.lit (.bool true)) := by kernel_rfl
theorem Zm_C4E_r12 (b17 b18 b34 b35 : Bool) : @comes (Zm_C4E_k true true false b17 b18 false b34 b35) Tryz.prog glT 3000 Zm_C4E_f Zm_C4E_a = some (.lit (.bool true)) := by kernel_rfl
theorem Zm_C4E_r13 (b16 b17 b18 b35 : Bool) : @comes (Zm_C4E_k true false b16 b17 b18 true true b35) Tryz.prog glT 3000 Zm_C4E_f Zm_C4E_a = some (.lit (.bool true)) := by kernel_rfl
theorem Zm_C4E_r14 (b16 b17 b18 b35 : Bool) : @comes (Zm_C4E_k true false b16 b17 b18 true false b35) Tryz.prog glT 3000 Zm_C4E_f Zm_C4E_a = some (.lit (.bool true)) := by kernel_rfl
theorem Zm_C4E_r15 (b16 b17 b18 b34 b35 : Bool) : @comes (Zm_C4E_k true false b16 b17 b18 false b34 b35) Tryz.prog glT 3000 Zm_C4E_f Zm_C4E_a = some (.lit (.bool true)) := by kernel_rfl
theorem Zm_C4E_r16 (b14 b16 b17 b18 b35 : Bool) : @comes (Zm_C4E_k false b14 b16 b17 b18 true true b35) Tryz.prog glT 3000 Zm_C4E_f Zm_C4E_a = some (.lit (.bool true)) := by kernel_rfl
theorem Zm_C4E_r17 (b14 b16 b17 b18 b35 : Bool) : @comes (Zm_C4E_k false b14 b16 b17 b18 true false b35) Tryz.prog glT 3000 Zm_C4E_f Zm_C4E_a = some (.lit (.bool true)) := by kernel_rfl
theorem Zm_C4E_r18 (b14 b16 b17 b18 b34 b35 : Bool) : @comes (Zm_C4E_k false b14 b16 b17 b18 false b34 b35) Tryz.prog glT 3000 Zm_C4E_f Zm_C4E_a = some (.lit (.bool true)) := by kernel_rfl

set_option maxRecDepth 100000 in
set_option maxHeartbeats 4000000 in
theorem Zm_C4E (p q : Dy) (y a b u z : Int) (w : World) (hp : p.Ok) (hq : q.Ok) (e1 : -4096 ≤ y) (e2 : y ≤ 4096) (a1 : 1 ≤ a) (a2 : a ≤ 65536) (b1 : 1 ≤ b) (b2 : b ≤ 65536) (hx : addE p (hz (0 - a) (y - 1)) = 0) (hy0 : addE q (hz ((b - 0) - 2) (y - 1)) = 0) (u1 : 0 ≤ u) (u2 : u < a) (v1 : 0 ≤ z) (v2 : z < b) (hG : Globs glT w) : Calls Tryz.prog 5 #[.agg #[.bool p.g, .string (natS p.n), .int .i64 p.x, .bool q.g, .string (natS q.n), .int .i64 q.x, .int .i64 y, .int .i64 a, .int .i64 b], .int .i64 0, .int .i64 0, .int .i64 a, .int .i64 b, .int .i64 u, .int .i64 z] w fun e w' => e = .returned (.bool true) ∧ Below w.heap.size w w' := by
  have h1 : y ≥ -4096 := (by omega)
  have i1 : true = true ↔ (y ≥ -4096) := ⟨fun _ => h1, fun _ => rfl⟩
  have h2 : y ≤ 4096 := (by omega)
  have i2 : true = true ↔ (y ≤ 4096) := ⟨fun _ => h2, fun _ => rfl⟩
  have h3 : a ≥ 1 := (by omega)
  have i3 : true = true ↔ (a ≥ 1) := ⟨fun _ => h3, fun _ => rfl⟩
  have h4 : a ≤ 65536 := (by omega)
  have i4 : true = true ↔ (a ≤ 65536) := ⟨fun _ => h4, fun _ => rfl⟩
  have h5 : b ≥ 1 := (by omega)
  have i5 : true = true ↔ (b ≥ 1) := ⟨fun _ => h5, fun _ => rfl⟩
  have h6 : b ≤ 65536 := (by omega)
  have i6 : true = true ↔ (b ≤ 65536) := ⟨fun _ => h6, fun _ => rfl⟩
  have h7 : 0 ≤ a - 1 := (by omega)
  have i7 : true = true ↔ (0 ≤ a - 1) := ⟨fun _ => h7, fun _ => rfl⟩
  have h8 : 0 ≤ b - 1 := (by omega)
  have i8 : true = true ↔ (0 ≤ b - 1) := ⟨fun _ => h8, fun _ => rfl⟩
  have h9 : addE p (hz (0 - a) (y - 1)) = 0 := hx
  have i9 : true = true ↔ (addE p (hz (0 - a) (y - 1)) = 0) := ⟨fun _ => h9, fun _ => rfl⟩
  have h10 : addE q (hz ((b - 0) - 2) (y - 1)) = 0 := hy0
  have i10 : true = true ↔ (addE q (hz ((b - 0) - 2) (y - 1)) = 0) := ⟨fun _ => h10, fun _ => rfl⟩
  obtain ⟨b11, i11⟩ := bex (y - 1 ≥ -4096)
  have h12 : y - 1 ≤ 4096 := (by omega)
  have i12 : true = true ↔ (y - 1 ≤ 4096) := ⟨fun _ => h12, fun _ => rfl⟩
  have h13 : 2 * a ≥ 1 := (by omega)
  have i13 : true = true ↔ (2 * a ≥ 1) := ⟨fun _ => h13, fun _ => rfl⟩
  obtain ⟨b14, i14⟩ := bex (2 * a ≤ 65536)
  have h15 : 2 * b ≥ 1 := (by omega)
  have i15 : true = true ↔ (2 * b ≥ 1) := ⟨fun _ => h15, fun _ => rfl⟩
  obtain ⟨b16, i16⟩ := bex (2 * b ≤ 65536)
  obtain ⟨b17, i17⟩ := bex (y = -4096)
  obtain ⟨b18, i18⟩ := bex (addE (addD p (hz (0 - a) (y - 1))) (hz 1 (y - 1)) = 0)
  have h19 : a ≤ a - 0 := (by omega)
  have i19 : true = true ↔ (a ≤ a - 0) := ⟨fun _ => h19, fun _ => rfl⟩
  have h20 : b ≤ b - 0 := (by omega)
  have i20 : true = true ↔ (b ≤ b - 0) := ⟨fun _ => h20, fun _ => rfl⟩
  have h21 : ¬ (u < 0) := (by omega)
  have i21 : false = true ↔ (u < 0) := ⟨fun k => absurd k Bool.false_ne_true, fun k => absurd k h21⟩
  have h22 : ¬ (z < 0) := (by omega)
  have i22 : false = true ↔ (z < 0) := ⟨fun k => absurd k Bool.false_ne_true, fun k => absurd k h22⟩
  have h23 : ¬ (u ≥ a) := (by omega)
  have i23 : false = true ↔ (u ≥ a) := ⟨fun k => absurd k Bool.false_ne_true, fun k => absurd k h23⟩
  have h24 : ¬ (z ≥ b) := (by omega)
  have i24 : false = true ↔ (z ≥ b) := ⟨fun k => absurd k Bool.false_ne_true, fun k => absurd k h24⟩
  have h25 : u ≥ 0 := (by omega)
  have i25 : true = true ↔ (u ≥ 0) := ⟨fun _ => h25, fun _ => rfl⟩
  have h26 : u ≤ a - 1 := (by omega)
  have i26 : true = true ↔ (u ≤ a - 1) := ⟨fun _ => h26, fun _ => rfl⟩
  have h27 : z ≥ 0 := (by omega)
  have i27 : true = true ↔ (z ≥ 0) := ⟨fun _ => h27, fun _ => rfl⟩
  have h28 : z ≤ b - 1 := (by omega)
  have i28 : true = true ↔ (z ≤ b - 1) := ⟨fun _ => h28, fun _ => rfl⟩
  obtain ⟨b29, i29⟩ := bex (addE p (hz ((2 * u) - a) (y - 1)) = 0)
  have h30 : 0 + u ≥ 0 := (by omega)
  have i30 : true = true ↔ (0 + u ≥ 0) := ⟨fun _ => h30, fun _ => rfl⟩
  have h31 : 0 + u ≤ a - 1 := (by omega)
  have i31 : true = true ↔ (0 + u ≤ a - 1) := ⟨fun _ => h31, fun _ => rfl⟩
  have h32 : 0 + z ≥ 0 := (by omega)
  have i32 : true = true ↔ (0 + z ≥ 0) := ⟨fun _ => h32, fun _ => rfl⟩
  have h33 : 0 + z ≤ b - 1 := (by omega)
  have i33 : true = true ↔ (0 + z ≤ b - 1) := ⟨fun _ => h33, fun _ => rfl⟩
  obtain ⟨b34, i34⟩ := bex (addE q (hz ((b - (2 * z)) - 2) (y - 1)) = 0)
  obtain ⟨b35, i35⟩ := bex (addE (addD q (hz ((b - 0) - 2) (y - 1))) (hz 1 (y - 1)) = 0)
  have h36 : 0 ≤ (2 * a) - 1 := (by omega)
  have i36 : true = true ↔ (0 ≤ (2 * a) - 1) := ⟨fun _ => h36, fun _ => rfl⟩
  have h37 : 1 ≤ (2 * b) - 1 := (by omega)
  have i37 : true = true ↔ (1 ≤ (2 * b) - 1) := ⟨fun _ => h37, fun _ => rfl⟩
  have h38 : 1 ≤ (2 * a) - 1 := (by omega)
  have i38 : true = true ↔ (1 ≤ (2 * a) - 1) := ⟨fun _ => h38, fun _ => rfl⟩
  have h39 : 0 ≤ (2 * b) - 1 := (by omega)
  have i39 : true = true ↔ (0 ≤ (2 * b) - 1) := ⟨fun _ => h39, fun _ => rfl⟩
  letI : Env := mkEnv glT [.bool p.g, .string (natS p.n), .int .i64 p.x, .bool q.g, .string (natS q.n), .int .i64 q.x, .int .i64 y, .int .i64 a, .int .i64 b, .int .i64 a, .int .i64 b, .int .i64 u, .int .i64 z, .bool (hz 1 (y - 1)).g, .string (natS (hz 1 (y - 1)).n), .int .i64 (hz 1 (y - 1)).x, .int .i64 (a - 1), .int .i64 (b - 1), .int .i64 (0 - a), .bool (hz (0 - a) (y - 1)).g, .string (natS (hz (0 - a) (y - 1)).n), .int .i64 (hz (0 - a) (y - 1)).x, .bool (addD p (hz (0 - a) (y - 1))).g, .string (natS (addD p (hz (0 - a) (y - 1))).n), .int .i64 (addD p (hz (0 - a) (y - 1))).x, .int .i64 (addE p (hz (0 - a) (y - 1))), .bool (addD (addD p (hz (0 - a) (y - 1))) (hz 1 (y - 1))).g, .string (natS (addD (addD p (hz (0 - a) (y - 1))) (hz 1 (y - 1))).n), .int .i64 (addD (addD p (hz (0 - a) (y - 1))) (hz 1 (y - 1))).x, .int .i64 (addE (addD p (hz (0 - a) (y - 1))) (hz 1 (y - 1))), .int .i64 (b - 0), .int .i64 ((b - 0) - 2), .bool (hz ((b - 0) - 2) (y - 1)).g, .string (natS (hz ((b - 0) - 2) (y - 1)).n), .int .i64 (hz ((b - 0) - 2) (y - 1)).x, .bool (addD q (hz ((b - 0) - 2) (y - 1))).g, .string (natS (addD q (hz ((b - 0) - 2) (y - 1))).n), .int .i64 (addD q (hz ((b - 0) - 2) (y - 1))).x, .int .i64 (addE q (hz ((b - 0) - 2) (y - 1))), .bool (addD (addD q (hz ((b - 0) - 2) (y - 1))) (hz 1 (y - 1))).g, .string (natS (addD (addD q (hz ((b - 0) - 2) (y - 1))) (hz 1 (y - 1))).n), .int .i64 (addD (addD q (hz ((b - 0) - 2) (y - 1))) (hz 1 (y - 1))).x, .int .i64 (addE (addD q (hz ((b - 0) - 2) (y - 1))) (hz 1 (y - 1))), .int .i64 (y - 1), .int .i64 (2 * a), .int .i64 (2 * b), .int .i64 (a - 0), .int .i64 (2 * u), .int .i64 ((2 * u) - a), .bool (hz ((2 * u) - a) (y - 1)).g, .string (natS (hz ((2 * u) - a) (y - 1)).n), .int .i64 (hz ((2 * u) - a) (y - 1)).x, .bool (addD p (hz ((2 * u) - a) (y - 1))).g, .string (natS (addD p (hz ((2 * u) - a) (y - 1))).n), .int .i64 (addD p (hz ((2 * u) - a) (y - 1))).x, .int .i64 (addE p (hz ((2 * u) - a) (y - 1))), .int .i64 (2 * z), .int .i64 (b - (2 * z)), .int .i64 ((b - (2 * z)) - 2), .bool (hz ((b - (2 * z)) - 2) (y - 1)).g, .string (natS (hz ((b - (2 * z)) - 2) (y - 1)).n), .int .i64 (hz ((b - (2 * z)) - 2) (y - 1)).x, .bool (addD q (hz ((b - (2 * z)) - 2) (y - 1))).g, .string (natS (addD q (hz ((b - (2 * z)) - 2) (y - 1))).n), .int .i64 (addD q (hz ((b - (2 * z)) - 2) (y - 1))).x, .int .i64 (addE q (hz ((b - (2 * z)) - 2) (y - 1))), .int .i64 (0 + u), .int .i64 (0 + z), .int .i64 (2 * (0 + u)), .int .i64 ((2 * (0 + u)) - a), .int .i64 (2 * (0 + z)), .int .i64 (b - (2 * (0 + z))), .int .i64 ((b - (2 * (0 + z))) - 2), .int .i64 ((2 * a) - 1), .int .i64 ((2 * b) - 1), .int .i64 (0 - (2 * a)), .int .i64 ((2 * b) - 2), .int .i64 (((2 * b) - 2) - 2), .int .i64 (2 - (2 * a)), .bool (hz (1 - a) (y - 1)).g, .string (natS (hz (1 - a) (y - 1)).n), .int .i64 (hz (1 - a) (y - 1)).x, .int .i64 ((2 * b) - 0), .int .i64 (((2 * b) - 0) - 2), .bool (hz (0 - 1 + b) (y - 1)).g, .string (natS (hz (0 - 1 + b) (y - 1)).n), .int .i64 (hz (0 - 1 + b) (y - 1)).x] rfl
  have hops : OpsT Tryz.prog (@Know.ops (Zm_C4E_k b11 b14 b16 b17 b18 b29 b34 b35)) := ⟨opt_geq_i rfl rfl i1,
    opt_leq_i rfl rfl i2,
    opt_geq_i rfl rfl i3,
    opt_leq_i rfl rfl i4,
    opt_geq_i rfl rfl i5,
    opt_leq_i rfl rfl i6,
    vopt_sub rfl rfl rfl rfl (by omega) ⟨by omega, by omega⟩,
    opt_leq_i rfl rfl i7,
    vopt_sub rfl rfl rfl rfl (by omega) ⟨by omega, by omega⟩,
    opt_leq_i rfl rfl i8,
    vopt_sub rfl rfl rfl rfl (by omega) ⟨by omega, by omega⟩,
    vopt_sub rfl rfl rfl rfl (by omega) ⟨by omega, by omega⟩,
    vopt_sub rfl rfl rfl rfl (by omega) ⟨by omega, by omega⟩,
    opt_neq_i rfl rfl i9,
    opt_neq_i rfl rfl i10,
    vopt_sub rfl rfl rfl rfl (by omega) ⟨by omega, by omega⟩,
    vopt_shl rfl rfl rfl rfl (by omega) ⟨by omega, by omega⟩,
    vopt_shl rfl rfl rfl rfl (by omega) ⟨by omega, by omega⟩,
    opt_geq_i rfl rfl i11,
    opt_leq_i rfl rfl i12,
    opt_geq_i rfl rfl i13,
    opt_leq_i rfl rfl i14,
    opt_geq_i rfl rfl i15,
    opt_leq_i rfl rfl i16,
    opt_eql_i rfl rfl i17,
    opt_neq_i rfl rfl i18,
    vopt_sub rfl rfl rfl rfl (by omega) ⟨by omega, by omega⟩,
    opt_geq_i rfl rfl i3,
    opt_leq_i rfl rfl i19,
    opt_geq_i rfl rfl i5,
    opt_leq_i rfl rfl i20,
    optI2_eql_i rfl rfl ⟨fun _ => rfl, fun _ => rfl⟩,
    opt_lss_i rfl rfl i21,
    opt_lss_i rfl rfl i22,
    opt_geq_i rfl rfl i23,
    opt_geq_i rfl rfl i24,
    opt_geq_i rfl rfl i25,
    opt_leq_i rfl rfl i26,
    opt_geq_i rfl rfl i27,
    opt_leq_i rfl rfl i28,
    vopt_mul rfl rfl rfl rfl (by omega) ⟨by omega, by omega⟩,
    vopt_sub rfl rfl rfl rfl (by omega) ⟨by omega, by omega⟩,
    vopt_mul rfl rfl rfl rfl (by omega) ⟨by omega, by omega⟩,
    vopt_sub rfl rfl rfl rfl (by omega) ⟨by omega, by omega⟩,
    vopt_sub rfl rfl rfl rfl (by omega) ⟨by omega, by omega⟩,
    opt_neq_i rfl rfl i29,
    vopt_add rfl rfl rfl rfl (by omega) ⟨by omega, by omega⟩,
    vopt_add rfl rfl rfl rfl (by omega) ⟨by omega, by omega⟩,
    opt_geq_i rfl rfl i30,
    opt_leq_i rfl rfl i31,
    opt_geq_i rfl rfl i32,
    opt_leq_i rfl rfl i33,
    vopt_mul rfl rfl rfl rfl (by omega) ⟨by omega, by omega⟩,
    vopt_sub rfl rfl rfl rfl (by omega) ⟨by omega, by omega⟩,
    vopt_mul rfl rfl rfl rfl (by omega) ⟨by omega, by omega⟩,
    vopt_sub rfl rfl rfl rfl (by omega) ⟨by omega, by omega⟩,
    vopt_sub rfl rfl rfl rfl (by omega) ⟨by omega, by omega⟩,
    opt_neq_i rfl rfl i34,
    opt_self_eql fun p q w => selfe_7 p q w,
    opt_neq_i rfl rfl i35,
    vopt_sub rfl rfl rfl rfl (by omega) ⟨by omega, by omega⟩,
    opt_leq_i rfl rfl i36,
    vopt_sub rfl rfl rfl rfl (by omega) ⟨by omega, by omega⟩,
    opt_leq_i rfl rfl i37,
    vopt_sub rfl rfl rfl rfl (by omega) ⟨by omega, by omega⟩,
    vopt_sub rfl rfl rfl rfl (by omega) ⟨by omega, by omega⟩,
    vopt_sub rfl rfl rfl rfl (by omega) ⟨by omega, by omega⟩,
    opt_self_neq fun p q w => self_7 p q w,
    opt_leq_i rfl rfl i38,
    vopt_sub rfl rfl rfl rfl (by omega) ⟨by omega, by omega⟩,
    opt_self_neq fun p q w => self_7 p q w,
    opt_leq_i rfl rfl i39,
    vopt_sub rfl rfl rfl rfl (by omega) ⟨by omega, by omega⟩,
    vopt_sub rfl rfl rfl rfl (by omega) ⟨by omega, by omega⟩,
    opt_self_neq fun p q w => self_7 p q w,
    opt_self_neq fun p q w => self_7 p q w,
    trivial⟩
  have hcalls : CallsT Tryz.prog (@Know.calls (Zm_C4E_k b11 b14 b16 b17 b18 b29 b34 b35)) := ⟨callt rfl rfl fun w hG => awake24_c w hG,
    callt rfl rfl fun w hG => GCheck_gs ⟨p, q⟩ ⟨hp, hq⟩ w hG,
    callt rfl rfl fun w hG => halves_z 1 y w ⟨by omega, by omega⟩ ⟨by omega, by omega⟩ hG,
    callt rfl rfl fun w hG => halves_z (0 - a) y w ⟨by omega, by omega⟩ ⟨by omega, by omega⟩ hG,
    callt rfl rfl fun w hG => DAdd_c p (hz (0 - a) (y - 1)) w hp (hz_Ok _ _) hG,
    callt rfl rfl fun w hG => DCheck_dy (addD p (hz (0 - a) (y - 1))) (add_Ok hp (hz_Ok _ _)) w,
    callt rfl rfl fun w hG => DAdd_c (addD p (hz (0 - a) (y - 1))) (hz 1 (y - 1)) w (add_Ok hp (hz_Ok _ _)) (hz_Ok _ _) hG,
    callt rfl rfl fun w hG => halves_z ((b - 0) - 2) y w ⟨by omega, by omega⟩ ⟨by omega, by omega⟩ hG,
    callt rfl rfl fun w hG => DAdd_c q (hz ((b - 0) - 2) (y - 1)) w hq (hz_Ok _ _) hG,
    callt rfl rfl fun w hG => DCheck_dy (addD q (hz ((b - 0) - 2) (y - 1))) (add_Ok hq (hz_Ok _ _)) w,
    callt rfl rfl fun w hG => DAdd_c (addD q (hz ((b - 0) - 2) (y - 1))) (hz 1 (y - 1)) w (add_Ok hq (hz_Ok _ _)) (hz_Ok _ _) hG,
    callt rfl rfl fun w hG => halves_z ((2 * u) - a) y w ⟨by omega, by omega⟩ ⟨by omega, by omega⟩ hG,
    callt rfl rfl fun w hG => DAdd_c p (hz ((2 * u) - a) (y - 1)) w hp (hz_Ok _ _) hG,
    callt rfl rfl fun w hG => halves_z ((b - (2 * z)) - 2) y w ⟨by omega, by omega⟩ ⟨by omega, by omega⟩ hG,
    callt rfl rfl fun w hG => DAdd_c q (hz ((b - (2 * z)) - 2) (y - 1)) w hq (hz_Ok _ _) hG,
    callt rfl rfl fun w hG => (by have h := halves_z ((2 * (0 + u)) - a) y w ⟨by omega, by omega⟩ ⟨by omega, by omega⟩ hG; rw [(by rw [show (2 * (0 + u)) - a = (2 * u) - a from by omega, show y - 1 = y - 1 from by omega] : hz ((2 * (0 + u)) - a) (y - 1) = hz ((2 * u) - a) (y - 1))] at h; exact h),
    callt rfl rfl fun w hG => (by have h := halves_z ((b - (2 * (0 + z))) - 2) y w ⟨by omega, by omega⟩ ⟨by omega, by omega⟩ hG; rw [(by rw [show (b - (2 * (0 + z))) - 2 = (b - (2 * z)) - 2 from by omega, show y - 1 = y - 1 from by omega] : hz ((b - (2 * (0 + z))) - 2) (y - 1) = hz ((b - (2 * z)) - 2) (y - 1))] at h; exact h),
    callt rfl rfl fun w hG => (by have h := halves_z (0 - (2 * a)) (y - 1) w ⟨by omega, by omega⟩ ⟨by omega, by omega⟩ hG; rw [((show hz (0 - (2 * a)) ((y - 1) - 1) = hz (0 - (2 * a)) ((y - 1) - 1) from by rw [show (y - 1) - 1 = (y - 1) - 1 from by omega]).trans (hz_two (by omega) ⟨by omega, by omega⟩ ⟨by omega, by omega⟩) : hz (0 - (2 * a)) ((y - 1) - 1) = hz (0 - a) (y - 1))] at h; exact h),
    callt rfl rfl fun w hG => (by have h := halves_z (((2 * b) - 2) - 2) (y - 1) w ⟨by omega, by omega⟩ ⟨by omega, by omega⟩ hG; rw [((show hz (((2 * b) - 2) - 2) ((y - 1) - 1) = hz (((2 * b) - 2) - 2) ((y - 1) - 1) from by rw [show (y - 1) - 1 = (y - 1) - 1 from by omega]).trans (hz_two (by omega) ⟨by omega, by omega⟩ ⟨by omega, by omega⟩) : hz (((2 * b) - 2) - 2) ((y - 1) - 1) = hz ((b - 0) - 2) (y - 1))] at h; exact h),
    callt rfl rfl fun w hG => (by have h := halves_z (2 - (2 * a)) (y - 1) w ⟨by omega, by omega⟩ ⟨by omega, by omega⟩ hG; rw [((show hz (2 - (2 * a)) ((y - 1) - 1) = hz (2 - (2 * a)) ((y - 1) - 1) from by rw [show (y - 1) - 1 = (y - 1) - 1 from by omega]).trans (hz_two (by omega) ⟨by omega, by omega⟩ ⟨by omega, by omega⟩) : hz (2 - (2 * a)) ((y - 1) - 1) = hz (1 - a) (y - 1))] at h; exact h),
    callt rfl rfl fun w hG => DAdd_canon hp (hz_Ok _ _) (show addD p (hz (1 - a) (y - 1)) = addD (addD p (hz (0 - a) (y - 1))) (hz 1 (y - 1)) ∧ addE p (hz (1 - a) (y - 1)) = addE (addD p (hz (0 - a) (y - 1))) (hz 1 (y - 1)) from add_hz hp ⟨by omega, by omega⟩ ⟨by omega, by omega⟩ ⟨by omega, by omega⟩ (by omega) hx) w hG,
    callt rfl rfl fun w hG => (by have h := halves_z (((2 * b) - 0) - 2) (y - 1) w ⟨by omega, by omega⟩ ⟨by omega, by omega⟩ hG; rw [((show hz (((2 * b) - 0) - 2) ((y - 1) - 1) = hz (((2 * b) - 0) - 2) ((y - 1) - 1) from by rw [show (y - 1) - 1 = (y - 1) - 1 from by omega]).trans (hz_two (by omega) ⟨by omega, by omega⟩ ⟨by omega, by omega⟩) : hz (((2 * b) - 0) - 2) ((y - 1) - 1) = hz (0 - 1 + b) (y - 1))] at h; exact h),
    callt rfl rfl fun w hG => DAdd_canon hq (hz_Ok _ _) (show addD q (hz (0 - 1 + b) (y - 1)) = addD (addD q (hz ((b - 0) - 2) (y - 1))) (hz 1 (y - 1)) ∧ addE q (hz (0 - 1 + b) (y - 1)) = addE (addD q (hz ((b - 0) - 2) (y - 1))) (hz 1 (y - 1)) from add_hz hq ⟨by omega, by omega⟩ ⟨by omega, by omega⟩ ⟨by omega, by omega⟩ (by omega) hy0) w hG,
    trivial⟩
  have fin : ∀ v, @comes (Zm_C4E_k b11 b14 b16 b17 b18 b29 b34 b35) Tryz.prog glT 3000 Zm_C4E_f Zm_C4E_a = some v → ground v = true → Ending.returned (gval v) = .returned (.bool true) → Calls Tryz.prog 5 #[.agg #[.bool p.g, .string (natS p.n), .int .i64 p.x, .bool q.g, .string (natS q.n), .int .i64 q.x, .int .i64 y, .int .i64 a, .int .i64 b], .int .i64 0, .int .i64 0, .int .i64 a, .int .i64 b, .int .i64 u, .int .i64 z] w fun e w' => e = .returned (.bool true) ∧ Below w.heap.size w w' := fun v h1 h2 h3 => (@sym_ok _ (Zm_C4E_k b11 b14 b16 b17 b18 b29 b34 b35) _ (@KnowOk.of _ (Zm_C4E_k b11 b14 b16 b17 b18 b29 b34 b35) _ hops hcalls) (by kernel_rfl) _ _ _ _ h1 rfl h2 _ hG).mono fun e w' h => ⟨h.1.trans h3, h.2⟩
  clear hops hcalls
  cases b11 with
  | true =>
    have h11 : y - 1 ≥ -4096 := i11.1 rfl
    cases b14 with
    | true =>
      have h14 : 2 * a ≤ 65536 := i14.1 rfl
      cases b16 with
      | true =>
        have h16 : 2 * b ≤ 65536 := i16.1 rfl
        cases b17 with
        | true =>
          exact absurd (i17.1 rfl) ((by omega))
        | false =>
          have h17 : ¬ (y = -4096) := fun c => Bool.false_ne_true (i17.2 c)
          cases b18 with
          | true =>
            have h18 : addE (addD p (hz (0 - a) (y - 1))) (hz 1 (y - 1)) = 0 := i18.1 rfl
            cases b35 with
            | true =>
              have h35 : addE (addD q (hz ((b - 0) - 2) (y - 1))) (hz 1 (y - 1)) = 0 := i35.1 rfl
              cases b29 with
              | true =>
                have h29 : addE p (hz ((2 * u) - a) (y - 1)) = 0 := i29.1 rfl
                cases b34 with
                | true =>
                  have h34 : addE q (hz ((b - (2 * z)) - 2) (y - 1)) = 0 := i34.1 rfl
                  exact fin _ (Zm_C4E_r1) rfl rfl
                | false =>
                  have h34 : ¬ (addE q (hz ((b - (2 * z)) - 2) (y - 1)) = 0) := fun c => Bool.false_ne_true (i34.2 c)
                  exact fin _ (Zm_C4E_r2) rfl rfl
              | false =>
                have h29 : ¬ (addE p (hz ((2 * u) - a) (y - 1)) = 0) := fun c => Bool.false_ne_true (i29.2 c)
                exact fin _ (Zm_C4E_r3 b34) rfl rfl
            | false =>
              have h35 : ¬ (addE (addD q (hz ((b - 0) - 2) (y - 1))) (hz 1 (y - 1)) = 0) := fun c => Bool.false_ne_true (i35.2 c)
              cases b29 with
              | true =>
                have h29 : addE p (hz ((2 * u) - a) (y - 1)) = 0 := i29.1 rfl
                cases b34 with
                | true =>
                  have h34 : addE q (hz ((b - (2 * z)) - 2) (y - 1)) = 0 := i34.1 rfl
                  exact fin _ (Zm_C4E_r4) rfl rfl
                | false =>
                  have h34 : ¬ (addE q (hz ((b - (2 * z)) - 2) (y - 1)) = 0) := fun c => Bool.false_ne_true (i34.2 c)
                  exact fin _ (Zm_C4E_r5) rfl rfl
              | false =>
                have h29 : ¬ (addE p (hz ((2 * u) - a) (y - 1)) = 0) := fun c => Bool.false_ne_true (i29.2 c)
                exact fin _ (Zm_C4E_r6 b34) rfl rfl
          | false =>
            have h18 : ¬ (addE (addD p (hz (0 - a) (y - 1))) (hz 1 (y - 1)) = 0) := fun c => Bool.false_ne_true (i18.2 c)
            cases b29 with
            | true =>
              have h29 : addE p (hz ((2 * u) - a) (y - 1)) = 0 := i29.1 rfl
              cases b34 with
              | true =>
                have h34 : addE q (hz ((b - (2 * z)) - 2) (y - 1)) = 0 := i34.1 rfl
                exact fin _ (Zm_C4E_r7 b35) rfl rfl
              | false =>
                have h34 : ¬ (addE q (hz ((b - (2 * z)) - 2) (y - 1)) = 0) := fun c => Bool.false_ne_true (i34.2 c)
                exact fin _ (Zm_C4E_r8 b35) rfl rfl
            | false =>
              have h29 : ¬ (addE p (hz ((2 * u) - a) (y - 1)) = 0) := fun c => Bool.false_ne_true (i29.2 c)
              exact fin _ (Zm_C4E_r9 b34 b35) rfl rfl
      | false =>
        have h16 : ¬ (2 * b ≤ 65536) := fun c => Bool.false_ne_true (i16.2 c)
        cases b29 with
        | true =>
          have h29 : addE p (hz ((2 * u) - a) (y - 1)) = 0 := i29.1 rfl
          cases b34 with
          | true =>
            have h34 : addE q (hz ((b - (2 * z)) - 2) (y - 1)) = 0 := i34.1 rfl
            exact fin _ (Zm_C4E_r10 b17 b18 b35) rfl rfl
          | false =>
            have h34 : ¬ (addE q (hz ((b - (2 * z)) - 2) (y - 1)) = 0) := fun c => Bool.false_ne_true (i34.2 c)
            exact fin _ (Zm_C4E_r11 b17 b18 b35) rfl rfl
        | false =>
          have h29 : ¬ (addE p (hz ((2 * u) - a) (y - 1)) = 0) := fun c => Bool.false_ne_true (i29.2 c)
          exact fin _ (Zm_C4E_r12 b17 b18 b34 b35) rfl rfl
    | false =>
      have h14 : ¬ (2 * a ≤ 65536) := fun c => Bool.false_ne_true (i14.2 c)
      cases b29 with
      | true =>
        have h29 : addE p (hz ((2 * u) - a) (y - 1)) = 0 := i29.1 rfl
        cases b34 with
        | true =>
          have h34 : addE q (hz ((b - (2 * z)) - 2) (y - 1)) = 0 := i34.1 rfl
          exact fin _ (Zm_C4E_r13 b16 b17 b18 b35) rfl rfl
        | false =>
          have h34 : ¬ (addE q (hz ((b - (2 * z)) - 2) (y - 1)) = 0) := fun c => Bool.false_ne_true (i34.2 c)
          exact fin _ (Zm_C4E_r14 b16 b17 b18 b35) rfl rfl
      | false =>
        have h29 : ¬ (addE p (hz ((2 * u) - a) (y - 1)) = 0) := fun c => Bool.false_ne_true (i29.2 c)
        exact fin _ (Zm_C4E_r15 b16 b17 b18 b34 b35) rfl rfl
  | false =>
    have h11 : ¬ (y - 1 ≥ -4096) := fun c => Bool.false_ne_true (i11.2 c)
    cases b29 with
    | true =>
      have h29 : addE p (hz ((2 * u) - a) (y - 1)) = 0 := i29.1 rfl
      cases b34 with
      | true =>
        have h34 : addE q (hz ((b - (2 * z)) - 2) (y - 1)) = 0 := i34.1 rfl
        exact fin _ (Zm_C4E_r16 b14 b16 b17 b18 b35) rfl rfl
      | false =>
        have h34 : ¬ (addE q (hz ((b - (2 * z)) - 2) (y - 1)) = 0) := fun c => Bool.false_ne_true (i34.2 c)
        exact fin _ (Zm_C4E_r17 b14 b16 b17 b18 b35) rfl rfl
    | false =>
      have h29 : ¬ (addE p (hz ((2 * u) - a) (y - 1)) = 0) := fun c => Bool.false_ne_true (i29.2 c)
      exact fin _ (Zm_C4E_r18 b14 b16 b17 b18 b34 b35) rfl rfl

end Go.Proofs.YtjalpocjgpgcfaaGreatDoor
set_option linter.unusedVariables false
set_option linter.unusedSimpArgs false
namespace Go.Proofs.YtjalpocjgpgcfaaGreatDoor
open Go Go.RowKit Nt


theorem ViewZooms_law (p q : Dt) (y a b c r s t u z : Int) (w : World) (zp : p.s.size ≤ 9223372036854775807) (zq : q.s.size ≤ 9223372036854775807) (hG : Globs glT w) : Calls Tryz.prog 5 #[.agg #[.bool p.g, .string p.s, .int .i64 p.x, .bool q.g, .string q.s, .int .i64 q.x, .int .i64 y, .int .i64 a, .int .i64 b], .int .i64 c, .int .i64 r, .int .i64 s, .int .i64 t, .int .i64 u, .int .i64 z] w fun e w' => e = .returned (.bool true) ∧ Below w.heap.size w w' := by
  by_cases hw : p.Ok ∧ q.Ok ∧ y ≥ -4096 ∧ y ≤ 4096 ∧ a ≥ 1 ∧ a ≤ 65536 ∧ b ≥ 1 ∧ b ≤ 65536
  · obtain ⟨p1, q1, e1, e2, a1, a2, b1, b2⟩ := hw
    obtain ⟨p, hp, rfl⟩ := Dt.dy p1
    obtain ⟨q, hq, rfl⟩ := Dt.dy q1
    by_cases ho : c ≥ 0 ∧ c ≤ a - 1 ∧ r ≥ 0 ∧ r ≤ b - 1
    · obtain ⟨c1, c2, r1, r2⟩ := ho
      by_cases hcr : s ≥ 1 ∧ s ≤ a - c ∧ t ≥ 1 ∧ t ≤ b - r
      · obtain ⟨s1, s2, t1, t2⟩ := hcr
        by_cases hat : u < 0 ∨ z < 0 ∨ u ≥ s ∨ z ≥ t
        · by_cases hc : addE p (hz ((2 * c) - a) (y - 1)) = 0 ∧ addE q (hz ((b - (2 * r)) - 2) (y - 1)) = 0
          · exact Zm_C1E p q y a b c r s t u z w hp hq e1 e2 a1 a2 b1 b2 c1 c2 r1 r2 hc.1 hc.2 s1 s2 t1 t2 hat hG
          · exact Zm_C1N p q y a b c r s t u z w hp hq e1 e2 a1 a2 b1 b2 c1 c2 r1 r2 hc s1 s2 t1 t2 hat hG
        · have u1 : 0 ≤ u := by omega
          have u2 : u < s := by omega
          have v1 : 0 ≤ z := by omega
          have v2 : z < t := by omega
          by_cases hsp : (s, t) = (a, b)
          · obtain ⟨k1, k2⟩ := Prod.mk.inj hsp
            subst k1 k2
            obtain rfl : c = 0 := by omega
            obtain rfl : r = 0 := by omega
            by_cases hc : addE p (hz (0 - s) (y - 1)) = 0 ∧ addE q (hz ((t - 0) - 2) (y - 1)) = 0
            · exact Zm_C4E p q y s t u z w hp hq e1 e2 a1 a2 b1 b2 hc.1 hc.2 u1 u2 v1 v2 hG
            · exact Zm_C4N p q y s t u z w hp hq e1 e2 a1 a2 b1 b2 hc u1 u2 v1 v2 hG
          · by_cases hc : addE p (hz ((2 * c) - a) (y - 1)) = 0 ∧ addE q (hz ((b - (2 * r)) - 2) (y - 1)) = 0
            · by_cases hd : addE p (hz (((2 * c) + s) - a) (y - 1)) = 0 ∧ addE q (hz ((b - (2 * r)) - t) (y - 1)) = 0
              · exact Zm_C3E p q y a b c r s t u z w hp hq e1 e2 a1 a2 b1 b2 c1 c2 r1 r2 hc.1 hc.2 s1 s2 t1 t2 u1 u2 v1 v2 hsp hd.1 hd.2 hG
              · exact Zm_C2E p q y a b c r s t u z w hp hq e1 e2 a1 a2 b1 b2 c1 c2 r1 r2 hc.1 hc.2 s1 s2 t1 t2 u1 u2 v1 v2 hsp hd hG
            · by_cases hd : addE p (hz (((2 * c) + s) - a) (y - 1)) = 0 ∧ addE q (hz ((b - (2 * r)) - t) (y - 1)) = 0
              · exact Zm_C3N p q y a b c r s t u z w hp hq e1 e2 a1 a2 b1 b2 c1 c2 r1 r2 hc s1 s2 t1 t2 u1 u2 v1 v2 hsp hd.1 hd.2 hG
              · exact Zm_C2N p q y a b c r s t u z w hp hq e1 e2 a1 a2 b1 b2 c1 c2 r1 r2 hc s1 s2 t1 t2 u1 u2 v1 v2 hsp hd hG
      · by_cases hc : addE p (hz ((2 * c) - a) (y - 1)) = 0 ∧ addE q (hz ((b - (2 * r)) - 2) (y - 1)) = 0
        · exact Zm_C0E p q y a b c r s t u z w hp hq e1 e2 a1 a2 b1 b2 c1 c2 r1 r2 hc.1 hc.2 hcr hG
        · exact Zm_C0N p q y a b c r s t u z w hp hq e1 e2 a1 a2 b1 b2 c1 c2 r1 r2 hc hcr hG
    · exact Zm_o p q y a b c r s t u z w hp hq e1 e2 a1 a2 b1 b2 ho hG
  · exact Zm_w p q y a b c r s t u z w zp zq hw hG

end Go.Proofs.YtjalpocjgpgcfaaGreatDoor
