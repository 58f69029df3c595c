/- Texts put together: VE3. -/
import Derived.Test.YtamcnnocjelcjaaGreatDoorU5
set_option linter.unusedVariables false
set_option linter.unusedSimpArgs false
namespace Go.Proofs.YtamcnnocjelcjaaGreatDoor
open Go Go.RowKit Nt
@[reducible] def VEdges_eF_f : FuncId := 4
@[reducible] def VEdges_eF_a : List AV := [.agg [.sym 0, .sym 1, .sym 2, .sym 3, .sym 4, .sym 5, .sym 6, .sym 7, .sym 8], .sym 9, .sym 10, .sym 11, .sym 12, .agg [.sym 13, .sym 14, .sym 15, .sym 16, .sym 17, .sym 18]]
@[reducible] noncomputable def VEdges_eF_k (b16 b20 b21 b22 b23 b24 b25 b26 b27 : Bool) : Know := ⟨[([0, 16, 3], [.sym 6, .lit (.int .i64 (-4096))], .lit (.bool true)),
  ([0, 14, 3], [.sym 6, .lit (.int .i64 4096)], .lit (.bool true)),
  ([0, 16, 3], [.sym 7, .lit (.int .i64 1)], .lit (.bool true)),
  ([0, 14, 3], [.sym 7, .lit (.int .i64 65536)], .lit (.bool true)),
  ([0, 16, 3], [.sym 8, .lit (.int .i64 1)], .lit (.bool true)),
  ([0, 14, 3], [.sym 8, .lit (.int .i64 65536)], .lit (.bool true)),
  ([0, 1, 3], [.sym 7, .lit (.int .i64 1)], .sym 22),
  ([0, 16, 3], [.sym 9, .lit (.int .i64 0)], .lit (.bool true)),
  ([0, 14, 3], [.sym 9, .sym 22], .lit (.bool true)),
  ([0, 1, 3], [.sym 8, .lit (.int .i64 1)], .sym 23),
  ([0, 16, 3], [.sym 10, .lit (.int .i64 0)], .lit (.bool true)),
  ([0, 14, 3], [.sym 10, .sym 23], .lit (.bool true)),
  ([0, 2, 3], [.lit (.int .i64 2), .sym 9], .sym 24),
  ([0, 1, 3], [.sym 24, .sym 7], .sym 25),
  ([0, 2, 3], [.lit (.int .i64 2), .sym 10], .sym 39),
  ([0, 1, 3], [.sym 8, .sym 39], .sym 40),
  ([0, 1, 3], [.sym 40, .lit (.int .i64 2)], .sym 41),
  ([0, 12, 31], [.sym 32, .lit (.int .i64 0)], .lit (.bool false)),
  ([0, 12, 31], [.sym 48, .lit (.int .i64 0)], .lit (.bool false)),
  ([0, 12, 31], [.sym 36, .lit (.int .i64 0)], .lit (.bool false)),
  ([0, 12, 31], [.sym 52, .lit (.int .i64 0)], .lit (.bool false)),
  ([0, 0, 3], [.sym 9, .lit (.int .i64 1)], .sym 55),
  ([0, 16, 3], [.sym 55, .lit (.int .i64 0)], .lit (.bool true)),
  ([0, 14, 3], [.sym 55, .sym 22], .lit (.bool b16)),
  ([0, 2, 3], [.lit (.int .i64 2), .sym 55], .sym 56),
  ([0, 1, 3], [.sym 56, .sym 7], .sym 57),
  ([0, 12, 24], [.agg [.sym 33, .sym 34, .sym 35], .agg [.sym 33, .sym 34, .sym 35]], .lit (.bool false)),
  ([0, 12, 24], [.agg [.sym 45, .sym 46, .sym 47], .agg [.sym 45, .sym 46, .sym 47]], .lit (.bool false)),
  ([0, 0, 3], [.sym 10, .lit (.int .i64 1)], .sym 61),
  ([0, 16, 3], [.sym 61, .lit (.int .i64 0)], .lit (.bool true)),
  ([0, 14, 3], [.sym 61, .sym 23], .lit (.bool true)),
  ([0, 2, 3], [.lit (.int .i64 2), .sym 61], .sym 62),
  ([0, 1, 3], [.sym 8, .sym 62], .sym 63),
  ([0, 1, 3], [.sym 63, .lit (.int .i64 2)], .sym 64),
  ([0, 12, 31], [.sym 71, .lit (.int .i64 0)], .lit (.bool true)),
  ([0, 16, 3], [.sym 37, .lit (.int .i64 0)], .lit (.bool b20)),
  ([0, 14, 3], [.sym 38, .lit (.int .i64 0)], .lit (.bool b21)),
  ([0, 16, 3], [.sym 53, .lit (.int .i64 0)], .lit (.bool b22)),
  ([0, 14, 3], [.sym 54, .lit (.int .i64 0)], .lit (.bool b23)),
  ([0, 14, 3], [.sym 37, .lit (.int .i64 0)], .lit (.bool b24)),
  ([0, 16, 3], [.sym 38, .lit (.int .i64 0)], .lit (.bool b25)),
  ([0, 14, 3], [.sym 53, .lit (.int .i64 0)], .lit (.bool b26)),
  ([0, 16, 3], [.sym 54, .lit (.int .i64 0)], .lit (.bool b27))],
  [(8, [], .lit (.bool true)),
  (19, [.agg [.sym 0, .sym 1, .sym 2, .sym 3, .sym 4, .sym 5]], .lit (.int .i64 0)),
  (39, [.lit (.int .i64 2), .sym 6], .agg [.sym 19, .sym 20, .sym 21]),
  (39, [.sym 25, .sym 6], .agg [.sym 26, .sym 27, .sym 28]),
  (38, [.agg [.sym 0, .sym 1, .sym 2], .agg [.sym 26, .sym 27, .sym 28]], .tup [.agg [.sym 29, .sym 30, .sym 31], .sym 32]),
  (38, [.agg [.sym 29, .sym 30, .sym 31], .agg [.sym 19, .sym 20, .sym 21]], .tup [.agg [.sym 33, .sym 34, .sym 35], .sym 36]),
  (14, [.agg [.sym 13, .sym 14, .sym 15], .agg [.sym 29, .sym 30, .sym 31]], .tup [.sym 37, .lit (.int .i64 0)]),
  (14, [.agg [.sym 13, .sym 14, .sym 15], .agg [.sym 33, .sym 34, .sym 35]], .tup [.sym 38, .lit (.int .i64 0)]),
  (39, [.sym 41, .sym 6], .agg [.sym 42, .sym 43, .sym 44]),
  (38, [.agg [.sym 3, .sym 4, .sym 5], .agg [.sym 42, .sym 43, .sym 44]], .tup [.agg [.sym 45, .sym 46, .sym 47], .sym 48]),
  (32, [.agg [.sym 29, .sym 30, .sym 31, .sym 45, .sym 46, .sym 47, .sym 6]], .lit (.int .i64 0)),
  (38, [.agg [.sym 45, .sym 46, .sym 47], .agg [.sym 19, .sym 20, .sym 21]], .tup [.agg [.sym 49, .sym 50, .sym 51], .sym 52]),
  (13, [.agg [.sym 29, .sym 30, .sym 31, .sym 45, .sym 46, .sym 47, .sym 6], .agg [.sym 13, .sym 14, .sym 15, .sym 16, .sym 17, .sym 18]], .lit (.tuple #[.bool false, .int .i64 0])),
  (14, [.agg [.sym 16, .sym 17, .sym 18], .agg [.sym 45, .sym 46, .sym 47]], .tup [.sym 53, .lit (.int .i64 0)]),
  (14, [.agg [.sym 16, .sym 17, .sym 18], .agg [.sym 49, .sym 50, .sym 51]], .tup [.sym 54, .lit (.int .i64 0)]),
  (39, [.sym 57, .sym 6], .agg [.sym 58, .sym 59, .sym 60]),
  (38, [.agg [.sym 0, .sym 1, .sym 2], .agg [.sym 58, .sym 59, .sym 60]], .tup [.agg [.sym 33, .sym 34, .sym 35], .sym 36]),
  (39, [.sym 64, .sym 6], .agg [.sym 65, .sym 66, .sym 67]),
  (38, [.agg [.sym 3, .sym 4, .sym 5], .agg [.sym 65, .sym 66, .sym 67]], .tup [.agg [.sym 68, .sym 69, .sym 70], .sym 71])]⟩
theorem VEdges_eF_r1 (b25 b26 b27 : Bool) : @comes (VEdges_eF_k true true true true false true b25 b26 b27) Tryz.prog glT 3000 VEdges_eF_f VEdges_eF_a = some (.lit (.bool true)) := by kernel_rfl
theorem VEdges_eF_r2 (b26 b27 : Bool) : @comes (VEdges_eF_k true true true true false false true b26 b27) Tryz.prog glT 3000 VEdges_eF_f VEdges_eF_a = some (.lit (.bool true)) := by kernel_rfl
theorem VEdges_eF_r3 (b27 : Bool) : @comes (VEdges_eF_k true true true true false false false true b27) Tryz.prog glT 3000 VEdges_eF_f VEdges_eF_a = some (.lit (.bool true)) := by kernel_rfl
theorem VEdges_eF_r4 : @comes (VEdges_eF_k true true true true false false false false true) Tryz.prog glT 3000 VEdges_eF_f VEdges_eF_a = some (.lit (.bool true)) := by kernel_rfl
theorem VEdges_eF_r5 (b23 b25 b26 b27 : Bool) : @comes (VEdges_eF_k true true true false b23 true b25 b26 b27) Tryz.prog glT 3000 VEdges_eF_f VEdges_eF_a = some (.lit (.bool true)) := by kernel_rfl
theorem VEdges_eF_r6 (b23 b26 b27 : Bool) : @comes (VEdges_eF_k true true true false b23 false true b26 b27) Tryz.prog glT 3000 VEdges_eF_f VEdges_eF_a = some (.lit (.bool true)) := by kernel_rfl
theorem VEdges_eF_r7 (b23 b27 : Bool) : @comes (VEdges_eF_k true true true false b23 false false true b27) Tryz.prog glT 3000 VEdges_eF_f VEdges_eF_a = some (.lit (.bool true)) := by kernel_rfl
theorem VEdges_eF_r8 (b22 b23 b25 b26 b27 : Bool) : @comes (VEdges_eF_k true true false b22 b23 true b25 b26 b27) Tryz.prog glT 3000 VEdges_eF_f VEdges_eF_a = some (.lit (.bool true)) := by kernel_rfl
theorem VEdges_eF_r9 (b22 b23 b26 b27 : Bool) : @comes (VEdges_eF_k true true false b22 b23 false true b26 b27) Tryz.prog glT 3000 VEdges_eF_f VEdges_eF_a = some (.lit (.bool true)) := by kernel_rfl
theorem VEdges_eF_r10 (b21 b22 b23 b25 b26 b27 : Bool) : @comes (VEdges_eF_k true false b21 b22 b23 true b25 b26 b27) Tryz.prog glT 3000 VEdges_eF_f VEdges_eF_a = some (.lit (.bool true)) := by kernel_rfl
theorem VEdges_eF_r11 (b25 b26 b27 : Bool) : @comes (VEdges_eF_k false true true true false true b25 b26 b27) Tryz.prog glT 3000 VEdges_eF_f VEdges_eF_a = some (.lit (.bool true)) := by kernel_rfl
theorem VEdges_eF_r12 (b26 b27 : Bool) : @comes (VEdges_eF_k false true true true false false true b26 b27) Tryz.prog glT 3000 VEdges_eF_f VEdges_eF_a = some (.lit (.bool true)) := by kernel_rfl
theorem VEdges_eF_r13 (b27 : Bool) : @comes (VEdges_eF_k false true true true false false false true b27) Tryz.prog glT 3000 VEdges_eF_f VEdges_eF_a = some (.lit (.bool true)) := by kernel_rfl
theorem VEdges_eF_r14 : @comes (VEdges_eF_k false true true true false false false false true) Tryz.prog glT 3000 VEdges_eF_f VEdges_eF_a = some (.lit (.bool true)) := by kernel_rfl
theorem VEdges_eF_r15 (b23 b25 b26 b27 : Bool) : @comes (VEdges_eF_k false true true false b23 true b25 b26 b27) Tryz.prog glT 3000 VEdges_eF_f VEdges_eF_a = some (.lit (.bool true)) := by kernel_rfl
theorem VEdges_eF_r16 (b23 b26 b27 : Bool) : @comes (VEdges_eF_k false true true false b23 false true b26 b27) Tryz.prog glT 3000 VEdges_eF_f VEdges_eF_a = some (.lit (.bool true)) := by kernel_rfl
theorem VEdges_eF_r17 (b23 b27 : Bool) : @comes (VEdges_eF_k false true true false b23 false false true b27) Tryz.prog glT 3000 VEdges_eF_f VEdges_eF_a = some (.lit (.bool true)) := by kernel_rfl
theorem VEdges_eF_r18 (b22 b23 b25 b26 b27 : Bool) : @comes (VEdges_eF_k false true false b22 b23 true b25 b26 b27) Tryz.prog glT 3000 VEdges_eF_f VEdges_eF_a = some (.lit (.bool true)) := by kernel_rfl
theorem VEdges_eF_r19 (b22 b23 b26 b27 : Bool) : @comes (VEdges_eF_k false true false b22 b23 false true b26 b27) Tryz.prog glT 3000 VEdges_eF_f VEdges_eF_a = some (.lit (.bool true)) := by kernel_rfl
theorem VEdges_eF_r20 (b21 b22 b23 b25 b26 b27 : Bool) : @comes (VEdges_eF_k false false b21 b22 b23 true b25 b26 b27) Tryz.prog glT 3000 VEdges_eF_f VEdges_eF_a = some (.lit (.bool true)) := by kernel_rfl
set_option maxRecDepth 100000 in
set_option maxHeartbeats 4000000 in
theorem VEdges_eF (p q : Dy) (y a b c r s t : Int) (g : Gs) (w : World) (hp : p.Ok) (hq : q.Ok) (hy : -4096 ≤ y ∧ y ≤ 4096) (ha : 1 ≤ a ∧ a ≤ 65536) (hb : 1 ≤ b ∧ b ≤ 65536) (hg : g.Ok) (c1 : 0 ≤ c) (c2 : c ≤ a - 1) (r1 : 0 ≤ r) (r2 : r ≤ b - 1) (hxx : addE p (hz ((2 * c) - a) (y - 1)) = 0) (hyy : addE q (hz ((b - (2 * r)) - 2) (y - 1)) = 0) (huu : addE (addD p (hz ((2 * c) - a) (y - 1))) (hz 2 (y - 1)) = 0) (hvv : addE (addD q (hz ((b - (2 * r)) - 2) (y - 1))) (hz 2 (y - 1)) = 0) (hr : r + 2 ≤ b) (hu : ¬ addE q (hz ((b - (2 * (r + 1))) - 2) (y - 1)) = 0) (hn : ¬ (cmpD g.re (addD p (hz ((2 * c) - a) (y - 1))) ≥ 0 ∧ cmpD g.re (addD (addD p (hz ((2 * c) - a) (y - 1))) (hz 2 (y - 1))) ≤ 0 ∧ cmpD g.im (addD q (hz ((b - (2 * r)) - 2) (y - 1))) ≥ 0 ∧ cmpD g.im (addD (addD q (hz ((b - (2 * r)) - 2) (y - 1))) (hz 2 (y - 1))) ≤ 0)) (HH : ∀ w, Globs glT w → Calls Tryz.prog 13 #[.agg #[.bool (addD p (hz ((2 * c) - a) (y - 1))).g, .string (natS (addD p (hz ((2 * c) - a) (y - 1))).n), .int .i64 (addD p (hz ((2 * c) - a) (y - 1))).x, .bool (addD q (hz ((b - (2 * r)) - 2) (y - 1))).g, .string (natS (addD q (hz ((b - (2 * r)) - 2) (y - 1))).n), .int .i64 (addD q (hz ((b - (2 * r)) - 2) (y - 1))).x, .int .i64 y], .agg #[.bool g.re.g, .string (natS g.re.n), .int .i64 g.re.x, .bool g.im.g, .string (natS g.im.n), .int .i64 g.im.x]] w fun e w' => e = .returned (.tuple #[.bool false, .int .i64 0]) ∧ Below w.heap.size w w') (hG : Globs glT w) : Calls Tryz.prog 4 #[.agg #[.bool p.g, .string (natS p.n), .int .i64 p.x, .bool q.g, .string (natS q.n), .int .i64 q.x, .int .i64 y, .int .i64 a, .int .i64 b], .int .i64 c, .int .i64 r, .int .i64 s, .int .i64 t, .agg #[.bool g.re.g, .string (natS g.re.n), .int .i64 g.re.x, .bool g.im.g, .string (natS g.im.n), .int .i64 g.im.x]] w fun e w' => e = .returned (.bool true) ∧ Below w.heap.size w w' := by
  have h1 : y ≥ -4096 := ( by omega)
  have i1 := vet h1
  have h2 : y ≤ 4096 := ( by omega)
  have i2 := vet h2
  have h3 : a ≥ 1 := ( by omega)
  have i3 := vet h3
  have h4 : a ≤ 65536 := ( by omega)
  have i4 := vet h4
  have h5 : b ≥ 1 := ( by omega)
  have i5 := vet h5
  have h6 : b ≤ 65536 := ( by omega)
  have i6 := vet h6
  have h7 : c ≥ 0 := ( by omega)
  have i7 := vet h7
  have h8 : c ≤ a - 1 := ( by omega)
  have i8 := vet h8
  have h9 : r ≥ 0 := ( by omega)
  have i9 := vet h9
  have h10 : r ≤ b - 1 := ( by omega)
  have i10 := vet h10
  have h11 := hxx
  have i11 := vet h11
  have h12 := hyy
  have i12 := vet h12
  have h13 := huu
  have i13 := vet h13
  have h14 := hvv
  have i14 := vet h14
  have h15 : c + 1 ≥ 0 := ( by omega)
  have i15 := vet h15
  obtain ⟨b16, i16⟩ := bex (c + 1 ≤ a - 1)
  have h17 : r + 1 ≥ 0 := ( by omega)
  have i17 := vet h17
  have h18 : r + 1 ≤ b - 1 := ( by omega)
  have i18 := vet h18
  have h19 := hu
  have i19 := vef h19
  obtain ⟨b20, i20⟩ := bex (cmpD g.re (addD p (hz ((2 * c) - a) (y - 1))) ≥ 0)
  obtain ⟨b21, i21⟩ := bex (cmpD g.re (addD (addD p (hz ((2 * c) - a) (y - 1))) (hz 2 (y - 1))) ≤ 0)
  obtain ⟨b22, i22⟩ := bex (cmpD g.im (addD q (hz ((b - (2 * r)) - 2) (y - 1))) ≥ 0)
  obtain ⟨b23, i23⟩ := bex (cmpD g.im (addD (addD q (hz ((b - (2 * r)) - 2) (y - 1))) (hz 2 (y - 1))) ≤ 0)
  obtain ⟨b24, i24⟩ := bex (cmpD g.re (addD p (hz ((2 * c) - a) (y - 1))) ≤ 0)
  obtain ⟨b25, i25⟩ := bex (cmpD g.re (addD (addD p (hz ((2 * c) - a) (y - 1))) (hz 2 (y - 1))) ≥ 0)
  obtain ⟨b26, i26⟩ := bex (cmpD g.im (addD q (hz ((b - (2 * r)) - 2) (y - 1))) ≤ 0)
  obtain ⟨b27, i27⟩ := bex (cmpD g.im (addD (addD q (hz ((b - (2 * r)) - 2) (y - 1))) (hz 2 (y - 1))) ≥ 0)
  letI : Env := mkEnv glT [.bool p.g, .string (natS p.n), .int .i64 p.x, .bool q.g, .string (natS q.n), .int .i64 q.x, .int .i64 y, .int .i64 a, .int .i64 b, .int .i64 c, .int .i64 r, .int .i64 s, .int .i64 t, .bool g.re.g, .string (natS g.re.n), .int .i64 g.re.x, .bool g.im.g, .string (natS g.im.n), .int .i64 g.im.x, .bool (hz 2 (y - 1)).g, .string (natS (hz 2 (y - 1)).n), .int .i64 (hz 2 (y - 1)).x, .int .i64 (a - 1), .int .i64 (b - 1), .int .i64 (2 * c), .int .i64 ((2 * c) - a), .bool (hz ((2 * c) - a) (y - 1)).g, .string (natS (hz ((2 * c) - a) (y - 1)).n), .int .i64 (hz ((2 * c) - a) (y - 1)).x, .bool (addD p (hz ((2 * c) - a) (y - 1))).g, .string (natS (addD p (hz ((2 * c) - a) (y - 1))).n), .int .i64 (addD p (hz ((2 * c) - a) (y - 1))).x, .int .i64 (addE p (hz ((2 * c) - a) (y - 1))), .bool (addD (addD p (hz ((2 * c) - a) (y - 1))) (hz 2 (y - 1))).g, .string (natS (addD (addD p (hz ((2 * c) - a) (y - 1))) (hz 2 (y - 1))).n), .int .i64 (addD (addD p (hz ((2 * c) - a) (y - 1))) (hz 2 (y - 1))).x, .int .i64 (addE (addD p (hz ((2 * c) - a) (y - 1))) (hz 2 (y - 1))), .int .i64 (cmpD g.re (addD p (hz ((2 * c) - a) (y - 1)))), .int .i64 (cmpD g.re (addD (addD p (hz ((2 * c) - a) (y - 1))) (hz 2 (y - 1)))), .int .i64 (2 * r), .int .i64 (b - (2 * r)), .int .i64 ((b - (2 * r)) - 2), .bool (hz ((b - (2 * r)) - 2) (y - 1)).g, .string (natS (hz ((b - (2 * r)) - 2) (y - 1)).n), .int .i64 (hz ((b - (2 * r)) - 2) (y - 1)).x, .bool (addD q (hz ((b - (2 * r)) - 2) (y - 1))).g, .string (natS (addD q (hz ((b - (2 * r)) - 2) (y - 1))).n), .int .i64 (addD q (hz ((b - (2 * r)) - 2) (y - 1))).x, .int .i64 (addE q (hz ((b - (2 * r)) - 2) (y - 1))), .bool (addD (addD q (hz ((b - (2 * r)) - 2) (y - 1))) (hz 2 (y - 1))).g, .string (natS (addD (addD q (hz ((b - (2 * r)) - 2) (y - 1))) (hz 2 (y - 1))).n), .int .i64 (addD (addD q (hz ((b - (2 * r)) - 2) (y - 1))) (hz 2 (y - 1))).x, .int .i64 (addE (addD q (hz ((b - (2 * r)) - 2) (y - 1))) (hz 2 (y - 1))), .int .i64 (cmpD g.im (addD q (hz ((b - (2 * r)) - 2) (y - 1)))), .int .i64 (cmpD g.im (addD (addD q (hz ((b - (2 * r)) - 2) (y - 1))) (hz 2 (y - 1)))), .int .i64 (c + 1), .int .i64 (2 * (c + 1)), .int .i64 ((2 * (c + 1)) - a), .bool (hz ((2 * (c + 1)) - a) (y - 1)).g, .string (natS (hz ((2 * (c + 1)) - a) (y - 1)).n), .int .i64 (hz ((2 * (c + 1)) - a) (y - 1)).x, .int .i64 (r + 1), .int .i64 (2 * (r + 1)), .int .i64 (b - (2 * (r + 1))), .int .i64 ((b - (2 * (r + 1))) - 2), .bool (hz ((b - (2 * (r + 1))) - 2) (y - 1)).g, .string (natS (hz ((b - (2 * (r + 1))) - 2) (y - 1)).n), .int .i64 (hz ((b - (2 * (r + 1))) - 2) (y - 1)).x, .bool (addD q (hz ((b - (2 * (r + 1))) - 2) (y - 1))).g, .string (natS (addD q (hz ((b - (2 * (r + 1))) - 2) (y - 1))).n), .int .i64 (addD q (hz ((b - (2 * (r + 1))) - 2) (y - 1))).x, .int .i64 (addE q (hz ((b - (2 * (r + 1))) - 2) (y - 1)))] rfl
  have hops : OpsT Tryz.prog (@Know.ops (VEdges_eF_k b16 b20 b21 b22 b23 b24 b25 b26 b27)) := ⟨opt_geq_i rfl rfl i1,
    opt_leq_i rfl rfl i2,
    opt_geq_i rfl rfl i3,
    opt_leq_i rfl rfl i4,
    opt_geq_i rfl rfl i5,
    opt_leq_i rfl rfl i6,
    vopt_sub rfl rfl rfl rfl (by omega) ⟨by omega, by omega⟩,
    opt_geq_i rfl rfl i7,
    opt_leq_i rfl rfl i8,
    vopt_sub rfl rfl rfl rfl (by omega) ⟨by omega, by omega⟩,
    opt_geq_i rfl rfl i9,
    opt_leq_i rfl rfl i10,
    vopt_mul rfl rfl rfl rfl (by omega) ⟨by omega, by omega⟩,
    vopt_sub rfl rfl rfl rfl (by omega) ⟨by omega, by omega⟩,
    vopt_mul rfl rfl rfl rfl (by omega) ⟨by omega, by omega⟩,
    vopt_sub rfl rfl rfl rfl (by omega) ⟨by omega, by omega⟩,
    vopt_sub rfl rfl rfl rfl (by omega) ⟨by omega, by omega⟩,
    opt_neq_i rfl rfl i11,
    opt_neq_i rfl rfl i12,
    opt_neq_i rfl rfl i13,
    opt_neq_i rfl rfl i14,
    vopt_add rfl rfl rfl rfl (by omega) ⟨by omega, by omega⟩,
    opt_geq_i rfl rfl i15,
    opt_leq_i rfl rfl i16,
    vopt_mul rfl rfl rfl rfl (by omega) ⟨by omega, by omega⟩,
    vopt_sub rfl rfl rfl rfl (by omega) ⟨by omega, by omega⟩,
    optD_neq_f (a := addD (addD p (hz ((2 * c) - a) (y - 1))) (hz 2 (y - 1))) (b := addD (addD p (hz ((2 * c) - a) (y - 1))) (hz 2 (y - 1))) rfl rfl rfl,
    optD_neq_f (a := addD q (hz ((b - (2 * r)) - 2) (y - 1))) (b := addD q (hz ((b - (2 * r)) - 2) (y - 1))) rfl rfl rfl,
    vopt_add rfl rfl rfl rfl (by omega) ⟨by omega, by omega⟩,
    opt_geq_i rfl rfl i17,
    opt_leq_i rfl rfl i18,
    vopt_mul rfl rfl rfl rfl (by omega) ⟨by omega, by omega⟩,
    vopt_sub rfl rfl rfl rfl (by omega) ⟨by omega, by omega⟩,
    vopt_sub rfl rfl rfl rfl (by omega) ⟨by omega, by omega⟩,
    opt_neq_i rfl rfl i19,
    opt_geq_i rfl rfl i20,
    opt_leq_i rfl rfl i21,
    opt_geq_i rfl rfl i22,
    opt_leq_i rfl rfl i23,
    opt_leq_i rfl rfl i24,
    opt_geq_i rfl rfl i25,
    opt_leq_i rfl rfl i26,
    opt_geq_i rfl rfl i27,
    trivial⟩
  have hcalls : CallsT Tryz.prog (@Know.calls (VEdges_eF_k b16 b20 b21 b22 b23 b24 b25 b26 b27)) := ⟨callt rfl rfl fun w hG => awake24_c w hG,
    callt rfl rfl fun w hG => GCheck_gs ⟨p, q⟩ ⟨hp, hq⟩ w hG,
    callt rfl rfl fun w hG => halves_z 2 y w ⟨by omega, by omega⟩ ⟨by omega, by omega⟩ hG,
    callt rfl rfl fun w hG => halves_z ((2 * c) - a) y w ⟨by omega, by omega⟩ ⟨by omega, by omega⟩ hG,
    callt rfl rfl fun w hG => DAdd_c p (hz ((2 * c) - a) (y - 1)) w hp (hz_Ok _ _) hG,
    callt rfl rfl fun w hG => DAdd_c (addD p (hz ((2 * c) - a) (y - 1))) (hz 2 (y - 1)) w (add_Ok hp (hz_Ok _ _)) (hz_Ok _ _) hG,
    callt rfl rfl fun w hG => DCmp_c g.re (addD p (hz ((2 * c) - a) (y - 1))) w hg.1 (add_Ok hp (hz_Ok _ _)),
    callt rfl rfl fun w hG => DCmp_c g.re (addD (addD p (hz ((2 * c) - a) (y - 1))) (hz 2 (y - 1))) w hg.1 (add_Ok (add_Ok hp (hz_Ok _ _)) (hz_Ok _ _)),
    callt rfl rfl fun w hG => halves_z ((b - (2 * r)) - 2) y w ⟨by omega, by omega⟩ ⟨by omega, by omega⟩ hG,
    callt rfl rfl fun w hG => DAdd_c q (hz ((b - (2 * r)) - 2) (y - 1)) w hq (hz_Ok _ _) hG,
    callt rfl rfl fun w hG => VRight_ok (addD p (hz ((2 * c) - a) (y - 1))) (addD q (hz ((b - (2 * r)) - 2) (y - 1))) y w (add_Ok hp (hz_Ok _ _)) (add_Ok hq (hz_Ok _ _)) ⟨by omega, by omega⟩ hG,
    callt rfl rfl fun w hG => DAdd_c (addD q (hz ((b - (2 * r)) - 2) (y - 1))) (hz 2 (y - 1)) w (add_Ok hq (hz_Ok _ _)) (hz_Ok _ _) hG,
    callt rfl rfl fun w hG => HH w hG,
    callt rfl rfl fun w hG => DCmp_c g.im (addD q (hz ((b - (2 * r)) - 2) (y - 1))) w hg.2 (add_Ok hq (hz_Ok _ _)),
    callt rfl rfl fun w hG => DCmp_c g.im (addD (addD q (hz ((b - (2 * r)) - 2) (y - 1))) (hz 2 (y - 1))) w hg.2 (add_Ok (add_Ok hq (hz_Ok _ _)) (hz_Ok _ _)),
    callt rfl rfl fun w hG => halves_z ((2 * (c + 1)) - a) y w ⟨by omega, by omega⟩ ⟨by omega, by omega⟩ hG,
    callt rfl rfl fun w hG => DAdd_canon hp (hz_Ok _ _) (show addD p (hz ((2 * (c + 1)) - a) (y - 1)) = addD (addD p (hz ((2 * c) - a) (y - 1))) (hz 2 (y - 1)) ∧ addE p (hz ((2 * (c + 1)) - a) (y - 1)) = addE (addD p (hz ((2 * c) - a) (y - 1))) (hz 2 (y - 1)) from add_hz hp ⟨by omega, by omega⟩ ⟨by omega, by omega⟩ ⟨by omega, by omega⟩ (by omega) hxx) w hG,
    callt rfl rfl fun w hG => halves_z ((b - (2 * (r + 1))) - 2) y w ⟨by omega, by omega⟩ ⟨by omega, by omega⟩ hG,
    callt rfl rfl fun w hG => DAdd_c q (hz ((b - (2 * (r + 1))) - 2) (y - 1)) w hq (hz_Ok _ _) hG,
    trivial⟩
  have fin : ∀ v, @comes (VEdges_eF_k b16 b20 b21 b22 b23 b24 b25 b26 b27) Tryz.prog glT 3000 VEdges_eF_f VEdges_eF_a = some v → ground v = true → Ending.returned (gval v) = .returned (.bool true) → Calls Tryz.prog 4 #[.agg #[.bool p.g, .string (natS p.n), .int .i64 p.x, .bool q.g, .string (natS q.n), .int .i64 q.x, .int .i64 y, .int .i64 a, .int .i64 b], .int .i64 c, .int .i64 r, .int .i64 s, .int .i64 t, .agg #[.bool g.re.g, .string (natS g.re.n), .int .i64 g.re.x, .bool g.im.g, .string (natS g.im.n), .int .i64 g.im.x]] w fun e w' => e = .returned (.bool true) ∧ Below w.heap.size w w' := fun v h1 h2 h3 => (@sym_ok _ (VEdges_eF_k b16 b20 b21 b22 b23 b24 b25 b26 b27) _ (@KnowOk.of _ (VEdges_eF_k b16 b20 b21 b22 b23 b24 b25 b26 b27) _ hops hcalls) (by kernel_rfl) _ _ _ _ h1 rfl h2 _ hG).mono fun e w' h => ⟨h.1.trans h3, h.2⟩
  clear hops hcalls
  cases b16 with
  | true =>
    have h16 := i16.1 rfl
    cases b20 with
    | true =>
      have h20 := i20.1 rfl
      cases b21 with
      | true =>
        have h21 := i21.1 rfl
        cases b22 with
        | true =>
          have h22 := i22.1 rfl
          cases b23 with
          | true =>
            exact absurd (i23.1 rfl) (fun c => hn ⟨h20, h21, h22, c⟩)
          | false =>
            have h23 : ¬ (cmpD g.im (addD (addD q (hz ((b - (2 * r)) - 2) (y - 1))) (hz 2 (y - 1))) ≤ 0) := fun c => Bool.false_ne_true (i23.2 c)
            cases b24 with
            | true =>
              have h24 := i24.1 rfl
              exact fin _ (VEdges_eF_r1 b25 b26 b27) rfl rfl
            | false =>
              have h24 : ¬ (cmpD g.re (addD p (hz ((2 * c) - a) (y - 1))) ≤ 0) := fun c => Bool.false_ne_true (i24.2 c)
              cases b25 with
              | true =>
                have h25 := i25.1 rfl
                exact fin _ (VEdges_eF_r2 b26 b27) rfl rfl
              | false =>
                have h25 : ¬ (cmpD g.re (addD (addD p (hz ((2 * c) - a) (y - 1))) (hz 2 (y - 1))) ≥ 0) := fun c => Bool.false_ne_true (i25.2 c)
                cases b26 with
                | true =>
                  have h26 := i26.1 rfl
                  exact fin _ (VEdges_eF_r3 b27) rfl rfl
                | false =>
                  have h26 : ¬ (cmpD g.im (addD q (hz ((b - (2 * r)) - 2) (y - 1))) ≤ 0) := fun c => Bool.false_ne_true (i26.2 c)
                  cases b27 with
                  | true =>
                    have h27 := i27.1 rfl
                    exact fin _ (VEdges_eF_r4) rfl rfl
                  | false =>
                    exact absurd (i27.2 ((by omega))) Bool.false_ne_true
        | false =>
          have h22 : ¬ (cmpD g.im (addD q (hz ((b - (2 * r)) - 2) (y - 1))) ≥ 0) := fun c => Bool.false_ne_true (i22.2 c)
          cases b24 with
          | true =>
            have h24 := i24.1 rfl
            exact fin _ (VEdges_eF_r5 b23 b25 b26 b27) rfl rfl
          | false =>
            have h24 : ¬ (cmpD g.re (addD p (hz ((2 * c) - a) (y - 1))) ≤ 0) := fun c => Bool.false_ne_true (i24.2 c)
            cases b25 with
            | true =>
              have h25 := i25.1 rfl
              exact fin _ (VEdges_eF_r6 b23 b26 b27) rfl rfl
            | false =>
              have h25 : ¬ (cmpD g.re (addD (addD p (hz ((2 * c) - a) (y - 1))) (hz 2 (y - 1))) ≥ 0) := fun c => Bool.false_ne_true (i25.2 c)
              cases b26 with
              | true =>
                have h26 := i26.1 rfl
                exact fin _ (VEdges_eF_r7 b23 b27) rfl rfl
              | false =>
                exact absurd (i26.2 ((by omega))) Bool.false_ne_true
      | false =>
        have h21 : ¬ (cmpD g.re (addD (addD p (hz ((2 * c) - a) (y - 1))) (hz 2 (y - 1))) ≤ 0) := fun c => Bool.false_ne_true (i21.2 c)
        cases b24 with
        | true =>
          have h24 := i24.1 rfl
          exact fin _ (VEdges_eF_r8 b22 b23 b25 b26 b27) rfl rfl
        | false =>
          have h24 : ¬ (cmpD g.re (addD p (hz ((2 * c) - a) (y - 1))) ≤ 0) := fun c => Bool.false_ne_true (i24.2 c)
          cases b25 with
          | true =>
            have h25 := i25.1 rfl
            exact fin _ (VEdges_eF_r9 b22 b23 b26 b27) rfl rfl
          | false =>
            exact absurd (i25.2 ((by omega))) Bool.false_ne_true
    | false =>
      have h20 : ¬ (cmpD g.re (addD p (hz ((2 * c) - a) (y - 1))) ≥ 0) := fun c => Bool.false_ne_true (i20.2 c)
      cases b24 with
      | true =>
        have h24 := i24.1 rfl
        exact fin _ (VEdges_eF_r10 b21 b22 b23 b25 b26 b27) rfl rfl
      | false =>
        exact absurd (i24.2 ((by omega))) Bool.false_ne_true
  | false =>
    have h16 : ¬ (c + 1 ≤ a - 1) := fun c => Bool.false_ne_true (i16.2 c)
    cases b20 with
    | true =>
      have h20 := i20.1 rfl
      cases b21 with
      | true =>
        have h21 := i21.1 rfl
        cases b22 with
        | true =>
          have h22 := i22.1 rfl
          cases b23 with
          | true =>
            exact absurd (i23.1 rfl) (fun c => hn ⟨h20, h21, h22, c⟩)
          | false =>
            have h23 : ¬ (cmpD g.im (addD (addD q (hz ((b - (2 * r)) - 2) (y - 1))) (hz 2 (y - 1))) ≤ 0) := fun c => Bool.false_ne_true (i23.2 c)
            cases b24 with
            | true =>
              have h24 := i24.1 rfl
              exact fin _ (VEdges_eF_r11 b25 b26 b27) rfl rfl
            | false =>
              have h24 : ¬ (cmpD g.re (addD p (hz ((2 * c) - a) (y - 1))) ≤ 0) := fun c => Bool.false_ne_true (i24.2 c)
              cases b25 with
              | true =>
                have h25 := i25.1 rfl
                exact fin _ (VEdges_eF_r12 b26 b27) rfl rfl
              | false =>
                have h25 : ¬ (cmpD g.re (addD (addD p (hz ((2 * c) - a) (y - 1))) (hz 2 (y - 1))) ≥ 0) := fun c => Bool.false_ne_true (i25.2 c)
                cases b26 with
                | true =>
                  have h26 := i26.1 rfl
                  exact fin _ (VEdges_eF_r13 b27) rfl rfl
                | false =>
                  have h26 : ¬ (cmpD g.im (addD q (hz ((b - (2 * r)) - 2) (y - 1))) ≤ 0) := fun c => Bool.false_ne_true (i26.2 c)
                  cases b27 with
                  | true =>
                    have h27 := i27.1 rfl
                    exact fin _ (VEdges_eF_r14) rfl rfl
                  | false =>
                    exact absurd (i27.2 ((by omega))) Bool.false_ne_true
        | false =>
          have h22 : ¬ (cmpD g.im (addD q (hz ((b - (2 * r)) - 2) (y - 1))) ≥ 0) := fun c => Bool.false_ne_true (i22.2 c)
          cases b24 with
          | true =>
            have h24 := i24.1 rfl
            exact fin _ (VEdges_eF_r15 b23 b25 b26 b27) rfl rfl
          | false =>
            have h24 : ¬ (cmpD g.re (addD p (hz ((2 * c) - a) (y - 1))) ≤ 0) := fun c => Bool.false_ne_true (i24.2 c)
            cases b25 with
            | true =>
              have h25 := i25.1 rfl
              exact fin _ (VEdges_eF_r16 b23 b26 b27) rfl rfl
            | false =>
              have h25 : ¬ (cmpD g.re (addD (addD p (hz ((2 * c) - a) (y - 1))) (hz 2 (y - 1))) ≥ 0) := fun c => Bool.false_ne_true (i25.2 c)
              cases b26 with
              | true =>
                have h26 := i26.1 rfl
                exact fin _ (VEdges_eF_r17 b23 b27) rfl rfl
              | false =>
                exact absurd (i26.2 ((by omega))) Bool.false_ne_true
      | false =>
        have h21 : ¬ (cmpD g.re (addD (addD p (hz ((2 * c) - a) (y - 1))) (hz 2 (y - 1))) ≤ 0) := fun c => Bool.false_ne_true (i21.2 c)
        cases b24 with
        | true =>
          have h24 := i24.1 rfl
          exact fin _ (VEdges_eF_r18 b22 b23 b25 b26 b27) rfl rfl
        | false =>
          have h24 : ¬ (cmpD g.re (addD p (hz ((2 * c) - a) (y - 1))) ≤ 0) := fun c => Bool.false_ne_true (i24.2 c)
          cases b25 with
          | true =>
            have h25 := i25.1 rfl
            exact fin _ (VEdges_eF_r19 b22 b23 b26 b27) rfl rfl
          | false =>
            exact absurd (i25.2 ((by omega))) Bool.false_ne_true
    | false =>
      have h20 : ¬ (cmpD g.re (addD p (hz ((2 * c) - a) (y - 1))) ≥ 0) := fun c => Bool.false_ne_true (i20.2 c)
      cases b24 with
      | true =>
        have h24 := i24.1 rfl
        exact fin _ (VEdges_eF_r20 b21 b22 b23 b25 b26 b27) rfl rfl
      | false =>
        exact absurd (i24.2 ((by omega))) Bool.false_ne_true
@[reducible] def VEdges_eB_f : FuncId := 4
@[reducible] def VEdges_eB_a : List AV := [.agg [.sym 0, .sym 1, .sym 2, .sym 3, .sym 4, .sym 5, .sym 6, .sym 7, .sym 8], .sym 9, .sym 10, .sym 11, .sym 12, .agg [.sym 13, .sym 14, .sym 15, .sym 16, .sym 17, .sym 18]]
@[reducible] noncomputable def VEdges_eB_k (b16 b24 b25 b26 b27 : Bool) : Know := ⟨[([0, 16, 3], [.sym 6, .lit (.int .i64 (-4096))], .lit (.bool true)),
  ([0, 14, 3], [.sym 6, .lit (.int .i64 4096)], .lit (.bool true)),
  ([0, 16, 3], [.sym 7, .lit (.int .i64 1)], .lit (.bool true)),
  ([0, 14, 3], [.sym 7, .lit (.int .i64 65536)], .lit (.bool true)),
  ([0, 16, 3], [.sym 8, .lit (.int .i64 1)], .lit (.bool true)),
  ([0, 14, 3], [.sym 8, .lit (.int .i64 65536)], .lit (.bool true)),
  ([0, 1, 3], [.sym 7, .lit (.int .i64 1)], .sym 22),
  ([0, 16, 3], [.sym 9, .lit (.int .i64 0)], .lit (.bool true)),
  ([0, 14, 3], [.sym 9, .sym 22], .lit (.bool true)),
  ([0, 1, 3], [.sym 8, .lit (.int .i64 1)], .sym 23),
  ([0, 16, 3], [.sym 10, .lit (.int .i64 0)], .lit (.bool true)),
  ([0, 14, 3], [.sym 10, .sym 23], .lit (.bool true)),
  ([0, 2, 3], [.lit (.int .i64 2), .sym 9], .sym 24),
  ([0, 1, 3], [.sym 24, .sym 7], .sym 25),
  ([0, 2, 3], [.lit (.int .i64 2), .sym 10], .sym 39),
  ([0, 1, 3], [.sym 8, .sym 39], .sym 40),
  ([0, 1, 3], [.sym 40, .lit (.int .i64 2)], .sym 41),
  ([0, 12, 31], [.sym 32, .lit (.int .i64 0)], .lit (.bool false)),
  ([0, 12, 31], [.sym 48, .lit (.int .i64 0)], .lit (.bool false)),
  ([0, 12, 31], [.sym 36, .lit (.int .i64 0)], .lit (.bool false)),
  ([0, 12, 31], [.sym 52, .lit (.int .i64 0)], .lit (.bool false)),
  ([0, 0, 3], [.sym 9, .lit (.int .i64 1)], .sym 55),
  ([0, 16, 3], [.sym 55, .lit (.int .i64 0)], .lit (.bool true)),
  ([0, 14, 3], [.sym 55, .sym 22], .lit (.bool b16)),
  ([0, 2, 3], [.lit (.int .i64 2), .sym 55], .sym 56),
  ([0, 1, 3], [.sym 56, .sym 7], .sym 57),
  ([0, 12, 24], [.agg [.sym 33, .sym 34, .sym 35], .agg [.sym 33, .sym 34, .sym 35]], .lit (.bool false)),
  ([0, 12, 24], [.agg [.sym 45, .sym 46, .sym 47], .agg [.sym 45, .sym 46, .sym 47]], .lit (.bool false)),
  ([0, 0, 3], [.sym 10, .lit (.int .i64 1)], .sym 61),
  ([0, 16, 3], [.sym 61, .lit (.int .i64 0)], .lit (.bool true)),
  ([0, 14, 3], [.sym 61, .sym 23], .lit (.bool true)),
  ([0, 2, 3], [.lit (.int .i64 2), .sym 61], .sym 62),
  ([0, 1, 3], [.sym 8, .sym 62], .sym 63),
  ([0, 1, 3], [.sym 63, .lit (.int .i64 2)], .sym 64),
  ([0, 12, 31], [.sym 71, .lit (.int .i64 0)], .lit (.bool true)),
  ([0, 16, 3], [.sym 37, .lit (.int .i64 0)], .lit (.bool true)),
  ([0, 14, 3], [.sym 38, .lit (.int .i64 0)], .lit (.bool true)),
  ([0, 16, 3], [.sym 53, .lit (.int .i64 0)], .lit (.bool true)),
  ([0, 14, 3], [.sym 54, .lit (.int .i64 0)], .lit (.bool true)),
  ([0, 14, 3], [.sym 37, .lit (.int .i64 0)], .lit (.bool b24)),
  ([0, 16, 3], [.sym 38, .lit (.int .i64 0)], .lit (.bool b25)),
  ([0, 14, 3], [.sym 53, .lit (.int .i64 0)], .lit (.bool b26)),
  ([0, 16, 3], [.sym 54, .lit (.int .i64 0)], .lit (.bool b27))],
  [(8, [], .lit (.bool true)),
  (19, [.agg [.sym 0, .sym 1, .sym 2, .sym 3, .sym 4, .sym 5]], .lit (.int .i64 0)),
  (39, [.lit (.int .i64 2), .sym 6], .agg [.sym 19, .sym 20, .sym 21]),
  (39, [.sym 25, .sym 6], .agg [.sym 26, .sym 27, .sym 28]),
  (38, [.agg [.sym 0, .sym 1, .sym 2], .agg [.sym 26, .sym 27, .sym 28]], .tup [.agg [.sym 29, .sym 30, .sym 31], .sym 32]),
  (38, [.agg [.sym 29, .sym 30, .sym 31], .agg [.sym 19, .sym 20, .sym 21]], .tup [.agg [.sym 33, .sym 34, .sym 35], .sym 36]),
  (14, [.agg [.sym 13, .sym 14, .sym 15], .agg [.sym 29, .sym 30, .sym 31]], .tup [.sym 37, .lit (.int .i64 0)]),
  (14, [.agg [.sym 13, .sym 14, .sym 15], .agg [.sym 33, .sym 34, .sym 35]], .tup [.sym 38, .lit (.int .i64 0)]),
  (39, [.sym 41, .sym 6], .agg [.sym 42, .sym 43, .sym 44]),
  (38, [.agg [.sym 3, .sym 4, .sym 5], .agg [.sym 42, .sym 43, .sym 44]], .tup [.agg [.sym 45, .sym 46, .sym 47], .sym 48]),
  (32, [.agg [.sym 29, .sym 30, .sym 31, .sym 45, .sym 46, .sym 47, .sym 6]], .lit (.int .i64 0)),
  (38, [.agg [.sym 45, .sym 46, .sym 47], .agg [.sym 19, .sym 20, .sym 21]], .tup [.agg [.sym 49, .sym 50, .sym 51], .sym 52]),
  (13, [.agg [.sym 29, .sym 30, .sym 31, .sym 45, .sym 46, .sym 47, .sym 6], .agg [.sym 13, .sym 14, .sym 15, .sym 16, .sym 17, .sym 18]], .lit (.tuple #[.bool true, .int .i64 0])),
  (14, [.agg [.sym 16, .sym 17, .sym 18], .agg [.sym 45, .sym 46, .sym 47]], .tup [.sym 53, .lit (.int .i64 0)]),
  (14, [.agg [.sym 16, .sym 17, .sym 18], .agg [.sym 49, .sym 50, .sym 51]], .tup [.sym 54, .lit (.int .i64 0)]),
  (39, [.sym 57, .sym 6], .agg [.sym 58, .sym 59, .sym 60]),
  (38, [.agg [.sym 0, .sym 1, .sym 2], .agg [.sym 58, .sym 59, .sym 60]], .tup [.agg [.sym 33, .sym 34, .sym 35], .sym 36]),
  (39, [.sym 64, .sym 6], .agg [.sym 65, .sym 66, .sym 67]),
  (38, [.agg [.sym 3, .sym 4, .sym 5], .agg [.sym 65, .sym 66, .sym 67]], .tup [.agg [.sym 68, .sym 69, .sym 70], .sym 71])]⟩
theorem VEdges_eB_r1 (b25 b26 b27 : Bool) : @comes (VEdges_eB_k true true b25 b26 b27) Tryz.prog glT 3000 VEdges_eB_f VEdges_eB_a = some (.lit (.bool true)) := by kernel_rfl
theorem VEdges_eB_r2 (b26 b27 : Bool) : @comes (VEdges_eB_k true false true b26 b27) Tryz.prog glT 3000 VEdges_eB_f VEdges_eB_a = some (.lit (.bool true)) := by kernel_rfl
theorem VEdges_eB_r3 (b27 : Bool) : @comes (VEdges_eB_k true false false true b27) Tryz.prog glT 3000 VEdges_eB_f VEdges_eB_a = some (.lit (.bool true)) := by kernel_rfl
theorem VEdges_eB_r4 : @comes (VEdges_eB_k true false false false true) Tryz.prog glT 3000 VEdges_eB_f VEdges_eB_a = some (.lit (.bool true)) := by kernel_rfl
theorem VEdges_eB_r5 (b25 b26 b27 : Bool) : @comes (VEdges_eB_k false true b25 b26 b27) Tryz.prog glT 3000 VEdges_eB_f VEdges_eB_a = some (.lit (.bool true)) := by kernel_rfl
theorem VEdges_eB_r6 (b26 b27 : Bool) : @comes (VEdges_eB_k false false true b26 b27) Tryz.prog glT 3000 VEdges_eB_f VEdges_eB_a = some (.lit (.bool true)) := by kernel_rfl
theorem VEdges_eB_r7 (b27 : Bool) : @comes (VEdges_eB_k false false false true b27) Tryz.prog glT 3000 VEdges_eB_f VEdges_eB_a = some (.lit (.bool true)) := by kernel_rfl
theorem VEdges_eB_r8 : @comes (VEdges_eB_k false false false false true) Tryz.prog glT 3000 VEdges_eB_f VEdges_eB_a = some (.lit (.bool true)) := by kernel_rfl
set_option maxRecDepth 100000 in
set_option maxHeartbeats 4000000 in
theorem VEdges_eB (p q : Dy) (y a b c r s t : Int) (g : Gs) (w : World) (hp : p.Ok) (hq : q.Ok) (hy : -4096 ≤ y ∧ y ≤ 4096) (ha : 1 ≤ a ∧ a ≤ 65536) (hb : 1 ≤ b ∧ b ≤ 65536) (hg : g.Ok) (c1 : 0 ≤ c) (c2 : c ≤ a - 1) (r1 : 0 ≤ r) (r2 : r ≤ b - 1) (hxx : addE p (hz ((2 * c) - a) (y - 1)) = 0) (hyy : addE q (hz ((b - (2 * r)) - 2) (y - 1)) = 0) (huu : addE (addD p (hz ((2 * c) - a) (y - 1))) (hz 2 (y - 1)) = 0) (hvv : addE (addD q (hz ((b - (2 * r)) - 2) (y - 1))) (hz 2 (y - 1)) = 0) (hr : r + 2 ≤ b) (hu : ¬ addE q (hz ((b - (2 * (r + 1))) - 2) (y - 1)) = 0) (HH : ∀ w, Globs glT w → Calls Tryz.prog 13 #[.agg #[.bool (addD p (hz ((2 * c) - a) (y - 1))).g, .string (natS (addD p (hz ((2 * c) - a) (y - 1))).n), .int .i64 (addD p (hz ((2 * c) - a) (y - 1))).x, .bool (addD q (hz ((b - (2 * r)) - 2) (y - 1))).g, .string (natS (addD q (hz ((b - (2 * r)) - 2) (y - 1))).n), .int .i64 (addD q (hz ((b - (2 * r)) - 2) (y - 1))).x, .int .i64 y], .agg #[.bool g.re.g, .string (natS g.re.n), .int .i64 g.re.x, .bool g.im.g, .string (natS g.im.n), .int .i64 g.im.x]] w fun e w' => e = .returned (.tuple #[.bool true, .int .i64 0]) ∧ Below w.heap.size w w') (cca : cmpD g.re (addD p (hz ((2 * c) - a) (y - 1))) ≥ 0) (ccb : cmpD g.re (addD (addD p (hz ((2 * c) - a) (y - 1))) (hz 2 (y - 1))) ≤ 0) (ccc : cmpD g.im (addD q (hz ((b - (2 * r)) - 2) (y - 1))) ≥ 0) (ccd : cmpD g.im (addD (addD q (hz ((b - (2 * r)) - 2) (y - 1))) (hz 2 (y - 1))) ≤ 0) (hs : ¬ (¬ cmpD g.re (addD p (hz ((2 * c) - a) (y - 1))) ≤ 0 ∧ ¬ cmpD g.re (addD (addD p (hz ((2 * c) - a) (y - 1))) (hz 2 (y - 1))) ≥ 0 ∧ ¬ cmpD g.im (addD q (hz ((b - (2 * r)) - 2) (y - 1))) ≤ 0 ∧ ¬ cmpD g.im (addD (addD q (hz ((b - (2 * r)) - 2) (y - 1))) (hz 2 (y - 1))) ≥ 0)) (hG : Globs glT w) : Calls Tryz.prog 4 #[.agg #[.bool p.g, .string (natS p.n), .int .i64 p.x, .bool q.g, .string (natS q.n), .int .i64 q.x, .int .i64 y, .int .i64 a, .int .i64 b], .int .i64 c, .int .i64 r, .int .i64 s, .int .i64 t, .agg #[.bool g.re.g, .string (natS g.re.n), .int .i64 g.re.x, .bool g.im.g, .string (natS g.im.n), .int .i64 g.im.x]] w fun e w' => e = .returned (.bool true) ∧ Below w.heap.size w w' := by
  have h1 : y ≥ -4096 := ( by omega)
  have i1 := vet h1
  have h2 : y ≤ 4096 := ( by omega)
  have i2 := vet h2
  have h3 : a ≥ 1 := ( by omega)
  have i3 := vet h3
  have h4 : a ≤ 65536 := ( by omega)
  have i4 := vet h4
  have h5 : b ≥ 1 := ( by omega)
  have i5 := vet h5
  have h6 : b ≤ 65536 := ( by omega)
  have i6 := vet h6
  have h7 : c ≥ 0 := ( by omega)
  have i7 := vet h7
  have h8 : c ≤ a - 1 := ( by omega)
  have i8 := vet h8
  have h9 : r ≥ 0 := ( by omega)
  have i9 := vet h9
  have h10 : r ≤ b - 1 := ( by omega)
  have i10 := vet h10
  have h11 := hxx
  have i11 := vet h11
  have h12 := hyy
  have i12 := vet h12
  have h13 := huu
  have i13 := vet h13
  have h14 := hvv
  have i14 := vet h14
  have h15 : c + 1 ≥ 0 := ( by omega)
  have i15 := vet h15
  obtain ⟨b16, i16⟩ := bex (c + 1 ≤ a - 1)
  have h17 : r + 1 ≥ 0 := ( by omega)
  have i17 := vet h17
  have h18 : r + 1 ≤ b - 1 := ( by omega)
  have i18 := vet h18
  have h19 := hu
  have i19 := vef h19
  have h20 := cca
  have i20 := vet h20
  have h21 := ccb
  have i21 := vet h21
  have h22 := ccc
  have i22 := vet h22
  have h23 := ccd
  have i23 := vet h23
  obtain ⟨b24, i24⟩ := bex (cmpD g.re (addD p (hz ((2 * c) - a) (y - 1))) ≤ 0)
  obtain ⟨b25, i25⟩ := bex (cmpD g.re (addD (addD p (hz ((2 * c) - a) (y - 1))) (hz 2 (y - 1))) ≥ 0)
  obtain ⟨b26, i26⟩ := bex (cmpD g.im (addD q (hz ((b - (2 * r)) - 2) (y - 1))) ≤ 0)
  obtain ⟨b27, i27⟩ := bex (cmpD g.im (addD (addD q (hz ((b - (2 * r)) - 2) (y - 1))) (hz 2 (y - 1))) ≥ 0)
  letI : Env := mkEnv glT [.bool p.g, .string (natS p.n), .int .i64 p.x, .bool q.g, .string (natS q.n), .int .i64 q.x, .int .i64 y, .int .i64 a, .int .i64 b, .int .i64 c, .int .i64 r, .int .i64 s, .int .i64 t, .bool g.re.g, .string (natS g.re.n), .int .i64 g.re.x, .bool g.im.g, .string (natS g.im.n), .int .i64 g.im.x, .bool (hz 2 (y - 1)).g, .string (natS (hz 2 (y - 1)).n), .int .i64 (hz 2 (y - 1)).x, .int .i64 (a - 1), .int .i64 (b - 1), .int .i64 (2 * c), .int .i64 ((2 * c) - a), .bool (hz ((2 * c) - a) (y - 1)).g, .string (natS (hz ((2 * c) - a) (y - 1)).n), .int .i64 (hz ((2 * c) - a) (y - 1)).x, .bool (addD p (hz ((2 * c) - a) (y - 1))).g, .string (natS (addD p (hz ((2 * c) - a) (y - 1))).n), .int .i64 (addD p (hz ((2 * c) - a) (y - 1))).x, .int .i64 (addE p (hz ((2 * c) - a) (y - 1))), .bool (addD (addD p (hz ((2 * c) - a) (y - 1))) (hz 2 (y - 1))).g, .string (natS (addD (addD p (hz ((2 * c) - a) (y - 1))) (hz 2 (y - 1))).n), .int .i64 (addD (addD p (hz ((2 * c) - a) (y - 1))) (hz 2 (y - 1))).x, .int .i64 (addE (addD p (hz ((2 * c) - a) (y - 1))) (hz 2 (y - 1))), .int .i64 (cmpD g.re (addD p (hz ((2 * c) - a) (y - 1)))), .int .i64 (cmpD g.re (addD (addD p (hz ((2 * c) - a) (y - 1))) (hz 2 (y - 1)))), .int .i64 (2 * r), .int .i64 (b - (2 * r)), .int .i64 ((b - (2 * r)) - 2), .bool (hz ((b - (2 * r)) - 2) (y - 1)).g, .string (natS (hz ((b - (2 * r)) - 2) (y - 1)).n), .int .i64 (hz ((b - (2 * r)) - 2) (y - 1)).x, .bool (addD q (hz ((b - (2 * r)) - 2) (y - 1))).g, .string (natS (addD q (hz ((b - (2 * r)) - 2) (y - 1))).n), .int .i64 (addD q (hz ((b - (2 * r)) - 2) (y - 1))).x, .int .i64 (addE q (hz ((b - (2 * r)) - 2) (y - 1))), .bool (addD (addD q (hz ((b - (2 * r)) - 2) (y - 1))) (hz 2 (y - 1))).g, .string (natS (addD (addD q (hz ((b - (2 * r)) - 2) (y - 1))) (hz 2 (y - 1))).n), .int .i64 (addD (addD q (hz ((b - (2 * r)) - 2) (y - 1))) (hz 2 (y - 1))).x, .int .i64 (addE (addD q (hz ((b - (2 * r)) - 2) (y - 1))) (hz 2 (y - 1))), .int .i64 (cmpD g.im (addD q (hz ((b - (2 * r)) - 2) (y - 1)))), .int .i64 (cmpD g.im (addD (addD q (hz ((b - (2 * r)) - 2) (y - 1))) (hz 2 (y - 1)))), .int .i64 (c + 1), .int .i64 (2 * (c + 1)), .int .i64 ((2 * (c + 1)) - a), .bool (hz ((2 * (c + 1)) - a) (y - 1)).g, .string (natS (hz ((2 * (c + 1)) - a) (y - 1)).n), .int .i64 (hz ((2 * (c + 1)) - a) (y - 1)).x, .int .i64 (r + 1), .int .i64 (2 * (r + 1)), .int .i64 (b - (2 * (r + 1))), .int .i64 ((b - (2 * (r + 1))) - 2), .bool (hz ((b - (2 * (r + 1))) - 2) (y - 1)).g, .string (natS (hz ((b - (2 * (r + 1))) - 2) (y - 1)).n), .int .i64 (hz ((b - (2 * (r + 1))) - 2) (y - 1)).x, .bool (addD q (hz ((b - (2 * (r + 1))) - 2) (y - 1))).g, .string (natS (addD q (hz ((b - (2 * (r + 1))) - 2) (y - 1))).n), .int .i64 (addD q (hz ((b - (2 * (r + 1))) - 2) (y - 1))).x, .int .i64 (addE q (hz ((b - (2 * (r + 1))) - 2) (y - 1)))] rfl
  have hops : OpsT Tryz.prog (@Know.ops (VEdges_eB_k b16 b24 b25 b26 b27)) := ⟨opt_geq_i rfl rfl i1,
    opt_leq_i rfl rfl i2,
    opt_geq_i rfl rfl i3,
    opt_leq_i rfl rfl i4,
    opt_geq_i rfl rfl i5,
    opt_leq_i rfl rfl i6,
    vopt_sub rfl rfl rfl rfl (by omega) ⟨by omega, by omega⟩,
    opt_geq_i rfl rfl i7,
    opt_leq_i rfl rfl i8,
    vopt_sub rfl rfl rfl rfl (by omega) ⟨by omega, by omega⟩,
    opt_geq_i rfl rfl i9,
    opt_leq_i rfl rfl i10,
    vopt_mul rfl rfl rfl rfl (by omega) ⟨by omega, by omega⟩,
    vopt_sub rfl rfl rfl rfl (by omega) ⟨by omega, by omega⟩,
    vopt_mul rfl rfl rfl rfl (by omega) ⟨by omega, by omega⟩,
    vopt_sub rfl rfl rfl rfl (by omega) ⟨by omega, by omega⟩,
    vopt_sub rfl rfl rfl rfl (by omega) ⟨by omega, by omega⟩,
    opt_neq_i rfl rfl i11,
    opt_neq_i rfl rfl i12,
    opt_neq_i rfl rfl i13,
    opt_neq_i rfl rfl i14,
    vopt_add rfl rfl rfl rfl (by omega) ⟨by omega, by omega⟩,
    opt_geq_i rfl rfl i15,
    opt_leq_i rfl rfl i16,
    vopt_mul rfl rfl rfl rfl (by omega) ⟨by omega, by omega⟩,
    vopt_sub rfl rfl rfl rfl (by omega) ⟨by omega, by omega⟩,
    optD_neq_f (a := addD (addD p (hz ((2 * c) - a) (y - 1))) (hz 2 (y - 1))) (b := addD (addD p (hz ((2 * c) - a) (y - 1))) (hz 2 (y - 1))) rfl rfl rfl,
    optD_neq_f (a := addD q (hz ((b - (2 * r)) - 2) (y - 1))) (b := addD q (hz ((b - (2 * r)) - 2) (y - 1))) rfl rfl rfl,
    vopt_add rfl rfl rfl rfl (by omega) ⟨by omega, by omega⟩,
    opt_geq_i rfl rfl i17,
    opt_leq_i rfl rfl i18,
    vopt_mul rfl rfl rfl rfl (by omega) ⟨by omega, by omega⟩,
    vopt_sub rfl rfl rfl rfl (by omega) ⟨by omega, by omega⟩,
    vopt_sub rfl rfl rfl rfl (by omega) ⟨by omega, by omega⟩,
    opt_neq_i rfl rfl i19,
    opt_geq_i rfl rfl i20,
    opt_leq_i rfl rfl i21,
    opt_geq_i rfl rfl i22,
    opt_leq_i rfl rfl i23,
    opt_leq_i rfl rfl i24,
    opt_geq_i rfl rfl i25,
    opt_leq_i rfl rfl i26,
    opt_geq_i rfl rfl i27,
    trivial⟩
  have hcalls : CallsT Tryz.prog (@Know.calls (VEdges_eB_k b16 b24 b25 b26 b27)) := ⟨callt rfl rfl fun w hG => awake24_c w hG,
    callt rfl rfl fun w hG => GCheck_gs ⟨p, q⟩ ⟨hp, hq⟩ w hG,
    callt rfl rfl fun w hG => halves_z 2 y w ⟨by omega, by omega⟩ ⟨by omega, by omega⟩ hG,
    callt rfl rfl fun w hG => halves_z ((2 * c) - a) y w ⟨by omega, by omega⟩ ⟨by omega, by omega⟩ hG,
    callt rfl rfl fun w hG => DAdd_c p (hz ((2 * c) - a) (y - 1)) w hp (hz_Ok _ _) hG,
    callt rfl rfl fun w hG => DAdd_c (addD p (hz ((2 * c) - a) (y - 1))) (hz 2 (y - 1)) w (add_Ok hp (hz_Ok _ _)) (hz_Ok _ _) hG,
    callt rfl rfl fun w hG => DCmp_c g.re (addD p (hz ((2 * c) - a) (y - 1))) w hg.1 (add_Ok hp (hz_Ok _ _)),
    callt rfl rfl fun w hG => DCmp_c g.re (addD (addD p (hz ((2 * c) - a) (y - 1))) (hz 2 (y - 1))) w hg.1 (add_Ok (add_Ok hp (hz_Ok _ _)) (hz_Ok _ _)),
    callt rfl rfl fun w hG => halves_z ((b - (2 * r)) - 2) y w ⟨by omega, by omega⟩ ⟨by omega, by omega⟩ hG,
    callt rfl rfl fun w hG => DAdd_c q (hz ((b - (2 * r)) - 2) (y - 1)) w hq (hz_Ok _ _) hG,
    callt rfl rfl fun w hG => VRight_ok (addD p (hz ((2 * c) - a) (y - 1))) (addD q (hz ((b - (2 * r)) - 2) (y - 1))) y w (add_Ok hp (hz_Ok _ _)) (add_Ok hq (hz_Ok _ _)) ⟨by omega, by omega⟩ hG,
    callt rfl rfl fun w hG => DAdd_c (addD q (hz ((b - (2 * r)) - 2) (y - 1))) (hz 2 (y - 1)) w (add_Ok hq (hz_Ok _ _)) (hz_Ok _ _) hG,
    callt rfl rfl fun w hG => HH w hG,
    callt rfl rfl fun w hG => DCmp_c g.im (addD q (hz ((b - (2 * r)) - 2) (y - 1))) w hg.2 (add_Ok hq (hz_Ok _ _)),
    callt rfl rfl fun w hG => DCmp_c g.im (addD (addD q (hz ((b - (2 * r)) - 2) (y - 1))) (hz 2 (y - 1))) w hg.2 (add_Ok (add_Ok hq (hz_Ok _ _)) (hz_Ok _ _)),
    callt rfl rfl fun w hG => halves_z ((2 * (c + 1)) - a) y w ⟨by omega, by omega⟩ ⟨by omega, by omega⟩ hG,
    callt rfl rfl fun w hG => DAdd_canon hp (hz_Ok _ _) (show addD p (hz ((2 * (c + 1)) - a) (y - 1)) = addD (addD p (hz ((2 * c) - a) (y - 1))) (hz 2 (y - 1)) ∧ addE p (hz ((2 * (c + 1)) - a) (y - 1)) = addE (addD p (hz ((2 * c) - a) (y - 1))) (hz 2 (y - 1)) from add_hz hp ⟨by omega, by omega⟩ ⟨by omega, by omega⟩ ⟨by omega, by omega⟩ (by omega) hxx) w hG,
    callt rfl rfl fun w hG => halves_z ((b - (2 * (r + 1))) - 2) y w ⟨by omega, by omega⟩ ⟨by omega, by omega⟩ hG,
    callt rfl rfl fun w hG => DAdd_c q (hz ((b - (2 * (r + 1))) - 2) (y - 1)) w hq (hz_Ok _ _) hG,
    trivial⟩
  have fin : ∀ v, @comes (VEdges_eB_k b16 b24 b25 b26 b27) Tryz.prog glT 3000 VEdges_eB_f VEdges_eB_a = some v → ground v = true → Ending.returned (gval v) = .returned (.bool true) → Calls Tryz.prog 4 #[.agg #[.bool p.g, .string (natS p.n), .int .i64 p.x, .bool q.g, .string (natS q.n), .int .i64 q.x, .int .i64 y, .int .i64 a, .int .i64 b], .int .i64 c, .int .i64 r, .int .i64 s, .int .i64 t, .agg #[.bool g.re.g, .string (natS g.re.n), .int .i64 g.re.x, .bool g.im.g, .string (natS g.im.n), .int .i64 g.im.x]] w fun e w' => e = .returned (.bool true) ∧ Below w.heap.size w w' := fun v h1 h2 h3 => (@sym_ok _ (VEdges_eB_k b16 b24 b25 b26 b27) _ (@KnowOk.of _ (VEdges_eB_k b16 b24 b25 b26 b27) _ hops hcalls) (by kernel_rfl) _ _ _ _ h1 rfl h2 _ hG).mono fun e w' h => ⟨h.1.trans h3, h.2⟩
  clear hops hcalls
  cases b16 with
  | true =>
    have h16 := i16.1 rfl
    cases b24 with
    | true =>
      have h24 := i24.1 rfl
      exact fin _ (VEdges_eB_r1 b25 b26 b27) rfl rfl
    | false =>
      have h24 : ¬ (cmpD g.re (addD p (hz ((2 * c) - a) (y - 1))) ≤ 0) := fun c => Bool.false_ne_true (i24.2 c)
      cases b25 with
      | true =>
        have h25 := i25.1 rfl
        exact fin _ (VEdges_eB_r2 b26 b27) rfl rfl
      | false =>
        have h25 : ¬ (cmpD g.re (addD (addD p (hz ((2 * c) - a) (y - 1))) (hz 2 (y - 1))) ≥ 0) := fun c => Bool.false_ne_true (i25.2 c)
        cases b26 with
        | true =>
          have h26 := i26.1 rfl
          exact fin _ (VEdges_eB_r3 b27) rfl rfl
        | false =>
          have h26 : ¬ (cmpD g.im (addD q (hz ((b - (2 * r)) - 2) (y - 1))) ≤ 0) := fun c => Bool.false_ne_true (i26.2 c)
          cases b27 with
          | true =>
            have h27 := i27.1 rfl
            exact fin _ (VEdges_eB_r4) rfl rfl
          | false =>
            exact absurd (i27.2 ((Decidable.byContradiction fun c => hs ⟨h24, h25, h26, c⟩))) Bool.false_ne_true
  | false =>
    have h16 : ¬ (c + 1 ≤ a - 1) := fun c => Bool.false_ne_true (i16.2 c)
    cases b24 with
    | true =>
      have h24 := i24.1 rfl
      exact fin _ (VEdges_eB_r5 b25 b26 b27) rfl rfl
    | false =>
      have h24 : ¬ (cmpD g.re (addD p (hz ((2 * c) - a) (y - 1))) ≤ 0) := fun c => Bool.false_ne_true (i24.2 c)
      cases b25 with
      | true =>
        have h25 := i25.1 rfl
        exact fin _ (VEdges_eB_r6 b26 b27) rfl rfl
      | false =>
        have h25 : ¬ (cmpD g.re (addD (addD p (hz ((2 * c) - a) (y - 1))) (hz 2 (y - 1))) ≥ 0) := fun c => Bool.false_ne_true (i25.2 c)
        cases b26 with
        | true =>
          have h26 := i26.1 rfl
          exact fin _ (VEdges_eB_r7 b27) rfl rfl
        | false =>
          have h26 : ¬ (cmpD g.im (addD q (hz ((b - (2 * r)) - 2) (y - 1))) ≤ 0) := fun c => Bool.false_ne_true (i26.2 c)
          cases b27 with
          | true =>
            have h27 := i27.1 rfl
            exact fin _ (VEdges_eB_r8) rfl rfl
          | false =>
            exact absurd (i27.2 ((Decidable.byContradiction fun c => hs ⟨h24, h25, h26, c⟩))) Bool.false_ne_true
@[reducible] def VEdges_eSo_f : FuncId := 4
@[reducible] def VEdges_eSo_a : List AV := [.agg [.sym 0, .sym 1, .sym 2, .sym 3, .sym 4, .sym 5, .sym 6, .sym 7, .sym 8], .sym 9, .sym 10, .sym 11, .sym 12, .agg [.sym 13, .sym 14, .sym 15, .sym 16, .sym 17, .sym 18]]
@[reducible] noncomputable def VEdges_eSo_k (b16 b28 b29 b30 b32 b33 b34 b35 : Bool) : Know := ⟨[([0, 16, 3], [.sym 6, .lit (.int .i64 (-4096))], .lit (.bool true)),
  ([0, 14, 3], [.sym 6, .lit (.int .i64 4096)], .lit (.bool true)),
  ([0, 16, 3], [.sym 7, .lit (.int .i64 1)], .lit (.bool true)),
  ([0, 14, 3], [.sym 7, .lit (.int .i64 65536)], .lit (.bool true)),
  ([0, 16, 3], [.sym 8, .lit (.int .i64 1)], .lit (.bool true)),
  ([0, 14, 3], [.sym 8, .lit (.int .i64 65536)], .lit (.bool true)),
  ([0, 1, 3], [.sym 7, .lit (.int .i64 1)], .sym 25),
  ([0, 16, 3], [.sym 9, .lit (.int .i64 0)], .lit (.bool true)),
  ([0, 14, 3], [.sym 9, .sym 25], .lit (.bool true)),
  ([0, 1, 3], [.sym 8, .lit (.int .i64 1)], .sym 26),
  ([0, 16, 3], [.sym 10, .lit (.int .i64 0)], .lit (.bool true)),
  ([0, 14, 3], [.sym 10, .sym 26], .lit (.bool true)),
  ([0, 2, 3], [.lit (.int .i64 2), .sym 9], .sym 27),
  ([0, 1, 3], [.sym 27, .sym 7], .sym 28),
  ([0, 2, 3], [.lit (.int .i64 2), .sym 10], .sym 42),
  ([0, 1, 3], [.sym 8, .sym 42], .sym 43),
  ([0, 1, 3], [.sym 43, .lit (.int .i64 2)], .sym 44),
  ([0, 12, 31], [.sym 35, .lit (.int .i64 0)], .lit (.bool false)),
  ([0, 12, 31], [.sym 51, .lit (.int .i64 0)], .lit (.bool false)),
  ([0, 12, 31], [.sym 39, .lit (.int .i64 0)], .lit (.bool false)),
  ([0, 12, 31], [.sym 55, .lit (.int .i64 0)], .lit (.bool false)),
  ([0, 0, 3], [.sym 9, .lit (.int .i64 1)], .sym 58),
  ([0, 16, 3], [.sym 58, .lit (.int .i64 0)], .lit (.bool true)),
  ([0, 14, 3], [.sym 58, .sym 25], .lit (.bool b16)),
  ([0, 2, 3], [.lit (.int .i64 2), .sym 58], .sym 59),
  ([0, 1, 3], [.sym 59, .sym 7], .sym 60),
  ([0, 12, 24], [.agg [.sym 36, .sym 37, .sym 38], .agg [.sym 36, .sym 37, .sym 38]], .lit (.bool false)),
  ([0, 12, 24], [.agg [.sym 48, .sym 49, .sym 50], .agg [.sym 48, .sym 49, .sym 50]], .lit (.bool false)),
  ([0, 0, 3], [.sym 10, .lit (.int .i64 1)], .sym 64),
  ([0, 16, 3], [.sym 64, .lit (.int .i64 0)], .lit (.bool true)),
  ([0, 14, 3], [.sym 64, .sym 26], .lit (.bool true)),
  ([0, 2, 3], [.lit (.int .i64 2), .sym 64], .sym 65),
  ([0, 1, 3], [.sym 8, .sym 65], .sym 66),
  ([0, 1, 3], [.sym 66, .lit (.int .i64 2)], .sym 67),
  ([0, 12, 31], [.sym 74, .lit (.int .i64 0)], .lit (.bool true)),
  ([0, 16, 3], [.sym 40, .lit (.int .i64 0)], .lit (.bool true)),
  ([0, 14, 3], [.sym 41, .lit (.int .i64 0)], .lit (.bool true)),
  ([0, 16, 3], [.sym 56, .lit (.int .i64 0)], .lit (.bool true)),
  ([0, 14, 3], [.sym 57, .lit (.int .i64 0)], .lit (.bool true)),
  ([0, 14, 3], [.sym 40, .lit (.int .i64 0)], .lit (.bool false)),
  ([0, 16, 3], [.sym 41, .lit (.int .i64 0)], .lit (.bool false)),
  ([0, 14, 3], [.sym 56, .lit (.int .i64 0)], .lit (.bool false)),
  ([0, 16, 3], [.sym 57, .lit (.int .i64 0)], .lit (.bool false)),
  ([0, 11, 31], [.sym 24, .lit (.int .i64 0)], .lit (.bool b28)),
  ([0, 12, 3], [.sym 22, .sym 9], .lit (.bool (!b29))),
  ([0, 12, 3], [.sym 23, .sym 10], .lit (.bool (!b30))),
  ([0, 11, 31], [.sym 24, .lit (.int .i64 241)], .lit (.bool false)),
  ([0, 16, 3], [.sym 11, .lit (.int .i64 0)], .lit (.bool b32)),
  ([0, 14, 3], [.sym 11, .sym 25], .lit (.bool b33)),
  ([0, 16, 3], [.sym 12, .lit (.int .i64 0)], .lit (.bool b34)),
  ([0, 14, 3], [.sym 12, .sym 26], .lit (.bool b35))],
  [(8, [], .lit (.bool true)),
  (19, [.agg [.sym 0, .sym 1, .sym 2, .sym 3, .sym 4, .sym 5]], .lit (.int .i64 0)),
  (39, [.lit (.int .i64 2), .sym 6], .agg [.sym 19, .sym 20, .sym 21]),
  (6, [.agg [.sym 0, .sym 1, .sym 2, .sym 3, .sym 4, .sym 5, .sym 6, .sym 7, .sym 8], .agg [.sym 13, .sym 14, .sym 15, .sym 16, .sym 17, .sym 18]], .tup [.sym 22, .sym 23, .sym 24]),
  (39, [.sym 28, .sym 6], .agg [.sym 29, .sym 30, .sym 31]),
  (38, [.agg [.sym 0, .sym 1, .sym 2], .agg [.sym 29, .sym 30, .sym 31]], .tup [.agg [.sym 32, .sym 33, .sym 34], .sym 35]),
  (38, [.agg [.sym 32, .sym 33, .sym 34], .agg [.sym 19, .sym 20, .sym 21]], .tup [.agg [.sym 36, .sym 37, .sym 38], .sym 39]),
  (14, [.agg [.sym 13, .sym 14, .sym 15], .agg [.sym 32, .sym 33, .sym 34]], .tup [.sym 40, .lit (.int .i64 0)]),
  (14, [.agg [.sym 13, .sym 14, .sym 15], .agg [.sym 36, .sym 37, .sym 38]], .tup [.sym 41, .lit (.int .i64 0)]),
  (39, [.sym 44, .sym 6], .agg [.sym 45, .sym 46, .sym 47]),
  (38, [.agg [.sym 3, .sym 4, .sym 5], .agg [.sym 45, .sym 46, .sym 47]], .tup [.agg [.sym 48, .sym 49, .sym 50], .sym 51]),
  (32, [.agg [.sym 32, .sym 33, .sym 34, .sym 48, .sym 49, .sym 50, .sym 6]], .lit (.int .i64 0)),
  (38, [.agg [.sym 48, .sym 49, .sym 50], .agg [.sym 19, .sym 20, .sym 21]], .tup [.agg [.sym 52, .sym 53, .sym 54], .sym 55]),
  (13, [.agg [.sym 32, .sym 33, .sym 34, .sym 48, .sym 49, .sym 50, .sym 6], .agg [.sym 13, .sym 14, .sym 15, .sym 16, .sym 17, .sym 18]], .lit (.tuple #[.bool true, .int .i64 0])),
  (14, [.agg [.sym 16, .sym 17, .sym 18], .agg [.sym 48, .sym 49, .sym 50]], .tup [.sym 56, .lit (.int .i64 0)]),
  (14, [.agg [.sym 16, .sym 17, .sym 18], .agg [.sym 52, .sym 53, .sym 54]], .tup [.sym 57, .lit (.int .i64 0)]),
  (39, [.sym 60, .sym 6], .agg [.sym 61, .sym 62, .sym 63]),
  (38, [.agg [.sym 0, .sym 1, .sym 2], .agg [.sym 61, .sym 62, .sym 63]], .tup [.agg [.sym 36, .sym 37, .sym 38], .sym 39]),
  (39, [.sym 67, .sym 6], .agg [.sym 68, .sym 69, .sym 70]),
  (38, [.agg [.sym 3, .sym 4, .sym 5], .agg [.sym 68, .sym 69, .sym 70]], .tup [.agg [.sym 71, .sym 72, .sym 73], .sym 74])]⟩
theorem VEdges_eSo_r1 : @comes (VEdges_eSo_k true true true true true true true false) Tryz.prog glT 3000 VEdges_eSo_f VEdges_eSo_a = some (.lit (.bool true)) := by kernel_rfl
theorem VEdges_eSo_r2 (b35 : Bool) : @comes (VEdges_eSo_k true true true true true true false b35) Tryz.prog glT 3000 VEdges_eSo_f VEdges_eSo_a = some (.lit (.bool true)) := by kernel_rfl
theorem VEdges_eSo_r3 (b34 b35 : Bool) : @comes (VEdges_eSo_k true true true true true false b34 b35) Tryz.prog glT 3000 VEdges_eSo_f VEdges_eSo_a = some (.lit (.bool true)) := by kernel_rfl
theorem VEdges_eSo_r4 (b33 b34 b35 : Bool) : @comes (VEdges_eSo_k true true true true false b33 b34 b35) Tryz.prog glT 3000 VEdges_eSo_f VEdges_eSo_a = some (.lit (.bool true)) := by kernel_rfl
theorem VEdges_eSo_r5 (b29 b30 : Bool) : @comes (VEdges_eSo_k true false b29 b30 true true true false) Tryz.prog glT 3000 VEdges_eSo_f VEdges_eSo_a = some (.lit (.bool true)) := by kernel_rfl
theorem VEdges_eSo_r6 (b29 b30 b35 : Bool) : @comes (VEdges_eSo_k true false b29 b30 true true false b35) Tryz.prog glT 3000 VEdges_eSo_f VEdges_eSo_a = some (.lit (.bool true)) := by kernel_rfl
theorem VEdges_eSo_r7 (b29 b30 b34 b35 : Bool) : @comes (VEdges_eSo_k true false b29 b30 true false b34 b35) Tryz.prog glT 3000 VEdges_eSo_f VEdges_eSo_a = some (.lit (.bool true)) := by kernel_rfl
theorem VEdges_eSo_r8 (b29 b30 b33 b34 b35 : Bool) : @comes (VEdges_eSo_k true false b29 b30 false b33 b34 b35) Tryz.prog glT 3000 VEdges_eSo_f VEdges_eSo_a = some (.lit (.bool true)) := by kernel_rfl
theorem VEdges_eSo_r9 : @comes (VEdges_eSo_k false true true true true true true false) Tryz.prog glT 3000 VEdges_eSo_f VEdges_eSo_a = some (.lit (.bool true)) := by kernel_rfl
theorem VEdges_eSo_r10 (b35 : Bool) : @comes (VEdges_eSo_k false true true true true true false b35) Tryz.prog glT 3000 VEdges_eSo_f VEdges_eSo_a = some (.lit (.bool true)) := by kernel_rfl
theorem VEdges_eSo_r11 (b34 b35 : Bool) : @comes (VEdges_eSo_k false true true true true false b34 b35) Tryz.prog glT 3000 VEdges_eSo_f VEdges_eSo_a = some (.lit (.bool true)) := by kernel_rfl
theorem VEdges_eSo_r12 (b33 b34 b35 : Bool) : @comes (VEdges_eSo_k false true true true false b33 b34 b35) Tryz.prog glT 3000 VEdges_eSo_f VEdges_eSo_a = some (.lit (.bool true)) := by kernel_rfl
theorem VEdges_eSo_r13 (b29 b30 : Bool) : @comes (VEdges_eSo_k false false b29 b30 true true true false) Tryz.prog glT 3000 VEdges_eSo_f VEdges_eSo_a = some (.lit (.bool true)) := by kernel_rfl
theorem VEdges_eSo_r14 (b29 b30 b35 : Bool) : @comes (VEdges_eSo_k false false b29 b30 true true false b35) Tryz.prog glT 3000 VEdges_eSo_f VEdges_eSo_a = some (.lit (.bool true)) := by kernel_rfl
theorem VEdges_eSo_r15 (b29 b30 b34 b35 : Bool) : @comes (VEdges_eSo_k false false b29 b30 true false b34 b35) Tryz.prog glT 3000 VEdges_eSo_f VEdges_eSo_a = some (.lit (.bool true)) := by kernel_rfl
theorem VEdges_eSo_r16 (b29 b30 b33 b34 b35 : Bool) : @comes (VEdges_eSo_k false false b29 b30 false b33 b34 b35) Tryz.prog glT 3000 VEdges_eSo_f VEdges_eSo_a = some (.lit (.bool true)) := by kernel_rfl
set_option maxRecDepth 100000 in
set_option maxHeartbeats 4000000 in
theorem VEdges_eSo (p q : Dy) (y a b c r s t : Int) (g : Gs) (m n k : Int) (w : World) (hp : p.Ok) (hq : q.Ok) (hy : -4096 ≤ y ∧ y ≤ 4096) (ha : 1 ≤ a ∧ a ≤ 65536) (hb : 1 ≤ b ∧ b ≤ 65536) (hg : g.Ok) (c1 : 0 ≤ c) (c2 : c ≤ a - 1) (r1 : 0 ≤ r) (r2 : r ≤ b - 1) (hxx : addE p (hz ((2 * c) - a) (y - 1)) = 0) (hyy : addE q (hz ((b - (2 * r)) - 2) (y - 1)) = 0) (huu : addE (addD p (hz ((2 * c) - a) (y - 1))) (hz 2 (y - 1)) = 0) (hvv : addE (addD q (hz ((b - (2 * r)) - 2) (y - 1))) (hz 2 (y - 1)) = 0) (hr : r + 2 ≤ b) (hu : ¬ addE q (hz ((b - (2 * (r + 1))) - 2) (y - 1)) = 0) (HH : ∀ w, Globs glT w → Calls Tryz.prog 13 #[.agg #[.bool (addD p (hz ((2 * c) - a) (y - 1))).g, .string (natS (addD p (hz ((2 * c) - a) (y - 1))).n), .int .i64 (addD p (hz ((2 * c) - a) (y - 1))).x, .bool (addD q (hz ((b - (2 * r)) - 2) (y - 1))).g, .string (natS (addD q (hz ((b - (2 * r)) - 2) (y - 1))).n), .int .i64 (addD q (hz ((b - (2 * r)) - 2) (y - 1))).x, .int .i64 y], .agg #[.bool g.re.g, .string (natS g.re.n), .int .i64 g.re.x, .bool g.im.g, .string (natS g.im.n), .int .i64 g.im.x]] w fun e w' => e = .returned (.tuple #[.bool true, .int .i64 0]) ∧ Below w.heap.size w w') (cca : cmpD g.re (addD p (hz ((2 * c) - a) (y - 1))) ≥ 0) (ccb : cmpD g.re (addD (addD p (hz ((2 * c) - a) (y - 1))) (hz 2 (y - 1))) ≤ 0) (ccc : cmpD g.im (addD q (hz ((b - (2 * r)) - 2) (y - 1))) ≥ 0) (ccd : cmpD g.im (addD (addD q (hz ((b - (2 * r)) - 2) (y - 1))) (hz 2 (y - 1))) ≤ 0) (ssa : ¬ cmpD g.re (addD p (hz ((2 * c) - a) (y - 1))) ≤ 0) (ssb : ¬ cmpD g.re (addD (addD p (hz ((2 * c) - a) (y - 1))) (hz 2 (y - 1))) ≥ 0) (ssc : ¬ cmpD g.im (addD q (hz ((b - (2 * r)) - 2) (y - 1))) ≤ 0) (ssd : ¬ cmpD g.im (addD (addD q (hz ((b - (2 * r)) - 2) (y - 1))) (hz 2 (y - 1))) ≥ 0) (HF : ∀ w, Globs glT w → Calls Tryz.prog 6 #[.agg #[.bool p.g, .string (natS p.n), .int .i64 p.x, .bool q.g, .string (natS q.n), .int .i64 q.x, .int .i64 y, .int .i64 a, .int .i64 b], .agg #[.bool g.re.g, .string (natS g.re.n), .int .i64 g.re.x, .bool g.im.g, .string (natS g.im.n), .int .i64 g.im.x]] w fun e w' => e = .returned (.tuple #[.int .i64 m, .int .i64 n, .int .i64 k]) ∧ Below w.heap.size w w') (f1 : k = 0 → m = c) (f2 : k = 0 → n = r) (f3 : ¬ k = 241) (hout : ¬ (s ≥ 0 ∧ s ≤ a - 1 ∧ t ≥ 0 ∧ t ≤ b - 1)) (hG : Globs glT w) : Calls Tryz.prog 4 #[.agg #[.bool p.g, .string (natS p.n), .int .i64 p.x, .bool q.g, .string (natS q.n), .int .i64 q.x, .int .i64 y, .int .i64 a, .int .i64 b], .int .i64 c, .int .i64 r, .int .i64 s, .int .i64 t, .agg #[.bool g.re.g, .string (natS g.re.n), .int .i64 g.re.x, .bool g.im.g, .string (natS g.im.n), .int .i64 g.im.x]] w fun e w' => e = .returned (.bool true) ∧ Below w.heap.size w w' := by
  have h1 : y ≥ -4096 := ( by omega)
  have i1 := vet h1
  have h2 : y ≤ 4096 := ( by omega)
  have i2 := vet h2
  have h3 : a ≥ 1 := ( by omega)
  have i3 := vet h3
  have h4 : a ≤ 65536 := ( by omega)
  have i4 := vet h4
  have h5 : b ≥ 1 := ( by omega)
  have i5 := vet h5
  have h6 : b ≤ 65536 := ( by omega)
  have i6 := vet h6
  have h7 : c ≥ 0 := ( by omega)
  have i7 := vet h7
  have h8 : c ≤ a - 1 := ( by omega)
  have i8 := vet h8
  have h9 : r ≥ 0 := ( by omega)
  have i9 := vet h9
  have h10 : r ≤ b - 1 := ( by omega)
  have i10 := vet h10
  have h11 := hxx
  have i11 := vet h11
  have h12 := hyy
  have i12 := vet h12
  have h13 := huu
  have i13 := vet h13
  have h14 := hvv
  have i14 := vet h14
  have h15 : c + 1 ≥ 0 := ( by omega)
  have i15 := vet h15
  obtain ⟨b16, i16⟩ := bex (c + 1 ≤ a - 1)
  have h17 : r + 1 ≥ 0 := ( by omega)
  have i17 := vet h17
  have h18 : r + 1 ≤ b - 1 := ( by omega)
  have i18 := vet h18
  have h19 := hu
  have i19 := vef h19
  have h20 := cca
  have i20 := vet h20
  have h21 := ccb
  have i21 := vet h21
  have h22 := ccc
  have i22 := vet h22
  have h23 := ccd
  have i23 := vet h23
  have h24 := ssa
  have i24 := vef h24
  have h25 := ssb
  have i25 := vef h25
  have h26 := ssc
  have i26 := vef h26
  have h27 := ssd
  have i27 := vef h27
  obtain ⟨b28, i28⟩ := bex (k = 0)
  obtain ⟨b29, i29⟩ := bex (m = c)
  obtain ⟨b30, i30⟩ := bex (n = r)
  have h31 := f3
  have i31 := vef h31
  obtain ⟨b32, i32⟩ := bex (s ≥ 0)
  obtain ⟨b33, i33⟩ := bex (s ≤ a - 1)
  obtain ⟨b34, i34⟩ := bex (t ≥ 0)
  obtain ⟨b35, i35⟩ := bex (t ≤ b - 1)
  letI : Env := mkEnv glT [.bool p.g, .string (natS p.n), .int .i64 p.x, .bool q.g, .string (natS q.n), .int .i64 q.x, .int .i64 y, .int .i64 a, .int .i64 b, .int .i64 c, .int .i64 r, .int .i64 s, .int .i64 t, .bool g.re.g, .string (natS g.re.n), .int .i64 g.re.x, .bool g.im.g, .string (natS g.im.n), .int .i64 g.im.x, .bool (hz 2 (y - 1)).g, .string (natS (hz 2 (y - 1)).n), .int .i64 (hz 2 (y - 1)).x, .int .i64 m, .int .i64 n, .int .i64 k, .int .i64 (a - 1), .int .i64 (b - 1), .int .i64 (2 * c), .int .i64 ((2 * c) - a), .bool (hz ((2 * c) - a) (y - 1)).g, .string (natS (hz ((2 * c) - a) (y - 1)).n), .int .i64 (hz ((2 * c) - a) (y - 1)).x, .bool (addD p (hz ((2 * c) - a) (y - 1))).g, .string (natS (addD p (hz ((2 * c) - a) (y - 1))).n), .int .i64 (addD p (hz ((2 * c) - a) (y - 1))).x, .int .i64 (addE p (hz ((2 * c) - a) (y - 1))), .bool (addD (addD p (hz ((2 * c) - a) (y - 1))) (hz 2 (y - 1))).g, .string (natS (addD (addD p (hz ((2 * c) - a) (y - 1))) (hz 2 (y - 1))).n), .int .i64 (addD (addD p (hz ((2 * c) - a) (y - 1))) (hz 2 (y - 1))).x, .int .i64 (addE (addD p (hz ((2 * c) - a) (y - 1))) (hz 2 (y - 1))), .int .i64 (cmpD g.re (addD p (hz ((2 * c) - a) (y - 1)))), .int .i64 (cmpD g.re (addD (addD p (hz ((2 * c) - a) (y - 1))) (hz 2 (y - 1)))), .int .i64 (2 * r), .int .i64 (b - (2 * r)), .int .i64 ((b - (2 * r)) - 2), .bool (hz ((b - (2 * r)) - 2) (y - 1)).g, .string (natS (hz ((b - (2 * r)) - 2) (y - 1)).n), .int .i64 (hz ((b - (2 * r)) - 2) (y - 1)).x, .bool (addD q (hz ((b - (2 * r)) - 2) (y - 1))).g, .string (natS (addD q (hz ((b - (2 * r)) - 2) (y - 1))).n), .int .i64 (addD q (hz ((b - (2 * r)) - 2) (y - 1))).x, .int .i64 (addE q (hz ((b - (2 * r)) - 2) (y - 1))), .bool (addD (addD q (hz ((b - (2 * r)) - 2) (y - 1))) (hz 2 (y - 1))).g, .string (natS (addD (addD q (hz ((b - (2 * r)) - 2) (y - 1))) (hz 2 (y - 1))).n), .int .i64 (addD (addD q (hz ((b - (2 * r)) - 2) (y - 1))) (hz 2 (y - 1))).x, .int .i64 (addE (addD q (hz ((b - (2 * r)) - 2) (y - 1))) (hz 2 (y - 1))), .int .i64 (cmpD g.im (addD q (hz ((b - (2 * r)) - 2) (y - 1)))), .int .i64 (cmpD g.im (addD (addD q (hz ((b - (2 * r)) - 2) (y - 1))) (hz 2 (y - 1)))), .int .i64 (c + 1), .int .i64 (2 * (c + 1)), .int .i64 ((2 * (c + 1)) - a), .bool (hz ((2 * (c + 1)) - a) (y - 1)).g, .string (natS (hz ((2 * (c + 1)) - a) (y - 1)).n), .int .i64 (hz ((2 * (c + 1)) - a) (y - 1)).x, .int .i64 (r + 1), .int .i64 (2 * (r + 1)), .int .i64 (b - (2 * (r + 1))), .int .i64 ((b - (2 * (r + 1))) - 2), .bool (hz ((b - (2 * (r + 1))) - 2) (y - 1)).g, .string (natS (hz ((b - (2 * (r + 1))) - 2) (y - 1)).n), .int .i64 (hz ((b - (2 * (r + 1))) - 2) (y - 1)).x, .bool (addD q (hz ((b - (2 * (r + 1))) - 2) (y - 1))).g, .string (natS (addD q (hz ((b - (2 * (r + 1))) - 2) (y - 1))).n), .int .i64 (addD q (hz ((b - (2 * (r + 1))) - 2) (y - 1))).x, .int .i64 (addE q (hz ((b - (2 * (r + 1))) - 2) (y - 1)))] rfl
  have hops : OpsT Tryz.prog (@Know.ops (VEdges_eSo_k b16 b28 b29 b30 b32 b33 b34 b35)) := ⟨opt_geq_i rfl rfl i1,
    opt_leq_i rfl rfl i2,
    opt_geq_i rfl rfl i3,
    opt_leq_i rfl rfl i4,
    opt_geq_i rfl rfl i5,
    opt_leq_i rfl rfl i6,
    vopt_sub rfl rfl rfl rfl (by omega) ⟨by omega, by omega⟩,
    opt_geq_i rfl rfl i7,
    opt_leq_i rfl rfl i8,
    vopt_sub rfl rfl rfl rfl (by omega) ⟨by omega, by omega⟩,
    opt_geq_i rfl rfl i9,
    opt_leq_i rfl rfl i10,
    vopt_mul rfl rfl rfl rfl (by omega) ⟨by omega, by omega⟩,
    vopt_sub rfl rfl rfl rfl (by omega) ⟨by omega, by omega⟩,
    vopt_mul rfl rfl rfl rfl (by omega) ⟨by omega, by omega⟩,
    vopt_sub rfl rfl rfl rfl (by omega) ⟨by omega, by omega⟩,
    vopt_sub rfl rfl rfl rfl (by omega) ⟨by omega, by omega⟩,
    opt_neq_i rfl rfl i11,
    opt_neq_i rfl rfl i12,
    opt_neq_i rfl rfl i13,
    opt_neq_i rfl rfl i14,
    vopt_add rfl rfl rfl rfl (by omega) ⟨by omega, by omega⟩,
    opt_geq_i rfl rfl i15,
    opt_leq_i rfl rfl i16,
    vopt_mul rfl rfl rfl rfl (by omega) ⟨by omega, by omega⟩,
    vopt_sub rfl rfl rfl rfl (by omega) ⟨by omega, by omega⟩,
    optD_neq_f (a := addD (addD p (hz ((2 * c) - a) (y - 1))) (hz 2 (y - 1))) (b := addD (addD p (hz ((2 * c) - a) (y - 1))) (hz 2 (y - 1))) rfl rfl rfl,
    optD_neq_f (a := addD q (hz ((b - (2 * r)) - 2) (y - 1))) (b := addD q (hz ((b - (2 * r)) - 2) (y - 1))) rfl rfl rfl,
    vopt_add rfl rfl rfl rfl (by omega) ⟨by omega, by omega⟩,
    opt_geq_i rfl rfl i17,
    opt_leq_i rfl rfl i18,
    vopt_mul rfl rfl rfl rfl (by omega) ⟨by omega, by omega⟩,
    vopt_sub rfl rfl rfl rfl (by omega) ⟨by omega, by omega⟩,
    vopt_sub rfl rfl rfl rfl (by omega) ⟨by omega, by omega⟩,
    opt_neq_i rfl rfl i19,
    opt_geq_i rfl rfl i20,
    opt_leq_i rfl rfl i21,
    opt_geq_i rfl rfl i22,
    opt_leq_i rfl rfl i23,
    opt_leq_i rfl rfl i24,
    opt_geq_i rfl rfl i25,
    opt_leq_i rfl rfl i26,
    opt_geq_i rfl rfl i27,
    opt_eql_i rfl rfl i28,
    opt_neq_i rfl rfl i29,
    opt_neq_i rfl rfl i30,
    opt_eql_i rfl rfl i31,
    opt_geq_i rfl rfl i32,
    opt_leq_i rfl rfl i33,
    opt_geq_i rfl rfl i34,
    opt_leq_i rfl rfl i35,
    trivial⟩
  have hcalls : CallsT Tryz.prog (@Know.calls (VEdges_eSo_k b16 b28 b29 b30 b32 b33 b34 b35)) := ⟨callt rfl rfl fun w hG => awake24_c w hG,
    callt rfl rfl fun w hG => GCheck_gs ⟨p, q⟩ ⟨hp, hq⟩ w hG,
    callt rfl rfl fun w hG => halves_z 2 y w ⟨by omega, by omega⟩ ⟨by omega, by omega⟩ hG,
    callt rfl rfl fun w hG => HF w hG,
    callt rfl rfl fun w hG => halves_z ((2 * c) - a) y w ⟨by omega, by omega⟩ ⟨by omega, by omega⟩ hG,
    callt rfl rfl fun w hG => DAdd_c p (hz ((2 * c) - a) (y - 1)) w hp (hz_Ok _ _) hG,
    callt rfl rfl fun w hG => DAdd_c (addD p (hz ((2 * c) - a) (y - 1))) (hz 2 (y - 1)) w (add_Ok hp (hz_Ok _ _)) (hz_Ok _ _) hG,
    callt rfl rfl fun w hG => DCmp_c g.re (addD p (hz ((2 * c) - a) (y - 1))) w hg.1 (add_Ok hp (hz_Ok _ _)),
    callt rfl rfl fun w hG => DCmp_c g.re (addD (addD p (hz ((2 * c) - a) (y - 1))) (hz 2 (y - 1))) w hg.1 (add_Ok (add_Ok hp (hz_Ok _ _)) (hz_Ok _ _)),
    callt rfl rfl fun w hG => halves_z ((b - (2 * r)) - 2) y w ⟨by omega, by omega⟩ ⟨by omega, by omega⟩ hG,
    callt rfl rfl fun w hG => DAdd_c q (hz ((b - (2 * r)) - 2) (y - 1)) w hq (hz_Ok _ _) hG,
    callt rfl rfl fun w hG => VRight_ok (addD p (hz ((2 * c) - a) (y - 1))) (addD q (hz ((b - (2 * r)) - 2) (y - 1))) y w (add_Ok hp (hz_Ok _ _)) (add_Ok hq (hz_Ok _ _)) ⟨by omega, by omega⟩ hG,
    callt rfl rfl fun w hG => DAdd_c (addD q (hz ((b - (2 * r)) - 2) (y - 1))) (hz 2 (y - 1)) w (add_Ok hq (hz_Ok _ _)) (hz_Ok _ _) hG,
    callt rfl rfl fun w hG => HH w hG,
    callt rfl rfl fun w hG => DCmp_c g.im (addD q (hz ((b - (2 * r)) - 2) (y - 1))) w hg.2 (add_Ok hq (hz_Ok _ _)),
    callt rfl rfl fun w hG => DCmp_c g.im (addD (addD q (hz ((b - (2 * r)) - 2) (y - 1))) (hz 2 (y - 1))) w hg.2 (add_Ok (add_Ok hq (hz_Ok _ _)) (hz_Ok _ _)),
    callt rfl rfl fun w hG => halves_z ((2 * (c + 1)) - a) y w ⟨by omega, by omega⟩ ⟨by omega, by omega⟩ hG,
    callt rfl rfl fun w hG => DAdd_canon hp (hz_Ok _ _) (show addD p (hz ((2 * (c + 1)) - a) (y - 1)) = addD (addD p (hz ((2 * c) - a) (y - 1))) (hz 2 (y - 1)) ∧ addE p (hz ((2 * (c + 1)) - a) (y - 1)) = addE (addD p (hz ((2 * c) - a) (y - 1))) (hz 2 (y - 1)) from add_hz hp ⟨by omega, by omega⟩ ⟨by omega, by omega⟩ ⟨by omega, by omega⟩ (by omega) hxx) w hG,
    callt rfl rfl fun w hG => halves_z ((b - (2 * (r + 1))) - 2) y w ⟨by omega, by omega⟩ ⟨by omega, by omega⟩ hG,
    callt rfl rfl fun w hG => DAdd_c q (hz ((b - (2 * (r + 1))) - 2) (y - 1)) w hq (hz_Ok _ _) hG,
    trivial⟩
  have fin : ∀ v, @comes (VEdges_eSo_k b16 b28 b29 b30 b32 b33 b34 b35) Tryz.prog glT 3000 VEdges_eSo_f VEdges_eSo_a = some v → ground v = true → Ending.returned (gval v) = .returned (.bool true) → Calls Tryz.prog 4 #[.agg #[.bool p.g, .string (natS p.n), .int .i64 p.x, .bool q.g, .string (natS q.n), .int .i64 q.x, .int .i64 y, .int .i64 a, .int .i64 b], .int .i64 c, .int .i64 r, .int .i64 s, .int .i64 t, .agg #[.bool g.re.g, .string (natS g.re.n), .int .i64 g.re.x, .bool g.im.g, .string (natS g.im.n), .int .i64 g.im.x]] w fun e w' => e = .returned (.bool true) ∧ Below w.heap.size w w' := fun v h1 h2 h3 => (@sym_ok _ (VEdges_eSo_k b16 b28 b29 b30 b32 b33 b34 b35) _ (@KnowOk.of _ (VEdges_eSo_k b16 b28 b29 b30 b32 b33 b34 b35) _ hops hcalls) (by kernel_rfl) _ _ _ _ h1 rfl h2 _ hG).mono fun e w' h => ⟨h.1.trans h3, h.2⟩
  clear hops hcalls
  cases b16 with
  | true =>
    have h16 := i16.1 rfl
    cases b28 with
    | true =>
      have h28 := i28.1 rfl
      cases b29 with
      | true =>
        have h29 := i29.1 rfl
        cases b30 with
        | true =>
          have h30 := i30.1 rfl
          cases b32 with
          | true =>
            have h32 := i32.1 rfl
            cases b33 with
            | true =>
              have h33 := i33.1 rfl
              cases b34 with
              | true =>
                have h34 := i34.1 rfl
                cases b35 with
                | true =>
                  exact absurd (i35.1 rfl) (fun c => hout ⟨h32, h33, h34, c⟩)
                | false =>
                  have h35 : ¬ (t ≤ b - 1) := fun c => Bool.false_ne_true (i35.2 c)
                  exact fin _ (VEdges_eSo_r1) rfl rfl
              | false =>
                have h34 : ¬ (t ≥ 0) := fun c => Bool.false_ne_true (i34.2 c)
                exact fin _ (VEdges_eSo_r2 b35) rfl rfl
            | false =>
              have h33 : ¬ (s ≤ a - 1) := fun c => Bool.false_ne_true (i33.2 c)
              exact fin _ (VEdges_eSo_r3 b34 b35) rfl rfl
          | false =>
            have h32 : ¬ (s ≥ 0) := fun c => Bool.false_ne_true (i32.2 c)
            exact fin _ (VEdges_eSo_r4 b33 b34 b35) rfl rfl
        | false =>
          exact absurd (i30.2 (f2 h28)) Bool.false_ne_true
      | false =>
        exact absurd (i29.2 (f1 h28)) Bool.false_ne_true
    | false =>
      have h28 : ¬ (k = 0) := fun c => Bool.false_ne_true (i28.2 c)
      cases b32 with
      | true =>
        have h32 := i32.1 rfl
        cases b33 with
        | true =>
          have h33 := i33.1 rfl
          cases b34 with
          | true =>
            have h34 := i34.1 rfl
            cases b35 with
            | true =>
              exact absurd (i35.1 rfl) (fun c => hout ⟨h32, h33, h34, c⟩)
            | false =>
              have h35 : ¬ (t ≤ b - 1) := fun c => Bool.false_ne_true (i35.2 c)
              exact fin _ (VEdges_eSo_r5 b29 b30) rfl rfl
          | false =>
            have h34 : ¬ (t ≥ 0) := fun c => Bool.false_ne_true (i34.2 c)
            exact fin _ (VEdges_eSo_r6 b29 b30 b35) rfl rfl
        | false =>
          have h33 : ¬ (s ≤ a - 1) := fun c => Bool.false_ne_true (i33.2 c)
          exact fin _ (VEdges_eSo_r7 b29 b30 b34 b35) rfl rfl
      | false =>
        have h32 : ¬ (s ≥ 0) := fun c => Bool.false_ne_true (i32.2 c)
        exact fin _ (VEdges_eSo_r8 b29 b30 b33 b34 b35) rfl rfl
  | false =>
    have h16 : ¬ (c + 1 ≤ a - 1) := fun c => Bool.false_ne_true (i16.2 c)
    cases b28 with
    | true =>
      have h28 := i28.1 rfl
      cases b29 with
      | true =>
        have h29 := i29.1 rfl
        cases b30 with
        | true =>
          have h30 := i30.1 rfl
          cases b32 with
          | true =>
            have h32 := i32.1 rfl
            cases b33 with
            | true =>
              have h33 := i33.1 rfl
              cases b34 with
              | true =>
                have h34 := i34.1 rfl
                cases b35 with
                | true =>
                  exact absurd (i35.1 rfl) (fun c => hout ⟨h32, h33, h34, c⟩)
                | false =>
                  have h35 : ¬ (t ≤ b - 1) := fun c => Bool.false_ne_true (i35.2 c)
                  exact fin _ (VEdges_eSo_r9) rfl rfl
              | false =>
                have h34 : ¬ (t ≥ 0) := fun c => Bool.false_ne_true (i34.2 c)
                exact fin _ (VEdges_eSo_r10 b35) rfl rfl
            | false =>
              have h33 : ¬ (s ≤ a - 1) := fun c => Bool.false_ne_true (i33.2 c)
              exact fin _ (VEdges_eSo_r11 b34 b35) rfl rfl
          | false =>
            have h32 : ¬ (s ≥ 0) := fun c => Bool.false_ne_true (i32.2 c)
            exact fin _ (VEdges_eSo_r12 b33 b34 b35) rfl rfl
        | false =>
          exact absurd (i30.2 (f2 h28)) Bool.false_ne_true
      | false =>
        exact absurd (i29.2 (f1 h28)) Bool.false_ne_true
    | false =>
      have h28 : ¬ (k = 0) := fun c => Bool.false_ne_true (i28.2 c)
      cases b32 with
      | true =>
        have h32 := i32.1 rfl
        cases b33 with
        | true =>
          have h33 := i33.1 rfl
          cases b34 with
          | true =>
            have h34 := i34.1 rfl
            cases b35 with
            | true =>
              exact absurd (i35.1 rfl) (fun c => hout ⟨h32, h33, h34, c⟩)
            | false =>
              have h35 : ¬ (t ≤ b - 1) := fun c => Bool.false_ne_true (i35.2 c)
              exact fin _ (VEdges_eSo_r13 b29 b30) rfl rfl
          | false =>
            have h34 : ¬ (t ≥ 0) := fun c => Bool.false_ne_true (i34.2 c)
            exact fin _ (VEdges_eSo_r14 b29 b30 b35) rfl rfl
        | false =>
          have h33 : ¬ (s ≤ a - 1) := fun c => Bool.false_ne_true (i33.2 c)
          exact fin _ (VEdges_eSo_r15 b29 b30 b34 b35) rfl rfl
      | false =>
        have h32 : ¬ (s ≥ 0) := fun c => Bool.false_ne_true (i32.2 c)
        exact fin _ (VEdges_eSo_r16 b29 b30 b33 b34 b35) rfl rfl
@[reducible] def VEdges_eSx_f : FuncId := 4
@[reducible] def VEdges_eSx_a : List AV := [.agg [.sym 0, .sym 1, .sym 2, .sym 3, .sym 4, .sym 5, .sym 6, .sym 7, .sym 8], .sym 9, .sym 10, .sym 11, .sym 12, .agg [.sym 13, .sym 14, .sym 15, .sym 16, .sym 17, .sym 18]]
@[reducible] noncomputable def VEdges_eSx_k (b16 b28 b29 b30 b36 b37 : Bool) : Know := ⟨[([0, 16, 3], [.sym 6, .lit (.int .i64 (-4096))], .lit (.bool true)),
  ([0, 14, 3], [.sym 6, .lit (.int .i64 4096)], .lit (.bool true)),
  ([0, 16, 3], [.sym 7, .lit (.int .i64 1)], .lit (.bool true)),
  ([0, 14, 3], [.sym 7, .lit (.int .i64 65536)], .lit (.bool true)),
  ([0, 16, 3], [.sym 8, .lit (.int .i64 1)], .lit (.bool true)),
  ([0, 14, 3], [.sym 8, .lit (.int .i64 65536)], .lit (.bool true)),
  ([0, 1, 3], [.sym 7, .lit (.int .i64 1)], .sym 25),
  ([0, 16, 3], [.sym 9, .lit (.int .i64 0)], .lit (.bool true)),
  ([0, 14, 3], [.sym 9, .sym 25], .lit (.bool true)),
  ([0, 1, 3], [.sym 8, .lit (.int .i64 1)], .sym 26),
  ([0, 16, 3], [.sym 10, .lit (.int .i64 0)], .lit (.bool true)),
  ([0, 14, 3], [.sym 10, .sym 26], .lit (.bool true)),
  ([0, 2, 3], [.lit (.int .i64 2), .sym 9], .sym 27),
  ([0, 1, 3], [.sym 27, .sym 7], .sym 28),
  ([0, 2, 3], [.lit (.int .i64 2), .sym 10], .sym 42),
  ([0, 1, 3], [.sym 8, .sym 42], .sym 43),
  ([0, 1, 3], [.sym 43, .lit (.int .i64 2)], .sym 44),
  ([0, 12, 31], [.sym 35, .lit (.int .i64 0)], .lit (.bool false)),
  ([0, 12, 31], [.sym 51, .lit (.int .i64 0)], .lit (.bool false)),
  ([0, 12, 31], [.sym 39, .lit (.int .i64 0)], .lit (.bool false)),
  ([0, 12, 31], [.sym 55, .lit (.int .i64 0)], .lit (.bool false)),
  ([0, 0, 3], [.sym 9, .lit (.int .i64 1)], .sym 58),
  ([0, 16, 3], [.sym 58, .lit (.int .i64 0)], .lit (.bool true)),
  ([0, 14, 3], [.sym 58, .sym 25], .lit (.bool b16)),
  ([0, 2, 3], [.lit (.int .i64 2), .sym 58], .sym 59),
  ([0, 1, 3], [.sym 59, .sym 7], .sym 60),
  ([0, 12, 24], [.agg [.sym 36, .sym 37, .sym 38], .agg [.sym 36, .sym 37, .sym 38]], .lit (.bool false)),
  ([0, 12, 24], [.agg [.sym 48, .sym 49, .sym 50], .agg [.sym 48, .sym 49, .sym 50]], .lit (.bool false)),
  ([0, 0, 3], [.sym 10, .lit (.int .i64 1)], .sym 64),
  ([0, 16, 3], [.sym 64, .lit (.int .i64 0)], .lit (.bool true)),
  ([0, 14, 3], [.sym 64, .sym 26], .lit (.bool true)),
  ([0, 2, 3], [.lit (.int .i64 2), .sym 64], .sym 65),
  ([0, 1, 3], [.sym 8, .sym 65], .sym 66),
  ([0, 1, 3], [.sym 66, .lit (.int .i64 2)], .sym 67),
  ([0, 12, 31], [.sym 74, .lit (.int .i64 0)], .lit (.bool true)),
  ([0, 16, 3], [.sym 40, .lit (.int .i64 0)], .lit (.bool true)),
  ([0, 14, 3], [.sym 41, .lit (.int .i64 0)], .lit (.bool true)),
  ([0, 16, 3], [.sym 56, .lit (.int .i64 0)], .lit (.bool true)),
  ([0, 14, 3], [.sym 57, .lit (.int .i64 0)], .lit (.bool true)),
  ([0, 14, 3], [.sym 40, .lit (.int .i64 0)], .lit (.bool false)),
  ([0, 16, 3], [.sym 41, .lit (.int .i64 0)], .lit (.bool false)),
  ([0, 14, 3], [.sym 56, .lit (.int .i64 0)], .lit (.bool false)),
  ([0, 16, 3], [.sym 57, .lit (.int .i64 0)], .lit (.bool false)),
  ([0, 11, 31], [.sym 24, .lit (.int .i64 0)], .lit (.bool b28)),
  ([0, 12, 3], [.sym 22, .sym 9], .lit (.bool (!b29))),
  ([0, 12, 3], [.sym 23, .sym 10], .lit (.bool (!b30))),
  ([0, 11, 31], [.sym 24, .lit (.int .i64 241)], .lit (.bool false)),
  ([0, 16, 3], [.sym 11, .lit (.int .i64 0)], .lit (.bool true)),
  ([0, 14, 3], [.sym 11, .sym 25], .lit (.bool true)),
  ([0, 16, 3], [.sym 12, .lit (.int .i64 0)], .lit (.bool true)),
  ([0, 14, 3], [.sym 12, .sym 26], .lit (.bool true)),
  ([0, 2, 3], [.lit (.int .i64 2), .sym 11], .sym 75),
  ([0, 1, 3], [.sym 75, .sym 7], .sym 76),
  ([0, 2, 3], [.lit (.int .i64 2), .sym 12], .sym 84),
  ([0, 1, 3], [.sym 8, .sym 84], .sym 85),
  ([0, 1, 3], [.sym 85, .lit (.int .i64 2)], .sym 86),
  ([0, 12, 31], [.sym 83, .lit (.int .i64 0)], .lit (.bool (!b36))),
  ([0, 12, 31], [.sym 93, .lit (.int .i64 0)], .lit (.bool (!b37)))],
  [(8, [], .lit (.bool true)),
  (19, [.agg [.sym 0, .sym 1, .sym 2, .sym 3, .sym 4, .sym 5]], .lit (.int .i64 0)),
  (39, [.lit (.int .i64 2), .sym 6], .agg [.sym 19, .sym 20, .sym 21]),
  (6, [.agg [.sym 0, .sym 1, .sym 2, .sym 3, .sym 4, .sym 5, .sym 6, .sym 7, .sym 8], .agg [.sym 13, .sym 14, .sym 15, .sym 16, .sym 17, .sym 18]], .tup [.sym 22, .sym 23, .sym 24]),
  (39, [.sym 28, .sym 6], .agg [.sym 29, .sym 30, .sym 31]),
  (38, [.agg [.sym 0, .sym 1, .sym 2], .agg [.sym 29, .sym 30, .sym 31]], .tup [.agg [.sym 32, .sym 33, .sym 34], .sym 35]),
  (38, [.agg [.sym 32, .sym 33, .sym 34], .agg [.sym 19, .sym 20, .sym 21]], .tup [.agg [.sym 36, .sym 37, .sym 38], .sym 39]),
  (14, [.agg [.sym 13, .sym 14, .sym 15], .agg [.sym 32, .sym 33, .sym 34]], .tup [.sym 40, .lit (.int .i64 0)]),
  (14, [.agg [.sym 13, .sym 14, .sym 15], .agg [.sym 36, .sym 37, .sym 38]], .tup [.sym 41, .lit (.int .i64 0)]),
  (39, [.sym 44, .sym 6], .agg [.sym 45, .sym 46, .sym 47]),
  (38, [.agg [.sym 3, .sym 4, .sym 5], .agg [.sym 45, .sym 46, .sym 47]], .tup [.agg [.sym 48, .sym 49, .sym 50], .sym 51]),
  (32, [.agg [.sym 32, .sym 33, .sym 34, .sym 48, .sym 49, .sym 50, .sym 6]], .lit (.int .i64 0)),
  (38, [.agg [.sym 48, .sym 49, .sym 50], .agg [.sym 19, .sym 20, .sym 21]], .tup [.agg [.sym 52, .sym 53, .sym 54], .sym 55]),
  (13, [.agg [.sym 32, .sym 33, .sym 34, .sym 48, .sym 49, .sym 50, .sym 6], .agg [.sym 13, .sym 14, .sym 15, .sym 16, .sym 17, .sym 18]], .lit (.tuple #[.bool true, .int .i64 0])),
  (14, [.agg [.sym 16, .sym 17, .sym 18], .agg [.sym 48, .sym 49, .sym 50]], .tup [.sym 56, .lit (.int .i64 0)]),
  (14, [.agg [.sym 16, .sym 17, .sym 18], .agg [.sym 52, .sym 53, .sym 54]], .tup [.sym 57, .lit (.int .i64 0)]),
  (39, [.sym 60, .sym 6], .agg [.sym 61, .sym 62, .sym 63]),
  (38, [.agg [.sym 0, .sym 1, .sym 2], .agg [.sym 61, .sym 62, .sym 63]], .tup [.agg [.sym 36, .sym 37, .sym 38], .sym 39]),
  (39, [.sym 67, .sym 6], .agg [.sym 68, .sym 69, .sym 70]),
  (38, [.agg [.sym 3, .sym 4, .sym 5], .agg [.sym 68, .sym 69, .sym 70]], .tup [.agg [.sym 71, .sym 72, .sym 73], .sym 74]),
  (39, [.sym 76, .sym 6], .agg [.sym 77, .sym 78, .sym 79]),
  (38, [.agg [.sym 0, .sym 1, .sym 2], .agg [.sym 77, .sym 78, .sym 79]], .tup [.agg [.sym 80, .sym 81, .sym 82], .sym 83]),
  (39, [.sym 86, .sym 6], .agg [.sym 87, .sym 88, .sym 89]),
  (38, [.agg [.sym 3, .sym 4, .sym 5], .agg [.sym 87, .sym 88, .sym 89]], .tup [.agg [.sym 90, .sym 91, .sym 92], .sym 93])]⟩
theorem VEdges_eSx_r1 : @comes (VEdges_eSx_k true true true true true false) Tryz.prog glT 3000 VEdges_eSx_f VEdges_eSx_a = some (.lit (.bool true)) := by kernel_rfl
theorem VEdges_eSx_r2 (b37 : Bool) : @comes (VEdges_eSx_k true true true true false b37) Tryz.prog glT 3000 VEdges_eSx_f VEdges_eSx_a = some (.lit (.bool true)) := by kernel_rfl
theorem VEdges_eSx_r3 (b29 b30 : Bool) : @comes (VEdges_eSx_k true false b29 b30 true false) Tryz.prog glT 3000 VEdges_eSx_f VEdges_eSx_a = some (.lit (.bool true)) := by kernel_rfl
theorem VEdges_eSx_r4 (b29 b30 b37 : Bool) : @comes (VEdges_eSx_k true false b29 b30 false b37) Tryz.prog glT 3000 VEdges_eSx_f VEdges_eSx_a = some (.lit (.bool true)) := by kernel_rfl
theorem VEdges_eSx_r5 : @comes (VEdges_eSx_k false true true true true false) Tryz.prog glT 3000 VEdges_eSx_f VEdges_eSx_a = some (.lit (.bool true)) := by kernel_rfl
theorem VEdges_eSx_r6 (b37 : Bool) : @comes (VEdges_eSx_k false true true true false b37) Tryz.prog glT 3000 VEdges_eSx_f VEdges_eSx_a = some (.lit (.bool true)) := by kernel_rfl
theorem VEdges_eSx_r7 (b29 b30 : Bool) : @comes (VEdges_eSx_k false false b29 b30 true false) Tryz.prog glT 3000 VEdges_eSx_f VEdges_eSx_a = some (.lit (.bool true)) := by kernel_rfl
theorem VEdges_eSx_r8 (b29 b30 b37 : Bool) : @comes (VEdges_eSx_k false false b29 b30 false b37) Tryz.prog glT 3000 VEdges_eSx_f VEdges_eSx_a = some (.lit (.bool true)) := by kernel_rfl
set_option maxRecDepth 100000 in
set_option maxHeartbeats 4000000 in
theorem VEdges_eSx (p q : Dy) (y a b c r s t : Int) (g : Gs) (m n k : Int) (w : World) (hp : p.Ok) (hq : q.Ok) (hy : -4096 ≤ y ∧ y ≤ 4096) (ha : 1 ≤ a ∧ a ≤ 65536) (hb : 1 ≤ b ∧ b ≤ 65536) (hg : g.Ok) (c1 : 0 ≤ c) (c2 : c ≤ a - 1) (r1 : 0 ≤ r) (r2 : r ≤ b - 1) (hxx : addE p (hz ((2 * c) - a) (y - 1)) = 0) (hyy : addE q (hz ((b - (2 * r)) - 2) (y - 1)) = 0) (huu : addE (addD p (hz ((2 * c) - a) (y - 1))) (hz 2 (y - 1)) = 0) (hvv : addE (addD q (hz ((b - (2 * r)) - 2) (y - 1))) (hz 2 (y - 1)) = 0) (hr : r + 2 ≤ b) (hu : ¬ addE q (hz ((b - (2 * (r + 1))) - 2) (y - 1)) = 0) (HH : ∀ w, Globs glT w → Calls Tryz.prog 13 #[.agg #[.bool (addD p (hz ((2 * c) - a) (y - 1))).g, .string (natS (addD p (hz ((2 * c) - a) (y - 1))).n), .int .i64 (addD p (hz ((2 * c) - a) (y - 1))).x, .bool (addD q (hz ((b - (2 * r)) - 2) (y - 1))).g, .string (natS (addD q (hz ((b - (2 * r)) - 2) (y - 1))).n), .int .i64 (addD q (hz ((b - (2 * r)) - 2) (y - 1))).x, .int .i64 y], .agg #[.bool g.re.g, .string (natS g.re.n), .int .i64 g.re.x, .bool g.im.g, .string (natS g.im.n), .int .i64 g.im.x]] w fun e w' => e = .returned (.tuple #[.bool true, .int .i64 0]) ∧ Below w.heap.size w w') (cca : cmpD g.re (addD p (hz ((2 * c) - a) (y - 1))) ≥ 0) (ccb : cmpD g.re (addD (addD p (hz ((2 * c) - a) (y - 1))) (hz 2 (y - 1))) ≤ 0) (ccc : cmpD g.im (addD q (hz ((b - (2 * r)) - 2) (y - 1))) ≥ 0) (ccd : cmpD g.im (addD (addD q (hz ((b - (2 * r)) - 2) (y - 1))) (hz 2 (y - 1))) ≤ 0) (ssa : ¬ cmpD g.re (addD p (hz ((2 * c) - a) (y - 1))) ≤ 0) (ssb : ¬ cmpD g.re (addD (addD p (hz ((2 * c) - a) (y - 1))) (hz 2 (y - 1))) ≥ 0) (ssc : ¬ cmpD g.im (addD q (hz ((b - (2 * r)) - 2) (y - 1))) ≤ 0) (ssd : ¬ cmpD g.im (addD (addD q (hz ((b - (2 * r)) - 2) (y - 1))) (hz 2 (y - 1))) ≥ 0) (HF : ∀ w, Globs glT w → Calls Tryz.prog 6 #[.agg #[.bool p.g, .string (natS p.n), .int .i64 p.x, .bool q.g, .string (natS q.n), .int .i64 q.x, .int .i64 y, .int .i64 a, .int .i64 b], .agg #[.bool g.re.g, .string (natS g.re.n), .int .i64 g.re.x, .bool g.im.g, .string (natS g.im.n), .int .i64 g.im.x]] w fun e w' => e = .returned (.tuple #[.int .i64 m, .int .i64 n, .int .i64 k]) ∧ Below w.heap.size w w') (f1 : k = 0 → m = c) (f2 : k = 0 → n = r) (f3 : ¬ k = 241) (s1 : 0 ≤ s) (s2 : s ≤ a - 1) (t1 : 0 ≤ t) (t2 : t ≤ b - 1) (hx : ¬ (addE p (hz ((2 * s) - a) (y - 1)) = 0 ∧ addE q (hz ((b - (2 * t)) - 2) (y - 1)) = 0)) (hG : Globs glT w) : Calls Tryz.prog 4 #[.agg #[.bool p.g, .string (natS p.n), .int .i64 p.x, .bool q.g, .string (natS q.n), .int .i64 q.x, .int .i64 y, .int .i64 a, .int .i64 b], .int .i64 c, .int .i64 r, .int .i64 s, .int .i64 t, .agg #[.bool g.re.g, .string (natS g.re.n), .int .i64 g.re.x, .bool g.im.g, .string (natS g.im.n), .int .i64 g.im.x]] w fun e w' => e = .returned (.bool true) ∧ Below w.heap.size w w' := by
  have h1 : y ≥ -4096 := ( by omega)
  have i1 := vet h1
  have h2 : y ≤ 4096 := ( by omega)
  have i2 := vet h2
  have h3 : a ≥ 1 := ( by omega)
  have i3 := vet h3
  have h4 : a ≤ 65536 := ( by omega)
  have i4 := vet h4
  have h5 : b ≥ 1 := ( by omega)
  have i5 := vet h5
  have h6 : b ≤ 65536 := ( by omega)
  have i6 := vet h6
  have h7 : c ≥ 0 := ( by omega)
  have i7 := vet h7
  have h8 : c ≤ a - 1 := ( by omega)
  have i8 := vet h8
  have h9 : r ≥ 0 := ( by omega)
  have i9 := vet h9
  have h10 : r ≤ b - 1 := ( by omega)
  have i10 := vet h10
  have h11 := hxx
  have i11 := vet h11
  have h12 := hyy
  have i12 := vet h12
  have h13 := huu
  have i13 := vet h13
  have h14 := hvv
  have i14 := vet h14
  have h15 : c + 1 ≥ 0 := ( by omega)
  have i15 := vet h15
  obtain ⟨b16, i16⟩ := bex (c + 1 ≤ a - 1)
  have h17 : r + 1 ≥ 0 := ( by omega)
  have i17 := vet h17
  have h18 : r + 1 ≤ b - 1 := ( by omega)
  have i18 := vet h18
  have h19 := hu
  have i19 := vef h19
  have h20 := cca
  have i20 := vet h20
  have h21 := ccb
  have i21 := vet h21
  have h22 := ccc
  have i22 := vet h22
  have h23 := ccd
  have i23 := vet h23
  have h24 := ssa
  have i24 := vef h24
  have h25 := ssb
  have i25 := vef h25
  have h26 := ssc
  have i26 := vef h26
  have h27 := ssd
  have i27 := vef h27
  obtain ⟨b28, i28⟩ := bex (k = 0)
  obtain ⟨b29, i29⟩ := bex (m = c)
  obtain ⟨b30, i30⟩ := bex (n = r)
  have h31 := f3
  have i31 := vef h31
  have h32 : s ≥ 0 := ( by omega)
  have i32 := vet h32
  have h33 : s ≤ a - 1 := ( by omega)
  have i33 := vet h33
  have h34 : t ≥ 0 := ( by omega)
  have i34 := vet h34
  have h35 : t ≤ b - 1 := ( by omega)
  have i35 := vet h35
  obtain ⟨b36, i36⟩ := bex (addE p (hz ((2 * s) - a) (y - 1)) = 0)
  obtain ⟨b37, i37⟩ := bex (addE q (hz ((b - (2 * t)) - 2) (y - 1)) = 0)
  letI : Env := mkEnv glT [.bool p.g, .string (natS p.n), .int .i64 p.x, .bool q.g, .string (natS q.n), .int .i64 q.x, .int .i64 y, .int .i64 a, .int .i64 b, .int .i64 c, .int .i64 r, .int .i64 s, .int .i64 t, .bool g.re.g, .string (natS g.re.n), .int .i64 g.re.x, .bool g.im.g, .string (natS g.im.n), .int .i64 g.im.x, .bool (hz 2 (y - 1)).g, .string (natS (hz 2 (y - 1)).n), .int .i64 (hz 2 (y - 1)).x, .int .i64 m, .int .i64 n, .int .i64 k, .int .i64 (a - 1), .int .i64 (b - 1), .int .i64 (2 * c), .int .i64 ((2 * c) - a), .bool (hz ((2 * c) - a) (y - 1)).g, .string (natS (hz ((2 * c) - a) (y - 1)).n), .int .i64 (hz ((2 * c) - a) (y - 1)).x, .bool (addD p (hz ((2 * c) - a) (y - 1))).g, .string (natS (addD p (hz ((2 * c) - a) (y - 1))).n), .int .i64 (addD p (hz ((2 * c) - a) (y - 1))).x, .int .i64 (addE p (hz ((2 * c) - a) (y - 1))), .bool (addD (addD p (hz ((2 * c) - a) (y - 1))) (hz 2 (y - 1))).g, .string (natS (addD (addD p (hz ((2 * c) - a) (y - 1))) (hz 2 (y - 1))).n), .int .i64 (addD (addD p (hz ((2 * c) - a) (y - 1))) (hz 2 (y - 1))).x, .int .i64 (addE (addD p (hz ((2 * c) - a) (y - 1))) (hz 2 (y - 1))), .int .i64 (cmpD g.re (addD p (hz ((2 * c) - a) (y - 1)))), .int .i64 (cmpD g.re (addD (addD p (hz ((2 * c) - a) (y - 1))) (hz 2 (y - 1)))), .int .i64 (2 * r), .int .i64 (b - (2 * r)), .int .i64 ((b - (2 * r)) - 2), .bool (hz ((b - (2 * r)) - 2) (y - 1)).g, .string (natS (hz ((b - (2 * r)) - 2) (y - 1)).n), .int .i64 (hz ((b - (2 * r)) - 2) (y - 1)).x, .bool (addD q (hz ((b - (2 * r)) - 2) (y - 1))).g, .string (natS (addD q (hz ((b - (2 * r)) - 2) (y - 1))).n), .int .i64 (addD q (hz ((b - (2 * r)) - 2) (y - 1))).x, .int .i64 (addE q (hz ((b - (2 * r)) - 2) (y - 1))), .bool (addD (addD q (hz ((b - (2 * r)) - 2) (y - 1))) (hz 2 (y - 1))).g, .string (natS (addD (addD q (hz ((b - (2 * r)) - 2) (y - 1))) (hz 2 (y - 1))).n), .int .i64 (addD (addD q (hz ((b - (2 * r)) - 2) (y - 1))) (hz 2 (y - 1))).x, .int .i64 (addE (addD q (hz ((b - (2 * r)) - 2) (y - 1))) (hz 2 (y - 1))), .int .i64 (cmpD g.im (addD q (hz ((b - (2 * r)) - 2) (y - 1)))), .int .i64 (cmpD g.im (addD (addD q (hz ((b - (2 * r)) - 2) (y - 1))) (hz 2 (y - 1)))), .int .i64 (c + 1), .int .i64 (2 * (c + 1)), .int .i64 ((2 * (c + 1)) - a), .bool (hz ((2 * (c + 1)) - a) (y - 1)).g, .string (natS (hz ((2 * (c + 1)) - a) (y - 1)).n), .int .i64 (hz ((2 * (c + 1)) - a) (y - 1)).x, .int .i64 (r + 1), .int .i64 (2 * (r + 1)), .int .i64 (b - (2 * (r + 1))), .int .i64 ((b - (2 * (r + 1))) - 2), .bool (hz ((b - (2 * (r + 1))) - 2) (y - 1)).g, .string (natS (hz ((b - (2 * (r + 1))) - 2) (y - 1)).n), .int .i64 (hz ((b - (2 * (r + 1))) - 2) (y - 1)).x, .bool (addD q (hz ((b - (2 * (r + 1))) - 2) (y - 1))).g, .string (natS (addD q (hz ((b - (2 * (r + 1))) - 2) (y - 1))).n), .int .i64 (addD q (hz ((b - (2 * (r + 1))) - 2) (y - 1))).x, .int .i64 (addE q (hz ((b - (2 * (r + 1))) - 2) (y - 1))), .int .i64 (2 * s), .int .i64 ((2 * s) - a), .bool (hz ((2 * s) - a) (y - 1)).g, .string (natS (hz ((2 * s) - a) (y - 1)).n), .int .i64 (hz ((2 * s) - a) (y - 1)).x, .bool (addD p (hz ((2 * s) - a) (y - 1))).g, .string (natS (addD p (hz ((2 * s) - a) (y - 1))).n), .int .i64 (addD p (hz ((2 * s) - a) (y - 1))).x, .int .i64 (addE p (hz ((2 * s) - a) (y - 1))), .int .i64 (2 * t), .int .i64 (b - (2 * t)), .int .i64 ((b - (2 * t)) - 2), .bool (hz ((b - (2 * t)) - 2) (y - 1)).g, .string (natS (hz ((b - (2 * t)) - 2) (y - 1)).n), .int .i64 (hz ((b - (2 * t)) - 2) (y - 1)).x, .bool (addD q (hz ((b - (2 * t)) - 2) (y - 1))).g, .string (natS (addD q (hz ((b - (2 * t)) - 2) (y - 1))).n), .int .i64 (addD q (hz ((b - (2 * t)) - 2) (y - 1))).x, .int .i64 (addE q (hz ((b - (2 * t)) - 2) (y - 1)))] rfl
  have hops : OpsT Tryz.prog (@Know.ops (VEdges_eSx_k b16 b28 b29 b30 b36 b37)) := ⟨opt_geq_i rfl rfl i1,
    opt_leq_i rfl rfl i2,
    opt_geq_i rfl rfl i3,
    opt_leq_i rfl rfl i4,
    opt_geq_i rfl rfl i5,
    opt_leq_i rfl rfl i6,
    vopt_sub rfl rfl rfl rfl (by omega) ⟨by omega, by omega⟩,
    opt_geq_i rfl rfl i7,
    opt_leq_i rfl rfl i8,
    vopt_sub rfl rfl rfl rfl (by omega) ⟨by omega, by omega⟩,
    opt_geq_i rfl rfl i9,
    opt_leq_i rfl rfl i10,
    vopt_mul rfl rfl rfl rfl (by omega) ⟨by omega, by omega⟩,
    vopt_sub rfl rfl rfl rfl (by omega) ⟨by omega, by omega⟩,
    vopt_mul rfl rfl rfl rfl (by omega) ⟨by omega, by omega⟩,
    vopt_sub rfl rfl rfl rfl (by omega) ⟨by omega, by omega⟩,
    vopt_sub rfl rfl rfl rfl (by omega) ⟨by omega, by omega⟩,
    opt_neq_i rfl rfl i11,
    opt_neq_i rfl rfl i12,
    opt_neq_i rfl rfl i13,
    opt_neq_i rfl rfl i14,
    vopt_add rfl rfl rfl rfl (by omega) ⟨by omega, by omega⟩,
    opt_geq_i rfl rfl i15,
    opt_leq_i rfl rfl i16,
    vopt_mul rfl rfl rfl rfl (by omega) ⟨by omega, by omega⟩,
    vopt_sub rfl rfl rfl rfl (by omega) ⟨by omega, by omega⟩,
    optD_neq_f (a := addD (addD p (hz ((2 * c) - a) (y - 1))) (hz 2 (y - 1))) (b := addD (addD p (hz ((2 * c) - a) (y - 1))) (hz 2 (y - 1))) rfl rfl rfl,
    optD_neq_f (a := addD q (hz ((b - (2 * r)) - 2) (y - 1))) (b := addD q (hz ((b - (2 * r)) - 2) (y - 1))) rfl rfl rfl,
    vopt_add rfl rfl rfl rfl (by omega) ⟨by omega, by omega⟩,
    opt_geq_i rfl rfl i17,
    opt_leq_i rfl rfl i18,
    vopt_mul rfl rfl rfl rfl (by omega) ⟨by omega, by omega⟩,
    vopt_sub rfl rfl rfl rfl (by omega) ⟨by omega, by omega⟩,
    vopt_sub rfl rfl rfl rfl (by omega) ⟨by omega, by omega⟩,
    opt_neq_i rfl rfl i19,
    opt_geq_i rfl rfl i20,
    opt_leq_i rfl rfl i21,
    opt_geq_i rfl rfl i22,
    opt_leq_i rfl rfl i23,
    opt_leq_i rfl rfl i24,
    opt_geq_i rfl rfl i25,
    opt_leq_i rfl rfl i26,
    opt_geq_i rfl rfl i27,
    opt_eql_i rfl rfl i28,
    opt_neq_i rfl rfl i29,
    opt_neq_i rfl rfl i30,
    opt_eql_i rfl rfl i31,
    opt_geq_i rfl rfl i32,
    opt_leq_i rfl rfl i33,
    opt_geq_i rfl rfl i34,
    opt_leq_i rfl rfl i35,
    vopt_mul rfl rfl rfl rfl (by omega) ⟨by omega, by omega⟩,
    vopt_sub rfl rfl rfl rfl (by omega) ⟨by omega, by omega⟩,
    vopt_mul rfl rfl rfl rfl (by omega) ⟨by omega, by omega⟩,
    vopt_sub rfl rfl rfl rfl (by omega) ⟨by omega, by omega⟩,
    vopt_sub rfl rfl rfl rfl (by omega) ⟨by omega, by omega⟩,
    opt_neq_i rfl rfl i36,
    opt_neq_i rfl rfl i37,
    trivial⟩
  have hcalls : CallsT Tryz.prog (@Know.calls (VEdges_eSx_k b16 b28 b29 b30 b36 b37)) := ⟨callt rfl rfl fun w hG => awake24_c w hG,
    callt rfl rfl fun w hG => GCheck_gs ⟨p, q⟩ ⟨hp, hq⟩ w hG,
    callt rfl rfl fun w hG => halves_z 2 y w ⟨by omega, by omega⟩ ⟨by omega, by omega⟩ hG,
    callt rfl rfl fun w hG => HF w hG,
    callt rfl rfl fun w hG => halves_z ((2 * c) - a) y w ⟨by omega, by omega⟩ ⟨by omega, by omega⟩ hG,
    callt rfl rfl fun w hG => DAdd_c p (hz ((2 * c) - a) (y - 1)) w hp (hz_Ok _ _) hG,
    callt rfl rfl fun w hG => DAdd_c (addD p (hz ((2 * c) - a) (y - 1))) (hz 2 (y - 1)) w (add_Ok hp (hz_Ok _ _)) (hz_Ok _ _) hG,
    callt rfl rfl fun w hG => DCmp_c g.re (addD p (hz ((2 * c) - a) (y - 1))) w hg.1 (add_Ok hp (hz_Ok _ _)),
    callt rfl rfl fun w hG => DCmp_c g.re (addD (addD p (hz ((2 * c) - a) (y - 1))) (hz 2 (y - 1))) w hg.1 (add_Ok (add_Ok hp (hz_Ok _ _)) (hz_Ok _ _)),
    callt rfl rfl fun w hG => halves_z ((b - (2 * r)) - 2) y w ⟨by omega, by omega⟩ ⟨by omega, by omega⟩ hG,
    callt rfl rfl fun w hG => DAdd_c q (hz ((b - (2 * r)) - 2) (y - 1)) w hq (hz_Ok _ _) hG,
    callt rfl rfl fun w hG => VRight_ok (addD p (hz ((2 * c) - a) (y - 1))) (addD q (hz ((b - (2 * r)) - 2) (y - 1))) y w (add_Ok hp (hz_Ok _ _)) (add_Ok hq (hz_Ok _ _)) ⟨by omega, by omega⟩ hG,
    callt rfl rfl fun w hG => DAdd_c (addD q (hz ((b - (2 * r)) - 2) (y - 1))) (hz 2 (y - 1)) w (add_Ok hq (hz_Ok _ _)) (hz_Ok _ _) hG,
    callt rfl rfl fun w hG => HH w hG,
    callt rfl rfl fun w hG => DCmp_c g.im (addD q (hz ((b - (2 * r)) - 2) (y - 1))) w hg.2 (add_Ok hq (hz_Ok _ _)),
    callt rfl rfl fun w hG => DCmp_c g.im (addD (addD q (hz ((b - (2 * r)) - 2) (y - 1))) (hz 2 (y - 1))) w hg.2 (add_Ok (add_Ok hq (hz_Ok _ _)) (hz_Ok _ _)),
    callt rfl rfl fun w hG => halves_z ((2 * (c + 1)) - a) y w ⟨by omega, by omega⟩ ⟨by omega, by omega⟩ hG,
    callt rfl rfl fun w hG => DAdd_canon hp (hz_Ok _ _) (show addD p (hz ((2 * (c + 1)) - a) (y - 1)) = addD (addD p (hz ((2 * c) - a) (y - 1))) (hz 2 (y - 1)) ∧ addE p (hz ((2 * (c + 1)) - a) (y - 1)) = addE (addD p (hz ((2 * c) - a) (y - 1))) (hz 2 (y - 1)) from add_hz hp ⟨by omega, by omega⟩ ⟨by omega, by omega⟩ ⟨by omega, by omega⟩ (by omega) hxx) w hG,
    callt rfl rfl fun w hG => halves_z ((b - (2 * (r + 1))) - 2) y w ⟨by omega, by omega⟩ ⟨by omega, by omega⟩ hG,
    callt rfl rfl fun w hG => DAdd_c q (hz ((b - (2 * (r + 1))) - 2) (y - 1)) w hq (hz_Ok _ _) hG,
    callt rfl rfl fun w hG => halves_z ((2 * s) - a) y w ⟨by omega, by omega⟩ ⟨by omega, by omega⟩ hG,
    callt rfl rfl fun w hG => DAdd_c p (hz ((2 * s) - a) (y - 1)) w hp (hz_Ok _ _) hG,
    callt rfl rfl fun w hG => halves_z ((b - (2 * t)) - 2) y w ⟨by omega, by omega⟩ ⟨by omega, by omega⟩ hG,
    callt rfl rfl fun w hG => DAdd_c q (hz ((b - (2 * t)) - 2) (y - 1)) w hq (hz_Ok _ _) hG,
    trivial⟩
  have fin : ∀ v, @comes (VEdges_eSx_k b16 b28 b29 b30 b36 b37) Tryz.prog glT 3000 VEdges_eSx_f VEdges_eSx_a = some v → ground v = true → Ending.returned (gval v) = .returned (.bool true) → Calls Tryz.prog 4 #[.agg #[.bool p.g, .string (natS p.n), .int .i64 p.x, .bool q.g, .string (natS q.n), .int .i64 q.x, .int .i64 y, .int .i64 a, .int .i64 b], .int .i64 c, .int .i64 r, .int .i64 s, .int .i64 t, .agg #[.bool g.re.g, .string (natS g.re.n), .int .i64 g.re.x, .bool g.im.g, .string (natS g.im.n), .int .i64 g.im.x]] w fun e w' => e = .returned (.bool true) ∧ Below w.heap.size w w' := fun v h1 h2 h3 => (@sym_ok _ (VEdges_eSx_k b16 b28 b29 b30 b36 b37) _ (@KnowOk.of _ (VEdges_eSx_k b16 b28 b29 b30 b36 b37) _ hops hcalls) (by kernel_rfl) _ _ _ _ h1 rfl h2 _ hG).mono fun e w' h => ⟨h.1.trans h3, h.2⟩
  clear hops hcalls
  cases b16 with
  | true =>
    have h16 := i16.1 rfl
    cases b28 with
    | true =>
      have h28 := i28.1 rfl
      cases b29 with
      | true =>
        have h29 := i29.1 rfl
        cases b30 with
        | true =>
          have h30 := i30.1 rfl
          cases b36 with
          | true =>
            have h36 := i36.1 rfl
            cases b37 with
            | true =>
              exact absurd (i37.1 rfl) (fun c => hx ⟨h36, c⟩)
            | false =>
              have h37 : ¬ (addE q (hz ((b - (2 * t)) - 2) (y - 1)) = 0) := fun c => Bool.false_ne_true (i37.2 c)
              exact fin _ (VEdges_eSx_r1) rfl rfl
          | false =>
            have h36 : ¬ (addE p (hz ((2 * s) - a) (y - 1)) = 0) := fun c => Bool.false_ne_true (i36.2 c)
            exact fin _ (VEdges_eSx_r2 b37) rfl rfl
        | false =>
          exact absurd (i30.2 (f2 h28)) Bool.false_ne_true
      | false =>
        exact absurd (i29.2 (f1 h28)) Bool.false_ne_true
    | false =>
      have h28 : ¬ (k = 0) := fun c => Bool.false_ne_true (i28.2 c)
      cases b36 with
      | true =>
        have h36 := i36.1 rfl
        cases b37 with
        | true =>
          exact absurd (i37.1 rfl) (fun c => hx ⟨h36, c⟩)
        | false =>
          have h37 : ¬ (addE q (hz ((b - (2 * t)) - 2) (y - 1)) = 0) := fun c => Bool.false_ne_true (i37.2 c)
          exact fin _ (VEdges_eSx_r3 b29 b30) rfl rfl
      | false =>
        have h36 : ¬ (addE p (hz ((2 * s) - a) (y - 1)) = 0) := fun c => Bool.false_ne_true (i36.2 c)
        exact fin _ (VEdges_eSx_r4 b29 b30 b37) rfl rfl
  | false =>
    have h16 : ¬ (c + 1 ≤ a - 1) := fun c => Bool.false_ne_true (i16.2 c)
    cases b28 with
    | true =>
      have h28 := i28.1 rfl
      cases b29 with
      | true =>
        have h29 := i29.1 rfl
        cases b30 with
        | true =>
          have h30 := i30.1 rfl
          cases b36 with
          | true =>
            have h36 := i36.1 rfl
            cases b37 with
            | true =>
              exact absurd (i37.1 rfl) (fun c => hx ⟨h36, c⟩)
            | false =>
              have h37 : ¬ (addE q (hz ((b - (2 * t)) - 2) (y - 1)) = 0) := fun c => Bool.false_ne_true (i37.2 c)
              exact fin _ (VEdges_eSx_r5) rfl rfl
          | false =>
            have h36 : ¬ (addE p (hz ((2 * s) - a) (y - 1)) = 0) := fun c => Bool.false_ne_true (i36.2 c)
            exact fin _ (VEdges_eSx_r6 b37) rfl rfl
        | false =>
          exact absurd (i30.2 (f2 h28)) Bool.false_ne_true
      | false =>
        exact absurd (i29.2 (f1 h28)) Bool.false_ne_true
    | false =>
      have h28 : ¬ (k = 0) := fun c => Bool.false_ne_true (i28.2 c)
      cases b36 with
      | true =>
        have h36 := i36.1 rfl
        cases b37 with
        | true =>
          exact absurd (i37.1 rfl) (fun c => hx ⟨h36, c⟩)
        | false =>
          have h37 : ¬ (addE q (hz ((b - (2 * t)) - 2) (y - 1)) = 0) := fun c => Bool.false_ne_true (i37.2 c)
          exact fin _ (VEdges_eSx_r7 b29 b30) rfl rfl
      | false =>
        have h36 : ¬ (addE p (hz ((2 * s) - a) (y - 1)) = 0) := fun c => Bool.false_ne_true (i36.2 c)
        exact fin _ (VEdges_eSx_r8 b29 b30 b37) rfl rfl
@[reducible] def VEdges_eSk_f : FuncId := 4
@[reducible] def VEdges_eSk_a : List AV := [.agg [.sym 0, .sym 1, .sym 2, .sym 3, .sym 4, .sym 5, .sym 6, .sym 7, .sym 8], .sym 9, .sym 10, .sym 11, .sym 12, .agg [.sym 13, .sym 14, .sym 15, .sym 16, .sym 17, .sym 18]]
@[reducible] noncomputable def VEdges_eSk_k (b16 b28 b29 b30 b38 b39 b40 : Bool) : Know := ⟨[([0, 16, 3], [.sym 6, .lit (.int .i64 (-4096))], .lit (.bool true)),
  ([0, 14, 3], [.sym 6, .lit (.int .i64 4096)], .lit (.bool true)),
  ([0, 16, 3], [.sym 7, .lit (.int .i64 1)], .lit (.bool true)),
  ([0, 14, 3], [.sym 7, .lit (.int .i64 65536)], .lit (.bool true)),
  ([0, 16, 3], [.sym 8, .lit (.int .i64 1)], .lit (.bool true)),
  ([0, 14, 3], [.sym 8, .lit (.int .i64 65536)], .lit (.bool true)),
  ([0, 1, 3], [.sym 7, .lit (.int .i64 1)], .sym 25),
  ([0, 16, 3], [.sym 9, .lit (.int .i64 0)], .lit (.bool true)),
  ([0, 14, 3], [.sym 9, .sym 25], .lit (.bool true)),
  ([0, 1, 3], [.sym 8, .lit (.int .i64 1)], .sym 26),
  ([0, 16, 3], [.sym 10, .lit (.int .i64 0)], .lit (.bool true)),
  ([0, 14, 3], [.sym 10, .sym 26], .lit (.bool true)),
  ([0, 2, 3], [.lit (.int .i64 2), .sym 9], .sym 27),
  ([0, 1, 3], [.sym 27, .sym 7], .sym 28),
  ([0, 2, 3], [.lit (.int .i64 2), .sym 10], .sym 42),
  ([0, 1, 3], [.sym 8, .sym 42], .sym 43),
  ([0, 1, 3], [.sym 43, .lit (.int .i64 2)], .sym 44),
  ([0, 12, 31], [.sym 35, .lit (.int .i64 0)], .lit (.bool false)),
  ([0, 12, 31], [.sym 51, .lit (.int .i64 0)], .lit (.bool false)),
  ([0, 12, 31], [.sym 39, .lit (.int .i64 0)], .lit (.bool false)),
  ([0, 12, 31], [.sym 55, .lit (.int .i64 0)], .lit (.bool false)),
  ([0, 0, 3], [.sym 9, .lit (.int .i64 1)], .sym 58),
  ([0, 16, 3], [.sym 58, .lit (.int .i64 0)], .lit (.bool true)),
  ([0, 14, 3], [.sym 58, .sym 25], .lit (.bool b16)),
  ([0, 2, 3], [.lit (.int .i64 2), .sym 58], .sym 59),
  ([0, 1, 3], [.sym 59, .sym 7], .sym 60),
  ([0, 12, 24], [.agg [.sym 36, .sym 37, .sym 38], .agg [.sym 36, .sym 37, .sym 38]], .lit (.bool false)),
  ([0, 12, 24], [.agg [.sym 48, .sym 49, .sym 50], .agg [.sym 48, .sym 49, .sym 50]], .lit (.bool false)),
  ([0, 0, 3], [.sym 10, .lit (.int .i64 1)], .sym 64),
  ([0, 16, 3], [.sym 64, .lit (.int .i64 0)], .lit (.bool true)),
  ([0, 14, 3], [.sym 64, .sym 26], .lit (.bool true)),
  ([0, 2, 3], [.lit (.int .i64 2), .sym 64], .sym 65),
  ([0, 1, 3], [.sym 8, .sym 65], .sym 66),
  ([0, 1, 3], [.sym 66, .lit (.int .i64 2)], .sym 67),
  ([0, 12, 31], [.sym 74, .lit (.int .i64 0)], .lit (.bool true)),
  ([0, 16, 3], [.sym 40, .lit (.int .i64 0)], .lit (.bool true)),
  ([0, 14, 3], [.sym 41, .lit (.int .i64 0)], .lit (.bool true)),
  ([0, 16, 3], [.sym 56, .lit (.int .i64 0)], .lit (.bool true)),
  ([0, 14, 3], [.sym 57, .lit (.int .i64 0)], .lit (.bool true)),
  ([0, 14, 3], [.sym 40, .lit (.int .i64 0)], .lit (.bool false)),
  ([0, 16, 3], [.sym 41, .lit (.int .i64 0)], .lit (.bool false)),
  ([0, 14, 3], [.sym 56, .lit (.int .i64 0)], .lit (.bool false)),
  ([0, 16, 3], [.sym 57, .lit (.int .i64 0)], .lit (.bool false)),
  ([0, 11, 31], [.sym 24, .lit (.int .i64 0)], .lit (.bool b28)),
  ([0, 12, 3], [.sym 22, .sym 9], .lit (.bool (!b29))),
  ([0, 12, 3], [.sym 23, .sym 10], .lit (.bool (!b30))),
  ([0, 11, 31], [.sym 24, .lit (.int .i64 241)], .lit (.bool false)),
  ([0, 16, 3], [.sym 11, .lit (.int .i64 0)], .lit (.bool true)),
  ([0, 14, 3], [.sym 11, .sym 25], .lit (.bool true)),
  ([0, 16, 3], [.sym 12, .lit (.int .i64 0)], .lit (.bool true)),
  ([0, 14, 3], [.sym 12, .sym 26], .lit (.bool true)),
  ([0, 2, 3], [.lit (.int .i64 2), .sym 11], .sym 75),
  ([0, 1, 3], [.sym 75, .sym 7], .sym 76),
  ([0, 2, 3], [.lit (.int .i64 2), .sym 12], .sym 84),
  ([0, 1, 3], [.sym 8, .sym 84], .sym 85),
  ([0, 1, 3], [.sym 85, .lit (.int .i64 2)], .sym 86),
  ([0, 12, 31], [.sym 83, .lit (.int .i64 0)], .lit (.bool false)),
  ([0, 12, 31], [.sym 93, .lit (.int .i64 0)], .lit (.bool false)),
  ([0, 11, 3], [.sym 11, .sym 9], .lit (.bool b38)),
  ([0, 11, 3], [.sym 12, .sym 10], .lit (.bool b39)),
  ([0, 12, 31], [.sym 94, .lit (.int .i64 0)], .lit (.bool (!b40)))],
  [(8, [], .lit (.bool true)),
  (19, [.agg [.sym 0, .sym 1, .sym 2, .sym 3, .sym 4, .sym 5]], .lit (.int .i64 0)),
  (39, [.lit (.int .i64 2), .sym 6], .agg [.sym 19, .sym 20, .sym 21]),
  (6, [.agg [.sym 0, .sym 1, .sym 2, .sym 3, .sym 4, .sym 5, .sym 6, .sym 7, .sym 8], .agg [.sym 13, .sym 14, .sym 15, .sym 16, .sym 17, .sym 18]], .tup [.sym 22, .sym 23, .sym 24]),
  (39, [.sym 28, .sym 6], .agg [.sym 29, .sym 30, .sym 31]),
  (38, [.agg [.sym 0, .sym 1, .sym 2], .agg [.sym 29, .sym 30, .sym 31]], .tup [.agg [.sym 32, .sym 33, .sym 34], .sym 35]),
  (38, [.agg [.sym 32, .sym 33, .sym 34], .agg [.sym 19, .sym 20, .sym 21]], .tup [.agg [.sym 36, .sym 37, .sym 38], .sym 39]),
  (14, [.agg [.sym 13, .sym 14, .sym 15], .agg [.sym 32, .sym 33, .sym 34]], .tup [.sym 40, .lit (.int .i64 0)]),
  (14, [.agg [.sym 13, .sym 14, .sym 15], .agg [.sym 36, .sym 37, .sym 38]], .tup [.sym 41, .lit (.int .i64 0)]),
  (39, [.sym 44, .sym 6], .agg [.sym 45, .sym 46, .sym 47]),
  (38, [.agg [.sym 3, .sym 4, .sym 5], .agg [.sym 45, .sym 46, .sym 47]], .tup [.agg [.sym 48, .sym 49, .sym 50], .sym 51]),
  (32, [.agg [.sym 32, .sym 33, .sym 34, .sym 48, .sym 49, .sym 50, .sym 6]], .lit (.int .i64 0)),
  (38, [.agg [.sym 48, .sym 49, .sym 50], .agg [.sym 19, .sym 20, .sym 21]], .tup [.agg [.sym 52, .sym 53, .sym 54], .sym 55]),
  (13, [.agg [.sym 32, .sym 33, .sym 34, .sym 48, .sym 49, .sym 50, .sym 6], .agg [.sym 13, .sym 14, .sym 15, .sym 16, .sym 17, .sym 18]], .lit (.tuple #[.bool true, .int .i64 0])),
  (14, [.agg [.sym 16, .sym 17, .sym 18], .agg [.sym 48, .sym 49, .sym 50]], .tup [.sym 56, .lit (.int .i64 0)]),
  (14, [.agg [.sym 16, .sym 17, .sym 18], .agg [.sym 52, .sym 53, .sym 54]], .tup [.sym 57, .lit (.int .i64 0)]),
  (39, [.sym 60, .sym 6], .agg [.sym 61, .sym 62, .sym 63]),
  (38, [.agg [.sym 0, .sym 1, .sym 2], .agg [.sym 61, .sym 62, .sym 63]], .tup [.agg [.sym 36, .sym 37, .sym 38], .sym 39]),
  (39, [.sym 67, .sym 6], .agg [.sym 68, .sym 69, .sym 70]),
  (38, [.agg [.sym 3, .sym 4, .sym 5], .agg [.sym 68, .sym 69, .sym 70]], .tup [.agg [.sym 71, .sym 72, .sym 73], .sym 74]),
  (39, [.sym 76, .sym 6], .agg [.sym 77, .sym 78, .sym 79]),
  (38, [.agg [.sym 0, .sym 1, .sym 2], .agg [.sym 77, .sym 78, .sym 79]], .tup [.agg [.sym 80, .sym 81, .sym 82], .sym 83]),
  (39, [.sym 86, .sym 6], .agg [.sym 87, .sym 88, .sym 89]),
  (38, [.agg [.sym 3, .sym 4, .sym 5], .agg [.sym 87, .sym 88, .sym 89]], .tup [.agg [.sym 90, .sym 91, .sym 92], .sym 93]),
  (13, [.agg [.sym 80, .sym 81, .sym 82, .sym 90, .sym 91, .sym 92, .sym 6], .agg [.sym 13, .sym 14, .sym 15, .sym 16, .sym 17, .sym 18]], .tup [.lit (.bool false), .sym 94])]⟩
theorem VEdges_eSk_r1 : @comes (VEdges_eSk_k true true true true true false true) Tryz.prog glT 3000 VEdges_eSk_f VEdges_eSk_a = some (.lit (.bool true)) := by kernel_rfl
theorem VEdges_eSk_r2 : @comes (VEdges_eSk_k true true true true true false false) Tryz.prog glT 3000 VEdges_eSk_f VEdges_eSk_a = some (.lit (.bool true)) := by kernel_rfl
theorem VEdges_eSk_r3 (b39 : Bool) : @comes (VEdges_eSk_k true true true true false b39 true) Tryz.prog glT 3000 VEdges_eSk_f VEdges_eSk_a = some (.lit (.bool true)) := by kernel_rfl
theorem VEdges_eSk_r4 (b39 : Bool) : @comes (VEdges_eSk_k true true true true false b39 false) Tryz.prog glT 3000 VEdges_eSk_f VEdges_eSk_a = some (.lit (.bool true)) := by kernel_rfl
theorem VEdges_eSk_r5 (b29 b30 : Bool) : @comes (VEdges_eSk_k true false b29 b30 true false true) Tryz.prog glT 3000 VEdges_eSk_f VEdges_eSk_a = some (.lit (.bool true)) := by kernel_rfl
theorem VEdges_eSk_r6 (b29 b30 : Bool) : @comes (VEdges_eSk_k true false b29 b30 true false false) Tryz.prog glT 3000 VEdges_eSk_f VEdges_eSk_a = some (.lit (.bool true)) := by kernel_rfl
theorem VEdges_eSk_r7 (b29 b30 b39 : Bool) : @comes (VEdges_eSk_k true false b29 b30 false b39 true) Tryz.prog glT 3000 VEdges_eSk_f VEdges_eSk_a = some (.lit (.bool true)) := by kernel_rfl
theorem VEdges_eSk_r8 (b29 b30 b39 : Bool) : @comes (VEdges_eSk_k true false b29 b30 false b39 false) Tryz.prog glT 3000 VEdges_eSk_f VEdges_eSk_a = some (.lit (.bool true)) := by kernel_rfl
theorem VEdges_eSk_r9 : @comes (VEdges_eSk_k false true true true true false true) Tryz.prog glT 3000 VEdges_eSk_f VEdges_eSk_a = some (.lit (.bool true)) := by kernel_rfl
theorem VEdges_eSk_r10 : @comes (VEdges_eSk_k false true true true true false false) Tryz.prog glT 3000 VEdges_eSk_f VEdges_eSk_a = some (.lit (.bool true)) := by kernel_rfl
theorem VEdges_eSk_r11 (b39 : Bool) : @comes (VEdges_eSk_k false true true true false b39 true) Tryz.prog glT 3000 VEdges_eSk_f VEdges_eSk_a = some (.lit (.bool true)) := by kernel_rfl
theorem VEdges_eSk_r12 (b39 : Bool) : @comes (VEdges_eSk_k false true true true false b39 false) Tryz.prog glT 3000 VEdges_eSk_f VEdges_eSk_a = some (.lit (.bool true)) := by kernel_rfl
theorem VEdges_eSk_r13 (b29 b30 : Bool) : @comes (VEdges_eSk_k false false b29 b30 true false true) Tryz.prog glT 3000 VEdges_eSk_f VEdges_eSk_a = some (.lit (.bool true)) := by kernel_rfl
theorem VEdges_eSk_r14 (b29 b30 : Bool) : @comes (VEdges_eSk_k false false b29 b30 true false false) Tryz.prog glT 3000 VEdges_eSk_f VEdges_eSk_a = some (.lit (.bool true)) := by kernel_rfl
theorem VEdges_eSk_r15 (b29 b30 b39 : Bool) : @comes (VEdges_eSk_k false false b29 b30 false b39 true) Tryz.prog glT 3000 VEdges_eSk_f VEdges_eSk_a = some (.lit (.bool true)) := by kernel_rfl
theorem VEdges_eSk_r16 (b29 b30 b39 : Bool) : @comes (VEdges_eSk_k false false b29 b30 false b39 false) Tryz.prog glT 3000 VEdges_eSk_f VEdges_eSk_a = some (.lit (.bool true)) := by kernel_rfl
set_option maxRecDepth 100000 in
set_option maxHeartbeats 4000000 in
theorem VEdges_eSk (p q : Dy) (y a b c r s t : Int) (g : Gs) (m n k : Int) (kh : Int) (w : World) (hp : p.Ok) (hq : q.Ok) (hy : -4096 ≤ y ∧ y ≤ 4096) (ha : 1 ≤ a ∧ a ≤ 65536) (hb : 1 ≤ b ∧ b ≤ 65536) (hg : g.Ok) (c1 : 0 ≤ c) (c2 : c ≤ a - 1) (r1 : 0 ≤ r) (r2 : r ≤ b - 1) (hxx : addE p (hz ((2 * c) - a) (y - 1)) = 0) (hyy : addE q (hz ((b - (2 * r)) - 2) (y - 1)) = 0) (huu : addE (addD p (hz ((2 * c) - a) (y - 1))) (hz 2 (y - 1)) = 0) (hvv : addE (addD q (hz ((b - (2 * r)) - 2) (y - 1))) (hz 2 (y - 1)) = 0) (hr : r + 2 ≤ b) (hu : ¬ addE q (hz ((b - (2 * (r + 1))) - 2) (y - 1)) = 0) (HH : ∀ w, Globs glT w → Calls Tryz.prog 13 #[.agg #[.bool (addD p (hz ((2 * c) - a) (y - 1))).g, .string (natS (addD p (hz ((2 * c) - a) (y - 1))).n), .int .i64 (addD p (hz ((2 * c) - a) (y - 1))).x, .bool (addD q (hz ((b - (2 * r)) - 2) (y - 1))).g, .string (natS (addD q (hz ((b - (2 * r)) - 2) (y - 1))).n), .int .i64 (addD q (hz ((b - (2 * r)) - 2) (y - 1))).x, .int .i64 y], .agg #[.bool g.re.g, .string (natS g.re.n), .int .i64 g.re.x, .bool g.im.g, .string (natS g.im.n), .int .i64 g.im.x]] w fun e w' => e = .returned (.tuple #[.bool true, .int .i64 0]) ∧ Below w.heap.size w w') (cca : cmpD g.re (addD p (hz ((2 * c) - a) (y - 1))) ≥ 0) (ccb : cmpD g.re (addD (addD p (hz ((2 * c) - a) (y - 1))) (hz 2 (y - 1))) ≤ 0) (ccc : cmpD g.im (addD q (hz ((b - (2 * r)) - 2) (y - 1))) ≥ 0) (ccd : cmpD g.im (addD (addD q (hz ((b - (2 * r)) - 2) (y - 1))) (hz 2 (y - 1))) ≤ 0) (ssa : ¬ cmpD g.re (addD p (hz ((2 * c) - a) (y - 1))) ≤ 0) (ssb : ¬ cmpD g.re (addD (addD p (hz ((2 * c) - a) (y - 1))) (hz 2 (y - 1))) ≥ 0) (ssc : ¬ cmpD g.im (addD q (hz ((b - (2 * r)) - 2) (y - 1))) ≤ 0) (ssd : ¬ cmpD g.im (addD (addD q (hz ((b - (2 * r)) - 2) (y - 1))) (hz 2 (y - 1))) ≥ 0) (HF : ∀ w, Globs glT w → Calls Tryz.prog 6 #[.agg #[.bool p.g, .string (natS p.n), .int .i64 p.x, .bool q.g, .string (natS q.n), .int .i64 q.x, .int .i64 y, .int .i64 a, .int .i64 b], .agg #[.bool g.re.g, .string (natS g.re.n), .int .i64 g.re.x, .bool g.im.g, .string (natS g.im.n), .int .i64 g.im.x]] w fun e w' => e = .returned (.tuple #[.int .i64 m, .int .i64 n, .int .i64 k]) ∧ Below w.heap.size w w') (f1 : k = 0 → m = c) (f2 : k = 0 → n = r) (f3 : ¬ k = 241) (s1 : 0 ≤ s) (s2 : s ≤ a - 1) (t1 : 0 ≤ t) (t2 : t ≤ b - 1) (hxo : addE p (hz ((2 * s) - a) (y - 1)) = 0) (hyo : addE q (hz ((b - (2 * t)) - 2) (y - 1)) = 0) (hd : ¬ (s = c ∧ t = r)) (HI : ∀ w, Globs glT w → Calls Tryz.prog 13 #[.agg #[.bool (addD p (hz ((2 * s) - a) (y - 1))).g, .string (natS (addD p (hz ((2 * s) - a) (y - 1))).n), .int .i64 (addD p (hz ((2 * s) - a) (y - 1))).x, .bool (addD q (hz ((b - (2 * t)) - 2) (y - 1))).g, .string (natS (addD q (hz ((b - (2 * t)) - 2) (y - 1))).n), .int .i64 (addD q (hz ((b - (2 * t)) - 2) (y - 1))).x, .int .i64 y], .agg #[.bool g.re.g, .string (natS g.re.n), .int .i64 g.re.x, .bool g.im.g, .string (natS g.im.n), .int .i64 g.im.x]] w fun e w' => e = .returned (.tuple #[.bool false, .int .i64 kh]) ∧ Below w.heap.size w w') (hG : Globs glT w) : Calls Tryz.prog 4 #[.agg #[.bool p.g, .string (natS p.n), .int .i64 p.x, .bool q.g, .string (natS q.n), .int .i64 q.x, .int .i64 y, .int .i64 a, .int .i64 b], .int .i64 c, .int .i64 r, .int .i64 s, .int .i64 t, .agg #[.bool g.re.g, .string (natS g.re.n), .int .i64 g.re.x, .bool g.im.g, .string (natS g.im.n), .int .i64 g.im.x]] w fun e w' => e = .returned (.bool true) ∧ Below w.heap.size w w' := by
  have h1 : y ≥ -4096 := ( by omega)
  have i1 := vet h1
  have h2 : y ≤ 4096 := ( by omega)
  have i2 := vet h2
  have h3 : a ≥ 1 := ( by omega)
  have i3 := vet h3
  have h4 : a ≤ 65536 := ( by omega)
  have i4 := vet h4
  have h5 : b ≥ 1 := ( by omega)
  have i5 := vet h5
  have h6 : b ≤ 65536 := ( by omega)
  have i6 := vet h6
  have h7 : c ≥ 0 := ( by omega)
  have i7 := vet h7
  have h8 : c ≤ a - 1 := ( by omega)
  have i8 := vet h8
  have h9 : r ≥ 0 := ( by omega)
  have i9 := vet h9
  have h10 : r ≤ b - 1 := ( by omega)
  have i10 := vet h10
  have h11 := hxx
  have i11 := vet h11
  have h12 := hyy
  have i12 := vet h12
  have h13 := huu
  have i13 := vet h13
  have h14 := hvv
  have i14 := vet h14
  have h15 : c + 1 ≥ 0 := ( by omega)
  have i15 := vet h15
  obtain ⟨b16, i16⟩ := bex (c + 1 ≤ a - 1)
  have h17 : r + 1 ≥ 0 := ( by omega)
  have i17 := vet h17
  have h18 : r + 1 ≤ b - 1 := ( by omega)
  have i18 := vet h18
  have h19 := hu
  have i19 := vef h19
  have h20 := cca
  have i20 := vet h20
  have h21 := ccb
  have i21 := vet h21
  have h22 := ccc
  have i22 := vet h22
  have h23 := ccd
  have i23 := vet h23
  have h24 := ssa
  have i24 := vef h24
  have h25 := ssb
  have i25 := vef h25
  have h26 := ssc
  have i26 := vef h26
  have h27 := ssd
  have i27 := vef h27
  obtain ⟨b28, i28⟩ := bex (k = 0)
  obtain ⟨b29, i29⟩ := bex (m = c)
  obtain ⟨b30, i30⟩ := bex (n = r)
  have h31 := f3
  have i31 := vef h31
  have h32 : s ≥ 0 := ( by omega)
  have i32 := vet h32
  have h33 : s ≤ a - 1 := ( by omega)
  have i33 := vet h33
  have h34 : t ≥ 0 := ( by omega)
  have i34 := vet h34
  have h35 : t ≤ b - 1 := ( by omega)
  have i35 := vet h35
  have h36 := hxo
  have i36 := vet h36
  have h37 := hyo
  have i37 := vet h37
  obtain ⟨b38, i38⟩ := bex (s = c)
  obtain ⟨b39, i39⟩ := bex (t = r)
  obtain ⟨b40, i40⟩ := bex (kh = 0)
  letI : Env := mkEnv glT [.bool p.g, .string (natS p.n), .int .i64 p.x, .bool q.g, .string (natS q.n), .int .i64 q.x, .int .i64 y, .int .i64 a, .int .i64 b, .int .i64 c, .int .i64 r, .int .i64 s, .int .i64 t, .bool g.re.g, .string (natS g.re.n), .int .i64 g.re.x, .bool g.im.g, .string (natS g.im.n), .int .i64 g.im.x, .bool (hz 2 (y - 1)).g, .string (natS (hz 2 (y - 1)).n), .int .i64 (hz 2 (y - 1)).x, .int .i64 m, .int .i64 n, .int .i64 k, .int .i64 (a - 1), .int .i64 (b - 1), .int .i64 (2 * c), .int .i64 ((2 * c) - a), .bool (hz ((2 * c) - a) (y - 1)).g, .string (natS (hz ((2 * c) - a) (y - 1)).n), .int .i64 (hz ((2 * c) - a) (y - 1)).x, .bool (addD p (hz ((2 * c) - a) (y - 1))).g, .string (natS (addD p (hz ((2 * c) - a) (y - 1))).n), .int .i64 (addD p (hz ((2 * c) - a) (y - 1))).x, .int .i64 (addE p (hz ((2 * c) - a) (y - 1))), .bool (addD (addD p (hz ((2 * c) - a) (y - 1))) (hz 2 (y - 1))).g, .string (natS (addD (addD p (hz ((2 * c) - a) (y - 1))) (hz 2 (y - 1))).n), .int .i64 (addD (addD p (hz ((2 * c) - a) (y - 1))) (hz 2 (y - 1))).x, .int .i64 (addE (addD p (hz ((2 * c) - a) (y - 1))) (hz 2 (y - 1))), .int .i64 (cmpD g.re (addD p (hz ((2 * c) - a) (y - 1)))), .int .i64 (cmpD g.re (addD (addD p (hz ((2 * c) - a) (y - 1))) (hz 2 (y - 1)))), .int .i64 (2 * r), .int .i64 (b - (2 * r)), .int .i64 ((b - (2 * r)) - 2), .bool (hz ((b - (2 * r)) - 2) (y - 1)).g, .string (natS (hz ((b - (2 * r)) - 2) (y - 1)).n), .int .i64 (hz ((b - (2 * r)) - 2) (y - 1)).x, .bool (addD q (hz ((b - (2 * r)) - 2) (y - 1))).g, .string (natS (addD q (hz ((b - (2 * r)) - 2) (y - 1))).n), .int .i64 (addD q (hz ((b - (2 * r)) - 2) (y - 1))).x, .int .i64 (addE q (hz ((b - (2 * r)) - 2) (y - 1))), .bool (addD (addD q (hz ((b - (2 * r)) - 2) (y - 1))) (hz 2 (y - 1))).g, .string (natS (addD (addD q (hz ((b - (2 * r)) - 2) (y - 1))) (hz 2 (y - 1))).n), .int .i64 (addD (addD q (hz ((b - (2 * r)) - 2) (y - 1))) (hz 2 (y - 1))).x, .int .i64 (addE (addD q (hz ((b - (2 * r)) - 2) (y - 1))) (hz 2 (y - 1))), .int .i64 (cmpD g.im (addD q (hz ((b - (2 * r)) - 2) (y - 1)))), .int .i64 (cmpD g.im (addD (addD q (hz ((b - (2 * r)) - 2) (y - 1))) (hz 2 (y - 1)))), .int .i64 (c + 1), .int .i64 (2 * (c + 1)), .int .i64 ((2 * (c + 1)) - a), .bool (hz ((2 * (c + 1)) - a) (y - 1)).g, .string (natS (hz ((2 * (c + 1)) - a) (y - 1)).n), .int .i64 (hz ((2 * (c + 1)) - a) (y - 1)).x, .int .i64 (r + 1), .int .i64 (2 * (r + 1)), .int .i64 (b - (2 * (r + 1))), .int .i64 ((b - (2 * (r + 1))) - 2), .bool (hz ((b - (2 * (r + 1))) - 2) (y - 1)).g, .string (natS (hz ((b - (2 * (r + 1))) - 2) (y - 1)).n), .int .i64 (hz ((b - (2 * (r + 1))) - 2) (y - 1)).x, .bool (addD q (hz ((b - (2 * (r + 1))) - 2) (y - 1))).g, .string (natS (addD q (hz ((b - (2 * (r + 1))) - 2) (y - 1))).n), .int .i64 (addD q (hz ((b - (2 * (r + 1))) - 2) (y - 1))).x, .int .i64 (addE q (hz ((b - (2 * (r + 1))) - 2) (y - 1))), .int .i64 (2 * s), .int .i64 ((2 * s) - a), .bool (hz ((2 * s) - a) (y - 1)).g, .string (natS (hz ((2 * s) - a) (y - 1)).n), .int .i64 (hz ((2 * s) - a) (y - 1)).x, .bool (addD p (hz ((2 * s) - a) (y - 1))).g, .string (natS (addD p (hz ((2 * s) - a) (y - 1))).n), .int .i64 (addD p (hz ((2 * s) - a) (y - 1))).x, .int .i64 (addE p (hz ((2 * s) - a) (y - 1))), .int .i64 (2 * t), .int .i64 (b - (2 * t)), .int .i64 ((b - (2 * t)) - 2), .bool (hz ((b - (2 * t)) - 2) (y - 1)).g, .string (natS (hz ((b - (2 * t)) - 2) (y - 1)).n), .int .i64 (hz ((b - (2 * t)) - 2) (y - 1)).x, .bool (addD q (hz ((b - (2 * t)) - 2) (y - 1))).g, .string (natS (addD q (hz ((b - (2 * t)) - 2) (y - 1))).n), .int .i64 (addD q (hz ((b - (2 * t)) - 2) (y - 1))).x, .int .i64 (addE q (hz ((b - (2 * t)) - 2) (y - 1))), .int .i64 kh] rfl
  have hops : OpsT Tryz.prog (@Know.ops (VEdges_eSk_k b16 b28 b29 b30 b38 b39 b40)) := ⟨opt_geq_i rfl rfl i1,
    opt_leq_i rfl rfl i2,
    opt_geq_i rfl rfl i3,
    opt_leq_i rfl rfl i4,
    opt_geq_i rfl rfl i5,
    opt_leq_i rfl rfl i6,
    vopt_sub rfl rfl rfl rfl (by omega) ⟨by omega, by omega⟩,
    opt_geq_i rfl rfl i7,
    opt_leq_i rfl rfl i8,
    vopt_sub rfl rfl rfl rfl (by omega) ⟨by omega, by omega⟩,
    opt_geq_i rfl rfl i9,
    opt_leq_i rfl rfl i10,
    vopt_mul rfl rfl rfl rfl (by omega) ⟨by omega, by omega⟩,
    vopt_sub rfl rfl rfl rfl (by omega) ⟨by omega, by omega⟩,
    vopt_mul rfl rfl rfl rfl (by omega) ⟨by omega, by omega⟩,
    vopt_sub rfl rfl rfl rfl (by omega) ⟨by omega, by omega⟩,
    vopt_sub rfl rfl rfl rfl (by omega) ⟨by omega, by omega⟩,
    opt_neq_i rfl rfl i11,
    opt_neq_i rfl rfl i12,
    opt_neq_i rfl rfl i13,
    opt_neq_i rfl rfl i14,
    vopt_add rfl rfl rfl rfl (by omega) ⟨by omega, by omega⟩,
    opt_geq_i rfl rfl i15,
    opt_leq_i rfl rfl i16,
    vopt_mul rfl rfl rfl rfl (by omega) ⟨by omega, by omega⟩,
    vopt_sub rfl rfl rfl rfl (by omega) ⟨by omega, by omega⟩,
    optD_neq_f (a := addD (addD p (hz ((2 * c) - a) (y - 1))) (hz 2 (y - 1))) (b := addD (addD p (hz ((2 * c) - a) (y - 1))) (hz 2 (y - 1))) rfl rfl rfl,
    optD_neq_f (a := addD q (hz ((b - (2 * r)) - 2) (y - 1))) (b := addD q (hz ((b - (2 * r)) - 2) (y - 1))) rfl rfl rfl,
    vopt_add rfl rfl rfl rfl (by omega) ⟨by omega, by omega⟩,
    opt_geq_i rfl rfl i17,
    opt_leq_i rfl rfl i18,
    vopt_mul rfl rfl rfl rfl (by omega) ⟨by omega, by omega⟩,
    vopt_sub rfl rfl rfl rfl (by omega) ⟨by omega, by omega⟩,
    vopt_sub rfl rfl rfl rfl (by omega) ⟨by omega, by omega⟩,
    opt_neq_i rfl rfl i19,
    opt_geq_i rfl rfl i20,
    opt_leq_i rfl rfl i21,
    opt_geq_i rfl rfl i22,
    opt_leq_i rfl rfl i23,
    opt_leq_i rfl rfl i24,
    opt_geq_i rfl rfl i25,
    opt_leq_i rfl rfl i26,
    opt_geq_i rfl rfl i27,
    opt_eql_i rfl rfl i28,
    opt_neq_i rfl rfl i29,
    opt_neq_i rfl rfl i30,
    opt_eql_i rfl rfl i31,
    opt_geq_i rfl rfl i32,
    opt_leq_i rfl rfl i33,
    opt_geq_i rfl rfl i34,
    opt_leq_i rfl rfl i35,
    vopt_mul rfl rfl rfl rfl (by omega) ⟨by omega, by omega⟩,
    vopt_sub rfl rfl rfl rfl (by omega) ⟨by omega, by omega⟩,
    vopt_mul rfl rfl rfl rfl (by omega) ⟨by omega, by omega⟩,
    vopt_sub rfl rfl rfl rfl (by omega) ⟨by omega, by omega⟩,
    vopt_sub rfl rfl rfl rfl (by omega) ⟨by omega, by omega⟩,
    opt_neq_i rfl rfl i36,
    opt_neq_i rfl rfl i37,
    opt_eql_i rfl rfl i38,
    opt_eql_i rfl rfl i39,
    opt_neq_i rfl rfl i40,
    trivial⟩
  have hcalls : CallsT Tryz.prog (@Know.calls (VEdges_eSk_k b16 b28 b29 b30 b38 b39 b40)) := ⟨callt rfl rfl fun w hG => awake24_c w hG,
    callt rfl rfl fun w hG => GCheck_gs ⟨p, q⟩ ⟨hp, hq⟩ w hG,
    callt rfl rfl fun w hG => halves_z 2 y w ⟨by omega, by omega⟩ ⟨by omega, by omega⟩ hG,
    callt rfl rfl fun w hG => HF w hG,
    callt rfl rfl fun w hG => halves_z ((2 * c) - a) y w ⟨by omega, by omega⟩ ⟨by omega, by omega⟩ hG,
    callt rfl rfl fun w hG => DAdd_c p (hz ((2 * c) - a) (y - 1)) w hp (hz_Ok _ _) hG,
    callt rfl rfl fun w hG => DAdd_c (addD p (hz ((2 * c) - a) (y - 1))) (hz 2 (y - 1)) w (add_Ok hp (hz_Ok _ _)) (hz_Ok _ _) hG,
    callt rfl rfl fun w hG => DCmp_c g.re (addD p (hz ((2 * c) - a) (y - 1))) w hg.1 (add_Ok hp (hz_Ok _ _)),
    callt rfl rfl fun w hG => DCmp_c g.re (addD (addD p (hz ((2 * c) - a) (y - 1))) (hz 2 (y - 1))) w hg.1 (add_Ok (add_Ok hp (hz_Ok _ _)) (hz_Ok _ _)),
    callt rfl rfl fun w hG => halves_z ((b - (2 * r)) - 2) y w ⟨by omega, by omega⟩ ⟨by omega, by omega⟩ hG,
    callt rfl rfl fun w hG => DAdd_c q (hz ((b - (2 * r)) - 2) (y - 1)) w hq (hz_Ok _ _) hG,
    callt rfl rfl fun w hG => VRight_ok (addD p (hz ((2 * c) - a) (y - 1))) (addD q (hz ((b - (2 * r)) - 2) (y - 1))) y w (add_Ok hp (hz_Ok _ _)) (add_Ok hq (hz_Ok _ _)) ⟨by omega, by omega⟩ hG,
    callt rfl rfl fun w hG => DAdd_c (addD q (hz ((b - (2 * r)) - 2) (y - 1))) (hz 2 (y - 1)) w (add_Ok hq (hz_Ok _ _)) (hz_Ok _ _) hG,
    callt rfl rfl fun w hG => HH w hG,
    callt rfl rfl fun w hG => DCmp_c g.im (addD q (hz ((b - (2 * r)) - 2) (y - 1))) w hg.2 (add_Ok hq (hz_Ok _ _)),
    callt rfl rfl fun w hG => DCmp_c g.im (addD (addD q (hz ((b - (2 * r)) - 2) (y - 1))) (hz 2 (y - 1))) w hg.2 (add_Ok (add_Ok hq (hz_Ok _ _)) (hz_Ok _ _)),
    callt rfl rfl fun w hG => halves_z ((2 * (c + 1)) - a) y w ⟨by omega, by omega⟩ ⟨by omega, by omega⟩ hG,
    callt rfl rfl fun w hG => DAdd_canon hp (hz_Ok _ _) (show addD p (hz ((2 * (c + 1)) - a) (y - 1)) = addD (addD p (hz ((2 * c) - a) (y - 1))) (hz 2 (y - 1)) ∧ addE p (hz ((2 * (c + 1)) - a) (y - 1)) = addE (addD p (hz ((2 * c) - a) (y - 1))) (hz 2 (y - 1)) from add_hz hp ⟨by omega, by omega⟩ ⟨by omega, by omega⟩ ⟨by omega, by omega⟩ (by omega) hxx) w hG,
    callt rfl rfl fun w hG => halves_z ((b - (2 * (r + 1))) - 2) y w ⟨by omega, by omega⟩ ⟨by omega, by omega⟩ hG,
    callt rfl rfl fun w hG => DAdd_c q (hz ((b - (2 * (r + 1))) - 2) (y - 1)) w hq (hz_Ok _ _) hG,
    callt rfl rfl fun w hG => halves_z ((2 * s) - a) y w ⟨by omega, by omega⟩ ⟨by omega, by omega⟩ hG,
    callt rfl rfl fun w hG => DAdd_c p (hz ((2 * s) - a) (y - 1)) w hp (hz_Ok _ _) hG,
    callt rfl rfl fun w hG => halves_z ((b - (2 * t)) - 2) y w ⟨by omega, by omega⟩ ⟨by omega, by omega⟩ hG,
    callt rfl rfl fun w hG => DAdd_c q (hz ((b - (2 * t)) - 2) (y - 1)) w hq (hz_Ok _ _) hG,
    callt rfl rfl fun w hG => HI w hG,
    trivial⟩
  have fin : ∀ v, @comes (VEdges_eSk_k b16 b28 b29 b30 b38 b39 b40) Tryz.prog glT 3000 VEdges_eSk_f VEdges_eSk_a = some v → ground v = true → Ending.returned (gval v) = .returned (.bool true) → Calls Tryz.prog 4 #[.agg #[.bool p.g, .string (natS p.n), .int .i64 p.x, .bool q.g, .string (natS q.n), .int .i64 q.x, .int .i64 y, .int .i64 a, .int .i64 b], .int .i64 c, .int .i64 r, .int .i64 s, .int .i64 t, .agg #[.bool g.re.g, .string (natS g.re.n), .int .i64 g.re.x, .bool g.im.g, .string (natS g.im.n), .int .i64 g.im.x]] w fun e w' => e = .returned (.bool true) ∧ Below w.heap.size w w' := fun v h1 h2 h3 => (@sym_ok _ (VEdges_eSk_k b16 b28 b29 b30 b38 b39 b40) _ (@KnowOk.of _ (VEdges_eSk_k b16 b28 b29 b30 b38 b39 b40) _ hops hcalls) (by kernel_rfl) _ _ _ _ h1 rfl h2 _ hG).mono fun e w' h => ⟨h.1.trans h3, h.2⟩
  clear hops hcalls
  cases b16 with
  | true =>
    have h16 := i16.1 rfl
    cases b28 with
    | true =>
      have h28 := i28.1 rfl
      cases b29 with
      | true =>
        have h29 := i29.1 rfl
        cases b30 with
        | true =>
          have h30 := i30.1 rfl
          cases b38 with
          | true =>
            have h38 := i38.1 rfl
            cases b39 with
            | true =>
              exact absurd (i39.1 rfl) (fun c => hd ⟨h38, c⟩)
            | false =>
              have h39 : ¬ (t = r) := fun c => Bool.false_ne_true (i39.2 c)
              cases b40 with
              | true =>
                have h40 := i40.1 rfl
                exact fin _ (VEdges_eSk_r1) rfl rfl
              | false =>
                have h40 : ¬ (kh = 0) := fun c => Bool.false_ne_true (i40.2 c)
                exact fin _ (VEdges_eSk_r2) rfl rfl
          | false =>
            have h38 : ¬ (s = c) := fun c => Bool.false_ne_true (i38.2 c)
            cases b40 with
            | true =>
              have h40 := i40.1 rfl
              exact fin _ (VEdges_eSk_r3 b39) rfl rfl
            | false =>
              have h40 : ¬ (kh = 0) := fun c => Bool.false_ne_true (i40.2 c)
              exact fin _ (VEdges_eSk_r4 b39) rfl rfl
        | false =>
          exact absurd (i30.2 (f2 h28)) Bool.false_ne_true
      | false =>
        exact absurd (i29.2 (f1 h28)) Bool.false_ne_true
    | false =>
      have h28 : ¬ (k = 0) := fun c => Bool.false_ne_true (i28.2 c)
      cases b38 with
      | true =>
        have h38 := i38.1 rfl
        cases b39 with
        | true =>
          exact absurd (i39.1 rfl) (fun c => hd ⟨h38, c⟩)
        | false =>
          have h39 : ¬ (t = r) := fun c => Bool.false_ne_true (i39.2 c)
          cases b40 with
          | true =>
            have h40 := i40.1 rfl
            exact fin _ (VEdges_eSk_r5 b29 b30) rfl rfl
          | false =>
            have h40 : ¬ (kh = 0) := fun c => Bool.false_ne_true (i40.2 c)
            exact fin _ (VEdges_eSk_r6 b29 b30) rfl rfl
      | false =>
        have h38 : ¬ (s = c) := fun c => Bool.false_ne_true (i38.2 c)
        cases b40 with
        | true =>
          have h40 := i40.1 rfl
          exact fin _ (VEdges_eSk_r7 b29 b30 b39) rfl rfl
        | false =>
          have h40 : ¬ (kh = 0) := fun c => Bool.false_ne_true (i40.2 c)
          exact fin _ (VEdges_eSk_r8 b29 b30 b39) rfl rfl
  | false =>
    have h16 : ¬ (c + 1 ≤ a - 1) := fun c => Bool.false_ne_true (i16.2 c)
    cases b28 with
    | true =>
      have h28 := i28.1 rfl
      cases b29 with
      | true =>
        have h29 := i29.1 rfl
        cases b30 with
        | true =>
          have h30 := i30.1 rfl
          cases b38 with
          | true =>
            have h38 := i38.1 rfl
            cases b39 with
            | true =>
              exact absurd (i39.1 rfl) (fun c => hd ⟨h38, c⟩)
            | false =>
              have h39 : ¬ (t = r) := fun c => Bool.false_ne_true (i39.2 c)
              cases b40 with
              | true =>
                have h40 := i40.1 rfl
                exact fin _ (VEdges_eSk_r9) rfl rfl
              | false =>
                have h40 : ¬ (kh = 0) := fun c => Bool.false_ne_true (i40.2 c)
                exact fin _ (VEdges_eSk_r10) rfl rfl
          | false =>
            have h38 : ¬ (s = c) := fun c => Bool.false_ne_true (i38.2 c)
            cases b40 with
            | true =>
              have h40 := i40.1 rfl
              exact fin _ (VEdges_eSk_r11 b39) rfl rfl
            | false =>
              have h40 : ¬ (kh = 0) := fun c => Bool.false_ne_true (i40.2 c)
              exact fin _ (VEdges_eSk_r12 b39) rfl rfl
        | false =>
          exact absurd (i30.2 (f2 h28)) Bool.false_ne_true
      | false =>
        exact absurd (i29.2 (f1 h28)) Bool.false_ne_true
    | false =>
      have h28 : ¬ (k = 0) := fun c => Bool.false_ne_true (i28.2 c)
      cases b38 with
      | true =>
        have h38 := i38.1 rfl
        cases b39 with
        | true =>
          exact absurd (i39.1 rfl) (fun c => hd ⟨h38, c⟩)
        | false =>
          have h39 : ¬ (t = r) := fun c => Bool.false_ne_true (i39.2 c)
          cases b40 with
          | true =>
            have h40 := i40.1 rfl
            exact fin _ (VEdges_eSk_r13 b29 b30) rfl rfl
          | false =>
            have h40 : ¬ (kh = 0) := fun c => Bool.false_ne_true (i40.2 c)
            exact fin _ (VEdges_eSk_r14 b29 b30) rfl rfl
      | false =>
        have h38 : ¬ (s = c) := fun c => Bool.false_ne_true (i38.2 c)
        cases b40 with
        | true =>
          have h40 := i40.1 rfl
          exact fin _ (VEdges_eSk_r15 b29 b30 b39) rfl rfl
        | false =>
          have h40 : ¬ (kh = 0) := fun c => Bool.false_ne_true (i40.2 c)
          exact fin _ (VEdges_eSk_r16 b29 b30 b39) rfl rfl
@[reducible] def VEdges_eSs_f : FuncId := 4
@[reducible] def VEdges_eSs_a : List AV := [.agg [.sym 0, .sym 1, .sym 2, .sym 3, .sym 4, .sym 5, .sym 6, .sym 7, .sym 8], .sym 9, .sym 10, .sym 11, .sym 12, .agg [.sym 13, .sym 14, .sym 15, .sym 16, .sym 17, .sym 18]]
@[reducible] noncomputable def VEdges_eSs_k (b16 b28 b29 b30 : Bool) : Know := ⟨[([0, 16, 3], [.sym 6, .lit (.int .i64 (-4096))], .lit (.bool true)),
  ([0, 14, 3], [.sym 6, .lit (.int .i64 4096)], .lit (.bool true)),
  ([0, 16, 3], [.sym 7, .lit (.int .i64 1)], .lit (.bool true)),
  ([0, 14, 3], [.sym 7, .lit (.int .i64 65536)], .lit (.bool true)),
  ([0, 16, 3], [.sym 8, .lit (.int .i64 1)], .lit (.bool true)),
  ([0, 14, 3], [.sym 8, .lit (.int .i64 65536)], .lit (.bool true)),
  ([0, 1, 3], [.sym 7, .lit (.int .i64 1)], .sym 25),
  ([0, 16, 3], [.sym 9, .lit (.int .i64 0)], .lit (.bool true)),
  ([0, 14, 3], [.sym 9, .sym 25], .lit (.bool true)),
  ([0, 1, 3], [.sym 8, .lit (.int .i64 1)], .sym 26),
  ([0, 16, 3], [.sym 10, .lit (.int .i64 0)], .lit (.bool true)),
  ([0, 14, 3], [.sym 10, .sym 26], .lit (.bool true)),
  ([0, 2, 3], [.lit (.int .i64 2), .sym 9], .sym 27),
  ([0, 1, 3], [.sym 27, .sym 7], .sym 28),
  ([0, 2, 3], [.lit (.int .i64 2), .sym 10], .sym 42),
  ([0, 1, 3], [.sym 8, .sym 42], .sym 43),
  ([0, 1, 3], [.sym 43, .lit (.int .i64 2)], .sym 44),
  ([0, 12, 31], [.sym 35, .lit (.int .i64 0)], .lit (.bool false)),
  ([0, 12, 31], [.sym 51, .lit (.int .i64 0)], .lit (.bool false)),
  ([0, 12, 31], [.sym 39, .lit (.int .i64 0)], .lit (.bool false)),
  ([0, 12, 31], [.sym 55, .lit (.int .i64 0)], .lit (.bool false)),
  ([0, 0, 3], [.sym 9, .lit (.int .i64 1)], .sym 58),
  ([0, 16, 3], [.sym 58, .lit (.int .i64 0)], .lit (.bool true)),
  ([0, 14, 3], [.sym 58, .sym 25], .lit (.bool b16)),
  ([0, 2, 3], [.lit (.int .i64 2), .sym 58], .sym 59),
  ([0, 1, 3], [.sym 59, .sym 7], .sym 60),
  ([0, 12, 24], [.agg [.sym 36, .sym 37, .sym 38], .agg [.sym 36, .sym 37, .sym 38]], .lit (.bool false)),
  ([0, 12, 24], [.agg [.sym 48, .sym 49, .sym 50], .agg [.sym 48, .sym 49, .sym 50]], .lit (.bool false)),
  ([0, 0, 3], [.sym 10, .lit (.int .i64 1)], .sym 64),
  ([0, 16, 3], [.sym 64, .lit (.int .i64 0)], .lit (.bool true)),
  ([0, 14, 3], [.sym 64, .sym 26], .lit (.bool true)),
  ([0, 2, 3], [.lit (.int .i64 2), .sym 64], .sym 65),
  ([0, 1, 3], [.sym 8, .sym 65], .sym 66),
  ([0, 1, 3], [.sym 66, .lit (.int .i64 2)], .sym 67),
  ([0, 12, 31], [.sym 74, .lit (.int .i64 0)], .lit (.bool true)),
  ([0, 16, 3], [.sym 40, .lit (.int .i64 0)], .lit (.bool true)),
  ([0, 14, 3], [.sym 41, .lit (.int .i64 0)], .lit (.bool true)),
  ([0, 16, 3], [.sym 56, .lit (.int .i64 0)], .lit (.bool true)),
  ([0, 14, 3], [.sym 57, .lit (.int .i64 0)], .lit (.bool true)),
  ([0, 14, 3], [.sym 40, .lit (.int .i64 0)], .lit (.bool false)),
  ([0, 16, 3], [.sym 41, .lit (.int .i64 0)], .lit (.bool false)),
  ([0, 14, 3], [.sym 56, .lit (.int .i64 0)], .lit (.bool false)),
  ([0, 16, 3], [.sym 57, .lit (.int .i64 0)], .lit (.bool false)),
  ([0, 11, 31], [.sym 24, .lit (.int .i64 0)], .lit (.bool b28)),
  ([0, 12, 3], [.sym 22, .sym 9], .lit (.bool (!b29))),
  ([0, 12, 3], [.sym 23, .sym 10], .lit (.bool (!b30))),
  ([0, 11, 31], [.sym 24, .lit (.int .i64 241)], .lit (.bool false)),
  ([0, 16, 3], [.sym 11, .lit (.int .i64 0)], .lit (.bool true)),
  ([0, 14, 3], [.sym 11, .sym 25], .lit (.bool true)),
  ([0, 16, 3], [.sym 12, .lit (.int .i64 0)], .lit (.bool true)),
  ([0, 14, 3], [.sym 12, .sym 26], .lit (.bool true)),
  ([0, 2, 3], [.lit (.int .i64 2), .sym 11], .sym 75),
  ([0, 1, 3], [.sym 75, .sym 7], .sym 76),
  ([0, 2, 3], [.lit (.int .i64 2), .sym 12], .sym 84),
  ([0, 1, 3], [.sym 8, .sym 84], .sym 85),
  ([0, 1, 3], [.sym 85, .lit (.int .i64 2)], .sym 86),
  ([0, 12, 31], [.sym 83, .lit (.int .i64 0)], .lit (.bool false)),
  ([0, 12, 31], [.sym 93, .lit (.int .i64 0)], .lit (.bool false)),
  ([0, 11, 3], [.sym 11, .sym 9], .lit (.bool true)),
  ([0, 11, 3], [.sym 12, .sym 10], .lit (.bool true))],
  [(8, [], .lit (.bool true)),
  (19, [.agg [.sym 0, .sym 1, .sym 2, .sym 3, .sym 4, .sym 5]], .lit (.int .i64 0)),
  (39, [.lit (.int .i64 2), .sym 6], .agg [.sym 19, .sym 20, .sym 21]),
  (6, [.agg [.sym 0, .sym 1, .sym 2, .sym 3, .sym 4, .sym 5, .sym 6, .sym 7, .sym 8], .agg [.sym 13, .sym 14, .sym 15, .sym 16, .sym 17, .sym 18]], .tup [.sym 22, .sym 23, .sym 24]),
  (39, [.sym 28, .sym 6], .agg [.sym 29, .sym 30, .sym 31]),
  (38, [.agg [.sym 0, .sym 1, .sym 2], .agg [.sym 29, .sym 30, .sym 31]], .tup [.agg [.sym 32, .sym 33, .sym 34], .sym 35]),
  (38, [.agg [.sym 32, .sym 33, .sym 34], .agg [.sym 19, .sym 20, .sym 21]], .tup [.agg [.sym 36, .sym 37, .sym 38], .sym 39]),
  (14, [.agg [.sym 13, .sym 14, .sym 15], .agg [.sym 32, .sym 33, .sym 34]], .tup [.sym 40, .lit (.int .i64 0)]),
  (14, [.agg [.sym 13, .sym 14, .sym 15], .agg [.sym 36, .sym 37, .sym 38]], .tup [.sym 41, .lit (.int .i64 0)]),
  (39, [.sym 44, .sym 6], .agg [.sym 45, .sym 46, .sym 47]),
  (38, [.agg [.sym 3, .sym 4, .sym 5], .agg [.sym 45, .sym 46, .sym 47]], .tup [.agg [.sym 48, .sym 49, .sym 50], .sym 51]),
  (32, [.agg [.sym 32, .sym 33, .sym 34, .sym 48, .sym 49, .sym 50, .sym 6]], .lit (.int .i64 0)),
  (38, [.agg [.sym 48, .sym 49, .sym 50], .agg [.sym 19, .sym 20, .sym 21]], .tup [.agg [.sym 52, .sym 53, .sym 54], .sym 55]),
  (13, [.agg [.sym 32, .sym 33, .sym 34, .sym 48, .sym 49, .sym 50, .sym 6], .agg [.sym 13, .sym 14, .sym 15, .sym 16, .sym 17, .sym 18]], .lit (.tuple #[.bool true, .int .i64 0])),
  (14, [.agg [.sym 16, .sym 17, .sym 18], .agg [.sym 48, .sym 49, .sym 50]], .tup [.sym 56, .lit (.int .i64 0)]),
  (14, [.agg [.sym 16, .sym 17, .sym 18], .agg [.sym 52, .sym 53, .sym 54]], .tup [.sym 57, .lit (.int .i64 0)]),
  (39, [.sym 60, .sym 6], .agg [.sym 61, .sym 62, .sym 63]),
  (38, [.agg [.sym 0, .sym 1, .sym 2], .agg [.sym 61, .sym 62, .sym 63]], .tup [.agg [.sym 36, .sym 37, .sym 38], .sym 39]),
  (39, [.sym 67, .sym 6], .agg [.sym 68, .sym 69, .sym 70]),
  (38, [.agg [.sym 3, .sym 4, .sym 5], .agg [.sym 68, .sym 69, .sym 70]], .tup [.agg [.sym 71, .sym 72, .sym 73], .sym 74]),
  (39, [.sym 76, .sym 6], .agg [.sym 77, .sym 78, .sym 79]),
  (38, [.agg [.sym 0, .sym 1, .sym 2], .agg [.sym 77, .sym 78, .sym 79]], .tup [.agg [.sym 80, .sym 81, .sym 82], .sym 83]),
  (39, [.sym 86, .sym 6], .agg [.sym 87, .sym 88, .sym 89]),
  (38, [.agg [.sym 3, .sym 4, .sym 5], .agg [.sym 87, .sym 88, .sym 89]], .tup [.agg [.sym 90, .sym 91, .sym 92], .sym 93])]⟩
theorem VEdges_eSs_r1 : @comes (VEdges_eSs_k true true true true) Tryz.prog glT 3000 VEdges_eSs_f VEdges_eSs_a = some (.lit (.bool true)) := by kernel_rfl
theorem VEdges_eSs_r2 (b29 b30 : Bool) : @comes (VEdges_eSs_k true false b29 b30) Tryz.prog glT 3000 VEdges_eSs_f VEdges_eSs_a = some (.lit (.bool true)) := by kernel_rfl
theorem VEdges_eSs_r3 : @comes (VEdges_eSs_k false true true true) Tryz.prog glT 3000 VEdges_eSs_f VEdges_eSs_a = some (.lit (.bool true)) := by kernel_rfl
theorem VEdges_eSs_r4 (b29 b30 : Bool) : @comes (VEdges_eSs_k false false b29 b30) Tryz.prog glT 3000 VEdges_eSs_f VEdges_eSs_a = some (.lit (.bool true)) := by kernel_rfl
set_option maxRecDepth 100000 in
set_option maxHeartbeats 4000000 in
theorem VEdges_eSs (p q : Dy) (y a b c r s t : Int) (g : Gs) (m n k : Int) (w : World) (hp : p.Ok) (hq : q.Ok) (hy : -4096 ≤ y ∧ y ≤ 4096) (ha : 1 ≤ a ∧ a ≤ 65536) (hb : 1 ≤ b ∧ b ≤ 65536) (hg : g.Ok) (c1 : 0 ≤ c) (c2 : c ≤ a - 1) (r1 : 0 ≤ r) (r2 : r ≤ b - 1) (hxx : addE p (hz ((2 * c) - a) (y - 1)) = 0) (hyy : addE q (hz ((b - (2 * r)) - 2) (y - 1)) = 0) (huu : addE (addD p (hz ((2 * c) - a) (y - 1))) (hz 2 (y - 1)) = 0) (hvv : addE (addD q (hz ((b - (2 * r)) - 2) (y - 1))) (hz 2 (y - 1)) = 0) (hr : r + 2 ≤ b) (hu : ¬ addE q (hz ((b - (2 * (r + 1))) - 2) (y - 1)) = 0) (HH : ∀ w, Globs glT w → Calls Tryz.prog 13 #[.agg #[.bool (addD p (hz ((2 * c) - a) (y - 1))).g, .string (natS (addD p (hz ((2 * c) - a) (y - 1))).n), .int .i64 (addD p (hz ((2 * c) - a) (y - 1))).x, .bool (addD q (hz ((b - (2 * r)) - 2) (y - 1))).g, .string (natS (addD q (hz ((b - (2 * r)) - 2) (y - 1))).n), .int .i64 (addD q (hz ((b - (2 * r)) - 2) (y - 1))).x, .int .i64 y], .agg #[.bool g.re.g, .string (natS g.re.n), .int .i64 g.re.x, .bool g.im.g, .string (natS g.im.n), .int .i64 g.im.x]] w fun e w' => e = .returned (.tuple #[.bool true, .int .i64 0]) ∧ Below w.heap.size w w') (cca : cmpD g.re (addD p (hz ((2 * c) - a) (y - 1))) ≥ 0) (ccb : cmpD g.re (addD (addD p (hz ((2 * c) - a) (y - 1))) (hz 2 (y - 1))) ≤ 0) (ccc : cmpD g.im (addD q (hz ((b - (2 * r)) - 2) (y - 1))) ≥ 0) (ccd : cmpD g.im (addD (addD q (hz ((b - (2 * r)) - 2) (y - 1))) (hz 2 (y - 1))) ≤ 0) (ssa : ¬ cmpD g.re (addD p (hz ((2 * c) - a) (y - 1))) ≤ 0) (ssb : ¬ cmpD g.re (addD (addD p (hz ((2 * c) - a) (y - 1))) (hz 2 (y - 1))) ≥ 0) (ssc : ¬ cmpD g.im (addD q (hz ((b - (2 * r)) - 2) (y - 1))) ≤ 0) (ssd : ¬ cmpD g.im (addD (addD q (hz ((b - (2 * r)) - 2) (y - 1))) (hz 2 (y - 1))) ≥ 0) (HF : ∀ w, Globs glT w → Calls Tryz.prog 6 #[.agg #[.bool p.g, .string (natS p.n), .int .i64 p.x, .bool q.g, .string (natS q.n), .int .i64 q.x, .int .i64 y, .int .i64 a, .int .i64 b], .agg #[.bool g.re.g, .string (natS g.re.n), .int .i64 g.re.x, .bool g.im.g, .string (natS g.im.n), .int .i64 g.im.x]] w fun e w' => e = .returned (.tuple #[.int .i64 m, .int .i64 n, .int .i64 k]) ∧ Below w.heap.size w w') (f1 : k = 0 → m = c) (f2 : k = 0 → n = r) (f3 : ¬ k = 241) (s1 : 0 ≤ s) (s2 : s ≤ a - 1) (t1 : 0 ≤ t) (t2 : t ≤ b - 1) (hxo : addE p (hz ((2 * s) - a) (y - 1)) = 0) (hyo : addE q (hz ((b - (2 * t)) - 2) (y - 1)) = 0) (q1 : s = c) (q2 : t = r) (hG : Globs glT w) : Calls Tryz.prog 4 #[.agg #[.bool p.g, .string (natS p.n), .int .i64 p.x, .bool q.g, .string (natS q.n), .int .i64 q.x, .int .i64 y, .int .i64 a, .int .i64 b], .int .i64 c, .int .i64 r, .int .i64 s, .int .i64 t, .agg #[.bool g.re.g, .string (natS g.re.n), .int .i64 g.re.x, .bool g.im.g, .string (natS g.im.n), .int .i64 g.im.x]] w fun e w' => e = .returned (.bool true) ∧ Below w.heap.size w w' := by
  have h1 : y ≥ -4096 := ( by omega)
  have i1 := vet h1
  have h2 : y ≤ 4096 := ( by omega)
  have i2 := vet h2
  have h3 : a ≥ 1 := ( by omega)
  have i3 := vet h3
  have h4 : a ≤ 65536 := ( by omega)
  have i4 := vet h4
  have h5 : b ≥ 1 := ( by omega)
  have i5 := vet h5
  have h6 : b ≤ 65536 := ( by omega)
  have i6 := vet h6
  have h7 : c ≥ 0 := ( by omega)
  have i7 := vet h7
  have h8 : c ≤ a - 1 := ( by omega)
  have i8 := vet h8
  have h9 : r ≥ 0 := ( by omega)
  have i9 := vet h9
  have h10 : r ≤ b - 1 := ( by omega)
  have i10 := vet h10
  have h11 := hxx
  have i11 := vet h11
  have h12 := hyy
  have i12 := vet h12
  have h13 := huu
  have i13 := vet h13
  have h14 := hvv
  have i14 := vet h14
  have h15 : c + 1 ≥ 0 := ( by omega)
  have i15 := vet h15
  obtain ⟨b16, i16⟩ := bex (c + 1 ≤ a - 1)
  have h17 : r + 1 ≥ 0 := ( by omega)
  have i17 := vet h17
  have h18 : r + 1 ≤ b - 1 := ( by omega)
  have i18 := vet h18
  have h19 := hu
  have i19 := vef h19
  have h20 := cca
  have i20 := vet h20
  have h21 := ccb
  have i21 := vet h21
  have h22 := ccc
  have i22 := vet h22
  have h23 := ccd
  have i23 := vet h23
  have h24 := ssa
  have i24 := vef h24
  have h25 := ssb
  have i25 := vef h25
  have h26 := ssc
  have i26 := vef h26
  have h27 := ssd
  have i27 := vef h27
  obtain ⟨b28, i28⟩ := bex (k = 0)
  obtain ⟨b29, i29⟩ := bex (m = c)
  obtain ⟨b30, i30⟩ := bex (n = r)
  have h31 := f3
  have i31 := vef h31
  have h32 : s ≥ 0 := ( by omega)
  have i32 := vet h32
  have h33 : s ≤ a - 1 := ( by omega)
  have i33 := vet h33
  have h34 : t ≥ 0 := ( by omega)
  have i34 := vet h34
  have h35 : t ≤ b - 1 := ( by omega)
  have i35 := vet h35
  have h36 := hxo
  have i36 := vet h36
  have h37 := hyo
  have i37 := vet h37
  have h38 := q1
  have i38 := vet h38
  have h39 := q2
  have i39 := vet h39
  letI : Env := mkEnv glT [.bool p.g, .string (natS p.n), .int .i64 p.x, .bool q.g, .string (natS q.n), .int .i64 q.x, .int .i64 y, .int .i64 a, .int .i64 b, .int .i64 c, .int .i64 r, .int .i64 s, .int .i64 t, .bool g.re.g, .string (natS g.re.n), .int .i64 g.re.x, .bool g.im.g, .string (natS g.im.n), .int .i64 g.im.x, .bool (hz 2 (y - 1)).g, .string (natS (hz 2 (y - 1)).n), .int .i64 (hz 2 (y - 1)).x, .int .i64 m, .int .i64 n, .int .i64 k, .int .i64 (a - 1), .int .i64 (b - 1), .int .i64 (2 * c), .int .i64 ((2 * c) - a), .bool (hz ((2 * c) - a) (y - 1)).g, .string (natS (hz ((2 * c) - a) (y - 1)).n), .int .i64 (hz ((2 * c) - a) (y - 1)).x, .bool (addD p (hz ((2 * c) - a) (y - 1))).g, .string (natS (addD p (hz ((2 * c) - a) (y - 1))).n), .int .i64 (addD p (hz ((2 * c) - a) (y - 1))).x, .int .i64 (addE p (hz ((2 * c) - a) (y - 1))), .bool (addD (addD p (hz ((2 * c) - a) (y - 1))) (hz 2 (y - 1))).g, .string (natS (addD (addD p (hz ((2 * c) - a) (y - 1))) (hz 2 (y - 1))).n), .int .i64 (addD (addD p (hz ((2 * c) - a) (y - 1))) (hz 2 (y - 1))).x, .int .i64 (addE (addD p (hz ((2 * c) - a) (y - 1))) (hz 2 (y - 1))), .int .i64 (cmpD g.re (addD p (hz ((2 * c) - a) (y - 1)))), .int .i64 (cmpD g.re (addD (addD p (hz ((2 * c) - a) (y - 1))) (hz 2 (y - 1)))), .int .i64 (2 * r), .int .i64 (b - (2 * r)), .int .i64 ((b - (2 * r)) - 2), .bool (hz ((b - (2 * r)) - 2) (y - 1)).g, .string (natS (hz ((b - (2 * r)) - 2) (y - 1)).n), .int .i64 (hz ((b - (2 * r)) - 2) (y - 1)).x, .bool (addD q (hz ((b - (2 * r)) - 2) (y - 1))).g, .string (natS (addD q (hz ((b - (2 * r)) - 2) (y - 1))).n), .int .i64 (addD q (hz ((b - (2 * r)) - 2) (y - 1))).x, .int .i64 (addE q (hz ((b - (2 * r)) - 2) (y - 1))), .bool (addD (addD q (hz ((b - (2 * r)) - 2) (y - 1))) (hz 2 (y - 1))).g, .string (natS (addD (addD q (hz ((b - (2 * r)) - 2) (y - 1))) (hz 2 (y - 1))).n), .int .i64 (addD (addD q (hz ((b - (2 * r)) - 2) (y - 1))) (hz 2 (y - 1))).x, .int .i64 (addE (addD q (hz ((b - (2 * r)) - 2) (y - 1))) (hz 2 (y - 1))), .int .i64 (cmpD g.im (addD q (hz ((b - (2 * r)) - 2) (y - 1)))), .int .i64 (cmpD g.im (addD (addD q (hz ((b - (2 * r)) - 2) (y - 1))) (hz 2 (y - 1)))), .int .i64 (c + 1), .int .i64 (2 * (c + 1)), .int .i64 ((2 * (c + 1)) - a), .bool (hz ((2 * (c + 1)) - a) (y - 1)).g, .string (natS (hz ((2 * (c + 1)) - a) (y - 1)).n), .int .i64 (hz ((2 * (c + 1)) - a) (y - 1)).x, .int .i64 (r + 1), .int .i64 (2 * (r + 1)), .int .i64 (b - (2 * (r + 1))), .int .i64 ((b - (2 * (r + 1))) - 2), .bool (hz ((b - (2 * (r + 1))) - 2) (y - 1)).g, .string (natS (hz ((b - (2 * (r + 1))) - 2) (y - 1)).n), .int .i64 (hz ((b - (2 * (r + 1))) - 2) (y - 1)).x, .bool (addD q (hz ((b - (2 * (r + 1))) - 2) (y - 1))).g, .string (natS (addD q (hz ((b - (2 * (r + 1))) - 2) (y - 1))).n), .int .i64 (addD q (hz ((b - (2 * (r + 1))) - 2) (y - 1))).x, .int .i64 (addE q (hz ((b - (2 * (r + 1))) - 2) (y - 1))), .int .i64 (2 * s), .int .i64 ((2 * s) - a), .bool (hz ((2 * s) - a) (y - 1)).g, .string (natS (hz ((2 * s) - a) (y - 1)).n), .int .i64 (hz ((2 * s) - a) (y - 1)).x, .bool (addD p (hz ((2 * s) - a) (y - 1))).g, .string (natS (addD p (hz ((2 * s) - a) (y - 1))).n), .int .i64 (addD p (hz ((2 * s) - a) (y - 1))).x, .int .i64 (addE p (hz ((2 * s) - a) (y - 1))), .int .i64 (2 * t), .int .i64 (b - (2 * t)), .int .i64 ((b - (2 * t)) - 2), .bool (hz ((b - (2 * t)) - 2) (y - 1)).g, .string (natS (hz ((b - (2 * t)) - 2) (y - 1)).n), .int .i64 (hz ((b - (2 * t)) - 2) (y - 1)).x, .bool (addD q (hz ((b - (2 * t)) - 2) (y - 1))).g, .string (natS (addD q (hz ((b - (2 * t)) - 2) (y - 1))).n), .int .i64 (addD q (hz ((b - (2 * t)) - 2) (y - 1))).x, .int .i64 (addE q (hz ((b - (2 * t)) - 2) (y - 1)))] rfl
  have hops : OpsT Tryz.prog (@Know.ops (VEdges_eSs_k b16 b28 b29 b30)) := ⟨opt_geq_i rfl rfl i1,
    opt_leq_i rfl rfl i2,
    opt_geq_i rfl rfl i3,
    opt_leq_i rfl rfl i4,
    opt_geq_i rfl rfl i5,
    opt_leq_i rfl rfl i6,
    vopt_sub rfl rfl rfl rfl (by omega) ⟨by omega, by omega⟩,
    opt_geq_i rfl rfl i7,
    opt_leq_i rfl rfl i8,
    vopt_sub rfl rfl rfl rfl (by omega) ⟨by omega, by omega⟩,
    opt_geq_i rfl rfl i9,
    opt_leq_i rfl rfl i10,
    vopt_mul rfl rfl rfl rfl (by omega) ⟨by omega, by omega⟩,
    vopt_sub rfl rfl rfl rfl (by omega) ⟨by omega, by omega⟩,
    vopt_mul rfl rfl rfl rfl (by omega) ⟨by omega, by omega⟩,
    vopt_sub rfl rfl rfl rfl (by omega) ⟨by omega, by omega⟩,
    vopt_sub rfl rfl rfl rfl (by omega) ⟨by omega, by omega⟩,
    opt_neq_i rfl rfl i11,
    opt_neq_i rfl rfl i12,
    opt_neq_i rfl rfl i13,
    opt_neq_i rfl rfl i14,
    vopt_add rfl rfl rfl rfl (by omega) ⟨by omega, by omega⟩,
    opt_geq_i rfl rfl i15,
    opt_leq_i rfl rfl i16,
    vopt_mul rfl rfl rfl rfl (by omega) ⟨by omega, by omega⟩,
    vopt_sub rfl rfl rfl rfl (by omega) ⟨by omega, by omega⟩,
    optD_neq_f (a := addD (addD p (hz ((2 * c) - a) (y - 1))) (hz 2 (y - 1))) (b := addD (addD p (hz ((2 * c) - a) (y - 1))) (hz 2 (y - 1))) rfl rfl rfl,
    optD_neq_f (a := addD q (hz ((b - (2 * r)) - 2) (y - 1))) (b := addD q (hz ((b - (2 * r)) - 2) (y - 1))) rfl rfl rfl,
    vopt_add rfl rfl rfl rfl (by omega) ⟨by omega, by omega⟩,
    opt_geq_i rfl rfl i17,
    opt_leq_i rfl rfl i18,
    vopt_mul rfl rfl rfl rfl (by omega) ⟨by omega, by omega⟩,
    vopt_sub rfl rfl rfl rfl (by omega) ⟨by omega, by omega⟩,
    vopt_sub rfl rfl rfl rfl (by omega) ⟨by omega, by omega⟩,
    opt_neq_i rfl rfl i19,
    opt_geq_i rfl rfl i20,
    opt_leq_i rfl rfl i21,
    opt_geq_i rfl rfl i22,
    opt_leq_i rfl rfl i23,
    opt_leq_i rfl rfl i24,
    opt_geq_i rfl rfl i25,
    opt_leq_i rfl rfl i26,
    opt_geq_i rfl rfl i27,
    opt_eql_i rfl rfl i28,
    opt_neq_i rfl rfl i29,
    opt_neq_i rfl rfl i30,
    opt_eql_i rfl rfl i31,
    opt_geq_i rfl rfl i32,
    opt_leq_i rfl rfl i33,
    opt_geq_i rfl rfl i34,
    opt_leq_i rfl rfl i35,
    vopt_mul rfl rfl rfl rfl (by omega) ⟨by omega, by omega⟩,
    vopt_sub rfl rfl rfl rfl (by omega) ⟨by omega, by omega⟩,
    vopt_mul rfl rfl rfl rfl (by omega) ⟨by omega, by omega⟩,
    vopt_sub rfl rfl rfl rfl (by omega) ⟨by omega, by omega⟩,
    vopt_sub rfl rfl rfl rfl (by omega) ⟨by omega, by omega⟩,
    opt_neq_i rfl rfl i36,
    opt_neq_i rfl rfl i37,
    opt_eql_i rfl rfl i38,
    opt_eql_i rfl rfl i39,
    trivial⟩
  have hcalls : CallsT Tryz.prog (@Know.calls (VEdges_eSs_k b16 b28 b29 b30)) := ⟨callt rfl rfl fun w hG => awake24_c w hG,
    callt rfl rfl fun w hG => GCheck_gs ⟨p, q⟩ ⟨hp, hq⟩ w hG,
    callt rfl rfl fun w hG => halves_z 2 y w ⟨by omega, by omega⟩ ⟨by omega, by omega⟩ hG,
    callt rfl rfl fun w hG => HF w hG,
    callt rfl rfl fun w hG => halves_z ((2 * c) - a) y w ⟨by omega, by omega⟩ ⟨by omega, by omega⟩ hG,
    callt rfl rfl fun w hG => DAdd_c p (hz ((2 * c) - a) (y - 1)) w hp (hz_Ok _ _) hG,
    callt rfl rfl fun w hG => DAdd_c (addD p (hz ((2 * c) - a) (y - 1))) (hz 2 (y - 1)) w (add_Ok hp (hz_Ok _ _)) (hz_Ok _ _) hG,
    callt rfl rfl fun w hG => DCmp_c g.re (addD p (hz ((2 * c) - a) (y - 1))) w hg.1 (add_Ok hp (hz_Ok _ _)),
    callt rfl rfl fun w hG => DCmp_c g.re (addD (addD p (hz ((2 * c) - a) (y - 1))) (hz 2 (y - 1))) w hg.1 (add_Ok (add_Ok hp (hz_Ok _ _)) (hz_Ok _ _)),
    callt rfl rfl fun w hG => halves_z ((b - (2 * r)) - 2) y w ⟨by omega, by omega⟩ ⟨by omega, by omega⟩ hG,
    callt rfl rfl fun w hG => DAdd_c q (hz ((b - (2 * r)) - 2) (y - 1)) w hq (hz_Ok _ _) hG,
    callt rfl rfl fun w hG => VRight_ok (addD p (hz ((2 * c) - a) (y - 1))) (addD q (hz ((b - (2 * r)) - 2) (y - 1))) y w (add_Ok hp (hz_Ok _ _)) (add_Ok hq (hz_Ok _ _)) ⟨by omega, by omega⟩ hG,
    callt rfl rfl fun w hG => DAdd_c (addD q (hz ((b - (2 * r)) - 2) (y - 1))) (hz 2 (y - 1)) w (add_Ok hq (hz_Ok _ _)) (hz_Ok _ _) hG,
    callt rfl rfl fun w hG => HH w hG,
    callt rfl rfl fun w hG => DCmp_c g.im (addD q (hz ((b - (2 * r)) - 2) (y - 1))) w hg.2 (add_Ok hq (hz_Ok _ _)),
    callt rfl rfl fun w hG => DCmp_c g.im (addD (addD q (hz ((b - (2 * r)) - 2) (y - 1))) (hz 2 (y - 1))) w hg.2 (add_Ok (add_Ok hq (hz_Ok _ _)) (hz_Ok _ _)),
    callt rfl rfl fun w hG => halves_z ((2 * (c + 1)) - a) y w ⟨by omega, by omega⟩ ⟨by omega, by omega⟩ hG,
    callt rfl rfl fun w hG => DAdd_canon hp (hz_Ok _ _) (show addD p (hz ((2 * (c + 1)) - a) (y - 1)) = addD (addD p (hz ((2 * c) - a) (y - 1))) (hz 2 (y - 1)) ∧ addE p (hz ((2 * (c + 1)) - a) (y - 1)) = addE (addD p (hz ((2 * c) - a) (y - 1))) (hz 2 (y - 1)) from add_hz hp ⟨by omega, by omega⟩ ⟨by omega, by omega⟩ ⟨by omega, by omega⟩ (by omega) hxx) w hG,
    callt rfl rfl fun w hG => halves_z ((b - (2 * (r + 1))) - 2) y w ⟨by omega, by omega⟩ ⟨by omega, by omega⟩ hG,
    callt rfl rfl fun w hG => DAdd_c q (hz ((b - (2 * (r + 1))) - 2) (y - 1)) w hq (hz_Ok _ _) hG,
    callt rfl rfl fun w hG => halves_z ((2 * s) - a) y w ⟨by omega, by omega⟩ ⟨by omega, by omega⟩ hG,
    callt rfl rfl fun w hG => DAdd_c p (hz ((2 * s) - a) (y - 1)) w hp (hz_Ok _ _) hG,
    callt rfl rfl fun w hG => halves_z ((b - (2 * t)) - 2) y w ⟨by omega, by omega⟩ ⟨by omega, by omega⟩ hG,
    callt rfl rfl fun w hG => DAdd_c q (hz ((b - (2 * t)) - 2) (y - 1)) w hq (hz_Ok _ _) hG,
    trivial⟩
  have fin : ∀ v, @comes (VEdges_eSs_k b16 b28 b29 b30) Tryz.prog glT 3000 VEdges_eSs_f VEdges_eSs_a = some v → ground v = true → Ending.returned (gval v) = .returned (.bool true) → Calls Tryz.prog 4 #[.agg #[.bool p.g, .string (natS p.n), .int .i64 p.x, .bool q.g, .string (natS q.n), .int .i64 q.x, .int .i64 y, .int .i64 a, .int .i64 b], .int .i64 c, .int .i64 r, .int .i64 s, .int .i64 t, .agg #[.bool g.re.g, .string (natS g.re.n), .int .i64 g.re.x, .bool g.im.g, .string (natS g.im.n), .int .i64 g.im.x]] w fun e w' => e = .returned (.bool true) ∧ Below w.heap.size w w' := fun v h1 h2 h3 => (@sym_ok _ (VEdges_eSs_k b16 b28 b29 b30) _ (@KnowOk.of _ (VEdges_eSs_k b16 b28 b29 b30) _ hops hcalls) (by kernel_rfl) _ _ _ _ h1 rfl h2 _ hG).mono fun e w' h => ⟨h.1.trans h3, h.2⟩
  clear hops hcalls
  cases b16 with
  | true =>
    have h16 := i16.1 rfl
    cases b28 with
    | true =>
      have h28 := i28.1 rfl
      cases b29 with
      | true =>
        have h29 := i29.1 rfl
        cases b30 with
        | true =>
          have h30 := i30.1 rfl
          exact fin _ (VEdges_eSs_r1) rfl rfl
        | false =>
          exact absurd (i30.2 (f2 h28)) Bool.false_ne_true
      | false =>
        exact absurd (i29.2 (f1 h28)) Bool.false_ne_true
    | false =>
      have h28 : ¬ (k = 0) := fun c => Bool.false_ne_true (i28.2 c)
      exact fin _ (VEdges_eSs_r2 b29 b30) rfl rfl
  | false =>
    have h16 : ¬ (c + 1 ≤ a - 1) := fun c => Bool.false_ne_true (i16.2 c)
    cases b28 with
    | true =>
      have h28 := i28.1 rfl
      cases b29 with
      | true =>
        have h29 := i29.1 rfl
        cases b30 with
        | true =>
          have h30 := i30.1 rfl
          exact fin _ (VEdges_eSs_r3) rfl rfl
        | false =>
          exact absurd (i30.2 (f2 h28)) Bool.false_ne_true
      | false =>
        exact absurd (i29.2 (f1 h28)) Bool.false_ne_true
    | false =>
      have h28 : ¬ (k = 0) := fun c => Bool.false_ne_true (i28.2 c)
      exact fin _ (VEdges_eSs_r4 b29 b30) rfl rfl
end Go.Proofs.YtamcnnocjelcjaaGreatDoor
