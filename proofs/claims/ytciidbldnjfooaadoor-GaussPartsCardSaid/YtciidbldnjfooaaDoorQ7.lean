/- Texts put together: G10 G11. -/
import Derived.Test.YtciidbldnjfooaaDoorQ6
set_option linter.unusedVariables false
set_option linter.unusedSimpArgs false
namespace Go.Proofs.YtciidbldnjfooaaDoor
open Go Go.RowKit Nt


@[reducible] noncomputable def GaussField_ooo_k (b1 b2 b3 b4 b5 b6 b7 b8 b9 b10 b11 b12 b13 b14 : Bool) : Know := ⟨[([0, 12, 26], [.agg [.sym 18, .sym 19, .sym 20, .sym 21, .sym 22, .sym 23], .agg [.sym 25, .sym 26, .sym 27, .sym 28, .sym 29, .sym 30]], .lit (.bool (!b4))),
  ([0, 12, 27], [.sym 24, .sym 31], .lit (.bool (!b5))),
  ([0, 12, 26], [.agg [.sym 32, .sym 33, .sym 34, .sym 35, .sym 36, .sym 37], .agg [.sym 39, .sym 40, .sym 41, .sym 42, .sym 43, .sym 44]], .lit (.bool (!b6))),
  ([0, 12, 27], [.sym 38, .sym 45], .lit (.bool (!b7))),
  ([0, 12, 26], [.agg [.sym 46, .sym 47, .sym 48, .sym 49, .sym 50, .sym 51], .agg [.sym 60, .sym 61, .sym 62, .sym 63, .sym 64, .sym 65]], .lit (.bool (!b8))),
  ([0, 12, 26], [.agg [.sym 67, .sym 68, .sym 69, .sym 70, .sym 71, .sym 72], .agg [.sym 81, .sym 82, .sym 83, .sym 84, .sym 85, .sym 86]], .lit (.bool (!b9))),
  ([0, 11, 27], [.sym 94, .lit (.int .i64 0)], .lit (.bool b10)),
  ([0, 12, 26], [.agg [.sym 95, .sym 96, .sym 97, .sym 98, .sym 99, .sym 100], .agg [.sym 88, .sym 89, .sym 90, .sym 91, .sym 92, .sym 93]], .lit (.bool (!b11))),
  ([0, 12, 26], [.agg [.sym 101, .sym 102, .sym 103, .sym 104, .sym 105, .sym 106], .agg [.sym 107, .sym 108, .sym 109, .sym 110, .sym 111, .sym 112]], .lit (.bool (!b12))),
  ([0, 12, 26], [.agg [.sym 119, .sym 120, .sym 121, .sym 122, .sym 123, .sym 124], .agg [.sym 0, .sym 1, .sym 2, .sym 3, .sym 4, .sym 5]], .lit (.bool (!b13))),
  ([0, 11, 26], [.agg [.sym 131, .sym 132, .sym 133, .sym 134, .sym 135, .sym 136], .agg [.sym 138, .sym 139, .sym 140, .sym 141, .sym 142, .sym 143]], .lit (.bool b14))],
  [(16, [], .lit (.bool true)),
  (7, [.agg [.sym 0, .sym 1, .sym 2, .sym 3, .sym 4, .sym 5], .agg [.sym 6, .sym 7, .sym 8, .sym 9, .sym 10, .sym 11]], .tup [.agg [.sym 18, .sym 19, .sym 20, .sym 21, .sym 22, .sym 23], .sym 24]),
  (7, [.agg [.sym 6, .sym 7, .sym 8, .sym 9, .sym 10, .sym 11], .agg [.sym 0, .sym 1, .sym 2, .sym 3, .sym 4, .sym 5]], .tup [.agg [.sym 25, .sym 26, .sym 27, .sym 28, .sym 29, .sym 30], .sym 31]),
  (9, [.agg [.sym 0, .sym 1, .sym 2, .sym 3, .sym 4, .sym 5], .agg [.sym 6, .sym 7, .sym 8, .sym 9, .sym 10, .sym 11]], .tup [.agg [.sym 32, .sym 33, .sym 34, .sym 35, .sym 36, .sym 37], .sym 38]),
  (9, [.agg [.sym 6, .sym 7, .sym 8, .sym 9, .sym 10, .sym 11], .agg [.sym 0, .sym 1, .sym 2, .sym 3, .sym 4, .sym 5]], .tup [.agg [.sym 39, .sym 40, .sym 41, .sym 42, .sym 43, .sym 44], .sym 45]),
  (9, [.agg [.sym 32, .sym 33, .sym 34, .sym 35, .sym 36, .sym 37], .agg [.sym 12, .sym 13, .sym 14, .sym 15, .sym 16, .sym 17]], .tup [.agg [.sym 46, .sym 47, .sym 48, .sym 49, .sym 50, .sym 51], .sym 52]),
  (9, [.agg [.sym 6, .sym 7, .sym 8, .sym 9, .sym 10, .sym 11], .agg [.sym 12, .sym 13, .sym 14, .sym 15, .sym 16, .sym 17]], .tup [.agg [.sym 53, .sym 54, .sym 55, .sym 56, .sym 57, .sym 58], .sym 59]),
  (9, [.agg [.sym 0, .sym 1, .sym 2, .sym 3, .sym 4, .sym 5], .agg [.sym 53, .sym 54, .sym 55, .sym 56, .sym 57, .sym 58]], .tup [.agg [.sym 60, .sym 61, .sym 62, .sym 63, .sym 64, .sym 65], .sym 66]),
  (20, [.row 4 0 [.sym 38, .sym 52, .sym 59, .sym 66]], .lit (.bool b1)),
  (9, [.agg [.sym 18, .sym 19, .sym 20, .sym 21, .sym 22, .sym 23], .agg [.sym 12, .sym 13, .sym 14, .sym 15, .sym 16, .sym 17]], .tup [.agg [.sym 67, .sym 68, .sym 69, .sym 70, .sym 71, .sym 72], .sym 73]),
  (9, [.agg [.sym 0, .sym 1, .sym 2, .sym 3, .sym 4, .sym 5], .agg [.sym 12, .sym 13, .sym 14, .sym 15, .sym 16, .sym 17]], .tup [.agg [.sym 74, .sym 75, .sym 76, .sym 77, .sym 78, .sym 79], .sym 80]),
  (7, [.agg [.sym 74, .sym 75, .sym 76, .sym 77, .sym 78, .sym 79], .agg [.sym 53, .sym 54, .sym 55, .sym 56, .sym 57, .sym 58]], .tup [.agg [.sym 81, .sym 82, .sym 83, .sym 84, .sym 85, .sym 86], .sym 87]),
  (20, [.row 5 0 [.sym 24, .sym 73, .sym 59, .sym 80, .sym 87]], .lit (.bool b2)),
  (21, [.agg [.sym 0, .sym 1, .sym 2, .sym 3, .sym 4, .sym 5]], .lit (.int .i64 0)),
  (9, [.agg [.sym 0, .sym 1, .sym 2, .sym 3, .sym 4, .sym 5], .lit (.agg #[.bool false, .string ⟨#[]⟩, .int .i64 0, .bool false, .string ⟨#[1]⟩, .int .i64 0])], .tup [.agg [.sym 88, .sym 89, .sym 90, .sym 91, .sym 92, .sym 93], .sym 94]),
  (22, [.agg [.sym 0, .sym 1, .sym 2, .sym 3, .sym 4, .sym 5]], .agg [.sym 95, .sym 96, .sym 97, .sym 98, .sym 99, .sym 100]),
  (22, [.agg [.sym 95, .sym 96, .sym 97, .sym 98, .sym 99, .sym 100]], .agg [.sym 101, .sym 102, .sym 103, .sym 104, .sym 105, .sym 106]),
  (23, [.agg [.sym 0, .sym 1, .sym 2, .sym 3, .sym 4, .sym 5]], .agg [.sym 107, .sym 108, .sym 109, .sym 110, .sym 111, .sym 112]),
  (24, [.agg [.sym 0, .sym 1, .sym 2, .sym 3, .sym 4, .sym 5]], .agg [.sym 113, .sym 114, .sym 115, .sym 116, .sym 117, .sym 118]),
  (24, [.agg [.sym 113, .sym 114, .sym 115, .sym 116, .sym 117, .sym 118]], .agg [.sym 119, .sym 120, .sym 121, .sym 122, .sym 123, .sym 124]),
  (24, [.agg [.sym 6, .sym 7, .sym 8, .sym 9, .sym 10, .sym 11]], .agg [.sym 125, .sym 126, .sym 127, .sym 128, .sym 129, .sym 130]),
  (9, [.agg [.sym 113, .sym 114, .sym 115, .sym 116, .sym 117, .sym 118], .agg [.sym 125, .sym 126, .sym 127, .sym 128, .sym 129, .sym 130]], .tup [.agg [.sym 131, .sym 132, .sym 133, .sym 134, .sym 135, .sym 136], .sym 137]),
  (20, [.row 2 0 [.sym 38, .sym 137]], .lit (.bool b3)),
  (24, [.agg [.sym 32, .sym 33, .sym 34, .sym 35, .sym 36, .sym 37]], .agg [.sym 138, .sym 139, .sym 140, .sym 141, .sym 142, .sym 143])]⟩
theorem GaussField_ooo_r1 : @comes (GaussField_ooo_k true true true true true true true true true true true true true true) Tryd.prog glT 3000 4 [.agg [.sym 0, .sym 1, .sym 2, .sym 3, .sym 4, .sym 5], .agg [.sym 6, .sym 7, .sym 8, .sym 9, .sym 10, .sym 11], .agg [.sym 12, .sym 13, .sym 14, .sym 15, .sym 16, .sym 17]] = some (.lit (.bool true)) := by kernel_rfl
theorem GaussField_ooo_r2 (b14 : Bool) : @comes (GaussField_ooo_k true true false true true true true true true true true true true b14) Tryd.prog glT 3000 4 [.agg [.sym 0, .sym 1, .sym 2, .sym 3, .sym 4, .sym 5], .agg [.sym 6, .sym 7, .sym 8, .sym 9, .sym 10, .sym 11], .agg [.sym 12, .sym 13, .sym 14, .sym 15, .sym 16, .sym 17]] = some (.lit (.bool true)) := by kernel_rfl
theorem GaussField_ooo_r3 (b11 : Bool) : @comes (GaussField_ooo_k true true true true true true true true true false b11 true true true) Tryd.prog glT 3000 4 [.agg [.sym 0, .sym 1, .sym 2, .sym 3, .sym 4, .sym 5], .agg [.sym 6, .sym 7, .sym 8, .sym 9, .sym 10, .sym 11], .agg [.sym 12, .sym 13, .sym 14, .sym 15, .sym 16, .sym 17]] = some (.lit (.bool true)) := by kernel_rfl
theorem GaussField_ooo_r4 (b11 b14 : Bool) : @comes (GaussField_ooo_k true true false true true true true true true false b11 true true b14) Tryd.prog glT 3000 4 [.agg [.sym 0, .sym 1, .sym 2, .sym 3, .sym 4, .sym 5], .agg [.sym 6, .sym 7, .sym 8, .sym 9, .sym 10, .sym 11], .agg [.sym 12, .sym 13, .sym 14, .sym 15, .sym 16, .sym 17]] = some (.lit (.bool true)) := by kernel_rfl
theorem GaussField_ooo_r5 (b9 : Bool) : @comes (GaussField_ooo_k true false true true true true true true b9 true true true true true) Tryd.prog glT 3000 4 [.agg [.sym 0, .sym 1, .sym 2, .sym 3, .sym 4, .sym 5], .agg [.sym 6, .sym 7, .sym 8, .sym 9, .sym 10, .sym 11], .agg [.sym 12, .sym 13, .sym 14, .sym 15, .sym 16, .sym 17]] = some (.lit (.bool true)) := by kernel_rfl
theorem GaussField_ooo_r6 (b9 b14 : Bool) : @comes (GaussField_ooo_k true false false true true true true true b9 true true true true b14) Tryd.prog glT 3000 4 [.agg [.sym 0, .sym 1, .sym 2, .sym 3, .sym 4, .sym 5], .agg [.sym 6, .sym 7, .sym 8, .sym 9, .sym 10, .sym 11], .agg [.sym 12, .sym 13, .sym 14, .sym 15, .sym 16, .sym 17]] = some (.lit (.bool true)) := by kernel_rfl
theorem GaussField_ooo_r7 (b9 b11 : Bool) : @comes (GaussField_ooo_k true false true true true true true true b9 false b11 true true true) Tryd.prog glT 3000 4 [.agg [.sym 0, .sym 1, .sym 2, .sym 3, .sym 4, .sym 5], .agg [.sym 6, .sym 7, .sym 8, .sym 9, .sym 10, .sym 11], .agg [.sym 12, .sym 13, .sym 14, .sym 15, .sym 16, .sym 17]] = some (.lit (.bool true)) := by kernel_rfl
theorem GaussField_ooo_r8 (b9 b11 b14 : Bool) : @comes (GaussField_ooo_k true false false true true true true true b9 false b11 true true b14) Tryd.prog glT 3000 4 [.agg [.sym 0, .sym 1, .sym 2, .sym 3, .sym 4, .sym 5], .agg [.sym 6, .sym 7, .sym 8, .sym 9, .sym 10, .sym 11], .agg [.sym 12, .sym 13, .sym 14, .sym 15, .sym 16, .sym 17]] = some (.lit (.bool true)) := by kernel_rfl
theorem GaussField_ooo_r9 (b8 : Bool) : @comes (GaussField_ooo_k false true true true true true true b8 true true true true true true) Tryd.prog glT 3000 4 [.agg [.sym 0, .sym 1, .sym 2, .sym 3, .sym 4, .sym 5], .agg [.sym 6, .sym 7, .sym 8, .sym 9, .sym 10, .sym 11], .agg [.sym 12, .sym 13, .sym 14, .sym 15, .sym 16, .sym 17]] = some (.lit (.bool true)) := by kernel_rfl
theorem GaussField_ooo_r10 (b8 b14 : Bool) : @comes (GaussField_ooo_k false true false true true true true b8 true true true true true b14) Tryd.prog glT 3000 4 [.agg [.sym 0, .sym 1, .sym 2, .sym 3, .sym 4, .sym 5], .agg [.sym 6, .sym 7, .sym 8, .sym 9, .sym 10, .sym 11], .agg [.sym 12, .sym 13, .sym 14, .sym 15, .sym 16, .sym 17]] = some (.lit (.bool true)) := by kernel_rfl
theorem GaussField_ooo_r11 (b8 b11 : Bool) : @comes (GaussField_ooo_k false true true true true true true b8 true false b11 true true true) Tryd.prog glT 3000 4 [.agg [.sym 0, .sym 1, .sym 2, .sym 3, .sym 4, .sym 5], .agg [.sym 6, .sym 7, .sym 8, .sym 9, .sym 10, .sym 11], .agg [.sym 12, .sym 13, .sym 14, .sym 15, .sym 16, .sym 17]] = some (.lit (.bool true)) := by kernel_rfl
theorem GaussField_ooo_r12 (b8 b11 b14 : Bool) : @comes (GaussField_ooo_k false true false true true true true b8 true false b11 true true b14) Tryd.prog glT 3000 4 [.agg [.sym 0, .sym 1, .sym 2, .sym 3, .sym 4, .sym 5], .agg [.sym 6, .sym 7, .sym 8, .sym 9, .sym 10, .sym 11], .agg [.sym 12, .sym 13, .sym 14, .sym 15, .sym 16, .sym 17]] = some (.lit (.bool true)) := by kernel_rfl
theorem GaussField_ooo_r13 (b8 b9 : Bool) : @comes (GaussField_ooo_k false false true true true true true b8 b9 true true true true true) Tryd.prog glT 3000 4 [.agg [.sym 0, .sym 1, .sym 2, .sym 3, .sym 4, .sym 5], .agg [.sym 6, .sym 7, .sym 8, .sym 9, .sym 10, .sym 11], .agg [.sym 12, .sym 13, .sym 14, .sym 15, .sym 16, .sym 17]] = some (.lit (.bool true)) := by kernel_rfl
theorem GaussField_ooo_r14 (b8 b9 b14 : Bool) : @comes (GaussField_ooo_k false false false true true true true b8 b9 true true true true b14) Tryd.prog glT 3000 4 [.agg [.sym 0, .sym 1, .sym 2, .sym 3, .sym 4, .sym 5], .agg [.sym 6, .sym 7, .sym 8, .sym 9, .sym 10, .sym 11], .agg [.sym 12, .sym 13, .sym 14, .sym 15, .sym 16, .sym 17]] = some (.lit (.bool true)) := by kernel_rfl
theorem GaussField_ooo_r15 (b8 b9 b11 : Bool) : @comes (GaussField_ooo_k false false true true true true true b8 b9 false b11 true true true) Tryd.prog glT 3000 4 [.agg [.sym 0, .sym 1, .sym 2, .sym 3, .sym 4, .sym 5], .agg [.sym 6, .sym 7, .sym 8, .sym 9, .sym 10, .sym 11], .agg [.sym 12, .sym 13, .sym 14, .sym 15, .sym 16, .sym 17]] = some (.lit (.bool true)) := by kernel_rfl
theorem GaussField_ooo_r16 (b8 b9 b11 b14 : Bool) : @comes (GaussField_ooo_k false false false true true true true b8 b9 false b11 true true b14) Tryd.prog glT 3000 4 [.agg [.sym 0, .sym 1, .sym 2, .sym 3, .sym 4, .sym 5], .agg [.sym 6, .sym 7, .sym 8, .sym 9, .sym 10, .sym 11], .agg [.sym 12, .sym 13, .sym 14, .sym 15, .sym 16, .sym 17]] = some (.lit (.bool true)) := by kernel_rfl
set_option maxRecDepth 100000 in
theorem GaussField_ooo (a : Gs) (b : Gs) (c : Gs) (w : World) (oa : a.Ok) (ob : b.Ok) (oc : c.Ok) (hG : Globs glT w) : Calls Tryd.prog 4 #[.agg #[.bool a.re.g, .string (natS a.re.n), .int .i64 a.re.x, .bool a.im.g, .string (natS a.im.n), .int .i64 a.im.x], .agg #[.bool b.re.g, .string (natS b.re.n), .int .i64 b.re.x, .bool b.im.g, .string (natS b.im.n), .int .i64 b.im.x], .agg #[.bool c.re.g, .string (natS c.re.n), .int .i64 c.re.x, .bool c.im.g, .string (natS c.im.n), .int .i64 c.im.x]] w fun e w' => e = .returned (.bool true) ∧ Below w.heap.size w w' := by
  obtain ⟨b1, i1⟩ := bex (allB [gmulE a b, gmulE (gmulD a b) c, gmulE b c, gmulE a (gmulD b c)] = true)
  obtain ⟨b2, i2⟩ := bex (allB [gaddE a b, gmulE (gaddD a b) c, gmulE b c, gmulE a c, gaddE (gmulD a c) (gmulD b c)] = true)
  obtain ⟨b3, i3⟩ := bex (allB [gmulE a b, gmulE (conjG a) (conjG b)] = true)
  obtain ⟨b4, i4⟩ := bex (gaddD a b = gaddD b a)
  obtain ⟨b5, i5⟩ := bex (gaddE a b = gaddE b a)
  obtain ⟨b6, i6⟩ := bex (gmulD a b = gmulD b a)
  obtain ⟨b7, i7⟩ := bex (gmulE a b = gmulE b a)
  obtain ⟨b8, i8⟩ := bex (gmulD (gmulD a b) c = gmulD a (gmulD b c))
  obtain ⟨b9, i9⟩ := bex (gmulD (gaddD a b) c = gaddD (gmulD a c) (gmulD b c))
  obtain ⟨b10, i10⟩ := bex (gmulE a Gs.i = 0)
  obtain ⟨b11, i11⟩ := bex (turnG a = gmulD a Gs.i)
  obtain ⟨b12, i12⟩ := bex (turnG (turnG a) = neG a)
  obtain ⟨b13, i13⟩ := bex (conjG (conjG a) = a)
  obtain ⟨b14, i14⟩ := bex (gmulD (conjG a) (conjG b) = conjG (gmulD a b))
  letI : Env := mkEnv glT [.bool a.re.g, .string (natS a.re.n), .int .i64 a.re.x, .bool a.im.g, .string (natS a.im.n), .int .i64 a.im.x, .bool b.re.g, .string (natS b.re.n), .int .i64 b.re.x, .bool b.im.g, .string (natS b.im.n), .int .i64 b.im.x, .bool c.re.g, .string (natS c.re.n), .int .i64 c.re.x, .bool c.im.g, .string (natS c.im.n), .int .i64 c.im.x, .bool ((gaddD a b).re).g, .string (natS ((gaddD a b).re).n), .int .i64 ((gaddD a b).re).x, .bool ((gaddD a b).im).g, .string (natS ((gaddD a b).im).n), .int .i64 ((gaddD a b).im).x, .int .i64 (gaddE a b), .bool ((gaddD b a).re).g, .string (natS ((gaddD b a).re).n), .int .i64 ((gaddD b a).re).x, .bool ((gaddD b a).im).g, .string (natS ((gaddD b a).im).n), .int .i64 ((gaddD b a).im).x, .int .i64 (gaddE b a), .bool ((gmulD a b).re).g, .string (natS ((gmulD a b).re).n), .int .i64 ((gmulD a b).re).x, .bool ((gmulD a b).im).g, .string (natS ((gmulD a b).im).n), .int .i64 ((gmulD a b).im).x, .int .i64 (gmulE a b), .bool ((gmulD b a).re).g, .string (natS ((gmulD b a).re).n), .int .i64 ((gmulD b a).re).x, .bool ((gmulD b a).im).g, .string (natS ((gmulD b a).im).n), .int .i64 ((gmulD b a).im).x, .int .i64 (gmulE b a), .bool ((gmulD (gmulD a b) c).re).g, .string (natS ((gmulD (gmulD a b) c).re).n), .int .i64 ((gmulD (gmulD a b) c).re).x, .bool ((gmulD (gmulD a b) c).im).g, .string (natS ((gmulD (gmulD a b) c).im).n), .int .i64 ((gmulD (gmulD a b) c).im).x, .int .i64 (gmulE (gmulD a b) c), .bool ((gmulD b c).re).g, .string (natS ((gmulD b c).re).n), .int .i64 ((gmulD b c).re).x, .bool ((gmulD b c).im).g, .string (natS ((gmulD b c).im).n), .int .i64 ((gmulD b c).im).x, .int .i64 (gmulE b c), .bool ((gmulD a (gmulD b c)).re).g, .string (natS ((gmulD a (gmulD b c)).re).n), .int .i64 ((gmulD a (gmulD b c)).re).x, .bool ((gmulD a (gmulD b c)).im).g, .string (natS ((gmulD a (gmulD b c)).im).n), .int .i64 ((gmulD a (gmulD b c)).im).x, .int .i64 (gmulE a (gmulD b c)), .bool ((gmulD (gaddD a b) c).re).g, .string (natS ((gmulD (gaddD a b) c).re).n), .int .i64 ((gmulD (gaddD a b) c).re).x, .bool ((gmulD (gaddD a b) c).im).g, .string (natS ((gmulD (gaddD a b) c).im).n), .int .i64 ((gmulD (gaddD a b) c).im).x, .int .i64 (gmulE (gaddD a b) c), .bool ((gmulD a c).re).g, .string (natS ((gmulD a c).re).n), .int .i64 ((gmulD a c).re).x, .bool ((gmulD a c).im).g, .string (natS ((gmulD a c).im).n), .int .i64 ((gmulD a c).im).x, .int .i64 (gmulE a c), .bool ((gaddD (gmulD a c) (gmulD b c)).re).g, .string (natS ((gaddD (gmulD a c) (gmulD b c)).re).n), .int .i64 ((gaddD (gmulD a c) (gmulD b c)).re).x, .bool ((gaddD (gmulD a c) (gmulD b c)).im).g, .string (natS ((gaddD (gmulD a c) (gmulD b c)).im).n), .int .i64 ((gaddD (gmulD a c) (gmulD b c)).im).x, .int .i64 (gaddE (gmulD a c) (gmulD b c)), .bool ((gmulD a Gs.i).re).g, .string (natS ((gmulD a Gs.i).re).n), .int .i64 ((gmulD a Gs.i).re).x, .bool ((gmulD a Gs.i).im).g, .string (natS ((gmulD a Gs.i).im).n), .int .i64 ((gmulD a Gs.i).im).x, .int .i64 (gmulE a Gs.i), .bool ((turnG a).re).g, .string (natS ((turnG a).re).n), .int .i64 ((turnG a).re).x, .bool ((turnG a).im).g, .string (natS ((turnG a).im).n), .int .i64 ((turnG a).im).x, .bool ((turnG (turnG a)).re).g, .string (natS ((turnG (turnG a)).re).n), .int .i64 ((turnG (turnG a)).re).x, .bool ((turnG (turnG a)).im).g, .string (natS ((turnG (turnG a)).im).n), .int .i64 ((turnG (turnG a)).im).x, .bool ((neG a).re).g, .string (natS ((neG a).re).n), .int .i64 ((neG a).re).x, .bool ((neG a).im).g, .string (natS ((neG a).im).n), .int .i64 ((neG a).im).x, .bool ((conjG a).re).g, .string (natS ((conjG a).re).n), .int .i64 ((conjG a).re).x, .bool ((conjG a).im).g, .string (natS ((conjG a).im).n), .int .i64 ((conjG a).im).x, .bool ((conjG (conjG a)).re).g, .string (natS ((conjG (conjG a)).re).n), .int .i64 ((conjG (conjG a)).re).x, .bool ((conjG (conjG a)).im).g, .string (natS ((conjG (conjG a)).im).n), .int .i64 ((conjG (conjG a)).im).x, .bool ((conjG b).re).g, .string (natS ((conjG b).re).n), .int .i64 ((conjG b).re).x, .bool ((conjG b).im).g, .string (natS ((conjG b).im).n), .int .i64 ((conjG b).im).x, .bool ((gmulD (conjG a) (conjG b)).re).g, .string (natS ((gmulD (conjG a) (conjG b)).re).n), .int .i64 ((gmulD (conjG a) (conjG b)).re).x, .bool ((gmulD (conjG a) (conjG b)).im).g, .string (natS ((gmulD (conjG a) (conjG b)).im).n), .int .i64 ((gmulD (conjG a) (conjG b)).im).x, .int .i64 (gmulE (conjG a) (conjG b)), .bool ((conjG (gmulD a b)).re).g, .string (natS ((conjG (gmulD a b)).re).n), .int .i64 ((conjG (gmulD a b)).re).x, .bool ((conjG (gmulD a b)).im).g, .string (natS ((conjG (gmulD a b)).im).n), .int .i64 ((conjG (gmulD a b)).im).x] rfl
  have hops : OpsT Tryd.prog (@Know.ops (GaussField_ooo_k b1 b2 b3 b4 b5 b6 b7 b8 b9 b10 b11 b12 b13 b14)) := ⟨optG_neq_i (a := gaddD a b) (b := gaddD b a) rfl rfl i4,
    opt_neq_i rfl rfl i5,
    optG_neq_i (a := gmulD a b) (b := gmulD b a) rfl rfl i6,
    opt_neq_i rfl rfl i7,
    optG_neq_i (a := gmulD (gmulD a b) c) (b := gmulD a (gmulD b c)) rfl rfl i8,
    optG_neq_i (a := gmulD (gaddD a b) c) (b := gaddD (gmulD a c) (gmulD b c)) rfl rfl i9,
    opt_eql_i rfl rfl i10,
    optG_neq_i (a := turnG a) (b := gmulD a Gs.i) rfl rfl i11,
    optG_neq_i (a := turnG (turnG a)) (b := neG a) rfl rfl i12,
    optG_neq_i (a := conjG (conjG a)) (b := a) rfl rfl i13,
    optG_eql_i (a := gmulD (conjG a) (conjG b)) (b := conjG (gmulD a b)) rfl rfl i14,
    trivial⟩
  have hcalls : CallsT Tryd.prog (@Know.calls (GaussField_ooo_k b1 b2 b3 b4 b5 b6 b7 b8 b9 b10 b11 b12 b13 b14)) := ⟨callt rfl rfl fun w hG => awake6_c w hG,
    callt rfl rfl fun w hG => GAdd_c a b w oa ob hG,
    callt rfl rfl fun w hG => GAdd_c b a w ob oa hG,
    callt rfl rfl fun w hG => GMul_c a b w oa ob hG,
    callt rfl rfl fun w hG => GMul_c b a w ob oa hG,
    callt rfl rfl fun w hG => GMul_c (gmulD a b) c w (gmulD_Ok a b) oc hG,
    callt rfl rfl fun w hG => GMul_c b c w ob oc hG,
    callt rfl rfl fun w hG => GMul_c a (gmulD b c) w oa (gmulD_Ok b c) hG,
    callt_row rfl fun w B0 c0 hG hB hC => lAll06_i B0 c0 [gmulE a b, gmulE (gmulD a b) c, gmulE b c, gmulE a (gmulD b c)] w (by simp) (ers_of hB hC rfl) i1,
    callt rfl rfl fun w hG => GMul_c (gaddD a b) c w (gaddD_Ok oa ob) oc hG,
    callt rfl rfl fun w hG => GMul_c a c w oa oc hG,
    callt rfl rfl fun w hG => GAdd_c (gmulD a c) (gmulD b c) w (gmulD_Ok a c) (gmulD_Ok b c) hG,
    callt_row rfl fun w B0 c0 hG hB hC => lAll06_i B0 c0 [gaddE a b, gmulE (gaddD a b) c, gmulE b c, gmulE a c, gaddE (gmulD a c) (gmulD b c)] w (by simp) (ers_of hB hC rfl) i2,
    callt rfl rfl fun w hG => GCheck_gs a oa w hG,
    callt rfl rfl fun w hG => (by have h := GMul_c a Gs.i w oa Gs.i_Ok hG; rw [natS_ir, natS_ii] at h; exact h),
    callt rfl rfl fun w hG => GTurn_c a w oa hG,
    callt rfl rfl fun w hG => GTurn_c (turnG a) w (turnG_Ok oa) hG,
    callt rfl rfl fun w hG => GNeg_c a w oa hG,
    callt rfl rfl fun w hG => GConj_c a w oa hG,
    callt rfl rfl fun w hG => GConj_c (conjG a) w (conjG_Ok oa) hG,
    callt rfl rfl fun w hG => GConj_c b w ob hG,
    callt rfl rfl fun w hG => GMul_c (conjG a) (conjG b) w (conjG_Ok oa) (conjG_Ok ob) hG,
    callt_row rfl fun w B0 c0 hG hB hC => lAll06_i B0 c0 [gmulE a b, gmulE (conjG a) (conjG b)] w (by simp) (ers_of hB hC rfl) i3,
    callt rfl rfl fun w hG => GConj_c (gmulD a b) w (gmulD_Ok a b) hG,
    trivial⟩
  have fin : ∀ v, @comes (GaussField_ooo_k b1 b2 b3 b4 b5 b6 b7 b8 b9 b10 b11 b12 b13 b14) Tryd.prog glT 3000 4 [.agg [.sym 0, .sym 1, .sym 2, .sym 3, .sym 4, .sym 5], .agg [.sym 6, .sym 7, .sym 8, .sym 9, .sym 10, .sym 11], .agg [.sym 12, .sym 13, .sym 14, .sym 15, .sym 16, .sym 17]] = some v → ground v = true → Ending.returned (gval v) = .returned (.bool true) → Calls Tryd.prog 4 #[.agg #[.bool a.re.g, .string (natS a.re.n), .int .i64 a.re.x, .bool a.im.g, .string (natS a.im.n), .int .i64 a.im.x], .agg #[.bool b.re.g, .string (natS b.re.n), .int .i64 b.re.x, .bool b.im.g, .string (natS b.im.n), .int .i64 b.im.x], .agg #[.bool c.re.g, .string (natS c.re.n), .int .i64 c.re.x, .bool c.im.g, .string (natS c.im.n), .int .i64 c.im.x]] w fun e w' => e = .returned (.bool true) ∧ Below w.heap.size w w' := fun v h1 h2 h3 => (@sym_ok _ (GaussField_ooo_k b1 b2 b3 b4 b5 b6 b7 b8 b9 b10 b11 b12 b13 b14) _ (@KnowOk.of _ (GaussField_ooo_k b1 b2 b3 b4 b5 b6 b7 b8 b9 b10 b11 b12 b13 b14) _ hops hcalls) (by kernel_rfl) _ _ _ _ h1 rfl h2 _ hG).mono fun e w' h => ⟨h.1.trans h3, h.2⟩
  clear hops hcalls
  cases b4 with
  | true =>
    have h4 : gaddD a b = gaddD b a := i4.1 rfl
    cases b5 with
    | true =>
      have h5 : gaddE a b = gaddE b a := i5.1 rfl
      cases b6 with
      | true =>
        have h6 : gmulD a b = gmulD b a := i6.1 rfl
        cases b7 with
        | true =>
          have h7 : gmulE a b = gmulE b a := i7.1 rfl
          cases b1 with
          | true =>
            have h1 : allB [gmulE a b, gmulE (gmulD a b) c, gmulE b c, gmulE a (gmulD b c)] = true := i1.1 rfl
            cases b8 with
            | true =>
              have h8 : gmulD (gmulD a b) c = gmulD a (gmulD b c) := i8.1 rfl
              cases b2 with
              | true =>
                have h2 : allB [gaddE a b, gmulE (gaddD a b) c, gmulE b c, gmulE a c, gaddE (gmulD a c) (gmulD b c)] = true := i2.1 rfl
                cases b9 with
                | true =>
                  have h9 : gmulD (gaddD a b) c = gaddD (gmulD a c) (gmulD b c) := i9.1 rfl
                  cases b10 with
                  | true =>
                    have h10 : gmulE a Gs.i = 0 := i10.1 rfl
                    cases b11 with
                    | true =>
                      have h11 : turnG a = gmulD a Gs.i := i11.1 rfl
                      cases b12 with
                      | true =>
                        have h12 : turnG (turnG a) = neG a := i12.1 rfl
                        cases b13 with
                        | true =>
                          have h13 : conjG (conjG a) = a := i13.1 rfl
                          cases b3 with
                          | true =>
                            have h3 : allB [gmulE a b, gmulE (conjG a) (conjG b)] = true := i3.1 rfl
                            cases b14 with
                            | true =>
                              have h14 : gmulD (conjG a) (conjG b) = conjG (gmulD a b) := i14.1 rfl
                              exact fin _ (GaussField_ooo_r1) rfl rfl
                            | false =>
                              exact absurd (i14.2 (gconj_mul oa ob (allB_iff.1 h3 _ (by simp)) (allB_iff.1 h3 _ (by simp)))) Bool.false_ne_true
                          | false =>
                            have h3 : ¬ (allB [gmulE a b, gmulE (conjG a) (conjG b)] = true) := fun c => Bool.false_ne_true (i3.2 c)
                            exact fin _ (GaussField_ooo_r2 b14) rfl rfl
                        | false =>
                          exact absurd (i13.2 (gconj2 oa)) Bool.false_ne_true
                      | false =>
                        exact absurd (i12.2 (rfl)) Bool.false_ne_true
                    | false =>
                      exact absurd (i11.2 (gturn oa h10)) Bool.false_ne_true
                  | false =>
                    have h10 : ¬ (gmulE a Gs.i = 0) := fun c => Bool.false_ne_true (i10.2 c)
                    cases b12 with
                    | true =>
                      have h12 : turnG (turnG a) = neG a := i12.1 rfl
                      cases b13 with
                      | true =>
                        have h13 : conjG (conjG a) = a := i13.1 rfl
                        cases b3 with
                        | true =>
                          have h3 : allB [gmulE a b, gmulE (conjG a) (conjG b)] = true := i3.1 rfl
                          cases b14 with
                          | true =>
                            have h14 : gmulD (conjG a) (conjG b) = conjG (gmulD a b) := i14.1 rfl
                            exact fin _ (GaussField_ooo_r3 b11) rfl rfl
                          | false =>
                            exact absurd (i14.2 (gconj_mul oa ob (allB_iff.1 h3 _ (by simp)) (allB_iff.1 h3 _ (by simp)))) Bool.false_ne_true
                        | false =>
                          have h3 : ¬ (allB [gmulE a b, gmulE (conjG a) (conjG b)] = true) := fun c => Bool.false_ne_true (i3.2 c)
                          exact fin _ (GaussField_ooo_r4 b11 b14) rfl rfl
                      | false =>
                        exact absurd (i13.2 (gconj2 oa)) Bool.false_ne_true
                    | false =>
                      exact absurd (i12.2 (rfl)) Bool.false_ne_true
                | false =>
                  exact absurd (i9.2 (gdistr oa ob oc (allB_iff.1 h2 _ (by simp)) (allB_iff.1 h2 _ (by simp)) (allB_iff.1 h2 _ (by simp)) (allB_iff.1 h2 _ (by simp)) (allB_iff.1 h2 _ (by simp)))) Bool.false_ne_true
              | false =>
                have h2 : ¬ (allB [gaddE a b, gmulE (gaddD a b) c, gmulE b c, gmulE a c, gaddE (gmulD a c) (gmulD b c)] = true) := fun c => Bool.false_ne_true (i2.2 c)
                cases b10 with
                | true =>
                  have h10 : gmulE a Gs.i = 0 := i10.1 rfl
                  cases b11 with
                  | true =>
                    have h11 : turnG a = gmulD a Gs.i := i11.1 rfl
                    cases b12 with
                    | true =>
                      have h12 : turnG (turnG a) = neG a := i12.1 rfl
                      cases b13 with
                      | true =>
                        have h13 : conjG (conjG a) = a := i13.1 rfl
                        cases b3 with
                        | true =>
                          have h3 : allB [gmulE a b, gmulE (conjG a) (conjG b)] = true := i3.1 rfl
                          cases b14 with
                          | true =>
                            have h14 : gmulD (conjG a) (conjG b) = conjG (gmulD a b) := i14.1 rfl
                            exact fin _ (GaussField_ooo_r5 b9) rfl rfl
                          | false =>
                            exact absurd (i14.2 (gconj_mul oa ob (allB_iff.1 h3 _ (by simp)) (allB_iff.1 h3 _ (by simp)))) Bool.false_ne_true
                        | false =>
                          have h3 : ¬ (allB [gmulE a b, gmulE (conjG a) (conjG b)] = true) := fun c => Bool.false_ne_true (i3.2 c)
                          exact fin _ (GaussField_ooo_r6 b9 b14) rfl rfl
                      | false =>
                        exact absurd (i13.2 (gconj2 oa)) Bool.false_ne_true
                    | false =>
                      exact absurd (i12.2 (rfl)) Bool.false_ne_true
                  | false =>
                    exact absurd (i11.2 (gturn oa h10)) Bool.false_ne_true
                | false =>
                  have h10 : ¬ (gmulE a Gs.i = 0) := fun c => Bool.false_ne_true (i10.2 c)
                  cases b12 with
                  | true =>
                    have h12 : turnG (turnG a) = neG a := i12.1 rfl
                    cases b13 with
                    | true =>
                      have h13 : conjG (conjG a) = a := i13.1 rfl
                      cases b3 with
                      | true =>
                        have h3 : allB [gmulE a b, gmulE (conjG a) (conjG b)] = true := i3.1 rfl
                        cases b14 with
                        | true =>
                          have h14 : gmulD (conjG a) (conjG b) = conjG (gmulD a b) := i14.1 rfl
                          exact fin _ (GaussField_ooo_r7 b9 b11) rfl rfl
                        | false =>
                          exact absurd (i14.2 (gconj_mul oa ob (allB_iff.1 h3 _ (by simp)) (allB_iff.1 h3 _ (by simp)))) Bool.false_ne_true
                      | false =>
                        have h3 : ¬ (allB [gmulE a b, gmulE (conjG a) (conjG b)] = true) := fun c => Bool.false_ne_true (i3.2 c)
                        exact fin _ (GaussField_ooo_r8 b9 b11 b14) rfl rfl
                    | false =>
                      exact absurd (i13.2 (gconj2 oa)) Bool.false_ne_true
                  | false =>
                    exact absurd (i12.2 (rfl)) Bool.false_ne_true
            | false =>
              exact absurd (i8.2 (gmul_assoc oa ob oc (allB_iff.1 h1 _ (by simp)) (allB_iff.1 h1 _ (by simp)) (allB_iff.1 h1 _ (by simp)) (allB_iff.1 h1 _ (by simp)))) Bool.false_ne_true
          | false =>
            have h1 : ¬ (allB [gmulE a b, gmulE (gmulD a b) c, gmulE b c, gmulE a (gmulD b c)] = true) := fun c => Bool.false_ne_true (i1.2 c)
            cases b2 with
            | true =>
              have h2 : allB [gaddE a b, gmulE (gaddD a b) c, gmulE b c, gmulE a c, gaddE (gmulD a c) (gmulD b c)] = true := i2.1 rfl
              cases b9 with
              | true =>
                have h9 : gmulD (gaddD a b) c = gaddD (gmulD a c) (gmulD b c) := i9.1 rfl
                cases b10 with
                | true =>
                  have h10 : gmulE a Gs.i = 0 := i10.1 rfl
                  cases b11 with
                  | true =>
                    have h11 : turnG a = gmulD a Gs.i := i11.1 rfl
                    cases b12 with
                    | true =>
                      have h12 : turnG (turnG a) = neG a := i12.1 rfl
                      cases b13 with
                      | true =>
                        have h13 : conjG (conjG a) = a := i13.1 rfl
                        cases b3 with
                        | true =>
                          have h3 : allB [gmulE a b, gmulE (conjG a) (conjG b)] = true := i3.1 rfl
                          cases b14 with
                          | true =>
                            have h14 : gmulD (conjG a) (conjG b) = conjG (gmulD a b) := i14.1 rfl
                            exact fin _ (GaussField_ooo_r9 b8) rfl rfl
                          | false =>
                            exact absurd (i14.2 (gconj_mul oa ob (allB_iff.1 h3 _ (by simp)) (allB_iff.1 h3 _ (by simp)))) Bool.false_ne_true
                        | false =>
                          have h3 : ¬ (allB [gmulE a b, gmulE (conjG a) (conjG b)] = true) := fun c => Bool.false_ne_true (i3.2 c)
                          exact fin _ (GaussField_ooo_r10 b8 b14) rfl rfl
                      | false =>
                        exact absurd (i13.2 (gconj2 oa)) Bool.false_ne_true
                    | false =>
                      exact absurd (i12.2 (rfl)) Bool.false_ne_true
                  | false =>
                    exact absurd (i11.2 (gturn oa h10)) Bool.false_ne_true
                | false =>
                  have h10 : ¬ (gmulE a Gs.i = 0) := fun c => Bool.false_ne_true (i10.2 c)
                  cases b12 with
                  | true =>
                    have h12 : turnG (turnG a) = neG a := i12.1 rfl
                    cases b13 with
                    | true =>
                      have h13 : conjG (conjG a) = a := i13.1 rfl
                      cases b3 with
                      | true =>
                        have h3 : allB [gmulE a b, gmulE (conjG a) (conjG b)] = true := i3.1 rfl
                        cases b14 with
                        | true =>
                          have h14 : gmulD (conjG a) (conjG b) = conjG (gmulD a b) := i14.1 rfl
                          exact fin _ (GaussField_ooo_r11 b8 b11) rfl rfl
                        | false =>
                          exact absurd (i14.2 (gconj_mul oa ob (allB_iff.1 h3 _ (by simp)) (allB_iff.1 h3 _ (by simp)))) Bool.false_ne_true
                      | false =>
                        have h3 : ¬ (allB [gmulE a b, gmulE (conjG a) (conjG b)] = true) := fun c => Bool.false_ne_true (i3.2 c)
                        exact fin _ (GaussField_ooo_r12 b8 b11 b14) rfl rfl
                    | false =>
                      exact absurd (i13.2 (gconj2 oa)) Bool.false_ne_true
                  | false =>
                    exact absurd (i12.2 (rfl)) Bool.false_ne_true
              | false =>
                exact absurd (i9.2 (gdistr oa ob oc (allB_iff.1 h2 _ (by simp)) (allB_iff.1 h2 _ (by simp)) (allB_iff.1 h2 _ (by simp)) (allB_iff.1 h2 _ (by simp)) (allB_iff.1 h2 _ (by simp)))) Bool.false_ne_true
            | false =>
              have h2 : ¬ (allB [gaddE a b, gmulE (gaddD a b) c, gmulE b c, gmulE a c, gaddE (gmulD a c) (gmulD b c)] = true) := fun c => Bool.false_ne_true (i2.2 c)
              cases b10 with
              | true =>
                have h10 : gmulE a Gs.i = 0 := i10.1 rfl
                cases b11 with
                | true =>
                  have h11 : turnG a = gmulD a Gs.i := i11.1 rfl
                  cases b12 with
                  | true =>
                    have h12 : turnG (turnG a) = neG a := i12.1 rfl
                    cases b13 with
                    | true =>
                      have h13 : conjG (conjG a) = a := i13.1 rfl
                      cases b3 with
                      | true =>
                        have h3 : allB [gmulE a b, gmulE (conjG a) (conjG b)] = true := i3.1 rfl
                        cases b14 with
                        | true =>
                          have h14 : gmulD (conjG a) (conjG b) = conjG (gmulD a b) := i14.1 rfl
                          exact fin _ (GaussField_ooo_r13 b8 b9) rfl rfl
                        | false =>
                          exact absurd (i14.2 (gconj_mul oa ob (allB_iff.1 h3 _ (by simp)) (allB_iff.1 h3 _ (by simp)))) Bool.false_ne_true
                      | false =>
                        have h3 : ¬ (allB [gmulE a b, gmulE (conjG a) (conjG b)] = true) := fun c => Bool.false_ne_true (i3.2 c)
                        exact fin _ (GaussField_ooo_r14 b8 b9 b14) rfl rfl
                    | false =>
                      exact absurd (i13.2 (gconj2 oa)) Bool.false_ne_true
                  | false =>
                    exact absurd (i12.2 (rfl)) Bool.false_ne_true
                | false =>
                  exact absurd (i11.2 (gturn oa h10)) Bool.false_ne_true
              | false =>
                have h10 : ¬ (gmulE a Gs.i = 0) := fun c => Bool.false_ne_true (i10.2 c)
                cases b12 with
                | true =>
                  have h12 : turnG (turnG a) = neG a := i12.1 rfl
                  cases b13 with
                  | true =>
                    have h13 : conjG (conjG a) = a := i13.1 rfl
                    cases b3 with
                    | true =>
                      have h3 : allB [gmulE a b, gmulE (conjG a) (conjG b)] = true := i3.1 rfl
                      cases b14 with
                      | true =>
                        have h14 : gmulD (conjG a) (conjG b) = conjG (gmulD a b) := i14.1 rfl
                        exact fin _ (GaussField_ooo_r15 b8 b9 b11) rfl rfl
                      | false =>
                        exact absurd (i14.2 (gconj_mul oa ob (allB_iff.1 h3 _ (by simp)) (allB_iff.1 h3 _ (by simp)))) Bool.false_ne_true
                    | false =>
                      have h3 : ¬ (allB [gmulE a b, gmulE (conjG a) (conjG b)] = true) := fun c => Bool.false_ne_true (i3.2 c)
                      exact fin _ (GaussField_ooo_r16 b8 b9 b11 b14) rfl rfl
                  | false =>
                    exact absurd (i13.2 (gconj2 oa)) Bool.false_ne_true
                | false =>
                  exact absurd (i12.2 (rfl)) Bool.false_ne_true
        | false =>
          exact absurd (i7.2 ((gmul_comm oa ob).2)) Bool.false_ne_true
      | false =>
        exact absurd (i6.2 ((gmul_comm oa ob).1)) Bool.false_ne_true
    | false =>
      exact absurd (i5.2 ((gadd_comm oa ob).2)) Bool.false_ne_true
  | false =>
    exact absurd (i4.2 ((gadd_comm oa ob).1)) Bool.false_ne_true

@[reducible] noncomputable def GaussField_oob_k (b1 b2 b3 b4 b5 b6 b7 b8 b9 b10 b11 b12 : Bool) : Know := ⟨[([0, 12, 26], [.agg [.sym 18, .sym 19, .sym 20, .sym 21, .sym 22, .sym 23], .agg [.sym 25, .sym 26, .sym 27, .sym 28, .sym 29, .sym 30]], .lit (.bool (!b4))),
  ([0, 12, 27], [.sym 24, .sym 31], .lit (.bool (!b5))),
  ([0, 12, 26], [.agg [.sym 32, .sym 33, .sym 34, .sym 35, .sym 36, .sym 37], .agg [.sym 39, .sym 40, .sym 41, .sym 42, .sym 43, .sym 44]], .lit (.bool (!b6))),
  ([0, 12, 27], [.sym 38, .sym 45], .lit (.bool (!b7))),
  ([0, 11, 27], [.sym 66, .lit (.int .i64 0)], .lit (.bool b8)),
  ([0, 12, 26], [.agg [.sym 67, .sym 68, .sym 69, .sym 70, .sym 71, .sym 72], .agg [.sym 60, .sym 61, .sym 62, .sym 63, .sym 64, .sym 65]], .lit (.bool (!b9))),
  ([0, 12, 26], [.agg [.sym 73, .sym 74, .sym 75, .sym 76, .sym 77, .sym 78], .agg [.sym 79, .sym 80, .sym 81, .sym 82, .sym 83, .sym 84]], .lit (.bool (!b10))),
  ([0, 12, 26], [.agg [.sym 91, .sym 92, .sym 93, .sym 94, .sym 95, .sym 96], .agg [.sym 0, .sym 1, .sym 2, .sym 3, .sym 4, .sym 5]], .lit (.bool (!b11))),
  ([0, 11, 26], [.agg [.sym 103, .sym 104, .sym 105, .sym 106, .sym 107, .sym 108], .agg [.sym 110, .sym 111, .sym 112, .sym 113, .sym 114, .sym 115]], .lit (.bool b12))],
  [(16, [], .lit (.bool true)),
  (7, [.agg [.sym 0, .sym 1, .sym 2, .sym 3, .sym 4, .sym 5], .agg [.sym 6, .sym 7, .sym 8, .sym 9, .sym 10, .sym 11]], .tup [.agg [.sym 18, .sym 19, .sym 20, .sym 21, .sym 22, .sym 23], .sym 24]),
  (7, [.agg [.sym 6, .sym 7, .sym 8, .sym 9, .sym 10, .sym 11], .agg [.sym 0, .sym 1, .sym 2, .sym 3, .sym 4, .sym 5]], .tup [.agg [.sym 25, .sym 26, .sym 27, .sym 28, .sym 29, .sym 30], .sym 31]),
  (9, [.agg [.sym 0, .sym 1, .sym 2, .sym 3, .sym 4, .sym 5], .agg [.sym 6, .sym 7, .sym 8, .sym 9, .sym 10, .sym 11]], .tup [.agg [.sym 32, .sym 33, .sym 34, .sym 35, .sym 36, .sym 37], .sym 38]),
  (9, [.agg [.sym 6, .sym 7, .sym 8, .sym 9, .sym 10, .sym 11], .agg [.sym 0, .sym 1, .sym 2, .sym 3, .sym 4, .sym 5]], .tup [.agg [.sym 39, .sym 40, .sym 41, .sym 42, .sym 43, .sym 44], .sym 45]),
  (9, [.agg [.sym 32, .sym 33, .sym 34, .sym 35, .sym 36, .sym 37], .agg [.sym 12, .sym 13, .sym 14, .sym 15, .sym 16, .sym 17]], .lit (.tuple #[.agg #[.bool false, .string ⟨#[]⟩, .int .i64 0, .bool false, .string ⟨#[]⟩, .int .i64 0], .int .i64 2])),
  (9, [.agg [.sym 6, .sym 7, .sym 8, .sym 9, .sym 10, .sym 11], .agg [.sym 12, .sym 13, .sym 14, .sym 15, .sym 16, .sym 17]], .lit (.tuple #[.agg #[.bool false, .string ⟨#[]⟩, .int .i64 0, .bool false, .string ⟨#[]⟩, .int .i64 0], .int .i64 2])),
  (9, [.agg [.sym 0, .sym 1, .sym 2, .sym 3, .sym 4, .sym 5], .lit (.agg #[.bool false, .string ⟨#[]⟩, .int .i64 0, .bool false, .string ⟨#[]⟩, .int .i64 0])], .tup [.agg [.sym 46, .sym 47, .sym 48, .sym 49, .sym 50, .sym 51], .sym 52]),
  (20, [.row 4 0 [.sym 38, .lit (.int .i64 2), .lit (.int .i64 2), .sym 52]], .lit (.bool b1)),
  (9, [.agg [.sym 18, .sym 19, .sym 20, .sym 21, .sym 22, .sym 23], .agg [.sym 12, .sym 13, .sym 14, .sym 15, .sym 16, .sym 17]], .lit (.tuple #[.agg #[.bool false, .string ⟨#[]⟩, .int .i64 0, .bool false, .string ⟨#[]⟩, .int .i64 0], .int .i64 2])),
  (9, [.agg [.sym 0, .sym 1, .sym 2, .sym 3, .sym 4, .sym 5], .agg [.sym 12, .sym 13, .sym 14, .sym 15, .sym 16, .sym 17]], .lit (.tuple #[.agg #[.bool false, .string ⟨#[]⟩, .int .i64 0, .bool false, .string ⟨#[]⟩, .int .i64 0], .int .i64 2])),
  (7, [.lit (.agg #[.bool false, .string ⟨#[]⟩, .int .i64 0, .bool false, .string ⟨#[]⟩, .int .i64 0]), .lit (.agg #[.bool false, .string ⟨#[]⟩, .int .i64 0, .bool false, .string ⟨#[]⟩, .int .i64 0])], .tup [.agg [.sym 53, .sym 54, .sym 55, .sym 56, .sym 57, .sym 58], .sym 59]),
  (20, [.row 5 0 [.sym 24, .lit (.int .i64 2), .lit (.int .i64 2), .lit (.int .i64 2), .sym 59]], .lit (.bool b2)),
  (21, [.agg [.sym 0, .sym 1, .sym 2, .sym 3, .sym 4, .sym 5]], .lit (.int .i64 0)),
  (9, [.agg [.sym 0, .sym 1, .sym 2, .sym 3, .sym 4, .sym 5], .lit (.agg #[.bool false, .string ⟨#[]⟩, .int .i64 0, .bool false, .string ⟨#[1]⟩, .int .i64 0])], .tup [.agg [.sym 60, .sym 61, .sym 62, .sym 63, .sym 64, .sym 65], .sym 66]),
  (22, [.agg [.sym 0, .sym 1, .sym 2, .sym 3, .sym 4, .sym 5]], .agg [.sym 67, .sym 68, .sym 69, .sym 70, .sym 71, .sym 72]),
  (22, [.agg [.sym 67, .sym 68, .sym 69, .sym 70, .sym 71, .sym 72]], .agg [.sym 73, .sym 74, .sym 75, .sym 76, .sym 77, .sym 78]),
  (23, [.agg [.sym 0, .sym 1, .sym 2, .sym 3, .sym 4, .sym 5]], .agg [.sym 79, .sym 80, .sym 81, .sym 82, .sym 83, .sym 84]),
  (24, [.agg [.sym 0, .sym 1, .sym 2, .sym 3, .sym 4, .sym 5]], .agg [.sym 85, .sym 86, .sym 87, .sym 88, .sym 89, .sym 90]),
  (24, [.agg [.sym 85, .sym 86, .sym 87, .sym 88, .sym 89, .sym 90]], .agg [.sym 91, .sym 92, .sym 93, .sym 94, .sym 95, .sym 96]),
  (24, [.agg [.sym 6, .sym 7, .sym 8, .sym 9, .sym 10, .sym 11]], .agg [.sym 97, .sym 98, .sym 99, .sym 100, .sym 101, .sym 102]),
  (9, [.agg [.sym 85, .sym 86, .sym 87, .sym 88, .sym 89, .sym 90], .agg [.sym 97, .sym 98, .sym 99, .sym 100, .sym 101, .sym 102]], .tup [.agg [.sym 103, .sym 104, .sym 105, .sym 106, .sym 107, .sym 108], .sym 109]),
  (20, [.row 2 0 [.sym 38, .sym 109]], .lit (.bool b3)),
  (24, [.agg [.sym 32, .sym 33, .sym 34, .sym 35, .sym 36, .sym 37]], .agg [.sym 110, .sym 111, .sym 112, .sym 113, .sym 114, .sym 115])]⟩
theorem GaussField_oob_r1 : @comes (GaussField_oob_k false false true true true true true true true true true true) Tryd.prog glT 3000 4 [.agg [.sym 0, .sym 1, .sym 2, .sym 3, .sym 4, .sym 5], .agg [.sym 6, .sym 7, .sym 8, .sym 9, .sym 10, .sym 11], .agg [.sym 12, .sym 13, .sym 14, .sym 15, .sym 16, .sym 17]] = some (.lit (.bool true)) := by kernel_rfl
theorem GaussField_oob_r2 (b12 : Bool) : @comes (GaussField_oob_k false false false true true true true true true true true b12) Tryd.prog glT 3000 4 [.agg [.sym 0, .sym 1, .sym 2, .sym 3, .sym 4, .sym 5], .agg [.sym 6, .sym 7, .sym 8, .sym 9, .sym 10, .sym 11], .agg [.sym 12, .sym 13, .sym 14, .sym 15, .sym 16, .sym 17]] = some (.lit (.bool true)) := by kernel_rfl
theorem GaussField_oob_r3 (b9 : Bool) : @comes (GaussField_oob_k false false true true true true true false b9 true true true) Tryd.prog glT 3000 4 [.agg [.sym 0, .sym 1, .sym 2, .sym 3, .sym 4, .sym 5], .agg [.sym 6, .sym 7, .sym 8, .sym 9, .sym 10, .sym 11], .agg [.sym 12, .sym 13, .sym 14, .sym 15, .sym 16, .sym 17]] = some (.lit (.bool true)) := by kernel_rfl
theorem GaussField_oob_r4 (b9 b12 : Bool) : @comes (GaussField_oob_k false false false true true true true false b9 true true b12) Tryd.prog glT 3000 4 [.agg [.sym 0, .sym 1, .sym 2, .sym 3, .sym 4, .sym 5], .agg [.sym 6, .sym 7, .sym 8, .sym 9, .sym 10, .sym 11], .agg [.sym 12, .sym 13, .sym 14, .sym 15, .sym 16, .sym 17]] = some (.lit (.bool true)) := by kernel_rfl
set_option maxRecDepth 100000 in
theorem GaussField_oob (a : Gs) (b : Gs) (c : Gt) (w : World) (oa : a.Ok) (ob : b.Ok) (zc : c.Small) (nc : ¬ c.Ok) (hG : Globs glT w) : Calls Tryd.prog 4 #[.agg #[.bool a.re.g, .string (natS a.re.n), .int .i64 a.re.x, .bool a.im.g, .string (natS a.im.n), .int .i64 a.im.x], .agg #[.bool b.re.g, .string (natS b.re.n), .int .i64 b.re.x, .bool b.im.g, .string (natS b.im.n), .int .i64 b.im.x], .agg #[.bool c.re.g, .string c.re.s, .int .i64 c.re.x, .bool c.im.g, .string c.im.s, .int .i64 c.im.x]] w fun e w' => e = .returned (.bool true) ∧ Below w.heap.size w w' := by
  obtain ⟨b1, i1⟩ := bex (allB [gmulE a b, 2, 2, gmulE a Gs.zero] = true)
  obtain ⟨b2, i2⟩ := bex (allB [gaddE a b, 2, 2, 2, gaddE Gs.zero Gs.zero] = true)
  obtain ⟨b3, i3⟩ := bex (allB [gmulE a b, gmulE (conjG a) (conjG b)] = true)
  obtain ⟨b4, i4⟩ := bex (gaddD a b = gaddD b a)
  obtain ⟨b5, i5⟩ := bex (gaddE a b = gaddE b a)
  obtain ⟨b6, i6⟩ := bex (gmulD a b = gmulD b a)
  obtain ⟨b7, i7⟩ := bex (gmulE a b = gmulE b a)
  obtain ⟨b8, i8⟩ := bex (gmulE a Gs.i = 0)
  obtain ⟨b9, i9⟩ := bex (turnG a = gmulD a Gs.i)
  obtain ⟨b10, i10⟩ := bex (turnG (turnG a) = neG a)
  obtain ⟨b11, i11⟩ := bex (conjG (conjG a) = a)
  obtain ⟨b12, i12⟩ := bex (gmulD (conjG a) (conjG b) = conjG (gmulD a b))
  letI : Env := mkEnv glT [.bool a.re.g, .string (natS a.re.n), .int .i64 a.re.x, .bool a.im.g, .string (natS a.im.n), .int .i64 a.im.x, .bool b.re.g, .string (natS b.re.n), .int .i64 b.re.x, .bool b.im.g, .string (natS b.im.n), .int .i64 b.im.x, .bool c.re.g, .string c.re.s, .int .i64 c.re.x, .bool c.im.g, .string c.im.s, .int .i64 c.im.x, .bool ((gaddD a b).re).g, .string (natS ((gaddD a b).re).n), .int .i64 ((gaddD a b).re).x, .bool ((gaddD a b).im).g, .string (natS ((gaddD a b).im).n), .int .i64 ((gaddD a b).im).x, .int .i64 (gaddE a b), .bool ((gaddD b a).re).g, .string (natS ((gaddD b a).re).n), .int .i64 ((gaddD b a).re).x, .bool ((gaddD b a).im).g, .string (natS ((gaddD b a).im).n), .int .i64 ((gaddD b a).im).x, .int .i64 (gaddE b a), .bool ((gmulD a b).re).g, .string (natS ((gmulD a b).re).n), .int .i64 ((gmulD a b).re).x, .bool ((gmulD a b).im).g, .string (natS ((gmulD a b).im).n), .int .i64 ((gmulD a b).im).x, .int .i64 (gmulE a b), .bool ((gmulD b a).re).g, .string (natS ((gmulD b a).re).n), .int .i64 ((gmulD b a).re).x, .bool ((gmulD b a).im).g, .string (natS ((gmulD b a).im).n), .int .i64 ((gmulD b a).im).x, .int .i64 (gmulE b a), .bool ((gmulD a Gs.zero).re).g, .string (natS ((gmulD a Gs.zero).re).n), .int .i64 ((gmulD a Gs.zero).re).x, .bool ((gmulD a Gs.zero).im).g, .string (natS ((gmulD a Gs.zero).im).n), .int .i64 ((gmulD a Gs.zero).im).x, .int .i64 (gmulE a Gs.zero), .bool ((gaddD Gs.zero Gs.zero).re).g, .string (natS ((gaddD Gs.zero Gs.zero).re).n), .int .i64 ((gaddD Gs.zero Gs.zero).re).x, .bool ((gaddD Gs.zero Gs.zero).im).g, .string (natS ((gaddD Gs.zero Gs.zero).im).n), .int .i64 ((gaddD Gs.zero Gs.zero).im).x, .int .i64 (gaddE Gs.zero Gs.zero), .bool ((gmulD a Gs.i).re).g, .string (natS ((gmulD a Gs.i).re).n), .int .i64 ((gmulD a Gs.i).re).x, .bool ((gmulD a Gs.i).im).g, .string (natS ((gmulD a Gs.i).im).n), .int .i64 ((gmulD a Gs.i).im).x, .int .i64 (gmulE a Gs.i), .bool ((turnG a).re).g, .string (natS ((turnG a).re).n), .int .i64 ((turnG a).re).x, .bool ((turnG a).im).g, .string (natS ((turnG a).im).n), .int .i64 ((turnG a).im).x, .bool ((turnG (turnG a)).re).g, .string (natS ((turnG (turnG a)).re).n), .int .i64 ((turnG (turnG a)).re).x, .bool ((turnG (turnG a)).im).g, .string (natS ((turnG (turnG a)).im).n), .int .i64 ((turnG (turnG a)).im).x, .bool ((neG a).re).g, .string (natS ((neG a).re).n), .int .i64 ((neG a).re).x, .bool ((neG a).im).g, .string (natS ((neG a).im).n), .int .i64 ((neG a).im).x, .bool ((conjG a).re).g, .string (natS ((conjG a).re).n), .int .i64 ((conjG a).re).x, .bool ((conjG a).im).g, .string (natS ((conjG a).im).n), .int .i64 ((conjG a).im).x, .bool ((conjG (conjG a)).re).g, .string (natS ((conjG (conjG a)).re).n), .int .i64 ((conjG (conjG a)).re).x, .bool ((conjG (conjG a)).im).g, .string (natS ((conjG (conjG a)).im).n), .int .i64 ((conjG (conjG a)).im).x, .bool ((conjG b).re).g, .string (natS ((conjG b).re).n), .int .i64 ((conjG b).re).x, .bool ((conjG b).im).g, .string (natS ((conjG b).im).n), .int .i64 ((conjG b).im).x, .bool ((gmulD (conjG a) (conjG b)).re).g, .string (natS ((gmulD (conjG a) (conjG b)).re).n), .int .i64 ((gmulD (conjG a) (conjG b)).re).x, .bool ((gmulD (conjG a) (conjG b)).im).g, .string (natS ((gmulD (conjG a) (conjG b)).im).n), .int .i64 ((gmulD (conjG a) (conjG b)).im).x, .int .i64 (gmulE (conjG a) (conjG b)), .bool ((conjG (gmulD a b)).re).g, .string (natS ((conjG (gmulD a b)).re).n), .int .i64 ((conjG (gmulD a b)).re).x, .bool ((conjG (gmulD a b)).im).g, .string (natS ((conjG (gmulD a b)).im).n), .int .i64 ((conjG (gmulD a b)).im).x] rfl
  have hops : OpsT Tryd.prog (@Know.ops (GaussField_oob_k b1 b2 b3 b4 b5 b6 b7 b8 b9 b10 b11 b12)) := ⟨optG_neq_i (a := gaddD a b) (b := gaddD b a) rfl rfl i4,
    opt_neq_i rfl rfl i5,
    optG_neq_i (a := gmulD a b) (b := gmulD b a) rfl rfl i6,
    opt_neq_i rfl rfl i7,
    opt_eql_i rfl rfl i8,
    optG_neq_i (a := turnG a) (b := gmulD a Gs.i) rfl rfl i9,
    optG_neq_i (a := turnG (turnG a)) (b := neG a) rfl rfl i10,
    optG_neq_i (a := conjG (conjG a)) (b := a) rfl rfl i11,
    optG_eql_i (a := gmulD (conjG a) (conjG b)) (b := conjG (gmulD a b)) rfl rfl i12,
    trivial⟩
  have hcalls : CallsT Tryd.prog (@Know.calls (GaussField_oob_k b1 b2 b3 b4 b5 b6 b7 b8 b9 b10 b11 b12)) := ⟨callt rfl rfl fun w hG => awake6_c w hG,
    callt rfl rfl fun w hG => GAdd_c a b w oa ob hG,
    callt rfl rfl fun w hG => GAdd_c b a w ob oa hG,
    callt rfl rfl fun w hG => GMul_c a b w oa ob hG,
    callt rfl rfl fun w hG => GMul_c b a w ob oa hG,
    callt rfl rfl fun w hG => GMul_bad (gmulD a b).t c w (gs_small (gmulD_Ok a b)) zc (fun c => nc c.2) hG,
    callt rfl rfl fun w hG => GMul_bad b.t c w (gs_small ob) zc (fun c => nc c.2) hG,
    callt rfl rfl fun w hG => (by have h := GMul_c a Gs.zero w oa Gs.zero_Ok hG; rw [natS_gzr, natS_gzi] at h; exact h),
    callt_row rfl fun w B0 c0 hG hB hC => lAll06_i B0 c0 [gmulE a b, 2, 2, gmulE a Gs.zero] w (by simp) (ers_of hB hC rfl) i1,
    callt rfl rfl fun w hG => GMul_bad (gaddD a b).t c w (gs_small (gaddD_Ok oa ob)) zc (fun c => nc c.2) hG,
    callt rfl rfl fun w hG => GMul_bad a.t c w (gs_small oa) zc (fun c => nc c.2) hG,
    callt rfl rfl fun w hG => (by have h := GAdd_c Gs.zero Gs.zero w Gs.zero_Ok Gs.zero_Ok hG; rw [natS_gzr, natS_gzi] at h; exact h),
    callt_row rfl fun w B0 c0 hG hB hC => lAll06_i B0 c0 [gaddE a b, 2, 2, 2, gaddE Gs.zero Gs.zero] w (by simp) (ers_of hB hC rfl) i2,
    callt rfl rfl fun w hG => GCheck_gs a oa w hG,
    callt rfl rfl fun w hG => (by have h := GMul_c a Gs.i w oa Gs.i_Ok hG; rw [natS_ir, natS_ii] at h; exact h),
    callt rfl rfl fun w hG => GTurn_c a w oa hG,
    callt rfl rfl fun w hG => GTurn_c (turnG a) w (turnG_Ok oa) hG,
    callt rfl rfl fun w hG => GNeg_c a w oa hG,
    callt rfl rfl fun w hG => GConj_c a w oa hG,
    callt rfl rfl fun w hG => GConj_c (conjG a) w (conjG_Ok oa) hG,
    callt rfl rfl fun w hG => GConj_c b w ob hG,
    callt rfl rfl fun w hG => GMul_c (conjG a) (conjG b) w (conjG_Ok oa) (conjG_Ok ob) hG,
    callt_row rfl fun w B0 c0 hG hB hC => lAll06_i B0 c0 [gmulE a b, gmulE (conjG a) (conjG b)] w (by simp) (ers_of hB hC rfl) i3,
    callt rfl rfl fun w hG => GConj_c (gmulD a b) w (gmulD_Ok a b) hG,
    trivial⟩
  have fin : ∀ v, @comes (GaussField_oob_k b1 b2 b3 b4 b5 b6 b7 b8 b9 b10 b11 b12) Tryd.prog glT 3000 4 [.agg [.sym 0, .sym 1, .sym 2, .sym 3, .sym 4, .sym 5], .agg [.sym 6, .sym 7, .sym 8, .sym 9, .sym 10, .sym 11], .agg [.sym 12, .sym 13, .sym 14, .sym 15, .sym 16, .sym 17]] = some v → ground v = true → Ending.returned (gval v) = .returned (.bool true) → Calls Tryd.prog 4 #[.agg #[.bool a.re.g, .string (natS a.re.n), .int .i64 a.re.x, .bool a.im.g, .string (natS a.im.n), .int .i64 a.im.x], .agg #[.bool b.re.g, .string (natS b.re.n), .int .i64 b.re.x, .bool b.im.g, .string (natS b.im.n), .int .i64 b.im.x], .agg #[.bool c.re.g, .string c.re.s, .int .i64 c.re.x, .bool c.im.g, .string c.im.s, .int .i64 c.im.x]] w fun e w' => e = .returned (.bool true) ∧ Below w.heap.size w w' := fun v h1 h2 h3 => (@sym_ok _ (GaussField_oob_k b1 b2 b3 b4 b5 b6 b7 b8 b9 b10 b11 b12) _ (@KnowOk.of _ (GaussField_oob_k b1 b2 b3 b4 b5 b6 b7 b8 b9 b10 b11 b12) _ hops hcalls) (by kernel_rfl) _ _ _ _ h1 rfl h2 _ hG).mono fun e w' h => ⟨h.1.trans h3, h.2⟩
  clear hops hcalls
  cases b4 with
  | true =>
    have h4 : gaddD a b = gaddD b a := i4.1 rfl
    cases b5 with
    | true =>
      have h5 : gaddE a b = gaddE b a := i5.1 rfl
      cases b6 with
      | true =>
        have h6 : gmulD a b = gmulD b a := i6.1 rfl
        cases b7 with
        | true =>
          have h7 : gmulE a b = gmulE b a := i7.1 rfl
          cases b1 with
          | true =>
            exact absurd (i1.1 rfl) (fun h => absurd (allB_iff.1 h 2 (by simp)) (by decide))
          | false =>
            have h1 : ¬ (allB [gmulE a b, 2, 2, gmulE a Gs.zero] = true) := fun c => Bool.false_ne_true (i1.2 c)
            cases b2 with
            | true =>
              exact absurd (i2.1 rfl) (fun h => absurd (allB_iff.1 h 2 (by simp)) (by decide))
            | false =>
              have h2 : ¬ (allB [gaddE a b, 2, 2, 2, gaddE Gs.zero Gs.zero] = true) := fun c => Bool.false_ne_true (i2.2 c)
              cases b8 with
              | true =>
                have h8 : gmulE a Gs.i = 0 := i8.1 rfl
                cases b9 with
                | true =>
                  have h9 : turnG a = gmulD a Gs.i := i9.1 rfl
                  cases b10 with
                  | true =>
                    have h10 : turnG (turnG a) = neG a := i10.1 rfl
                    cases b11 with
                    | true =>
                      have h11 : conjG (conjG a) = a := i11.1 rfl
                      cases b3 with
                      | true =>
                        have h3 : allB [gmulE a b, gmulE (conjG a) (conjG b)] = true := i3.1 rfl
                        cases b12 with
                        | true =>
                          have h12 : gmulD (conjG a) (conjG b) = conjG (gmulD a b) := i12.1 rfl
                          exact fin _ (GaussField_oob_r1) rfl rfl
                        | false =>
                          exact absurd (i12.2 (gconj_mul oa ob (allB_iff.1 h3 _ (by simp)) (allB_iff.1 h3 _ (by simp)))) Bool.false_ne_true
                      | false =>
                        have h3 : ¬ (allB [gmulE a b, gmulE (conjG a) (conjG b)] = true) := fun c => Bool.false_ne_true (i3.2 c)
                        exact fin _ (GaussField_oob_r2 b12) rfl rfl
                    | false =>
                      exact absurd (i11.2 (gconj2 oa)) Bool.false_ne_true
                  | false =>
                    exact absurd (i10.2 (rfl)) Bool.false_ne_true
                | false =>
                  exact absurd (i9.2 (gturn oa h8)) Bool.false_ne_true
              | false =>
                have h8 : ¬ (gmulE a Gs.i = 0) := fun c => Bool.false_ne_true (i8.2 c)
                cases b10 with
                | true =>
                  have h10 : turnG (turnG a) = neG a := i10.1 rfl
                  cases b11 with
                  | true =>
                    have h11 : conjG (conjG a) = a := i11.1 rfl
                    cases b3 with
                    | true =>
                      have h3 : allB [gmulE a b, gmulE (conjG a) (conjG b)] = true := i3.1 rfl
                      cases b12 with
                      | true =>
                        have h12 : gmulD (conjG a) (conjG b) = conjG (gmulD a b) := i12.1 rfl
                        exact fin _ (GaussField_oob_r3 b9) rfl rfl
                      | false =>
                        exact absurd (i12.2 (gconj_mul oa ob (allB_iff.1 h3 _ (by simp)) (allB_iff.1 h3 _ (by simp)))) Bool.false_ne_true
                    | false =>
                      have h3 : ¬ (allB [gmulE a b, gmulE (conjG a) (conjG b)] = true) := fun c => Bool.false_ne_true (i3.2 c)
                      exact fin _ (GaussField_oob_r4 b9 b12) rfl rfl
                  | false =>
                    exact absurd (i11.2 (gconj2 oa)) Bool.false_ne_true
                | false =>
                  exact absurd (i10.2 (rfl)) Bool.false_ne_true
        | false =>
          exact absurd (i7.2 ((gmul_comm oa ob).2)) Bool.false_ne_true
      | false =>
        exact absurd (i6.2 ((gmul_comm oa ob).1)) Bool.false_ne_true
    | false =>
      exact absurd (i5.2 ((gadd_comm oa ob).2)) Bool.false_ne_true
  | false =>
    exact absurd (i4.2 ((gadd_comm oa ob).1)) Bool.false_ne_true

@[reducible] noncomputable def GaussField_obo_k (b1 b2 b3 b4 b5 b6 b7 : Bool) : Know := ⟨[([0, 11, 27], [.sym 52, .lit (.int .i64 0)], .lit (.bool b4)),
  ([0, 12, 26], [.agg [.sym 53, .sym 54, .sym 55, .sym 56, .sym 57, .sym 58], .agg [.sym 46, .sym 47, .sym 48, .sym 49, .sym 50, .sym 51]], .lit (.bool (!b5))),
  ([0, 12, 26], [.agg [.sym 59, .sym 60, .sym 61, .sym 62, .sym 63, .sym 64], .agg [.sym 65, .sym 66, .sym 67, .sym 68, .sym 69, .sym 70]], .lit (.bool (!b6))),
  ([0, 12, 26], [.agg [.sym 77, .sym 78, .sym 79, .sym 80, .sym 81, .sym 82], .agg [.sym 0, .sym 1, .sym 2, .sym 3, .sym 4, .sym 5]], .lit (.bool (!b7)))],
  [(16, [], .lit (.bool true)),
  (7, [.agg [.sym 0, .sym 1, .sym 2, .sym 3, .sym 4, .sym 5], .agg [.sym 6, .sym 7, .sym 8, .sym 9, .sym 10, .sym 11]], .lit (.tuple #[.agg #[.bool false, .string ⟨#[]⟩, .int .i64 0, .bool false, .string ⟨#[]⟩, .int .i64 0], .int .i64 2])),
  (7, [.agg [.sym 6, .sym 7, .sym 8, .sym 9, .sym 10, .sym 11], .agg [.sym 0, .sym 1, .sym 2, .sym 3, .sym 4, .sym 5]], .lit (.tuple #[.agg #[.bool false, .string ⟨#[]⟩, .int .i64 0, .bool false, .string ⟨#[]⟩, .int .i64 0], .int .i64 2])),
  (9, [.agg [.sym 0, .sym 1, .sym 2, .sym 3, .sym 4, .sym 5], .agg [.sym 6, .sym 7, .sym 8, .sym 9, .sym 10, .sym 11]], .lit (.tuple #[.agg #[.bool false, .string ⟨#[]⟩, .int .i64 0, .bool false, .string ⟨#[]⟩, .int .i64 0], .int .i64 2])),
  (9, [.agg [.sym 6, .sym 7, .sym 8, .sym 9, .sym 10, .sym 11], .agg [.sym 0, .sym 1, .sym 2, .sym 3, .sym 4, .sym 5]], .lit (.tuple #[.agg #[.bool false, .string ⟨#[]⟩, .int .i64 0, .bool false, .string ⟨#[]⟩, .int .i64 0], .int .i64 2])),
  (9, [.lit (.agg #[.bool false, .string ⟨#[]⟩, .int .i64 0, .bool false, .string ⟨#[]⟩, .int .i64 0]), .agg [.sym 12, .sym 13, .sym 14, .sym 15, .sym 16, .sym 17]], .tup [.agg [.sym 18, .sym 19, .sym 20, .sym 21, .sym 22, .sym 23], .sym 24]),
  (9, [.agg [.sym 6, .sym 7, .sym 8, .sym 9, .sym 10, .sym 11], .agg [.sym 12, .sym 13, .sym 14, .sym 15, .sym 16, .sym 17]], .lit (.tuple #[.agg #[.bool false, .string ⟨#[]⟩, .int .i64 0, .bool false, .string ⟨#[]⟩, .int .i64 0], .int .i64 2])),
  (9, [.agg [.sym 0, .sym 1, .sym 2, .sym 3, .sym 4, .sym 5], .lit (.agg #[.bool false, .string ⟨#[]⟩, .int .i64 0, .bool false, .string ⟨#[]⟩, .int .i64 0])], .tup [.agg [.sym 25, .sym 26, .sym 27, .sym 28, .sym 29, .sym 30], .sym 31]),
  (20, [.row 4 0 [.lit (.int .i64 2), .sym 24, .lit (.int .i64 2), .sym 31]], .lit (.bool b1)),
  (9, [.agg [.sym 0, .sym 1, .sym 2, .sym 3, .sym 4, .sym 5], .agg [.sym 12, .sym 13, .sym 14, .sym 15, .sym 16, .sym 17]], .tup [.agg [.sym 32, .sym 33, .sym 34, .sym 35, .sym 36, .sym 37], .sym 38]),
  (7, [.agg [.sym 32, .sym 33, .sym 34, .sym 35, .sym 36, .sym 37], .lit (.agg #[.bool false, .string ⟨#[]⟩, .int .i64 0, .bool false, .string ⟨#[]⟩, .int .i64 0])], .tup [.agg [.sym 39, .sym 40, .sym 41, .sym 42, .sym 43, .sym 44], .sym 45]),
  (20, [.row 5 0 [.lit (.int .i64 2), .sym 24, .lit (.int .i64 2), .sym 38, .sym 45]], .lit (.bool b2)),
  (21, [.agg [.sym 0, .sym 1, .sym 2, .sym 3, .sym 4, .sym 5]], .lit (.int .i64 0)),
  (9, [.agg [.sym 0, .sym 1, .sym 2, .sym 3, .sym 4, .sym 5], .lit (.agg #[.bool false, .string ⟨#[]⟩, .int .i64 0, .bool false, .string ⟨#[1]⟩, .int .i64 0])], .tup [.agg [.sym 46, .sym 47, .sym 48, .sym 49, .sym 50, .sym 51], .sym 52]),
  (22, [.agg [.sym 0, .sym 1, .sym 2, .sym 3, .sym 4, .sym 5]], .agg [.sym 53, .sym 54, .sym 55, .sym 56, .sym 57, .sym 58]),
  (22, [.agg [.sym 53, .sym 54, .sym 55, .sym 56, .sym 57, .sym 58]], .agg [.sym 59, .sym 60, .sym 61, .sym 62, .sym 63, .sym 64]),
  (23, [.agg [.sym 0, .sym 1, .sym 2, .sym 3, .sym 4, .sym 5]], .agg [.sym 65, .sym 66, .sym 67, .sym 68, .sym 69, .sym 70]),
  (24, [.agg [.sym 0, .sym 1, .sym 2, .sym 3, .sym 4, .sym 5]], .agg [.sym 71, .sym 72, .sym 73, .sym 74, .sym 75, .sym 76]),
  (24, [.agg [.sym 71, .sym 72, .sym 73, .sym 74, .sym 75, .sym 76]], .agg [.sym 77, .sym 78, .sym 79, .sym 80, .sym 81, .sym 82]),
  (24, [.agg [.sym 6, .sym 7, .sym 8, .sym 9, .sym 10, .sym 11]], .lit (.agg #[.bool false, .string ⟨#[]⟩, .int .i64 0, .bool false, .string ⟨#[]⟩, .int .i64 0])),
  (9, [.agg [.sym 71, .sym 72, .sym 73, .sym 74, .sym 75, .sym 76], .lit (.agg #[.bool false, .string ⟨#[]⟩, .int .i64 0, .bool false, .string ⟨#[]⟩, .int .i64 0])], .tup [.agg [.sym 83, .sym 84, .sym 85, .sym 86, .sym 87, .sym 88], .sym 89]),
  (20, [.row 2 0 [.lit (.int .i64 2), .sym 89]], .lit (.bool b3))]⟩
theorem GaussField_obo_r1 : @comes (GaussField_obo_k false false false true true true true) Tryd.prog glT 3000 4 [.agg [.sym 0, .sym 1, .sym 2, .sym 3, .sym 4, .sym 5], .agg [.sym 6, .sym 7, .sym 8, .sym 9, .sym 10, .sym 11], .agg [.sym 12, .sym 13, .sym 14, .sym 15, .sym 16, .sym 17]] = some (.lit (.bool true)) := by kernel_rfl
theorem GaussField_obo_r2 (b5 : Bool) : @comes (GaussField_obo_k false false false false b5 true true) Tryd.prog glT 3000 4 [.agg [.sym 0, .sym 1, .sym 2, .sym 3, .sym 4, .sym 5], .agg [.sym 6, .sym 7, .sym 8, .sym 9, .sym 10, .sym 11], .agg [.sym 12, .sym 13, .sym 14, .sym 15, .sym 16, .sym 17]] = some (.lit (.bool true)) := by kernel_rfl
set_option maxRecDepth 100000 in
theorem GaussField_obo (a : Gs) (b : Gt) (c : Gs) (w : World) (oa : a.Ok) (zb : b.Small) (nb : ¬ b.Ok) (oc : c.Ok) (hG : Globs glT w) : Calls Tryd.prog 4 #[.agg #[.bool a.re.g, .string (natS a.re.n), .int .i64 a.re.x, .bool a.im.g, .string (natS a.im.n), .int .i64 a.im.x], .agg #[.bool b.re.g, .string b.re.s, .int .i64 b.re.x, .bool b.im.g, .string b.im.s, .int .i64 b.im.x], .agg #[.bool c.re.g, .string (natS c.re.n), .int .i64 c.re.x, .bool c.im.g, .string (natS c.im.n), .int .i64 c.im.x]] w fun e w' => e = .returned (.bool true) ∧ Below w.heap.size w w' := by
  obtain ⟨b1, i1⟩ := bex (allB [2, gmulE Gs.zero c, 2, gmulE a Gs.zero] = true)
  obtain ⟨b2, i2⟩ := bex (allB [2, gmulE Gs.zero c, 2, gmulE a c, gaddE (gmulD a c) Gs.zero] = true)
  obtain ⟨b3, i3⟩ := bex (allB [2, gmulE (conjG a) Gs.zero] = true)
  obtain ⟨b4, i4⟩ := bex (gmulE a Gs.i = 0)
  obtain ⟨b5, i5⟩ := bex (turnG a = gmulD a Gs.i)
  obtain ⟨b6, i6⟩ := bex (turnG (turnG a) = neG a)
  obtain ⟨b7, i7⟩ := bex (conjG (conjG a) = a)
  letI : Env := mkEnv glT [.bool a.re.g, .string (natS a.re.n), .int .i64 a.re.x, .bool a.im.g, .string (natS a.im.n), .int .i64 a.im.x, .bool b.re.g, .string b.re.s, .int .i64 b.re.x, .bool b.im.g, .string b.im.s, .int .i64 b.im.x, .bool c.re.g, .string (natS c.re.n), .int .i64 c.re.x, .bool c.im.g, .string (natS c.im.n), .int .i64 c.im.x, .bool ((gmulD Gs.zero c).re).g, .string (natS ((gmulD Gs.zero c).re).n), .int .i64 ((gmulD Gs.zero c).re).x, .bool ((gmulD Gs.zero c).im).g, .string (natS ((gmulD Gs.zero c).im).n), .int .i64 ((gmulD Gs.zero c).im).x, .int .i64 (gmulE Gs.zero c), .bool ((gmulD a Gs.zero).re).g, .string (natS ((gmulD a Gs.zero).re).n), .int .i64 ((gmulD a Gs.zero).re).x, .bool ((gmulD a Gs.zero).im).g, .string (natS ((gmulD a Gs.zero).im).n), .int .i64 ((gmulD a Gs.zero).im).x, .int .i64 (gmulE a Gs.zero), .bool ((gmulD a c).re).g, .string (natS ((gmulD a c).re).n), .int .i64 ((gmulD a c).re).x, .bool ((gmulD a c).im).g, .string (natS ((gmulD a c).im).n), .int .i64 ((gmulD a c).im).x, .int .i64 (gmulE a c), .bool ((gaddD (gmulD a c) Gs.zero).re).g, .string (natS ((gaddD (gmulD a c) Gs.zero).re).n), .int .i64 ((gaddD (gmulD a c) Gs.zero).re).x, .bool ((gaddD (gmulD a c) Gs.zero).im).g, .string (natS ((gaddD (gmulD a c) Gs.zero).im).n), .int .i64 ((gaddD (gmulD a c) Gs.zero).im).x, .int .i64 (gaddE (gmulD a c) Gs.zero), .bool ((gmulD a Gs.i).re).g, .string (natS ((gmulD a Gs.i).re).n), .int .i64 ((gmulD a Gs.i).re).x, .bool ((gmulD a Gs.i).im).g, .string (natS ((gmulD a Gs.i).im).n), .int .i64 ((gmulD a Gs.i).im).x, .int .i64 (gmulE a Gs.i), .bool ((turnG a).re).g, .string (natS ((turnG a).re).n), .int .i64 ((turnG a).re).x, .bool ((turnG a).im).g, .string (natS ((turnG a).im).n), .int .i64 ((turnG a).im).x, .bool ((turnG (turnG a)).re).g, .string (natS ((turnG (turnG a)).re).n), .int .i64 ((turnG (turnG a)).re).x, .bool ((turnG (turnG a)).im).g, .string (natS ((turnG (turnG a)).im).n), .int .i64 ((turnG (turnG a)).im).x, .bool ((neG a).re).g, .string (natS ((neG a).re).n), .int .i64 ((neG a).re).x, .bool ((neG a).im).g, .string (natS ((neG a).im).n), .int .i64 ((neG a).im).x, .bool ((conjG a).re).g, .string (natS ((conjG a).re).n), .int .i64 ((conjG a).re).x, .bool ((conjG a).im).g, .string (natS ((conjG a).im).n), .int .i64 ((conjG a).im).x, .bool ((conjG (conjG a)).re).g, .string (natS ((conjG (conjG a)).re).n), .int .i64 ((conjG (conjG a)).re).x, .bool ((conjG (conjG a)).im).g, .string (natS ((conjG (conjG a)).im).n), .int .i64 ((conjG (conjG a)).im).x, .bool ((gmulD (conjG a) Gs.zero).re).g, .string (natS ((gmulD (conjG a) Gs.zero).re).n), .int .i64 ((gmulD (conjG a) Gs.zero).re).x, .bool ((gmulD (conjG a) Gs.zero).im).g, .string (natS ((gmulD (conjG a) Gs.zero).im).n), .int .i64 ((gmulD (conjG a) Gs.zero).im).x, .int .i64 (gmulE (conjG a) Gs.zero)] rfl
  have hops : OpsT Tryd.prog (@Know.ops (GaussField_obo_k b1 b2 b3 b4 b5 b6 b7)) := ⟨opt_eql_i rfl rfl i4,
    optG_neq_i (a := turnG a) (b := gmulD a Gs.i) rfl rfl i5,
    optG_neq_i (a := turnG (turnG a)) (b := neG a) rfl rfl i6,
    optG_neq_i (a := conjG (conjG a)) (b := a) rfl rfl i7,
    trivial⟩
  have hcalls : CallsT Tryd.prog (@Know.calls (GaussField_obo_k b1 b2 b3 b4 b5 b6 b7)) := ⟨callt rfl rfl fun w hG => awake6_c w hG,
    callt rfl rfl fun w hG => GAdd_bad a.t b w (gs_small oa) zb (fun c => nb c.2) hG,
    callt rfl rfl fun w hG => GAdd_bad b a.t w zb (gs_small oa) (fun c => nb c.1) hG,
    callt rfl rfl fun w hG => GMul_bad a.t b w (gs_small oa) zb (fun c => nb c.2) hG,
    callt rfl rfl fun w hG => GMul_bad b a.t w zb (gs_small oa) (fun c => nb c.1) hG,
    callt rfl rfl fun w hG => (by have h := GMul_c Gs.zero c w Gs.zero_Ok oc hG; rw [natS_gzr, natS_gzi] at h; exact h),
    callt rfl rfl fun w hG => GMul_bad b c.t w zb (gs_small oc) (fun c => nb c.1) hG,
    callt rfl rfl fun w hG => (by have h := GMul_c a Gs.zero w oa Gs.zero_Ok hG; rw [natS_gzr, natS_gzi] at h; exact h),
    callt_row rfl fun w B0 c0 hG hB hC => lAll06_i B0 c0 [2, gmulE Gs.zero c, 2, gmulE a Gs.zero] w (by simp) (ers_of hB hC rfl) i1,
    callt rfl rfl fun w hG => GMul_c a c w oa oc hG,
    callt rfl rfl fun w hG => (by have h := GAdd_c (gmulD a c) Gs.zero w (gmulD_Ok a c) Gs.zero_Ok hG; rw [natS_gzr, natS_gzi] at h; exact h),
    callt_row rfl fun w B0 c0 hG hB hC => lAll06_i B0 c0 [2, gmulE Gs.zero c, 2, gmulE a c, gaddE (gmulD a c) Gs.zero] w (by simp) (ers_of hB hC rfl) i2,
    callt rfl rfl fun w hG => GCheck_gs a oa w hG,
    callt rfl rfl fun w hG => (by have h := GMul_c a Gs.i w oa Gs.i_Ok hG; rw [natS_ir, natS_ii] at h; exact h),
    callt rfl rfl fun w hG => GTurn_c a w oa hG,
    callt rfl rfl fun w hG => GTurn_c (turnG a) w (turnG_Ok oa) hG,
    callt rfl rfl fun w hG => GNeg_c a w oa hG,
    callt rfl rfl fun w hG => GConj_c a w oa hG,
    callt rfl rfl fun w hG => GConj_c (conjG a) w (conjG_Ok oa) hG,
    callt rfl rfl fun w hG => GConj_bad b w zb nb hG,
    callt rfl rfl fun w hG => (by have h := GMul_c (conjG a) Gs.zero w (conjG_Ok oa) Gs.zero_Ok hG; rw [natS_gzr, natS_gzi] at h; exact h),
    callt_row rfl fun w B0 c0 hG hB hC => lAll06_i B0 c0 [2, gmulE (conjG a) Gs.zero] w (by simp) (ers_of hB hC rfl) i3,
    trivial⟩
  have fin : ∀ v, @comes (GaussField_obo_k b1 b2 b3 b4 b5 b6 b7) Tryd.prog glT 3000 4 [.agg [.sym 0, .sym 1, .sym 2, .sym 3, .sym 4, .sym 5], .agg [.sym 6, .sym 7, .sym 8, .sym 9, .sym 10, .sym 11], .agg [.sym 12, .sym 13, .sym 14, .sym 15, .sym 16, .sym 17]] = some v → ground v = true → Ending.returned (gval v) = .returned (.bool true) → Calls Tryd.prog 4 #[.agg #[.bool a.re.g, .string (natS a.re.n), .int .i64 a.re.x, .bool a.im.g, .string (natS a.im.n), .int .i64 a.im.x], .agg #[.bool b.re.g, .string b.re.s, .int .i64 b.re.x, .bool b.im.g, .string b.im.s, .int .i64 b.im.x], .agg #[.bool c.re.g, .string (natS c.re.n), .int .i64 c.re.x, .bool c.im.g, .string (natS c.im.n), .int .i64 c.im.x]] w fun e w' => e = .returned (.bool true) ∧ Below w.heap.size w w' := fun v h1 h2 h3 => (@sym_ok _ (GaussField_obo_k b1 b2 b3 b4 b5 b6 b7) _ (@KnowOk.of _ (GaussField_obo_k b1 b2 b3 b4 b5 b6 b7) _ hops hcalls) (by kernel_rfl) _ _ _ _ h1 rfl h2 _ hG).mono fun e w' h => ⟨h.1.trans h3, h.2⟩
  clear hops hcalls
  cases b1 with
  | true =>
    exact absurd (i1.1 rfl) (fun h => absurd (allB_iff.1 h 2 (by simp)) (by decide))
  | false =>
    have h1 : ¬ (allB [2, gmulE Gs.zero c, 2, gmulE a Gs.zero] = true) := fun c => Bool.false_ne_true (i1.2 c)
    cases b2 with
    | true =>
      exact absurd (i2.1 rfl) (fun h => absurd (allB_iff.1 h 2 (by simp)) (by decide))
    | false =>
      have h2 : ¬ (allB [2, gmulE Gs.zero c, 2, gmulE a c, gaddE (gmulD a c) Gs.zero] = true) := fun c => Bool.false_ne_true (i2.2 c)
      cases b4 with
      | true =>
        have h4 : gmulE a Gs.i = 0 := i4.1 rfl
        cases b5 with
        | true =>
          have h5 : turnG a = gmulD a Gs.i := i5.1 rfl
          cases b6 with
          | true =>
            have h6 : turnG (turnG a) = neG a := i6.1 rfl
            cases b7 with
            | true =>
              have h7 : conjG (conjG a) = a := i7.1 rfl
              cases b3 with
              | true =>
                exact absurd (i3.1 rfl) (fun h => absurd (allB_iff.1 h 2 (by simp)) (by decide))
              | false =>
                have h3 : ¬ (allB [2, gmulE (conjG a) Gs.zero] = true) := fun c => Bool.false_ne_true (i3.2 c)
                exact fin _ (GaussField_obo_r1) rfl rfl
            | false =>
              exact absurd (i7.2 (gconj2 oa)) Bool.false_ne_true
          | false =>
            exact absurd (i6.2 (rfl)) Bool.false_ne_true
        | false =>
          exact absurd (i5.2 (gturn oa h4)) Bool.false_ne_true
      | false =>
        have h4 : ¬ (gmulE a Gs.i = 0) := fun c => Bool.false_ne_true (i4.2 c)
        cases b6 with
        | true =>
          have h6 : turnG (turnG a) = neG a := i6.1 rfl
          cases b7 with
          | true =>
            have h7 : conjG (conjG a) = a := i7.1 rfl
            cases b3 with
            | true =>
              exact absurd (i3.1 rfl) (fun h => absurd (allB_iff.1 h 2 (by simp)) (by decide))
            | false =>
              have h3 : ¬ (allB [2, gmulE (conjG a) Gs.zero] = true) := fun c => Bool.false_ne_true (i3.2 c)
              exact fin _ (GaussField_obo_r2 b5) rfl rfl
          | false =>
            exact absurd (i7.2 (gconj2 oa)) Bool.false_ne_true
        | false =>
          exact absurd (i6.2 (rfl)) Bool.false_ne_true

@[reducible] noncomputable def GaussField_obb_k (b1 b2 b3 b4 b5 b6 b7 : Bool) : Know := ⟨[([0, 11, 27], [.sym 38, .lit (.int .i64 0)], .lit (.bool b4)),
  ([0, 12, 26], [.agg [.sym 39, .sym 40, .sym 41, .sym 42, .sym 43, .sym 44], .agg [.sym 32, .sym 33, .sym 34, .sym 35, .sym 36, .sym 37]], .lit (.bool (!b5))),
  ([0, 12, 26], [.agg [.sym 45, .sym 46, .sym 47, .sym 48, .sym 49, .sym 50], .agg [.sym 51, .sym 52, .sym 53, .sym 54, .sym 55, .sym 56]], .lit (.bool (!b6))),
  ([0, 12, 26], [.agg [.sym 63, .sym 64, .sym 65, .sym 66, .sym 67, .sym 68], .agg [.sym 0, .sym 1, .sym 2, .sym 3, .sym 4, .sym 5]], .lit (.bool (!b7)))],
  [(16, [], .lit (.bool true)),
  (7, [.agg [.sym 0, .sym 1, .sym 2, .sym 3, .sym 4, .sym 5], .agg [.sym 6, .sym 7, .sym 8, .sym 9, .sym 10, .sym 11]], .lit (.tuple #[.agg #[.bool false, .string ⟨#[]⟩, .int .i64 0, .bool false, .string ⟨#[]⟩, .int .i64 0], .int .i64 2])),
  (7, [.agg [.sym 6, .sym 7, .sym 8, .sym 9, .sym 10, .sym 11], .agg [.sym 0, .sym 1, .sym 2, .sym 3, .sym 4, .sym 5]], .lit (.tuple #[.agg #[.bool false, .string ⟨#[]⟩, .int .i64 0, .bool false, .string ⟨#[]⟩, .int .i64 0], .int .i64 2])),
  (9, [.agg [.sym 0, .sym 1, .sym 2, .sym 3, .sym 4, .sym 5], .agg [.sym 6, .sym 7, .sym 8, .sym 9, .sym 10, .sym 11]], .lit (.tuple #[.agg #[.bool false, .string ⟨#[]⟩, .int .i64 0, .bool false, .string ⟨#[]⟩, .int .i64 0], .int .i64 2])),
  (9, [.agg [.sym 6, .sym 7, .sym 8, .sym 9, .sym 10, .sym 11], .agg [.sym 0, .sym 1, .sym 2, .sym 3, .sym 4, .sym 5]], .lit (.tuple #[.agg #[.bool false, .string ⟨#[]⟩, .int .i64 0, .bool false, .string ⟨#[]⟩, .int .i64 0], .int .i64 2])),
  (9, [.lit (.agg #[.bool false, .string ⟨#[]⟩, .int .i64 0, .bool false, .string ⟨#[]⟩, .int .i64 0]), .agg [.sym 12, .sym 13, .sym 14, .sym 15, .sym 16, .sym 17]], .lit (.tuple #[.agg #[.bool false, .string ⟨#[]⟩, .int .i64 0, .bool false, .string ⟨#[]⟩, .int .i64 0], .int .i64 2])),
  (9, [.agg [.sym 6, .sym 7, .sym 8, .sym 9, .sym 10, .sym 11], .agg [.sym 12, .sym 13, .sym 14, .sym 15, .sym 16, .sym 17]], .lit (.tuple #[.agg #[.bool false, .string ⟨#[]⟩, .int .i64 0, .bool false, .string ⟨#[]⟩, .int .i64 0], .int .i64 2])),
  (9, [.agg [.sym 0, .sym 1, .sym 2, .sym 3, .sym 4, .sym 5], .lit (.agg #[.bool false, .string ⟨#[]⟩, .int .i64 0, .bool false, .string ⟨#[]⟩, .int .i64 0])], .tup [.agg [.sym 18, .sym 19, .sym 20, .sym 21, .sym 22, .sym 23], .sym 24]),
  (20, [.row 4 0 [.lit (.int .i64 2), .lit (.int .i64 2), .lit (.int .i64 2), .sym 24]], .lit (.bool b1)),
  (9, [.agg [.sym 0, .sym 1, .sym 2, .sym 3, .sym 4, .sym 5], .agg [.sym 12, .sym 13, .sym 14, .sym 15, .sym 16, .sym 17]], .lit (.tuple #[.agg #[.bool false, .string ⟨#[]⟩, .int .i64 0, .bool false, .string ⟨#[]⟩, .int .i64 0], .int .i64 2])),
  (7, [.lit (.agg #[.bool false, .string ⟨#[]⟩, .int .i64 0, .bool false, .string ⟨#[]⟩, .int .i64 0]), .lit (.agg #[.bool false, .string ⟨#[]⟩, .int .i64 0, .bool false, .string ⟨#[]⟩, .int .i64 0])], .tup [.agg [.sym 25, .sym 26, .sym 27, .sym 28, .sym 29, .sym 30], .sym 31]),
  (20, [.row 5 0 [.lit (.int .i64 2), .lit (.int .i64 2), .lit (.int .i64 2), .lit (.int .i64 2), .sym 31]], .lit (.bool b2)),
  (21, [.agg [.sym 0, .sym 1, .sym 2, .sym 3, .sym 4, .sym 5]], .lit (.int .i64 0)),
  (9, [.agg [.sym 0, .sym 1, .sym 2, .sym 3, .sym 4, .sym 5], .lit (.agg #[.bool false, .string ⟨#[]⟩, .int .i64 0, .bool false, .string ⟨#[1]⟩, .int .i64 0])], .tup [.agg [.sym 32, .sym 33, .sym 34, .sym 35, .sym 36, .sym 37], .sym 38]),
  (22, [.agg [.sym 0, .sym 1, .sym 2, .sym 3, .sym 4, .sym 5]], .agg [.sym 39, .sym 40, .sym 41, .sym 42, .sym 43, .sym 44]),
  (22, [.agg [.sym 39, .sym 40, .sym 41, .sym 42, .sym 43, .sym 44]], .agg [.sym 45, .sym 46, .sym 47, .sym 48, .sym 49, .sym 50]),
  (23, [.agg [.sym 0, .sym 1, .sym 2, .sym 3, .sym 4, .sym 5]], .agg [.sym 51, .sym 52, .sym 53, .sym 54, .sym 55, .sym 56]),
  (24, [.agg [.sym 0, .sym 1, .sym 2, .sym 3, .sym 4, .sym 5]], .agg [.sym 57, .sym 58, .sym 59, .sym 60, .sym 61, .sym 62]),
  (24, [.agg [.sym 57, .sym 58, .sym 59, .sym 60, .sym 61, .sym 62]], .agg [.sym 63, .sym 64, .sym 65, .sym 66, .sym 67, .sym 68]),
  (24, [.agg [.sym 6, .sym 7, .sym 8, .sym 9, .sym 10, .sym 11]], .lit (.agg #[.bool false, .string ⟨#[]⟩, .int .i64 0, .bool false, .string ⟨#[]⟩, .int .i64 0])),
  (9, [.agg [.sym 57, .sym 58, .sym 59, .sym 60, .sym 61, .sym 62], .lit (.agg #[.bool false, .string ⟨#[]⟩, .int .i64 0, .bool false, .string ⟨#[]⟩, .int .i64 0])], .tup [.agg [.sym 69, .sym 70, .sym 71, .sym 72, .sym 73, .sym 74], .sym 75]),
  (20, [.row 2 0 [.lit (.int .i64 2), .sym 75]], .lit (.bool b3))]⟩
theorem GaussField_obb_r1 : @comes (GaussField_obb_k false false false true true true true) Tryd.prog glT 3000 4 [.agg [.sym 0, .sym 1, .sym 2, .sym 3, .sym 4, .sym 5], .agg [.sym 6, .sym 7, .sym 8, .sym 9, .sym 10, .sym 11], .agg [.sym 12, .sym 13, .sym 14, .sym 15, .sym 16, .sym 17]] = some (.lit (.bool true)) := by kernel_rfl
theorem GaussField_obb_r2 (b5 : Bool) : @comes (GaussField_obb_k false false false false b5 true true) Tryd.prog glT 3000 4 [.agg [.sym 0, .sym 1, .sym 2, .sym 3, .sym 4, .sym 5], .agg [.sym 6, .sym 7, .sym 8, .sym 9, .sym 10, .sym 11], .agg [.sym 12, .sym 13, .sym 14, .sym 15, .sym 16, .sym 17]] = some (.lit (.bool true)) := by kernel_rfl
set_option maxRecDepth 100000 in
theorem GaussField_obb (a : Gs) (b : Gt) (c : Gt) (w : World) (oa : a.Ok) (zb : b.Small) (nb : ¬ b.Ok) (zc : c.Small) (nc : ¬ c.Ok) (hG : Globs glT w) : Calls Tryd.prog 4 #[.agg #[.bool a.re.g, .string (natS a.re.n), .int .i64 a.re.x, .bool a.im.g, .string (natS a.im.n), .int .i64 a.im.x], .agg #[.bool b.re.g, .string b.re.s, .int .i64 b.re.x, .bool b.im.g, .string b.im.s, .int .i64 b.im.x], .agg #[.bool c.re.g, .string c.re.s, .int .i64 c.re.x, .bool c.im.g, .string c.im.s, .int .i64 c.im.x]] w fun e w' => e = .returned (.bool true) ∧ Below w.heap.size w w' := by
  obtain ⟨b1, i1⟩ := bex (allB [2, 2, 2, gmulE a Gs.zero] = true)
  obtain ⟨b2, i2⟩ := bex (allB [2, 2, 2, 2, gaddE Gs.zero Gs.zero] = true)
  obtain ⟨b3, i3⟩ := bex (allB [2, gmulE (conjG a) Gs.zero] = true)
  obtain ⟨b4, i4⟩ := bex (gmulE a Gs.i = 0)
  obtain ⟨b5, i5⟩ := bex (turnG a = gmulD a Gs.i)
  obtain ⟨b6, i6⟩ := bex (turnG (turnG a) = neG a)
  obtain ⟨b7, i7⟩ := bex (conjG (conjG a) = a)
  letI : Env := mkEnv glT [.bool a.re.g, .string (natS a.re.n), .int .i64 a.re.x, .bool a.im.g, .string (natS a.im.n), .int .i64 a.im.x, .bool b.re.g, .string b.re.s, .int .i64 b.re.x, .bool b.im.g, .string b.im.s, .int .i64 b.im.x, .bool c.re.g, .string c.re.s, .int .i64 c.re.x, .bool c.im.g, .string c.im.s, .int .i64 c.im.x, .bool ((gmulD a Gs.zero).re).g, .string (natS ((gmulD a Gs.zero).re).n), .int .i64 ((gmulD a Gs.zero).re).x, .bool ((gmulD a Gs.zero).im).g, .string (natS ((gmulD a Gs.zero).im).n), .int .i64 ((gmulD a Gs.zero).im).x, .int .i64 (gmulE a Gs.zero), .bool ((gaddD Gs.zero Gs.zero).re).g, .string (natS ((gaddD Gs.zero Gs.zero).re).n), .int .i64 ((gaddD Gs.zero Gs.zero).re).x, .bool ((gaddD Gs.zero Gs.zero).im).g, .string (natS ((gaddD Gs.zero Gs.zero).im).n), .int .i64 ((gaddD Gs.zero Gs.zero).im).x, .int .i64 (gaddE Gs.zero Gs.zero), .bool ((gmulD a Gs.i).re).g, .string (natS ((gmulD a Gs.i).re).n), .int .i64 ((gmulD a Gs.i).re).x, .bool ((gmulD a Gs.i).im).g, .string (natS ((gmulD a Gs.i).im).n), .int .i64 ((gmulD a Gs.i).im).x, .int .i64 (gmulE a Gs.i), .bool ((turnG a).re).g, .string (natS ((turnG a).re).n), .int .i64 ((turnG a).re).x, .bool ((turnG a).im).g, .string (natS ((turnG a).im).n), .int .i64 ((turnG a).im).x, .bool ((turnG (turnG a)).re).g, .string (natS ((turnG (turnG a)).re).n), .int .i64 ((turnG (turnG a)).re).x, .bool ((turnG (turnG a)).im).g, .string (natS ((turnG (turnG a)).im).n), .int .i64 ((turnG (turnG a)).im).x, .bool ((neG a).re).g, .string (natS ((neG a).re).n), .int .i64 ((neG a).re).x, .bool ((neG a).im).g, .string (natS ((neG a).im).n), .int .i64 ((neG a).im).x, .bool ((conjG a).re).g, .string (natS ((conjG a).re).n), .int .i64 ((conjG a).re).x, .bool ((conjG a).im).g, .string (natS ((conjG a).im).n), .int .i64 ((conjG a).im).x, .bool ((conjG (conjG a)).re).g, .string (natS ((conjG (conjG a)).re).n), .int .i64 ((conjG (conjG a)).re).x, .bool ((conjG (conjG a)).im).g, .string (natS ((conjG (conjG a)).im).n), .int .i64 ((conjG (conjG a)).im).x, .bool ((gmulD (conjG a) Gs.zero).re).g, .string (natS ((gmulD (conjG a) Gs.zero).re).n), .int .i64 ((gmulD (conjG a) Gs.zero).re).x, .bool ((gmulD (conjG a) Gs.zero).im).g, .string (natS ((gmulD (conjG a) Gs.zero).im).n), .int .i64 ((gmulD (conjG a) Gs.zero).im).x, .int .i64 (gmulE (conjG a) Gs.zero)] rfl
  have hops : OpsT Tryd.prog (@Know.ops (GaussField_obb_k b1 b2 b3 b4 b5 b6 b7)) := ⟨opt_eql_i rfl rfl i4,
    optG_neq_i (a := turnG a) (b := gmulD a Gs.i) rfl rfl i5,
    optG_neq_i (a := turnG (turnG a)) (b := neG a) rfl rfl i6,
    optG_neq_i (a := conjG (conjG a)) (b := a) rfl rfl i7,
    trivial⟩
  have hcalls : CallsT Tryd.prog (@Know.calls (GaussField_obb_k b1 b2 b3 b4 b5 b6 b7)) := ⟨callt rfl rfl fun w hG => awake6_c w hG,
    callt rfl rfl fun w hG => GAdd_bad a.t b w (gs_small oa) zb (fun c => nb c.2) hG,
    callt rfl rfl fun w hG => GAdd_bad b a.t w zb (gs_small oa) (fun c => nb c.1) hG,
    callt rfl rfl fun w hG => GMul_bad a.t b w (gs_small oa) zb (fun c => nb c.2) hG,
    callt rfl rfl fun w hG => GMul_bad b a.t w zb (gs_small oa) (fun c => nb c.1) hG,
    callt rfl rfl fun w hG => GMul_bad Gt.zero c w ⟨Nat.zero_le _, Nat.zero_le _⟩ zc (fun c => nc c.2) hG,
    callt rfl rfl fun w hG => GMul_bad b c w zb zc (fun c => nb c.1) hG,
    callt rfl rfl fun w hG => (by have h := GMul_c a Gs.zero w oa Gs.zero_Ok hG; rw [natS_gzr, natS_gzi] at h; exact h),
    callt_row rfl fun w B0 c0 hG hB hC => lAll06_i B0 c0 [2, 2, 2, gmulE a Gs.zero] w (by simp) (ers_of hB hC rfl) i1,
    callt rfl rfl fun w hG => GMul_bad a.t c w (gs_small oa) zc (fun c => nc c.2) hG,
    callt rfl rfl fun w hG => (by have h := GAdd_c Gs.zero Gs.zero w Gs.zero_Ok Gs.zero_Ok hG; rw [natS_gzr, natS_gzi] at h; exact h),
    callt_row rfl fun w B0 c0 hG hB hC => lAll06_i B0 c0 [2, 2, 2, 2, gaddE Gs.zero Gs.zero] w (by simp) (ers_of hB hC rfl) i2,
    callt rfl rfl fun w hG => GCheck_gs a oa w hG,
    callt rfl rfl fun w hG => (by have h := GMul_c a Gs.i w oa Gs.i_Ok hG; rw [natS_ir, natS_ii] at h; exact h),
    callt rfl rfl fun w hG => GTurn_c a w oa hG,
    callt rfl rfl fun w hG => GTurn_c (turnG a) w (turnG_Ok oa) hG,
    callt rfl rfl fun w hG => GNeg_c a w oa hG,
    callt rfl rfl fun w hG => GConj_c a w oa hG,
    callt rfl rfl fun w hG => GConj_c (conjG a) w (conjG_Ok oa) hG,
    callt rfl rfl fun w hG => GConj_bad b w zb nb hG,
    callt rfl rfl fun w hG => (by have h := GMul_c (conjG a) Gs.zero w (conjG_Ok oa) Gs.zero_Ok hG; rw [natS_gzr, natS_gzi] at h; exact h),
    callt_row rfl fun w B0 c0 hG hB hC => lAll06_i B0 c0 [2, gmulE (conjG a) Gs.zero] w (by simp) (ers_of hB hC rfl) i3,
    trivial⟩
  have fin : ∀ v, @comes (GaussField_obb_k b1 b2 b3 b4 b5 b6 b7) Tryd.prog glT 3000 4 [.agg [.sym 0, .sym 1, .sym 2, .sym 3, .sym 4, .sym 5], .agg [.sym 6, .sym 7, .sym 8, .sym 9, .sym 10, .sym 11], .agg [.sym 12, .sym 13, .sym 14, .sym 15, .sym 16, .sym 17]] = some v → ground v = true → Ending.returned (gval v) = .returned (.bool true) → Calls Tryd.prog 4 #[.agg #[.bool a.re.g, .string (natS a.re.n), .int .i64 a.re.x, .bool a.im.g, .string (natS a.im.n), .int .i64 a.im.x], .agg #[.bool b.re.g, .string b.re.s, .int .i64 b.re.x, .bool b.im.g, .string b.im.s, .int .i64 b.im.x], .agg #[.bool c.re.g, .string c.re.s, .int .i64 c.re.x, .bool c.im.g, .string c.im.s, .int .i64 c.im.x]] w fun e w' => e = .returned (.bool true) ∧ Below w.heap.size w w' := fun v h1 h2 h3 => (@sym_ok _ (GaussField_obb_k b1 b2 b3 b4 b5 b6 b7) _ (@KnowOk.of _ (GaussField_obb_k b1 b2 b3 b4 b5 b6 b7) _ hops hcalls) (by kernel_rfl) _ _ _ _ h1 rfl h2 _ hG).mono fun e w' h => ⟨h.1.trans h3, h.2⟩
  clear hops hcalls
  cases b1 with
  | true =>
    exact absurd (i1.1 rfl) (fun h => absurd (allB_iff.1 h 2 (by simp)) (by decide))
  | false =>
    have h1 : ¬ (allB [2, 2, 2, gmulE a Gs.zero] = true) := fun c => Bool.false_ne_true (i1.2 c)
    cases b2 with
    | true =>
      exact absurd (i2.1 rfl) (fun h => absurd (allB_iff.1 h 2 (by simp)) (by decide))
    | false =>
      have h2 : ¬ (allB [2, 2, 2, 2, gaddE Gs.zero Gs.zero] = true) := fun c => Bool.false_ne_true (i2.2 c)
      cases b4 with
      | true =>
        have h4 : gmulE a Gs.i = 0 := i4.1 rfl
        cases b5 with
        | true =>
          have h5 : turnG a = gmulD a Gs.i := i5.1 rfl
          cases b6 with
          | true =>
            have h6 : turnG (turnG a) = neG a := i6.1 rfl
            cases b7 with
            | true =>
              have h7 : conjG (conjG a) = a := i7.1 rfl
              cases b3 with
              | true =>
                exact absurd (i3.1 rfl) (fun h => absurd (allB_iff.1 h 2 (by simp)) (by decide))
              | false =>
                have h3 : ¬ (allB [2, gmulE (conjG a) Gs.zero] = true) := fun c => Bool.false_ne_true (i3.2 c)
                exact fin _ (GaussField_obb_r1) rfl rfl
            | false =>
              exact absurd (i7.2 (gconj2 oa)) Bool.false_ne_true
          | false =>
            exact absurd (i6.2 (rfl)) Bool.false_ne_true
        | false =>
          exact absurd (i5.2 (gturn oa h4)) Bool.false_ne_true
      | false =>
        have h4 : ¬ (gmulE a Gs.i = 0) := fun c => Bool.false_ne_true (i4.2 c)
        cases b6 with
        | true =>
          have h6 : turnG (turnG a) = neG a := i6.1 rfl
          cases b7 with
          | true =>
            have h7 : conjG (conjG a) = a := i7.1 rfl
            cases b3 with
            | true =>
              exact absurd (i3.1 rfl) (fun h => absurd (allB_iff.1 h 2 (by simp)) (by decide))
            | false =>
              have h3 : ¬ (allB [2, gmulE (conjG a) Gs.zero] = true) := fun c => Bool.false_ne_true (i3.2 c)
              exact fin _ (GaussField_obb_r2 b5) rfl rfl
          | false =>
            exact absurd (i7.2 (gconj2 oa)) Bool.false_ne_true
        | false =>
          exact absurd (i6.2 (rfl)) Bool.false_ne_true

@[reducible] noncomputable def GaussField_boo_k (b1 b2 : Bool) : Know := ⟨[],
  [(16, [], .lit (.bool true)),
  (7, [.agg [.sym 0, .sym 1, .sym 2, .sym 3, .sym 4, .sym 5], .agg [.sym 6, .sym 7, .sym 8, .sym 9, .sym 10, .sym 11]], .lit (.tuple #[.agg #[.bool false, .string ⟨#[]⟩, .int .i64 0, .bool false, .string ⟨#[]⟩, .int .i64 0], .int .i64 2])),
  (7, [.agg [.sym 6, .sym 7, .sym 8, .sym 9, .sym 10, .sym 11], .agg [.sym 0, .sym 1, .sym 2, .sym 3, .sym 4, .sym 5]], .lit (.tuple #[.agg #[.bool false, .string ⟨#[]⟩, .int .i64 0, .bool false, .string ⟨#[]⟩, .int .i64 0], .int .i64 2])),
  (9, [.agg [.sym 0, .sym 1, .sym 2, .sym 3, .sym 4, .sym 5], .agg [.sym 6, .sym 7, .sym 8, .sym 9, .sym 10, .sym 11]], .lit (.tuple #[.agg #[.bool false, .string ⟨#[]⟩, .int .i64 0, .bool false, .string ⟨#[]⟩, .int .i64 0], .int .i64 2])),
  (9, [.agg [.sym 6, .sym 7, .sym 8, .sym 9, .sym 10, .sym 11], .agg [.sym 0, .sym 1, .sym 2, .sym 3, .sym 4, .sym 5]], .lit (.tuple #[.agg #[.bool false, .string ⟨#[]⟩, .int .i64 0, .bool false, .string ⟨#[]⟩, .int .i64 0], .int .i64 2])),
  (9, [.lit (.agg #[.bool false, .string ⟨#[]⟩, .int .i64 0, .bool false, .string ⟨#[]⟩, .int .i64 0]), .agg [.sym 12, .sym 13, .sym 14, .sym 15, .sym 16, .sym 17]], .tup [.agg [.sym 18, .sym 19, .sym 20, .sym 21, .sym 22, .sym 23], .sym 24]),
  (9, [.agg [.sym 6, .sym 7, .sym 8, .sym 9, .sym 10, .sym 11], .agg [.sym 12, .sym 13, .sym 14, .sym 15, .sym 16, .sym 17]], .tup [.agg [.sym 25, .sym 26, .sym 27, .sym 28, .sym 29, .sym 30], .sym 31]),
  (9, [.agg [.sym 0, .sym 1, .sym 2, .sym 3, .sym 4, .sym 5], .agg [.sym 25, .sym 26, .sym 27, .sym 28, .sym 29, .sym 30]], .lit (.tuple #[.agg #[.bool false, .string ⟨#[]⟩, .int .i64 0, .bool false, .string ⟨#[]⟩, .int .i64 0], .int .i64 2])),
  (20, [.row 4 0 [.lit (.int .i64 2), .sym 24, .sym 31, .lit (.int .i64 2)]], .lit (.bool b1)),
  (9, [.agg [.sym 0, .sym 1, .sym 2, .sym 3, .sym 4, .sym 5], .agg [.sym 12, .sym 13, .sym 14, .sym 15, .sym 16, .sym 17]], .lit (.tuple #[.agg #[.bool false, .string ⟨#[]⟩, .int .i64 0, .bool false, .string ⟨#[]⟩, .int .i64 0], .int .i64 2])),
  (7, [.lit (.agg #[.bool false, .string ⟨#[]⟩, .int .i64 0, .bool false, .string ⟨#[]⟩, .int .i64 0]), .agg [.sym 25, .sym 26, .sym 27, .sym 28, .sym 29, .sym 30]], .tup [.agg [.sym 32, .sym 33, .sym 34, .sym 35, .sym 36, .sym 37], .sym 38]),
  (20, [.row 5 0 [.lit (.int .i64 2), .sym 24, .sym 31, .lit (.int .i64 2), .sym 38]], .lit (.bool b2)),
  (21, [.agg [.sym 0, .sym 1, .sym 2, .sym 3, .sym 4, .sym 5]], .lit (.int .i64 2))]⟩
theorem GaussField_boo_r1 : @comes (GaussField_boo_k false false) Tryd.prog glT 3000 4 [.agg [.sym 0, .sym 1, .sym 2, .sym 3, .sym 4, .sym 5], .agg [.sym 6, .sym 7, .sym 8, .sym 9, .sym 10, .sym 11], .agg [.sym 12, .sym 13, .sym 14, .sym 15, .sym 16, .sym 17]] = some (.lit (.bool true)) := by kernel_rfl
set_option maxRecDepth 100000 in
theorem GaussField_boo (a : Gt) (b : Gs) (c : Gs) (w : World) (za : a.Small) (na : ¬ a.Ok) (ob : b.Ok) (oc : c.Ok) (hG : Globs glT w) : Calls Tryd.prog 4 #[.agg #[.bool a.re.g, .string a.re.s, .int .i64 a.re.x, .bool a.im.g, .string a.im.s, .int .i64 a.im.x], .agg #[.bool b.re.g, .string (natS b.re.n), .int .i64 b.re.x, .bool b.im.g, .string (natS b.im.n), .int .i64 b.im.x], .agg #[.bool c.re.g, .string (natS c.re.n), .int .i64 c.re.x, .bool c.im.g, .string (natS c.im.n), .int .i64 c.im.x]] w fun e w' => e = .returned (.bool true) ∧ Below w.heap.size w w' := by
  obtain ⟨b1, i1⟩ := bex (allB [2, gmulE Gs.zero c, gmulE b c, 2] = true)
  obtain ⟨b2, i2⟩ := bex (allB [2, gmulE Gs.zero c, gmulE b c, 2, gaddE Gs.zero (gmulD b c)] = true)
  letI : Env := mkEnv glT [.bool a.re.g, .string a.re.s, .int .i64 a.re.x, .bool a.im.g, .string a.im.s, .int .i64 a.im.x, .bool b.re.g, .string (natS b.re.n), .int .i64 b.re.x, .bool b.im.g, .string (natS b.im.n), .int .i64 b.im.x, .bool c.re.g, .string (natS c.re.n), .int .i64 c.re.x, .bool c.im.g, .string (natS c.im.n), .int .i64 c.im.x, .bool ((gmulD Gs.zero c).re).g, .string (natS ((gmulD Gs.zero c).re).n), .int .i64 ((gmulD Gs.zero c).re).x, .bool ((gmulD Gs.zero c).im).g, .string (natS ((gmulD Gs.zero c).im).n), .int .i64 ((gmulD Gs.zero c).im).x, .int .i64 (gmulE Gs.zero c), .bool ((gmulD b c).re).g, .string (natS ((gmulD b c).re).n), .int .i64 ((gmulD b c).re).x, .bool ((gmulD b c).im).g, .string (natS ((gmulD b c).im).n), .int .i64 ((gmulD b c).im).x, .int .i64 (gmulE b c), .bool ((gaddD Gs.zero (gmulD b c)).re).g, .string (natS ((gaddD Gs.zero (gmulD b c)).re).n), .int .i64 ((gaddD Gs.zero (gmulD b c)).re).x, .bool ((gaddD Gs.zero (gmulD b c)).im).g, .string (natS ((gaddD Gs.zero (gmulD b c)).im).n), .int .i64 ((gaddD Gs.zero (gmulD b c)).im).x, .int .i64 (gaddE Gs.zero (gmulD b c))] rfl
  have hops : OpsT Tryd.prog (@Know.ops (GaussField_boo_k b1 b2)) := trivial
  have hcalls : CallsT Tryd.prog (@Know.calls (GaussField_boo_k b1 b2)) := ⟨callt rfl rfl fun w hG => awake6_c w hG,
    callt rfl rfl fun w hG => GAdd_bad a b.t w za (gs_small ob) (fun c => na c.1) hG,
    callt rfl rfl fun w hG => GAdd_bad b.t a w (gs_small ob) za (fun c => na c.2) hG,
    callt rfl rfl fun w hG => GMul_bad a b.t w za (gs_small ob) (fun c => na c.1) hG,
    callt rfl rfl fun w hG => GMul_bad b.t a w (gs_small ob) za (fun c => na c.2) hG,
    callt rfl rfl fun w hG => (by have h := GMul_c Gs.zero c w Gs.zero_Ok oc hG; rw [natS_gzr, natS_gzi] at h; exact h),
    callt rfl rfl fun w hG => GMul_c b c w ob oc hG,
    callt rfl rfl fun w hG => GMul_bad a (gmulD b c).t w za (gs_small (gmulD_Ok b c)) (fun c => na c.1) hG,
    callt_row rfl fun w B0 c0 hG hB hC => lAll06_i B0 c0 [2, gmulE Gs.zero c, gmulE b c, 2] w (by simp) (ers_of hB hC rfl) i1,
    callt rfl rfl fun w hG => GMul_bad a c.t w za (gs_small oc) (fun c => na c.1) hG,
    callt rfl rfl fun w hG => (by have h := GAdd_c Gs.zero (gmulD b c) w Gs.zero_Ok (gmulD_Ok b c) hG; rw [natS_gzr, natS_gzi] at h; exact h),
    callt_row rfl fun w B0 c0 hG hB hC => lAll06_i B0 c0 [2, gmulE Gs.zero c, gmulE b c, 2, gaddE Gs.zero (gmulD b c)] w (by simp) (ers_of hB hC rfl) i2,
    callt rfl rfl fun w hG => GCheck_no a za na w hG,
    trivial⟩
  have fin : ∀ v, @comes (GaussField_boo_k b1 b2) Tryd.prog glT 3000 4 [.agg [.sym 0, .sym 1, .sym 2, .sym 3, .sym 4, .sym 5], .agg [.sym 6, .sym 7, .sym 8, .sym 9, .sym 10, .sym 11], .agg [.sym 12, .sym 13, .sym 14, .sym 15, .sym 16, .sym 17]] = some v → ground v = true → Ending.returned (gval v) = .returned (.bool true) → Calls Tryd.prog 4 #[.agg #[.bool a.re.g, .string a.re.s, .int .i64 a.re.x, .bool a.im.g, .string a.im.s, .int .i64 a.im.x], .agg #[.bool b.re.g, .string (natS b.re.n), .int .i64 b.re.x, .bool b.im.g, .string (natS b.im.n), .int .i64 b.im.x], .agg #[.bool c.re.g, .string (natS c.re.n), .int .i64 c.re.x, .bool c.im.g, .string (natS c.im.n), .int .i64 c.im.x]] w fun e w' => e = .returned (.bool true) ∧ Below w.heap.size w w' := fun v h1 h2 h3 => (@sym_ok _ (GaussField_boo_k b1 b2) _ (@KnowOk.of _ (GaussField_boo_k b1 b2) _ hops hcalls) (by kernel_rfl) _ _ _ _ h1 rfl h2 _ hG).mono fun e w' h => ⟨h.1.trans h3, h.2⟩
  clear hops hcalls
  cases b1 with
  | true =>
    exact absurd (i1.1 rfl) (fun h => absurd (allB_iff.1 h 2 (by simp)) (by decide))
  | false =>
    have h1 : ¬ (allB [2, gmulE Gs.zero c, gmulE b c, 2] = true) := fun c => Bool.false_ne_true (i1.2 c)
    cases b2 with
    | true =>
      exact absurd (i2.1 rfl) (fun h => absurd (allB_iff.1 h 2 (by simp)) (by decide))
    | false =>
      have h2 : ¬ (allB [2, gmulE Gs.zero c, gmulE b c, 2, gaddE Gs.zero (gmulD b c)] = true) := fun c => Bool.false_ne_true (i2.2 c)
      exact fin _ (GaussField_boo_r1) rfl rfl

@[reducible] noncomputable def GaussField_bob_k (b1 b2 : Bool) : Know := ⟨[],
  [(16, [], .lit (.bool true)),
  (7, [.agg [.sym 0, .sym 1, .sym 2, .sym 3, .sym 4, .sym 5], .agg [.sym 6, .sym 7, .sym 8, .sym 9, .sym 10, .sym 11]], .lit (.tuple #[.agg #[.bool false, .string ⟨#[]⟩, .int .i64 0, .bool false, .string ⟨#[]⟩, .int .i64 0], .int .i64 2])),
  (7, [.agg [.sym 6, .sym 7, .sym 8, .sym 9, .sym 10, .sym 11], .agg [.sym 0, .sym 1, .sym 2, .sym 3, .sym 4, .sym 5]], .lit (.tuple #[.agg #[.bool false, .string ⟨#[]⟩, .int .i64 0, .bool false, .string ⟨#[]⟩, .int .i64 0], .int .i64 2])),
  (9, [.agg [.sym 0, .sym 1, .sym 2, .sym 3, .sym 4, .sym 5], .agg [.sym 6, .sym 7, .sym 8, .sym 9, .sym 10, .sym 11]], .lit (.tuple #[.agg #[.bool false, .string ⟨#[]⟩, .int .i64 0, .bool false, .string ⟨#[]⟩, .int .i64 0], .int .i64 2])),
  (9, [.agg [.sym 6, .sym 7, .sym 8, .sym 9, .sym 10, .sym 11], .agg [.sym 0, .sym 1, .sym 2, .sym 3, .sym 4, .sym 5]], .lit (.tuple #[.agg #[.bool false, .string ⟨#[]⟩, .int .i64 0, .bool false, .string ⟨#[]⟩, .int .i64 0], .int .i64 2])),
  (9, [.lit (.agg #[.bool false, .string ⟨#[]⟩, .int .i64 0, .bool false, .string ⟨#[]⟩, .int .i64 0]), .agg [.sym 12, .sym 13, .sym 14, .sym 15, .sym 16, .sym 17]], .lit (.tuple #[.agg #[.bool false, .string ⟨#[]⟩, .int .i64 0, .bool false, .string ⟨#[]⟩, .int .i64 0], .int .i64 2])),
  (9, [.agg [.sym 6, .sym 7, .sym 8, .sym 9, .sym 10, .sym 11], .agg [.sym 12, .sym 13, .sym 14, .sym 15, .sym 16, .sym 17]], .lit (.tuple #[.agg #[.bool false, .string ⟨#[]⟩, .int .i64 0, .bool false, .string ⟨#[]⟩, .int .i64 0], .int .i64 2])),
  (9, [.agg [.sym 0, .sym 1, .sym 2, .sym 3, .sym 4, .sym 5], .lit (.agg #[.bool false, .string ⟨#[]⟩, .int .i64 0, .bool false, .string ⟨#[]⟩, .int .i64 0])], .lit (.tuple #[.agg #[.bool false, .string ⟨#[]⟩, .int .i64 0, .bool false, .string ⟨#[]⟩, .int .i64 0], .int .i64 2])),
  (20, [.row 4 0 [.lit (.int .i64 2), .lit (.int .i64 2), .lit (.int .i64 2), .lit (.int .i64 2)]], .lit (.bool b1)),
  (9, [.agg [.sym 0, .sym 1, .sym 2, .sym 3, .sym 4, .sym 5], .agg [.sym 12, .sym 13, .sym 14, .sym 15, .sym 16, .sym 17]], .lit (.tuple #[.agg #[.bool false, .string ⟨#[]⟩, .int .i64 0, .bool false, .string ⟨#[]⟩, .int .i64 0], .int .i64 2])),
  (7, [.lit (.agg #[.bool false, .string ⟨#[]⟩, .int .i64 0, .bool false, .string ⟨#[]⟩, .int .i64 0]), .lit (.agg #[.bool false, .string ⟨#[]⟩, .int .i64 0, .bool false, .string ⟨#[]⟩, .int .i64 0])], .tup [.agg [.sym 18, .sym 19, .sym 20, .sym 21, .sym 22, .sym 23], .sym 24]),
  (20, [.row 5 0 [.lit (.int .i64 2), .lit (.int .i64 2), .lit (.int .i64 2), .lit (.int .i64 2), .sym 24]], .lit (.bool b2)),
  (21, [.agg [.sym 0, .sym 1, .sym 2, .sym 3, .sym 4, .sym 5]], .lit (.int .i64 2))]⟩
theorem GaussField_bob_r1 : @comes (GaussField_bob_k false false) Tryd.prog glT 3000 4 [.agg [.sym 0, .sym 1, .sym 2, .sym 3, .sym 4, .sym 5], .agg [.sym 6, .sym 7, .sym 8, .sym 9, .sym 10, .sym 11], .agg [.sym 12, .sym 13, .sym 14, .sym 15, .sym 16, .sym 17]] = some (.lit (.bool true)) := by kernel_rfl
set_option maxRecDepth 100000 in
theorem GaussField_bob (a : Gt) (b : Gs) (c : Gt) (w : World) (za : a.Small) (na : ¬ a.Ok) (ob : b.Ok) (zc : c.Small) (nc : ¬ c.Ok) (hG : Globs glT w) : Calls Tryd.prog 4 #[.agg #[.bool a.re.g, .string a.re.s, .int .i64 a.re.x, .bool a.im.g, .string a.im.s, .int .i64 a.im.x], .agg #[.bool b.re.g, .string (natS b.re.n), .int .i64 b.re.x, .bool b.im.g, .string (natS b.im.n), .int .i64 b.im.x], .agg #[.bool c.re.g, .string c.re.s, .int .i64 c.re.x, .bool c.im.g, .string c.im.s, .int .i64 c.im.x]] w fun e w' => e = .returned (.bool true) ∧ Below w.heap.size w w' := by
  obtain ⟨b1, i1⟩ := bex (allB [2, 2, 2, 2] = true)
  obtain ⟨b2, i2⟩ := bex (allB [2, 2, 2, 2, gaddE Gs.zero Gs.zero] = true)
  letI : Env := mkEnv glT [.bool a.re.g, .string a.re.s, .int .i64 a.re.x, .bool a.im.g, .string a.im.s, .int .i64 a.im.x, .bool b.re.g, .string (natS b.re.n), .int .i64 b.re.x, .bool b.im.g, .string (natS b.im.n), .int .i64 b.im.x, .bool c.re.g, .string c.re.s, .int .i64 c.re.x, .bool c.im.g, .string c.im.s, .int .i64 c.im.x, .bool ((gaddD Gs.zero Gs.zero).re).g, .string (natS ((gaddD Gs.zero Gs.zero).re).n), .int .i64 ((gaddD Gs.zero Gs.zero).re).x, .bool ((gaddD Gs.zero Gs.zero).im).g, .string (natS ((gaddD Gs.zero Gs.zero).im).n), .int .i64 ((gaddD Gs.zero Gs.zero).im).x, .int .i64 (gaddE Gs.zero Gs.zero)] rfl
  have hops : OpsT Tryd.prog (@Know.ops (GaussField_bob_k b1 b2)) := trivial
  have hcalls : CallsT Tryd.prog (@Know.calls (GaussField_bob_k b1 b2)) := ⟨callt rfl rfl fun w hG => awake6_c w hG,
    callt rfl rfl fun w hG => GAdd_bad a b.t w za (gs_small ob) (fun c => na c.1) hG,
    callt rfl rfl fun w hG => GAdd_bad b.t a w (gs_small ob) za (fun c => na c.2) hG,
    callt rfl rfl fun w hG => GMul_bad a b.t w za (gs_small ob) (fun c => na c.1) hG,
    callt rfl rfl fun w hG => GMul_bad b.t a w (gs_small ob) za (fun c => na c.2) hG,
    callt rfl rfl fun w hG => GMul_bad Gt.zero c w ⟨Nat.zero_le _, Nat.zero_le _⟩ zc (fun c => nc c.2) hG,
    callt rfl rfl fun w hG => GMul_bad b.t c w (gs_small ob) zc (fun c => nc c.2) hG,
    callt rfl rfl fun w hG => GMul_bad a Gt.zero w za ⟨Nat.zero_le _, Nat.zero_le _⟩ (fun c => na c.1) hG,
    callt_row rfl fun w B0 c0 hG hB hC => lAll06_i B0 c0 [2, 2, 2, 2] w (by simp) (ers_of hB hC rfl) i1,
    callt rfl rfl fun w hG => GMul_bad a c w za zc (fun c => na c.1) hG,
    callt rfl rfl fun w hG => (by have h := GAdd_c Gs.zero Gs.zero w Gs.zero_Ok Gs.zero_Ok hG; rw [natS_gzr, natS_gzi] at h; exact h),
    callt_row rfl fun w B0 c0 hG hB hC => lAll06_i B0 c0 [2, 2, 2, 2, gaddE Gs.zero Gs.zero] w (by simp) (ers_of hB hC rfl) i2,
    callt rfl rfl fun w hG => GCheck_no a za na w hG,
    trivial⟩
  have fin : ∀ v, @comes (GaussField_bob_k b1 b2) Tryd.prog glT 3000 4 [.agg [.sym 0, .sym 1, .sym 2, .sym 3, .sym 4, .sym 5], .agg [.sym 6, .sym 7, .sym 8, .sym 9, .sym 10, .sym 11], .agg [.sym 12, .sym 13, .sym 14, .sym 15, .sym 16, .sym 17]] = some v → ground v = true → Ending.returned (gval v) = .returned (.bool true) → Calls Tryd.prog 4 #[.agg #[.bool a.re.g, .string a.re.s, .int .i64 a.re.x, .bool a.im.g, .string a.im.s, .int .i64 a.im.x], .agg #[.bool b.re.g, .string (natS b.re.n), .int .i64 b.re.x, .bool b.im.g, .string (natS b.im.n), .int .i64 b.im.x], .agg #[.bool c.re.g, .string c.re.s, .int .i64 c.re.x, .bool c.im.g, .string c.im.s, .int .i64 c.im.x]] w fun e w' => e = .returned (.bool true) ∧ Below w.heap.size w w' := fun v h1 h2 h3 => (@sym_ok _ (GaussField_bob_k b1 b2) _ (@KnowOk.of _ (GaussField_bob_k b1 b2) _ hops hcalls) (by kernel_rfl) _ _ _ _ h1 rfl h2 _ hG).mono fun e w' h => ⟨h.1.trans h3, h.2⟩
  clear hops hcalls
  cases b1 with
  | true =>
    exact absurd (i1.1 rfl) (fun h => absurd (allB_iff.1 h 2 (by simp)) (by decide))
  | false =>
    have h1 : ¬ (allB [2, 2, 2, 2] = true) := fun c => Bool.false_ne_true (i1.2 c)
    cases b2 with
    | true =>
      exact absurd (i2.1 rfl) (fun h => absurd (allB_iff.1 h 2 (by simp)) (by decide))
    | false =>
      have h2 : ¬ (allB [2, 2, 2, 2, gaddE Gs.zero Gs.zero] = true) := fun c => Bool.false_ne_true (i2.2 c)
      exact fin _ (GaussField_bob_r1) rfl rfl

@[reducible] noncomputable def GaussField_bbo_k (b1 b2 : Bool) : Know := ⟨[],
  [(16, [], .lit (.bool true)),
  (7, [.agg [.sym 0, .sym 1, .sym 2, .sym 3, .sym 4, .sym 5], .agg [.sym 6, .sym 7, .sym 8, .sym 9, .sym 10, .sym 11]], .lit (.tuple #[.agg #[.bool false, .string ⟨#[]⟩, .int .i64 0, .bool false, .string ⟨#[]⟩, .int .i64 0], .int .i64 2])),
  (7, [.agg [.sym 6, .sym 7, .sym 8, .sym 9, .sym 10, .sym 11], .agg [.sym 0, .sym 1, .sym 2, .sym 3, .sym 4, .sym 5]], .lit (.tuple #[.agg #[.bool false, .string ⟨#[]⟩, .int .i64 0, .bool false, .string ⟨#[]⟩, .int .i64 0], .int .i64 2])),
  (9, [.agg [.sym 0, .sym 1, .sym 2, .sym 3, .sym 4, .sym 5], .agg [.sym 6, .sym 7, .sym 8, .sym 9, .sym 10, .sym 11]], .lit (.tuple #[.agg #[.bool false, .string ⟨#[]⟩, .int .i64 0, .bool false, .string ⟨#[]⟩, .int .i64 0], .int .i64 2])),
  (9, [.agg [.sym 6, .sym 7, .sym 8, .sym 9, .sym 10, .sym 11], .agg [.sym 0, .sym 1, .sym 2, .sym 3, .sym 4, .sym 5]], .lit (.tuple #[.agg #[.bool false, .string ⟨#[]⟩, .int .i64 0, .bool false, .string ⟨#[]⟩, .int .i64 0], .int .i64 2])),
  (9, [.lit (.agg #[.bool false, .string ⟨#[]⟩, .int .i64 0, .bool false, .string ⟨#[]⟩, .int .i64 0]), .agg [.sym 12, .sym 13, .sym 14, .sym 15, .sym 16, .sym 17]], .tup [.agg [.sym 18, .sym 19, .sym 20, .sym 21, .sym 22, .sym 23], .sym 24]),
  (9, [.agg [.sym 6, .sym 7, .sym 8, .sym 9, .sym 10, .sym 11], .agg [.sym 12, .sym 13, .sym 14, .sym 15, .sym 16, .sym 17]], .lit (.tuple #[.agg #[.bool false, .string ⟨#[]⟩, .int .i64 0, .bool false, .string ⟨#[]⟩, .int .i64 0], .int .i64 2])),
  (9, [.agg [.sym 0, .sym 1, .sym 2, .sym 3, .sym 4, .sym 5], .lit (.agg #[.bool false, .string ⟨#[]⟩, .int .i64 0, .bool false, .string ⟨#[]⟩, .int .i64 0])], .lit (.tuple #[.agg #[.bool false, .string ⟨#[]⟩, .int .i64 0, .bool false, .string ⟨#[]⟩, .int .i64 0], .int .i64 2])),
  (20, [.row 4 0 [.lit (.int .i64 2), .sym 24, .lit (.int .i64 2), .lit (.int .i64 2)]], .lit (.bool b1)),
  (9, [.agg [.sym 0, .sym 1, .sym 2, .sym 3, .sym 4, .sym 5], .agg [.sym 12, .sym 13, .sym 14, .sym 15, .sym 16, .sym 17]], .lit (.tuple #[.agg #[.bool false, .string ⟨#[]⟩, .int .i64 0, .bool false, .string ⟨#[]⟩, .int .i64 0], .int .i64 2])),
  (7, [.lit (.agg #[.bool false, .string ⟨#[]⟩, .int .i64 0, .bool false, .string ⟨#[]⟩, .int .i64 0]), .lit (.agg #[.bool false, .string ⟨#[]⟩, .int .i64 0, .bool false, .string ⟨#[]⟩, .int .i64 0])], .tup [.agg [.sym 25, .sym 26, .sym 27, .sym 28, .sym 29, .sym 30], .sym 31]),
  (20, [.row 5 0 [.lit (.int .i64 2), .sym 24, .lit (.int .i64 2), .lit (.int .i64 2), .sym 31]], .lit (.bool b2)),
  (21, [.agg [.sym 0, .sym 1, .sym 2, .sym 3, .sym 4, .sym 5]], .lit (.int .i64 2))]⟩
theorem GaussField_bbo_r1 : @comes (GaussField_bbo_k false false) Tryd.prog glT 3000 4 [.agg [.sym 0, .sym 1, .sym 2, .sym 3, .sym 4, .sym 5], .agg [.sym 6, .sym 7, .sym 8, .sym 9, .sym 10, .sym 11], .agg [.sym 12, .sym 13, .sym 14, .sym 15, .sym 16, .sym 17]] = some (.lit (.bool true)) := by kernel_rfl
set_option maxRecDepth 100000 in
theorem GaussField_bbo (a : Gt) (b : Gt) (c : Gs) (w : World) (za : a.Small) (na : ¬ a.Ok) (zb : b.Small) (nb : ¬ b.Ok) (oc : c.Ok) (hG : Globs glT w) : Calls Tryd.prog 4 #[.agg #[.bool a.re.g, .string a.re.s, .int .i64 a.re.x, .bool a.im.g, .string a.im.s, .int .i64 a.im.x], .agg #[.bool b.re.g, .string b.re.s, .int .i64 b.re.x, .bool b.im.g, .string b.im.s, .int .i64 b.im.x], .agg #[.bool c.re.g, .string (natS c.re.n), .int .i64 c.re.x, .bool c.im.g, .string (natS c.im.n), .int .i64 c.im.x]] w fun e w' => e = .returned (.bool true) ∧ Below w.heap.size w w' := by
  obtain ⟨b1, i1⟩ := bex (allB [2, gmulE Gs.zero c, 2, 2] = true)
  obtain ⟨b2, i2⟩ := bex (allB [2, gmulE Gs.zero c, 2, 2, gaddE Gs.zero Gs.zero] = true)
  letI : Env := mkEnv glT [.bool a.re.g, .string a.re.s, .int .i64 a.re.x, .bool a.im.g, .string a.im.s, .int .i64 a.im.x, .bool b.re.g, .string b.re.s, .int .i64 b.re.x, .bool b.im.g, .string b.im.s, .int .i64 b.im.x, .bool c.re.g, .string (natS c.re.n), .int .i64 c.re.x, .bool c.im.g, .string (natS c.im.n), .int .i64 c.im.x, .bool ((gmulD Gs.zero c).re).g, .string (natS ((gmulD Gs.zero c).re).n), .int .i64 ((gmulD Gs.zero c).re).x, .bool ((gmulD Gs.zero c).im).g, .string (natS ((gmulD Gs.zero c).im).n), .int .i64 ((gmulD Gs.zero c).im).x, .int .i64 (gmulE Gs.zero c), .bool ((gaddD Gs.zero Gs.zero).re).g, .string (natS ((gaddD Gs.zero Gs.zero).re).n), .int .i64 ((gaddD Gs.zero Gs.zero).re).x, .bool ((gaddD Gs.zero Gs.zero).im).g, .string (natS ((gaddD Gs.zero Gs.zero).im).n), .int .i64 ((gaddD Gs.zero Gs.zero).im).x, .int .i64 (gaddE Gs.zero Gs.zero)] rfl
  have hops : OpsT Tryd.prog (@Know.ops (GaussField_bbo_k b1 b2)) := trivial
  have hcalls : CallsT Tryd.prog (@Know.calls (GaussField_bbo_k b1 b2)) := ⟨callt rfl rfl fun w hG => awake6_c w hG,
    callt rfl rfl fun w hG => GAdd_bad a b w za zb (fun c => na c.1) hG,
    callt rfl rfl fun w hG => GAdd_bad b a w zb za (fun c => nb c.1) hG,
    callt rfl rfl fun w hG => GMul_bad a b w za zb (fun c => na c.1) hG,
    callt rfl rfl fun w hG => GMul_bad b a w zb za (fun c => nb c.1) hG,
    callt rfl rfl fun w hG => (by have h := GMul_c Gs.zero c w Gs.zero_Ok oc hG; rw [natS_gzr, natS_gzi] at h; exact h),
    callt rfl rfl fun w hG => GMul_bad b c.t w zb (gs_small oc) (fun c => nb c.1) hG,
    callt rfl rfl fun w hG => GMul_bad a Gt.zero w za ⟨Nat.zero_le _, Nat.zero_le _⟩ (fun c => na c.1) hG,
    callt_row rfl fun w B0 c0 hG hB hC => lAll06_i B0 c0 [2, gmulE Gs.zero c, 2, 2] w (by simp) (ers_of hB hC rfl) i1,
    callt rfl rfl fun w hG => GMul_bad a c.t w za (gs_small oc) (fun c => na c.1) hG,
    callt rfl rfl fun w hG => (by have h := GAdd_c Gs.zero Gs.zero w Gs.zero_Ok Gs.zero_Ok hG; rw [natS_gzr, natS_gzi] at h; exact h),
    callt_row rfl fun w B0 c0 hG hB hC => lAll06_i B0 c0 [2, gmulE Gs.zero c, 2, 2, gaddE Gs.zero Gs.zero] w (by simp) (ers_of hB hC rfl) i2,
    callt rfl rfl fun w hG => GCheck_no a za na w hG,
    trivial⟩
  have fin : ∀ v, @comes (GaussField_bbo_k b1 b2) Tryd.prog glT 3000 4 [.agg [.sym 0, .sym 1, .sym 2, .sym 3, .sym 4, .sym 5], .agg [.sym 6, .sym 7, .sym 8, .sym 9, .sym 10, .sym 11], .agg [.sym 12, .sym 13, .sym 14, .sym 15, .sym 16, .sym 17]] = some v → ground v = true → Ending.returned (gval v) = .returned (.bool true) → Calls Tryd.prog 4 #[.agg #[.bool a.re.g, .string a.re.s, .int .i64 a.re.x, .bool a.im.g, .string a.im.s, .int .i64 a.im.x], .agg #[.bool b.re.g, .string b.re.s, .int .i64 b.re.x, .bool b.im.g, .string b.im.s, .int .i64 b.im.x], .agg #[.bool c.re.g, .string (natS c.re.n), .int .i64 c.re.x, .bool c.im.g, .string (natS c.im.n), .int .i64 c.im.x]] w fun e w' => e = .returned (.bool true) ∧ Below w.heap.size w w' := fun v h1 h2 h3 => (@sym_ok _ (GaussField_bbo_k b1 b2) _ (@KnowOk.of _ (GaussField_bbo_k b1 b2) _ hops hcalls) (by kernel_rfl) _ _ _ _ h1 rfl h2 _ hG).mono fun e w' h => ⟨h.1.trans h3, h.2⟩
  clear hops hcalls
  cases b1 with
  | true =>
    exact absurd (i1.1 rfl) (fun h => absurd (allB_iff.1 h 2 (by simp)) (by decide))
  | false =>
    have h1 : ¬ (allB [2, gmulE Gs.zero c, 2, 2] = true) := fun c => Bool.false_ne_true (i1.2 c)
    cases b2 with
    | true =>
      exact absurd (i2.1 rfl) (fun h => absurd (allB_iff.1 h 2 (by simp)) (by decide))
    | false =>
      have h2 : ¬ (allB [2, gmulE Gs.zero c, 2, 2, gaddE Gs.zero Gs.zero] = true) := fun c => Bool.false_ne_true (i2.2 c)
      exact fin _ (GaussField_bbo_r1) rfl rfl

@[reducible] noncomputable def GaussField_bbb_k (b1 b2 : Bool) : Know := ⟨[],
  [(16, [], .lit (.bool true)),
  (7, [.agg [.sym 0, .sym 1, .sym 2, .sym 3, .sym 4, .sym 5], .agg [.sym 6, .sym 7, .sym 8, .sym 9, .sym 10, .sym 11]], .lit (.tuple #[.agg #[.bool false, .string ⟨#[]⟩, .int .i64 0, .bool false, .string ⟨#[]⟩, .int .i64 0], .int .i64 2])),
  (7, [.agg [.sym 6, .sym 7, .sym 8, .sym 9, .sym 10, .sym 11], .agg [.sym 0, .sym 1, .sym 2, .sym 3, .sym 4, .sym 5]], .lit (.tuple #[.agg #[.bool false, .string ⟨#[]⟩, .int .i64 0, .bool false, .string ⟨#[]⟩, .int .i64 0], .int .i64 2])),
  (9, [.agg [.sym 0, .sym 1, .sym 2, .sym 3, .sym 4, .sym 5], .agg [.sym 6, .sym 7, .sym 8, .sym 9, .sym 10, .sym 11]], .lit (.tuple #[.agg #[.bool false, .string ⟨#[]⟩, .int .i64 0, .bool false, .string ⟨#[]⟩, .int .i64 0], .int .i64 2])),
  (9, [.agg [.sym 6, .sym 7, .sym 8, .sym 9, .sym 10, .sym 11], .agg [.sym 0, .sym 1, .sym 2, .sym 3, .sym 4, .sym 5]], .lit (.tuple #[.agg #[.bool false, .string ⟨#[]⟩, .int .i64 0, .bool false, .string ⟨#[]⟩, .int .i64 0], .int .i64 2])),
  (9, [.lit (.agg #[.bool false, .string ⟨#[]⟩, .int .i64 0, .bool false, .string ⟨#[]⟩, .int .i64 0]), .agg [.sym 12, .sym 13, .sym 14, .sym 15, .sym 16, .sym 17]], .lit (.tuple #[.agg #[.bool false, .string ⟨#[]⟩, .int .i64 0, .bool false, .string ⟨#[]⟩, .int .i64 0], .int .i64 2])),
  (9, [.agg [.sym 6, .sym 7, .sym 8, .sym 9, .sym 10, .sym 11], .agg [.sym 12, .sym 13, .sym 14, .sym 15, .sym 16, .sym 17]], .lit (.tuple #[.agg #[.bool false, .string ⟨#[]⟩, .int .i64 0, .bool false, .string ⟨#[]⟩, .int .i64 0], .int .i64 2])),
  (9, [.agg [.sym 0, .sym 1, .sym 2, .sym 3, .sym 4, .sym 5], .lit (.agg #[.bool false, .string ⟨#[]⟩, .int .i64 0, .bool false, .string ⟨#[]⟩, .int .i64 0])], .lit (.tuple #[.agg #[.bool false, .string ⟨#[]⟩, .int .i64 0, .bool false, .string ⟨#[]⟩, .int .i64 0], .int .i64 2])),
  (20, [.row 4 0 [.lit (.int .i64 2), .lit (.int .i64 2), .lit (.int .i64 2), .lit (.int .i64 2)]], .lit (.bool b1)),
  (9, [.agg [.sym 0, .sym 1, .sym 2, .sym 3, .sym 4, .sym 5], .agg [.sym 12, .sym 13, .sym 14, .sym 15, .sym 16, .sym 17]], .lit (.tuple #[.agg #[.bool false, .string ⟨#[]⟩, .int .i64 0, .bool false, .string ⟨#[]⟩, .int .i64 0], .int .i64 2])),
  (7, [.lit (.agg #[.bool false, .string ⟨#[]⟩, .int .i64 0, .bool false, .string ⟨#[]⟩, .int .i64 0]), .lit (.agg #[.bool false, .string ⟨#[]⟩, .int .i64 0, .bool false, .string ⟨#[]⟩, .int .i64 0])], .tup [.agg [.sym 18, .sym 19, .sym 20, .sym 21, .sym 22, .sym 23], .sym 24]),
  (20, [.row 5 0 [.lit (.int .i64 2), .lit (.int .i64 2), .lit (.int .i64 2), .lit (.int .i64 2), .sym 24]], .lit (.bool b2)),
  (21, [.agg [.sym 0, .sym 1, .sym 2, .sym 3, .sym 4, .sym 5]], .lit (.int .i64 2))]⟩
theorem GaussField_bbb_r1 : @comes (GaussField_bbb_k false false) Tryd.prog glT 3000 4 [.agg [.sym 0, .sym 1, .sym 2, .sym 3, .sym 4, .sym 5], .agg [.sym 6, .sym 7, .sym 8, .sym 9, .sym 10, .sym 11], .agg [.sym 12, .sym 13, .sym 14, .sym 15, .sym 16, .sym 17]] = some (.lit (.bool true)) := by kernel_rfl
set_option maxRecDepth 100000 in
theorem GaussField_bbb (a : Gt) (b : Gt) (c : Gt) (w : World) (za : a.Small) (na : ¬ a.Ok) (zb : b.Small) (nb : ¬ b.Ok) (zc : c.Small) (nc : ¬ c.Ok) (hG : Globs glT w) : Calls Tryd.prog 4 #[.agg #[.bool a.re.g, .string a.re.s, .int .i64 a.re.x, .bool a.im.g, .string a.im.s, .int .i64 a.im.x], .agg #[.bool b.re.g, .string b.re.s, .int .i64 b.re.x, .bool b.im.g, .string b.im.s, .int .i64 b.im.x], .agg #[.bool c.re.g, .string c.re.s, .int .i64 c.re.x, .bool c.im.g, .string c.im.s, .int .i64 c.im.x]] w fun e w' => e = .returned (.bool true) ∧ Below w.heap.size w w' := by
  obtain ⟨b1, i1⟩ := bex (allB [2, 2, 2, 2] = true)
  obtain ⟨b2, i2⟩ := bex (allB [2, 2, 2, 2, gaddE Gs.zero Gs.zero] = true)
  letI : Env := mkEnv glT [.bool a.re.g, .string a.re.s, .int .i64 a.re.x, .bool a.im.g, .string a.im.s, .int .i64 a.im.x, .bool b.re.g, .string b.re.s, .int .i64 b.re.x, .bool b.im.g, .string b.im.s, .int .i64 b.im.x, .bool c.re.g, .string c.re.s, .int .i64 c.re.x, .bool c.im.g, .string c.im.s, .int .i64 c.im.x, .bool ((gaddD Gs.zero Gs.zero).re).g, .string (natS ((gaddD Gs.zero Gs.zero).re).n), .int .i64 ((gaddD Gs.zero Gs.zero).re).x, .bool ((gaddD Gs.zero Gs.zero).im).g, .string (natS ((gaddD Gs.zero Gs.zero).im).n), .int .i64 ((gaddD Gs.zero Gs.zero).im).x, .int .i64 (gaddE Gs.zero Gs.zero)] rfl
  have hops : OpsT Tryd.prog (@Know.ops (GaussField_bbb_k b1 b2)) := trivial
  have hcalls : CallsT Tryd.prog (@Know.calls (GaussField_bbb_k b1 b2)) := ⟨callt rfl rfl fun w hG => awake6_c w hG,
    callt rfl rfl fun w hG => GAdd_bad a b w za zb (fun c => na c.1) hG,
    callt rfl rfl fun w hG => GAdd_bad b a w zb za (fun c => nb c.1) hG,
    callt rfl rfl fun w hG => GMul_bad a b w za zb (fun c => na c.1) hG,
    callt rfl rfl fun w hG => GMul_bad b a w zb za (fun c => nb c.1) hG,
    callt rfl rfl fun w hG => GMul_bad Gt.zero c w ⟨Nat.zero_le _, Nat.zero_le _⟩ zc (fun c => nc c.2) hG,
    callt rfl rfl fun w hG => GMul_bad b c w zb zc (fun c => nb c.1) hG,
    callt rfl rfl fun w hG => GMul_bad a Gt.zero w za ⟨Nat.zero_le _, Nat.zero_le _⟩ (fun c => na c.1) hG,
    callt_row rfl fun w B0 c0 hG hB hC => lAll06_i B0 c0 [2, 2, 2, 2] w (by simp) (ers_of hB hC rfl) i1,
    callt rfl rfl fun w hG => GMul_bad a c w za zc (fun c => na c.1) hG,
    callt rfl rfl fun w hG => (by have h := GAdd_c Gs.zero Gs.zero w Gs.zero_Ok Gs.zero_Ok hG; rw [natS_gzr, natS_gzi] at h; exact h),
    callt_row rfl fun w B0 c0 hG hB hC => lAll06_i B0 c0 [2, 2, 2, 2, gaddE Gs.zero Gs.zero] w (by simp) (ers_of hB hC rfl) i2,
    callt rfl rfl fun w hG => GCheck_no a za na w hG,
    trivial⟩
  have fin : ∀ v, @comes (GaussField_bbb_k b1 b2) Tryd.prog glT 3000 4 [.agg [.sym 0, .sym 1, .sym 2, .sym 3, .sym 4, .sym 5], .agg [.sym 6, .sym 7, .sym 8, .sym 9, .sym 10, .sym 11], .agg [.sym 12, .sym 13, .sym 14, .sym 15, .sym 16, .sym 17]] = some v → ground v = true → Ending.returned (gval v) = .returned (.bool true) → Calls Tryd.prog 4 #[.agg #[.bool a.re.g, .string a.re.s, .int .i64 a.re.x, .bool a.im.g, .string a.im.s, .int .i64 a.im.x], .agg #[.bool b.re.g, .string b.re.s, .int .i64 b.re.x, .bool b.im.g, .string b.im.s, .int .i64 b.im.x], .agg #[.bool c.re.g, .string c.re.s, .int .i64 c.re.x, .bool c.im.g, .string c.im.s, .int .i64 c.im.x]] w fun e w' => e = .returned (.bool true) ∧ Below w.heap.size w w' := fun v h1 h2 h3 => (@sym_ok _ (GaussField_bbb_k b1 b2) _ (@KnowOk.of _ (GaussField_bbb_k b1 b2) _ hops hcalls) (by kernel_rfl) _ _ _ _ h1 rfl h2 _ hG).mono fun e w' h => ⟨h.1.trans h3, h.2⟩
  clear hops hcalls
  cases b1 with
  | true =>
    exact absurd (i1.1 rfl) (fun h => absurd (allB_iff.1 h 2 (by simp)) (by decide))
  | false =>
    have h1 : ¬ (allB [2, 2, 2, 2] = true) := fun c => Bool.false_ne_true (i1.2 c)
    cases b2 with
    | true =>
      exact absurd (i2.1 rfl) (fun h => absurd (allB_iff.1 h 2 (by simp)) (by decide))
    | false =>
      have h2 : ¬ (allB [2, 2, 2, 2, gaddE Gs.zero Gs.zero] = true) := fun c => Bool.false_ne_true (i2.2 c)
      exact fin _ (GaussField_bbb_r1) rfl rfl

theorem GaussField_law (a b c : Gt) (w : World) (za : a.Small) (zb : b.Small) (zc : c.Small) (hG : Globs glT w) : Calls Tryd.prog 4 #[.agg #[.bool a.re.g, .string a.re.s, .int .i64 a.re.x, .bool a.im.g, .string a.im.s, .int .i64 a.im.x], .agg #[.bool b.re.g, .string b.re.s, .int .i64 b.re.x, .bool b.im.g, .string b.im.s, .int .i64 b.im.x], .agg #[.bool c.re.g, .string c.re.s, .int .i64 c.re.x, .bool c.im.g, .string c.im.s, .int .i64 c.im.x]] w fun e w' => e = .returned (.bool true) ∧ Below w.heap.size w w' := by
  by_cases ha : a.Ok
  · obtain ⟨a, oa, rfl⟩ := Gt.gs ha
    by_cases hb : b.Ok
    · obtain ⟨b, ob, rfl⟩ := Gt.gs hb
      by_cases hc : c.Ok
      · obtain ⟨c, oc, rfl⟩ := Gt.gs hc
        exact GaussField_ooo a b c w oa ob oc hG
      · skip
        exact GaussField_oob a b c w oa ob zc hc hG
    · skip
      by_cases hc : c.Ok
      · obtain ⟨c, oc, rfl⟩ := Gt.gs hc
        exact GaussField_obo a b c w oa zb hb oc hG
      · skip
        exact GaussField_obb a b c w oa zb hb zc hc hG
  · skip
    by_cases hb : b.Ok
    · obtain ⟨b, ob, rfl⟩ := Gt.gs hb
      by_cases hc : c.Ok
      · obtain ⟨c, oc, rfl⟩ := Gt.gs hc
        exact GaussField_boo a b c w za ha ob oc hG
      · skip
        exact GaussField_bob a b c w za ha ob zc hc hG
    · skip
      by_cases hc : c.Ok
      · obtain ⟨c, oc, rfl⟩ := Gt.gs hc
        exact GaussField_bbo a b c w za ha zb hb oc hG
      · skip
        exact GaussField_bbb a b c w za ha zb hb zc hc hG

end Go.Proofs.YtciidbldnjfooaaDoor
set_option linter.unusedVariables false
set_option linter.unusedSimpArgs false
namespace Go.Proofs.YtciidbldnjfooaaDoor
open Go Go.RowKit Nt


@[reducible] noncomputable def GaussParts_oo_k (b1 b2 b3 b4 b5 b6 : Bool) : Know := ⟨[([0, 12, 24], [.agg [.sym 19, .sym 20, .sym 21], .agg [.sym 31, .sym 32, .sym 33]], .lit (.bool (!b4))),
  ([0, 12, 26], [.agg [.sym 49, .sym 50, .sym 51, .sym 52, .sym 53, .sym 54], .agg [.sym 35, .sym 36, .sym 37, .sym 39, .sym 40, .sym 41]], .lit (.bool (!b5))),
  ([0, 11, 24], [.agg [.sym 64, .sym 65, .sym 66], .agg [.sym 31, .sym 32, .sym 33]], .lit (.bool b6))],
  [(16, [], .lit (.bool true)),
  (9, [.agg [.sym 0, .sym 1, .sym 2, .sym 3, .sym 4, .sym 5], .agg [.sym 6, .sym 7, .sym 8, .sym 9, .sym 10, .sym 11]], .tup [.agg [.sym 12, .sym 13, .sym 14, .sym 15, .sym 16, .sym 17], .sym 18]),
  (25, [.agg [.sym 12, .sym 13, .sym 14, .sym 15, .sym 16, .sym 17]], .tup [.agg [.sym 19, .sym 20, .sym 21], .sym 22]),
  (25, [.agg [.sym 0, .sym 1, .sym 2, .sym 3, .sym 4, .sym 5]], .tup [.agg [.sym 23, .sym 24, .sym 25], .sym 26]),
  (25, [.agg [.sym 6, .sym 7, .sym 8, .sym 9, .sym 10, .sym 11]], .tup [.agg [.sym 27, .sym 28, .sym 29], .sym 30]),
  (26, [.agg [.sym 23, .sym 24, .sym 25], .agg [.sym 27, .sym 28, .sym 29]], .tup [.agg [.sym 31, .sym 32, .sym 33], .sym 34]),
  (20, [.row 5 0 [.sym 18, .sym 22, .sym 26, .sym 30, .sym 34]], .lit (.bool b1)),
  (27, [.agg [.sym 0, .sym 1, .sym 2, .sym 3, .sym 4, .sym 5], .agg [.sym 6, .sym 7, .sym 8, .sym 9, .sym 10, .sym 11]], .tup [.agg [.sym 35, .sym 36, .sym 37], .sym 38]),
  (28, [.agg [.sym 0, .sym 1, .sym 2, .sym 3, .sym 4, .sym 5], .agg [.sym 6, .sym 7, .sym 8, .sym 9, .sym 10, .sym 11]], .tup [.agg [.sym 39, .sym 40, .sym 41], .sym 42]),
  (24, [.agg [.sym 0, .sym 1, .sym 2, .sym 3, .sym 4, .sym 5]], .agg [.sym 43, .sym 44, .sym 45, .sym 46, .sym 47, .sym 48]),
  (9, [.agg [.sym 43, .sym 44, .sym 45, .sym 46, .sym 47, .sym 48], .agg [.sym 6, .sym 7, .sym 8, .sym 9, .sym 10, .sym 11]], .tup [.agg [.sym 49, .sym 50, .sym 51, .sym 52, .sym 53, .sym 54], .sym 55]),
  (20, [.row 3 0 [.sym 38, .sym 42, .sym 55]], .lit (.bool b2)),
  (26, [.agg [.sym 35, .sym 36, .sym 37], .agg [.sym 35, .sym 36, .sym 37]], .tup [.agg [.sym 56, .sym 57, .sym 58], .sym 59]),
  (26, [.agg [.sym 39, .sym 40, .sym 41], .agg [.sym 39, .sym 40, .sym 41]], .tup [.agg [.sym 60, .sym 61, .sym 62], .sym 63]),
  (29, [.agg [.sym 56, .sym 57, .sym 58], .agg [.sym 60, .sym 61, .sym 62]], .tup [.agg [.sym 64, .sym 65, .sym 66], .sym 67]),
  (20, [.row 8 0 [.sym 38, .sym 42, .sym 26, .sym 30, .sym 34, .sym 59, .sym 63, .sym 67]], .lit (.bool b3))]⟩
theorem GaussParts_oo_r1 : @comes (GaussParts_oo_k true true true true true true) Tryd.prog glT 3000 5 [.agg [.sym 0, .sym 1, .sym 2, .sym 3, .sym 4, .sym 5], .agg [.sym 6, .sym 7, .sym 8, .sym 9, .sym 10, .sym 11]] = some (.lit (.bool true)) := by kernel_rfl
theorem GaussParts_oo_r2 (b6 : Bool) : @comes (GaussParts_oo_k true true false true true b6) Tryd.prog glT 3000 5 [.agg [.sym 0, .sym 1, .sym 2, .sym 3, .sym 4, .sym 5], .agg [.sym 6, .sym 7, .sym 8, .sym 9, .sym 10, .sym 11]] = some (.lit (.bool true)) := by kernel_rfl
theorem GaussParts_oo_r3 (b5 : Bool) : @comes (GaussParts_oo_k true false true true b5 true) Tryd.prog glT 3000 5 [.agg [.sym 0, .sym 1, .sym 2, .sym 3, .sym 4, .sym 5], .agg [.sym 6, .sym 7, .sym 8, .sym 9, .sym 10, .sym 11]] = some (.lit (.bool true)) := by kernel_rfl
theorem GaussParts_oo_r4 (b5 b6 : Bool) : @comes (GaussParts_oo_k true false false true b5 b6) Tryd.prog glT 3000 5 [.agg [.sym 0, .sym 1, .sym 2, .sym 3, .sym 4, .sym 5], .agg [.sym 6, .sym 7, .sym 8, .sym 9, .sym 10, .sym 11]] = some (.lit (.bool true)) := by kernel_rfl
theorem GaussParts_oo_r5 (b4 : Bool) : @comes (GaussParts_oo_k false true true b4 true true) Tryd.prog glT 3000 5 [.agg [.sym 0, .sym 1, .sym 2, .sym 3, .sym 4, .sym 5], .agg [.sym 6, .sym 7, .sym 8, .sym 9, .sym 10, .sym 11]] = some (.lit (.bool true)) := by kernel_rfl
theorem GaussParts_oo_r6 (b4 b6 : Bool) : @comes (GaussParts_oo_k false true false b4 true b6) Tryd.prog glT 3000 5 [.agg [.sym 0, .sym 1, .sym 2, .sym 3, .sym 4, .sym 5], .agg [.sym 6, .sym 7, .sym 8, .sym 9, .sym 10, .sym 11]] = some (.lit (.bool true)) := by kernel_rfl
theorem GaussParts_oo_r7 (b4 b5 : Bool) : @comes (GaussParts_oo_k false false true b4 b5 true) Tryd.prog glT 3000 5 [.agg [.sym 0, .sym 1, .sym 2, .sym 3, .sym 4, .sym 5], .agg [.sym 6, .sym 7, .sym 8, .sym 9, .sym 10, .sym 11]] = some (.lit (.bool true)) := by kernel_rfl
theorem GaussParts_oo_r8 (b4 b5 b6 : Bool) : @comes (GaussParts_oo_k false false false b4 b5 b6) Tryd.prog glT 3000 5 [.agg [.sym 0, .sym 1, .sym 2, .sym 3, .sym 4, .sym 5], .agg [.sym 6, .sym 7, .sym 8, .sym 9, .sym 10, .sym 11]] = some (.lit (.bool true)) := by kernel_rfl
set_option maxRecDepth 100000 in
theorem GaussParts_oo (a : Gs) (b : Gs) (w : World) (oa : a.Ok) (ob : b.Ok) (hG : Globs glT w) : Calls Tryd.prog 5 #[.agg #[.bool a.re.g, .string (natS a.re.n), .int .i64 a.re.x, .bool a.im.g, .string (natS a.im.n), .int .i64 a.im.x], .agg #[.bool b.re.g, .string (natS b.re.n), .int .i64 b.re.x, .bool b.im.g, .string (natS b.im.n), .int .i64 b.im.x]] w fun e w' => e = .returned (.bool true) ∧ Below w.heap.size w w' := by
  obtain ⟨b1, i1⟩ := bex (allB [gmulE a b, dotE (gmulD a b) (gmulD a b), dotE a a, dotE b b, mulE (dotD a a) (dotD b b)] = true)
  obtain ⟨b2, i2⟩ := bex (allB [dotE a b, crossE a b, gmulE (conjG a) b] = true)
  obtain ⟨b3, i3⟩ := bex (allB [dotE a b, crossE a b, dotE a a, dotE b b, mulE (dotD a a) (dotD b b), mulE (dotD a b) (dotD a b), mulE (crossD a b) (crossD a b), addE (mulD (dotD a b) (dotD a b)) (mulD (crossD a b) (crossD a b))] = true)
  obtain ⟨b4, i4⟩ := bex (dotD (gmulD a b) (gmulD a b) = mulD (dotD a a) (dotD b b))
  obtain ⟨b5, i5⟩ := bex (gmulD (conjG a) b = ⟨dotD a b, crossD a b⟩)
  obtain ⟨b6, i6⟩ := bex (addD (mulD (dotD a b) (dotD a b)) (mulD (crossD a b) (crossD a b)) = mulD (dotD a a) (dotD b b))
  letI : Env := mkEnv glT [.bool a.re.g, .string (natS a.re.n), .int .i64 a.re.x, .bool a.im.g, .string (natS a.im.n), .int .i64 a.im.x, .bool b.re.g, .string (natS b.re.n), .int .i64 b.re.x, .bool b.im.g, .string (natS b.im.n), .int .i64 b.im.x, .bool ((gmulD a b).re).g, .string (natS ((gmulD a b).re).n), .int .i64 ((gmulD a b).re).x, .bool ((gmulD a b).im).g, .string (natS ((gmulD a b).im).n), .int .i64 ((gmulD a b).im).x, .int .i64 (gmulE a b), .bool (dotD (gmulD a b) (gmulD a b)).g, .string (natS (dotD (gmulD a b) (gmulD a b)).n), .int .i64 (dotD (gmulD a b) (gmulD a b)).x, .int .i64 (dotE (gmulD a b) (gmulD a b)), .bool (dotD a a).g, .string (natS (dotD a a).n), .int .i64 (dotD a a).x, .int .i64 (dotE a a), .bool (dotD b b).g, .string (natS (dotD b b).n), .int .i64 (dotD b b).x, .int .i64 (dotE b b), .bool (mulD (dotD a a) (dotD b b)).g, .string (natS (mulD (dotD a a) (dotD b b)).n), .int .i64 (mulD (dotD a a) (dotD b b)).x, .int .i64 (mulE (dotD a a) (dotD b b)), .bool (dotD a b).g, .string (natS (dotD a b).n), .int .i64 (dotD a b).x, .int .i64 (dotE a b), .bool (crossD a b).g, .string (natS (crossD a b).n), .int .i64 (crossD a b).x, .int .i64 (crossE a b), .bool ((conjG a).re).g, .string (natS ((conjG a).re).n), .int .i64 ((conjG a).re).x, .bool ((conjG a).im).g, .string (natS ((conjG a).im).n), .int .i64 ((conjG a).im).x, .bool ((gmulD (conjG a) b).re).g, .string (natS ((gmulD (conjG a) b).re).n), .int .i64 ((gmulD (conjG a) b).re).x, .bool ((gmulD (conjG a) b).im).g, .string (natS ((gmulD (conjG a) b).im).n), .int .i64 ((gmulD (conjG a) b).im).x, .int .i64 (gmulE (conjG a) b), .bool (mulD (dotD a b) (dotD a b)).g, .string (natS (mulD (dotD a b) (dotD a b)).n), .int .i64 (mulD (dotD a b) (dotD a b)).x, .int .i64 (mulE (dotD a b) (dotD a b)), .bool (mulD (crossD a b) (crossD a b)).g, .string (natS (mulD (crossD a b) (crossD a b)).n), .int .i64 (mulD (crossD a b) (crossD a b)).x, .int .i64 (mulE (crossD a b) (crossD a b)), .bool (addD (mulD (dotD a b) (dotD a b)) (mulD (crossD a b) (crossD a b))).g, .string (natS (addD (mulD (dotD a b) (dotD a b)) (mulD (crossD a b) (crossD a b))).n), .int .i64 (addD (mulD (dotD a b) (dotD a b)) (mulD (crossD a b) (crossD a b))).x, .int .i64 (addE (mulD (dotD a b) (dotD a b)) (mulD (crossD a b) (crossD a b)))] rfl
  have hops : OpsT Tryd.prog (@Know.ops (GaussParts_oo_k b1 b2 b3 b4 b5 b6)) := ⟨optD_neq_i (a := dotD (gmulD a b) (gmulD a b)) (b := mulD (dotD a a) (dotD b b)) rfl rfl i4,
    optG_neq_i (a := gmulD (conjG a) b) (b := ⟨dotD a b, crossD a b⟩) rfl rfl i5,
    optD_eql_i (a := addD (mulD (dotD a b) (dotD a b)) (mulD (crossD a b) (crossD a b))) (b := mulD (dotD a a) (dotD b b)) rfl rfl i6,
    trivial⟩
  have hcalls : CallsT Tryd.prog (@Know.calls (GaussParts_oo_k b1 b2 b3 b4 b5 b6)) := ⟨callt rfl rfl fun w hG => awake6_c w hG,
    callt rfl rfl fun w hG => GMul_c a b w oa ob hG,
    callt rfl rfl fun w hG => GNorm_c (gmulD a b) w (gmulD_Ok a b) hG,
    callt rfl rfl fun w hG => GNorm_c a w oa hG,
    callt rfl rfl fun w hG => GNorm_c b w ob hG,
    callt rfl rfl fun w hG => DMul_c (dotD a a) (dotD b b) w (dotD_Ok a a) (dotD_Ok b b),
    callt_row rfl fun w B0 c0 hG hB hC => lAll06_i B0 c0 [gmulE a b, dotE (gmulD a b) (gmulD a b), dotE a a, dotE b b, mulE (dotD a a) (dotD b b)] w (by simp) (ers_of hB hC rfl) i1,
    callt rfl rfl fun w hG => GDot_c a b w oa ob hG,
    callt rfl rfl fun w hG => GCross_c a b w oa ob hG,
    callt rfl rfl fun w hG => GConj_c a w oa hG,
    callt rfl rfl fun w hG => GMul_c (conjG a) b w (conjG_Ok oa) ob hG,
    callt_row rfl fun w B0 c0 hG hB hC => lAll06_i B0 c0 [dotE a b, crossE a b, gmulE (conjG a) b] w (by simp) (ers_of hB hC rfl) i2,
    callt rfl rfl fun w hG => DMul_c (dotD a b) (dotD a b) w (dotD_Ok a b) (dotD_Ok a b),
    callt rfl rfl fun w hG => DMul_c (crossD a b) (crossD a b) w (crossD_Ok a b) (crossD_Ok a b),
    callt rfl rfl fun w hG => DAdd_c (mulD (dotD a b) (dotD a b)) (mulD (crossD a b) (crossD a b)) w (mulD_Ok (dotD a b) (dotD a b)) (mulD_Ok (crossD a b) (crossD a b)) hG,
    callt_row rfl fun w B0 c0 hG hB hC => lAll06_i B0 c0 [dotE a b, crossE a b, dotE a a, dotE b b, mulE (dotD a a) (dotD b b), mulE (dotD a b) (dotD a b), mulE (crossD a b) (crossD a b), addE (mulD (dotD a b) (dotD a b)) (mulD (crossD a b) (crossD a b))] w (by simp) (ers_of hB hC rfl) i3,
    trivial⟩
  have fin : ∀ v, @comes (GaussParts_oo_k b1 b2 b3 b4 b5 b6) Tryd.prog glT 3000 5 [.agg [.sym 0, .sym 1, .sym 2, .sym 3, .sym 4, .sym 5], .agg [.sym 6, .sym 7, .sym 8, .sym 9, .sym 10, .sym 11]] = some v → ground v = true → Ending.returned (gval v) = .returned (.bool true) → Calls Tryd.prog 5 #[.agg #[.bool a.re.g, .string (natS a.re.n), .int .i64 a.re.x, .bool a.im.g, .string (natS a.im.n), .int .i64 a.im.x], .agg #[.bool b.re.g, .string (natS b.re.n), .int .i64 b.re.x, .bool b.im.g, .string (natS b.im.n), .int .i64 b.im.x]] w fun e w' => e = .returned (.bool true) ∧ Below w.heap.size w w' := fun v h1 h2 h3 => (@sym_ok _ (GaussParts_oo_k b1 b2 b3 b4 b5 b6) _ (@KnowOk.of _ (GaussParts_oo_k b1 b2 b3 b4 b5 b6) _ hops hcalls) (by kernel_rfl) _ _ _ _ h1 rfl h2 _ hG).mono fun e w' h => ⟨h.1.trans h3, h.2⟩
  clear hops hcalls
  cases b1 with
  | true =>
    have h1 : allB [gmulE a b, dotE (gmulD a b) (gmulD a b), dotE a a, dotE b b, mulE (dotD a a) (dotD b b)] = true := i1.1 rfl
    cases b4 with
    | true =>
      have h4 : dotD (gmulD a b) (gmulD a b) = mulD (dotD a a) (dotD b b) := i4.1 rfl
      cases b2 with
      | true =>
        have h2 : allB [dotE a b, crossE a b, gmulE (conjG a) b] = true := i2.1 rfl
        cases b5 with
        | true =>
          have h5 : gmulD (conjG a) b = ⟨dotD a b, crossD a b⟩ := i5.1 rfl
          cases b3 with
          | true =>
            have h3 : allB [dotE a b, crossE a b, dotE a a, dotE b b, mulE (dotD a a) (dotD b b), mulE (dotD a b) (dotD a b), mulE (crossD a b) (crossD a b), addE (mulD (dotD a b) (dotD a b)) (mulD (crossD a b) (crossD a b))] = true := i3.1 rfl
            cases b6 with
            | true =>
              have h6 : addD (mulD (dotD a b) (dotD a b)) (mulD (crossD a b) (crossD a b)) = mulD (dotD a a) (dotD b b) := i6.1 rfl
              exact fin _ (GaussParts_oo_r1) rfl rfl
            | false =>
              exact absurd (i6.2 (squares oa ob (allB_iff.1 h3 _ (by simp)) (allB_iff.1 h3 _ (by simp)) (allB_iff.1 h3 _ (by simp)) (allB_iff.1 h3 _ (by simp)) (allB_iff.1 h3 _ (by simp)) (allB_iff.1 h3 _ (by simp)) (allB_iff.1 h3 _ (by simp)) (allB_iff.1 h3 _ (by simp)))) Bool.false_ne_true
          | false =>
            have h3 : ¬ (allB [dotE a b, crossE a b, dotE a a, dotE b b, mulE (dotD a a) (dotD b b), mulE (dotD a b) (dotD a b), mulE (crossD a b) (crossD a b), addE (mulD (dotD a b) (dotD a b)) (mulD (crossD a b) (crossD a b))] = true) := fun c => Bool.false_ne_true (i3.2 c)
            exact fin _ (GaussParts_oo_r2 b6) rfl rfl
        | false =>
          exact absurd (i5.2 (conj_parts oa ob (allB_iff.1 h2 _ (by simp)) (allB_iff.1 h2 _ (by simp)) (allB_iff.1 h2 _ (by simp)))) Bool.false_ne_true
      | false =>
        have h2 : ¬ (allB [dotE a b, crossE a b, gmulE (conjG a) b] = true) := fun c => Bool.false_ne_true (i2.2 c)
        cases b3 with
        | true =>
          have h3 : allB [dotE a b, crossE a b, dotE a a, dotE b b, mulE (dotD a a) (dotD b b), mulE (dotD a b) (dotD a b), mulE (crossD a b) (crossD a b), addE (mulD (dotD a b) (dotD a b)) (mulD (crossD a b) (crossD a b))] = true := i3.1 rfl
          cases b6 with
          | true =>
            have h6 : addD (mulD (dotD a b) (dotD a b)) (mulD (crossD a b) (crossD a b)) = mulD (dotD a a) (dotD b b) := i6.1 rfl
            exact fin _ (GaussParts_oo_r3 b5) rfl rfl
          | false =>
            exact absurd (i6.2 (squares oa ob (allB_iff.1 h3 _ (by simp)) (allB_iff.1 h3 _ (by simp)) (allB_iff.1 h3 _ (by simp)) (allB_iff.1 h3 _ (by simp)) (allB_iff.1 h3 _ (by simp)) (allB_iff.1 h3 _ (by simp)) (allB_iff.1 h3 _ (by simp)) (allB_iff.1 h3 _ (by simp)))) Bool.false_ne_true
        | false =>
          have h3 : ¬ (allB [dotE a b, crossE a b, dotE a a, dotE b b, mulE (dotD a a) (dotD b b), mulE (dotD a b) (dotD a b), mulE (crossD a b) (crossD a b), addE (mulD (dotD a b) (dotD a b)) (mulD (crossD a b) (crossD a b))] = true) := fun c => Bool.false_ne_true (i3.2 c)
          exact fin _ (GaussParts_oo_r4 b5 b6) rfl rfl
    | false =>
      exact absurd (i4.2 (norm_mul oa ob (allB_iff.1 h1 _ (by simp)) (allB_iff.1 h1 _ (by simp)) (allB_iff.1 h1 _ (by simp)) (allB_iff.1 h1 _ (by simp)) (allB_iff.1 h1 _ (by simp)))) Bool.false_ne_true
  | false =>
    have h1 : ¬ (allB [gmulE a b, dotE (gmulD a b) (gmulD a b), dotE a a, dotE b b, mulE (dotD a a) (dotD b b)] = true) := fun c => Bool.false_ne_true (i1.2 c)
    cases b2 with
    | true =>
      have h2 : allB [dotE a b, crossE a b, gmulE (conjG a) b] = true := i2.1 rfl
      cases b5 with
      | true =>
        have h5 : gmulD (conjG a) b = ⟨dotD a b, crossD a b⟩ := i5.1 rfl
        cases b3 with
        | true =>
          have h3 : allB [dotE a b, crossE a b, dotE a a, dotE b b, mulE (dotD a a) (dotD b b), mulE (dotD a b) (dotD a b), mulE (crossD a b) (crossD a b), addE (mulD (dotD a b) (dotD a b)) (mulD (crossD a b) (crossD a b))] = true := i3.1 rfl
          cases b6 with
          | true =>
            have h6 : addD (mulD (dotD a b) (dotD a b)) (mulD (crossD a b) (crossD a b)) = mulD (dotD a a) (dotD b b) := i6.1 rfl
            exact fin _ (GaussParts_oo_r5 b4) rfl rfl
          | false =>
            exact absurd (i6.2 (squares oa ob (allB_iff.1 h3 _ (by simp)) (allB_iff.1 h3 _ (by simp)) (allB_iff.1 h3 _ (by simp)) (allB_iff.1 h3 _ (by simp)) (allB_iff.1 h3 _ (by simp)) (allB_iff.1 h3 _ (by simp)) (allB_iff.1 h3 _ (by simp)) (allB_iff.1 h3 _ (by simp)))) Bool.false_ne_true
        | false =>
          have h3 : ¬ (allB [dotE a b, crossE a b, dotE a a, dotE b b, mulE (dotD a a) (dotD b b), mulE (dotD a b) (dotD a b), mulE (crossD a b) (crossD a b), addE (mulD (dotD a b) (dotD a b)) (mulD (crossD a b) (crossD a b))] = true) := fun c => Bool.false_ne_true (i3.2 c)
          exact fin _ (GaussParts_oo_r6 b4 b6) rfl rfl
      | false =>
        exact absurd (i5.2 (conj_parts oa ob (allB_iff.1 h2 _ (by simp)) (allB_iff.1 h2 _ (by simp)) (allB_iff.1 h2 _ (by simp)))) Bool.false_ne_true
    | false =>
      have h2 : ¬ (allB [dotE a b, crossE a b, gmulE (conjG a) b] = true) := fun c => Bool.false_ne_true (i2.2 c)
      cases b3 with
      | true =>
        have h3 : allB [dotE a b, crossE a b, dotE a a, dotE b b, mulE (dotD a a) (dotD b b), mulE (dotD a b) (dotD a b), mulE (crossD a b) (crossD a b), addE (mulD (dotD a b) (dotD a b)) (mulD (crossD a b) (crossD a b))] = true := i3.1 rfl
        cases b6 with
        | true =>
          have h6 : addD (mulD (dotD a b) (dotD a b)) (mulD (crossD a b) (crossD a b)) = mulD (dotD a a) (dotD b b) := i6.1 rfl
          exact fin _ (GaussParts_oo_r7 b4 b5) rfl rfl
        | false =>
          exact absurd (i6.2 (squares oa ob (allB_iff.1 h3 _ (by simp)) (allB_iff.1 h3 _ (by simp)) (allB_iff.1 h3 _ (by simp)) (allB_iff.1 h3 _ (by simp)) (allB_iff.1 h3 _ (by simp)) (allB_iff.1 h3 _ (by simp)) (allB_iff.1 h3 _ (by simp)) (allB_iff.1 h3 _ (by simp)))) Bool.false_ne_true
      | false =>
        have h3 : ¬ (allB [dotE a b, crossE a b, dotE a a, dotE b b, mulE (dotD a a) (dotD b b), mulE (dotD a b) (dotD a b), mulE (crossD a b) (crossD a b), addE (mulD (dotD a b) (dotD a b)) (mulD (crossD a b) (crossD a b))] = true) := fun c => Bool.false_ne_true (i3.2 c)
        exact fin _ (GaussParts_oo_r8 b4 b5 b6) rfl rfl

@[reducible] noncomputable def GaussParts_ob_k (b1 b2 b3 : Bool) : Know := ⟨[],
  [(16, [], .lit (.bool true)),
  (9, [.agg [.sym 0, .sym 1, .sym 2, .sym 3, .sym 4, .sym 5], .agg [.sym 6, .sym 7, .sym 8, .sym 9, .sym 10, .sym 11]], .lit (.tuple #[.agg #[.bool false, .string ⟨#[]⟩, .int .i64 0, .bool false, .string ⟨#[]⟩, .int .i64 0], .int .i64 2])),
  (25, [.lit (.agg #[.bool false, .string ⟨#[]⟩, .int .i64 0, .bool false, .string ⟨#[]⟩, .int .i64 0])], .tup [.agg [.sym 12, .sym 13, .sym 14], .sym 15]),
  (25, [.agg [.sym 0, .sym 1, .sym 2, .sym 3, .sym 4, .sym 5]], .tup [.agg [.sym 16, .sym 17, .sym 18], .sym 19]),
  (25, [.agg [.sym 6, .sym 7, .sym 8, .sym 9, .sym 10, .sym 11]], .lit (.tuple #[.agg #[.bool false, .string ⟨#[]⟩, .int .i64 0], .int .i64 2])),
  (26, [.agg [.sym 16, .sym 17, .sym 18], .lit (.agg #[.bool false, .string ⟨#[]⟩, .int .i64 0])], .tup [.agg [.sym 20, .sym 21, .sym 22], .sym 23]),
  (20, [.row 5 0 [.lit (.int .i64 2), .sym 15, .sym 19, .lit (.int .i64 2), .sym 23]], .lit (.bool b1)),
  (27, [.agg [.sym 0, .sym 1, .sym 2, .sym 3, .sym 4, .sym 5], .agg [.sym 6, .sym 7, .sym 8, .sym 9, .sym 10, .sym 11]], .lit (.tuple #[.agg #[.bool false, .string ⟨#[]⟩, .int .i64 0], .int .i64 2])),
  (28, [.agg [.sym 0, .sym 1, .sym 2, .sym 3, .sym 4, .sym 5], .agg [.sym 6, .sym 7, .sym 8, .sym 9, .sym 10, .sym 11]], .lit (.tuple #[.agg #[.bool false, .string ⟨#[]⟩, .int .i64 0], .int .i64 2])),
  (24, [.agg [.sym 0, .sym 1, .sym 2, .sym 3, .sym 4, .sym 5]], .agg [.sym 24, .sym 25, .sym 26, .sym 27, .sym 28, .sym 29]),
  (9, [.agg [.sym 24, .sym 25, .sym 26, .sym 27, .sym 28, .sym 29], .agg [.sym 6, .sym 7, .sym 8, .sym 9, .sym 10, .sym 11]], .lit (.tuple #[.agg #[.bool false, .string ⟨#[]⟩, .int .i64 0, .bool false, .string ⟨#[]⟩, .int .i64 0], .int .i64 2])),
  (20, [.row 3 0 [.lit (.int .i64 2), .lit (.int .i64 2), .lit (.int .i64 2)]], .lit (.bool b2)),
  (26, [.lit (.agg #[.bool false, .string ⟨#[]⟩, .int .i64 0]), .lit (.agg #[.bool false, .string ⟨#[]⟩, .int .i64 0])], .tup [.agg [.sym 30, .sym 31, .sym 32], .sym 33]),
  (29, [.agg [.sym 30, .sym 31, .sym 32], .agg [.sym 30, .sym 31, .sym 32]], .tup [.agg [.sym 34, .sym 35, .sym 36], .sym 37]),
  (20, [.row 8 0 [.lit (.int .i64 2), .lit (.int .i64 2), .sym 19, .lit (.int .i64 2), .sym 23, .sym 33, .sym 33, .sym 37]], .lit (.bool b3))]⟩
theorem GaussParts_ob_r1 : @comes (GaussParts_ob_k false false false) Tryd.prog glT 3000 5 [.agg [.sym 0, .sym 1, .sym 2, .sym 3, .sym 4, .sym 5], .agg [.sym 6, .sym 7, .sym 8, .sym 9, .sym 10, .sym 11]] = some (.lit (.bool true)) := by kernel_rfl
set_option maxRecDepth 100000 in
theorem GaussParts_ob (a : Gs) (b : Gt) (w : World) (oa : a.Ok) (zb : b.Small) (nb : ¬ b.Ok) (hG : Globs glT w) : Calls Tryd.prog 5 #[.agg #[.bool a.re.g, .string (natS a.re.n), .int .i64 a.re.x, .bool a.im.g, .string (natS a.im.n), .int .i64 a.im.x], .agg #[.bool b.re.g, .string b.re.s, .int .i64 b.re.x, .bool b.im.g, .string b.im.s, .int .i64 b.im.x]] w fun e w' => e = .returned (.bool true) ∧ Below w.heap.size w w' := by
  obtain ⟨b1, i1⟩ := bex (allB [2, dotE Gs.zero Gs.zero, dotE a a, 2, mulE (dotD a a) Dy.zero] = true)
  obtain ⟨b2, i2⟩ := bex (allB [2, 2, 2] = true)
  obtain ⟨b3, i3⟩ := bex (allB [2, 2, dotE a a, 2, mulE (dotD a a) Dy.zero, mulE Dy.zero Dy.zero, mulE Dy.zero Dy.zero, addE (mulD Dy.zero Dy.zero) (mulD Dy.zero Dy.zero)] = true)
  letI : Env := mkEnv glT [.bool a.re.g, .string (natS a.re.n), .int .i64 a.re.x, .bool a.im.g, .string (natS a.im.n), .int .i64 a.im.x, .bool b.re.g, .string b.re.s, .int .i64 b.re.x, .bool b.im.g, .string b.im.s, .int .i64 b.im.x, .bool (dotD Gs.zero Gs.zero).g, .string (natS (dotD Gs.zero Gs.zero).n), .int .i64 (dotD Gs.zero Gs.zero).x, .int .i64 (dotE Gs.zero Gs.zero), .bool (dotD a a).g, .string (natS (dotD a a).n), .int .i64 (dotD a a).x, .int .i64 (dotE a a), .bool (mulD (dotD a a) Dy.zero).g, .string (natS (mulD (dotD a a) Dy.zero).n), .int .i64 (mulD (dotD a a) Dy.zero).x, .int .i64 (mulE (dotD a a) Dy.zero), .bool ((conjG a).re).g, .string (natS ((conjG a).re).n), .int .i64 ((conjG a).re).x, .bool ((conjG a).im).g, .string (natS ((conjG a).im).n), .int .i64 ((conjG a).im).x, .bool (mulD Dy.zero Dy.zero).g, .string (natS (mulD Dy.zero Dy.zero).n), .int .i64 (mulD Dy.zero Dy.zero).x, .int .i64 (mulE Dy.zero Dy.zero), .bool (addD (mulD Dy.zero Dy.zero) (mulD Dy.zero Dy.zero)).g, .string (natS (addD (mulD Dy.zero Dy.zero) (mulD Dy.zero Dy.zero)).n), .int .i64 (addD (mulD Dy.zero Dy.zero) (mulD Dy.zero Dy.zero)).x, .int .i64 (addE (mulD Dy.zero Dy.zero) (mulD Dy.zero Dy.zero))] rfl
  have hops : OpsT Tryd.prog (@Know.ops (GaussParts_ob_k b1 b2 b3)) := trivial
  have hcalls : CallsT Tryd.prog (@Know.calls (GaussParts_ob_k b1 b2 b3)) := ⟨callt rfl rfl fun w hG => awake6_c w hG,
    callt rfl rfl fun w hG => GMul_bad a.t b w (gs_small oa) zb (fun c => nb c.2) hG,
    callt rfl rfl fun w hG => (by have h := GNorm_c Gs.zero w Gs.zero_Ok hG; rw [natS_gzr, natS_gzi] at h; exact h),
    callt rfl rfl fun w hG => GNorm_c a w oa hG,
    callt rfl rfl fun w hG => GNorm_bad b w zb nb hG,
    callt rfl rfl fun w hG => (by have h := DMul_c (dotD a a) Dy.zero w (dotD_Ok a a) (Or.inl rfl); rw [natS_dz] at h; exact h),
    callt_row rfl fun w B0 c0 hG hB hC => lAll06_i B0 c0 [2, dotE Gs.zero Gs.zero, dotE a a, 2, mulE (dotD a a) Dy.zero] w (by simp) (ers_of hB hC rfl) i1,
    callt rfl rfl fun w hG => GDot_bad a.t b w (gs_small oa) zb (fun c => nb c.2) hG,
    callt rfl rfl fun w hG => GCross_bad a.t b w (gs_small oa) zb (fun c => nb c.2) hG,
    callt rfl rfl fun w hG => GConj_c a w oa hG,
    callt rfl rfl fun w hG => GMul_bad (conjG a).t b w (gs_small (conjG_Ok oa)) zb (fun c => nb c.2) hG,
    callt_row rfl fun w B0 c0 hG hB hC => lAll06_i B0 c0 [2, 2, 2] w (by simp) (ers_of hB hC rfl) i2,
    callt rfl rfl fun w hG => (by have h := DMul_c Dy.zero Dy.zero w (Or.inl rfl) (Or.inl rfl); rw [natS_dz] at h; exact h),
    callt rfl rfl fun w hG => DAdd_c (mulD Dy.zero Dy.zero) (mulD Dy.zero Dy.zero) w (mulD_Ok Dy.zero Dy.zero) (mulD_Ok Dy.zero Dy.zero) hG,
    callt_row rfl fun w B0 c0 hG hB hC => lAll06_i B0 c0 [2, 2, dotE a a, 2, mulE (dotD a a) Dy.zero, mulE Dy.zero Dy.zero, mulE Dy.zero Dy.zero, addE (mulD Dy.zero Dy.zero) (mulD Dy.zero Dy.zero)] w (by simp) (ers_of hB hC rfl) i3,
    trivial⟩
  have fin : ∀ v, @comes (GaussParts_ob_k b1 b2 b3) Tryd.prog glT 3000 5 [.agg [.sym 0, .sym 1, .sym 2, .sym 3, .sym 4, .sym 5], .agg [.sym 6, .sym 7, .sym 8, .sym 9, .sym 10, .sym 11]] = some v → ground v = true → Ending.returned (gval v) = .returned (.bool true) → Calls Tryd.prog 5 #[.agg #[.bool a.re.g, .string (natS a.re.n), .int .i64 a.re.x, .bool a.im.g, .string (natS a.im.n), .int .i64 a.im.x], .agg #[.bool b.re.g, .string b.re.s, .int .i64 b.re.x, .bool b.im.g, .string b.im.s, .int .i64 b.im.x]] w fun e w' => e = .returned (.bool true) ∧ Below w.heap.size w w' := fun v h1 h2 h3 => (@sym_ok _ (GaussParts_ob_k b1 b2 b3) _ (@KnowOk.of _ (GaussParts_ob_k b1 b2 b3) _ hops hcalls) (by kernel_rfl) _ _ _ _ h1 rfl h2 _ hG).mono fun e w' h => ⟨h.1.trans h3, h.2⟩
  clear hops hcalls
  cases b1 with
  | true =>
    exact absurd (i1.1 rfl) (fun h => absurd (allB_iff.1 h 2 (by simp)) (by decide))
  | false =>
    have h1 : ¬ (allB [2, dotE Gs.zero Gs.zero, dotE a a, 2, mulE (dotD a a) Dy.zero] = true) := fun c => Bool.false_ne_true (i1.2 c)
    cases b2 with
    | true =>
      exact absurd (i2.1 rfl) (fun h => absurd (allB_iff.1 h 2 (by simp)) (by decide))
    | false =>
      have h2 : ¬ (allB [2, 2, 2] = true) := fun c => Bool.false_ne_true (i2.2 c)
      cases b3 with
      | true =>
        exact absurd (i3.1 rfl) (fun h => absurd (allB_iff.1 h 2 (by simp)) (by decide))
      | false =>
        have h3 : ¬ (allB [2, 2, dotE a a, 2, mulE (dotD a a) Dy.zero, mulE Dy.zero Dy.zero, mulE Dy.zero Dy.zero, addE (mulD Dy.zero Dy.zero) (mulD Dy.zero Dy.zero)] = true) := fun c => Bool.false_ne_true (i3.2 c)
        exact fin _ (GaussParts_ob_r1) rfl rfl

@[reducible] noncomputable def GaussParts_bo_k (b1 b2 b3 : Bool) : Know := ⟨[],
  [(16, [], .lit (.bool true)),
  (9, [.agg [.sym 0, .sym 1, .sym 2, .sym 3, .sym 4, .sym 5], .agg [.sym 6, .sym 7, .sym 8, .sym 9, .sym 10, .sym 11]], .lit (.tuple #[.agg #[.bool false, .string ⟨#[]⟩, .int .i64 0, .bool false, .string ⟨#[]⟩, .int .i64 0], .int .i64 2])),
  (25, [.lit (.agg #[.bool false, .string ⟨#[]⟩, .int .i64 0, .bool false, .string ⟨#[]⟩, .int .i64 0])], .tup [.agg [.sym 12, .sym 13, .sym 14], .sym 15]),
  (25, [.agg [.sym 0, .sym 1, .sym 2, .sym 3, .sym 4, .sym 5]], .lit (.tuple #[.agg #[.bool false, .string ⟨#[]⟩, .int .i64 0], .int .i64 2])),
  (25, [.agg [.sym 6, .sym 7, .sym 8, .sym 9, .sym 10, .sym 11]], .tup [.agg [.sym 16, .sym 17, .sym 18], .sym 19]),
  (26, [.lit (.agg #[.bool false, .string ⟨#[]⟩, .int .i64 0]), .agg [.sym 16, .sym 17, .sym 18]], .tup [.agg [.sym 20, .sym 21, .sym 22], .sym 23]),
  (20, [.row 5 0 [.lit (.int .i64 2), .sym 15, .lit (.int .i64 2), .sym 19, .sym 23]], .lit (.bool b1)),
  (27, [.agg [.sym 0, .sym 1, .sym 2, .sym 3, .sym 4, .sym 5], .agg [.sym 6, .sym 7, .sym 8, .sym 9, .sym 10, .sym 11]], .lit (.tuple #[.agg #[.bool false, .string ⟨#[]⟩, .int .i64 0], .int .i64 2])),
  (28, [.agg [.sym 0, .sym 1, .sym 2, .sym 3, .sym 4, .sym 5], .agg [.sym 6, .sym 7, .sym 8, .sym 9, .sym 10, .sym 11]], .lit (.tuple #[.agg #[.bool false, .string ⟨#[]⟩, .int .i64 0], .int .i64 2])),
  (24, [.agg [.sym 0, .sym 1, .sym 2, .sym 3, .sym 4, .sym 5]], .lit (.agg #[.bool false, .string ⟨#[]⟩, .int .i64 0, .bool false, .string ⟨#[]⟩, .int .i64 0])),
  (9, [.lit (.agg #[.bool false, .string ⟨#[]⟩, .int .i64 0, .bool false, .string ⟨#[]⟩, .int .i64 0]), .agg [.sym 6, .sym 7, .sym 8, .sym 9, .sym 10, .sym 11]], .tup [.agg [.sym 24, .sym 25, .sym 26, .sym 27, .sym 28, .sym 29], .sym 30]),
  (20, [.row 3 0 [.lit (.int .i64 2), .lit (.int .i64 2), .sym 30]], .lit (.bool b2)),
  (26, [.lit (.agg #[.bool false, .string ⟨#[]⟩, .int .i64 0]), .lit (.agg #[.bool false, .string ⟨#[]⟩, .int .i64 0])], .tup [.agg [.sym 31, .sym 32, .sym 33], .sym 34]),
  (29, [.agg [.sym 31, .sym 32, .sym 33], .agg [.sym 31, .sym 32, .sym 33]], .tup [.agg [.sym 35, .sym 36, .sym 37], .sym 38]),
  (20, [.row 8 0 [.lit (.int .i64 2), .lit (.int .i64 2), .lit (.int .i64 2), .sym 19, .sym 23, .sym 34, .sym 34, .sym 38]], .lit (.bool b3))]⟩
theorem GaussParts_bo_r1 : @comes (GaussParts_bo_k false false false) Tryd.prog glT 3000 5 [.agg [.sym 0, .sym 1, .sym 2, .sym 3, .sym 4, .sym 5], .agg [.sym 6, .sym 7, .sym 8, .sym 9, .sym 10, .sym 11]] = some (.lit (.bool true)) := by kernel_rfl
set_option maxRecDepth 100000 in
theorem GaussParts_bo (a : Gt) (b : Gs) (w : World) (za : a.Small) (na : ¬ a.Ok) (ob : b.Ok) (hG : Globs glT w) : Calls Tryd.prog 5 #[.agg #[.bool a.re.g, .string a.re.s, .int .i64 a.re.x, .bool a.im.g, .string a.im.s, .int .i64 a.im.x], .agg #[.bool b.re.g, .string (natS b.re.n), .int .i64 b.re.x, .bool b.im.g, .string (natS b.im.n), .int .i64 b.im.x]] w fun e w' => e = .returned (.bool true) ∧ Below w.heap.size w w' := by
  obtain ⟨b1, i1⟩ := bex (allB [2, dotE Gs.zero Gs.zero, 2, dotE b b, mulE Dy.zero (dotD b b)] = true)
  obtain ⟨b2, i2⟩ := bex (allB [2, 2, gmulE Gs.zero b] = true)
  obtain ⟨b3, i3⟩ := bex (allB [2, 2, 2, dotE b b, mulE Dy.zero (dotD b b), mulE Dy.zero Dy.zero, mulE Dy.zero Dy.zero, addE (mulD Dy.zero Dy.zero) (mulD Dy.zero Dy.zero)] = true)
  letI : Env := mkEnv glT [.bool a.re.g, .string a.re.s, .int .i64 a.re.x, .bool a.im.g, .string a.im.s, .int .i64 a.im.x, .bool b.re.g, .string (natS b.re.n), .int .i64 b.re.x, .bool b.im.g, .string (natS b.im.n), .int .i64 b.im.x, .bool (dotD Gs.zero Gs.zero).g, .string (natS (dotD Gs.zero Gs.zero).n), .int .i64 (dotD Gs.zero Gs.zero).x, .int .i64 (dotE Gs.zero Gs.zero), .bool (dotD b b).g, .string (natS (dotD b b).n), .int .i64 (dotD b b).x, .int .i64 (dotE b b), .bool (mulD Dy.zero (dotD b b)).g, .string (natS (mulD Dy.zero (dotD b b)).n), .int .i64 (mulD Dy.zero (dotD b b)).x, .int .i64 (mulE Dy.zero (dotD b b)), .bool ((gmulD Gs.zero b).re).g, .string (natS ((gmulD Gs.zero b).re).n), .int .i64 ((gmulD Gs.zero b).re).x, .bool ((gmulD Gs.zero b).im).g, .string (natS ((gmulD Gs.zero b).im).n), .int .i64 ((gmulD Gs.zero b).im).x, .int .i64 (gmulE Gs.zero b), .bool (mulD Dy.zero Dy.zero).g, .string (natS (mulD Dy.zero Dy.zero).n), .int .i64 (mulD Dy.zero Dy.zero).x, .int .i64 (mulE Dy.zero Dy.zero), .bool (addD (mulD Dy.zero Dy.zero) (mulD Dy.zero Dy.zero)).g, .string (natS (addD (mulD Dy.zero Dy.zero) (mulD Dy.zero Dy.zero)).n), .int .i64 (addD (mulD Dy.zero Dy.zero) (mulD Dy.zero Dy.zero)).x, .int .i64 (addE (mulD Dy.zero Dy.zero) (mulD Dy.zero Dy.zero))] rfl
  have hops : OpsT Tryd.prog (@Know.ops (GaussParts_bo_k b1 b2 b3)) := trivial
  have hcalls : CallsT Tryd.prog (@Know.calls (GaussParts_bo_k b1 b2 b3)) := ⟨callt rfl rfl fun w hG => awake6_c w hG,
    callt rfl rfl fun w hG => GMul_bad a b.t w za (gs_small ob) (fun c => na c.1) hG,
    callt rfl rfl fun w hG => (by have h := GNorm_c Gs.zero w Gs.zero_Ok hG; rw [natS_gzr, natS_gzi] at h; exact h),
    callt rfl rfl fun w hG => GNorm_bad a w za na hG,
    callt rfl rfl fun w hG => GNorm_c b w ob hG,
    callt rfl rfl fun w hG => (by have h := DMul_c Dy.zero (dotD b b) w (Or.inl rfl) (dotD_Ok b b); rw [natS_dz] at h; exact h),
    callt_row rfl fun w B0 c0 hG hB hC => lAll06_i B0 c0 [2, dotE Gs.zero Gs.zero, 2, dotE b b, mulE Dy.zero (dotD b b)] w (by simp) (ers_of hB hC rfl) i1,
    callt rfl rfl fun w hG => GDot_bad a b.t w za (gs_small ob) (fun c => na c.1) hG,
    callt rfl rfl fun w hG => GCross_bad a b.t w za (gs_small ob) (fun c => na c.1) hG,
    callt rfl rfl fun w hG => GConj_bad a w za na hG,
    callt rfl rfl fun w hG => (by have h := GMul_c Gs.zero b w Gs.zero_Ok ob hG; rw [natS_gzr, natS_gzi] at h; exact h),
    callt_row rfl fun w B0 c0 hG hB hC => lAll06_i B0 c0 [2, 2, gmulE Gs.zero b] w (by simp) (ers_of hB hC rfl) i2,
    callt rfl rfl fun w hG => (by have h := DMul_c Dy.zero Dy.zero w (Or.inl rfl) (Or.inl rfl); rw [natS_dz] at h; exact h),
    callt rfl rfl fun w hG => DAdd_c (mulD Dy.zero Dy.zero) (mulD Dy.zero Dy.zero) w (mulD_Ok Dy.zero Dy.zero) (mulD_Ok Dy.zero Dy.zero) hG,
    callt_row rfl fun w B0 c0 hG hB hC => lAll06_i B0 c0 [2, 2, 2, dotE b b, mulE Dy.zero (dotD b b), mulE Dy.zero Dy.zero, mulE Dy.zero Dy.zero, addE (mulD Dy.zero Dy.zero) (mulD Dy.zero Dy.zero)] w (by simp) (ers_of hB hC rfl) i3,
    trivial⟩
  have fin : ∀ v, @comes (GaussParts_bo_k b1 b2 b3) Tryd.prog glT 3000 5 [.agg [.sym 0, .sym 1, .sym 2, .sym 3, .sym 4, .sym 5], .agg [.sym 6, .sym 7, .sym 8, .sym 9, .sym 10, .sym 11]] = some v → ground v = true → Ending.returned (gval v) = .returned (.bool true) → Calls Tryd.prog 5 #[.agg #[.bool a.re.g, .string a.re.s, .int .i64 a.re.x, .bool a.im.g, .string a.im.s, .int .i64 a.im.x], .agg #[.bool b.re.g, .string (natS b.re.n), .int .i64 b.re.x, .bool b.im.g, .string (natS b.im.n), .int .i64 b.im.x]] w fun e w' => e = .returned (.bool true) ∧ Below w.heap.size w w' := fun v h1 h2 h3 => (@sym_ok _ (GaussParts_bo_k b1 b2 b3) _ (@KnowOk.of _ (GaussParts_bo_k b1 b2 b3) _ hops hcalls) (by kernel_rfl) _ _ _ _ h1 rfl h2 _ hG).mono fun e w' h => ⟨h.1.trans h3, h.2⟩
  clear hops hcalls
  cases b1 with
  | true =>
    exact absurd (i1.1 rfl) (fun h => absurd (allB_iff.1 h 2 (by simp)) (by decide))
  | false =>
    have h1 : ¬ (allB [2, dotE Gs.zero Gs.zero, 2, dotE b b, mulE Dy.zero (dotD b b)] = true) := fun c => Bool.false_ne_true (i1.2 c)
    cases b2 with
    | true =>
      exact absurd (i2.1 rfl) (fun h => absurd (allB_iff.1 h 2 (by simp)) (by decide))
    | false =>
      have h2 : ¬ (allB [2, 2, gmulE Gs.zero b] = true) := fun c => Bool.false_ne_true (i2.2 c)
      cases b3 with
      | true =>
        exact absurd (i3.1 rfl) (fun h => absurd (allB_iff.1 h 2 (by simp)) (by decide))
      | false =>
        have h3 : ¬ (allB [2, 2, 2, dotE b b, mulE Dy.zero (dotD b b), mulE Dy.zero Dy.zero, mulE Dy.zero Dy.zero, addE (mulD Dy.zero Dy.zero) (mulD Dy.zero Dy.zero)] = true) := fun c => Bool.false_ne_true (i3.2 c)
        exact fin _ (GaussParts_bo_r1) rfl rfl

@[reducible] noncomputable def GaussParts_bb_k (b1 b2 b3 : Bool) : Know := ⟨[],
  [(16, [], .lit (.bool true)),
  (9, [.agg [.sym 0, .sym 1, .sym 2, .sym 3, .sym 4, .sym 5], .agg [.sym 6, .sym 7, .sym 8, .sym 9, .sym 10, .sym 11]], .lit (.tuple #[.agg #[.bool false, .string ⟨#[]⟩, .int .i64 0, .bool false, .string ⟨#[]⟩, .int .i64 0], .int .i64 2])),
  (25, [.lit (.agg #[.bool false, .string ⟨#[]⟩, .int .i64 0, .bool false, .string ⟨#[]⟩, .int .i64 0])], .tup [.agg [.sym 12, .sym 13, .sym 14], .sym 15]),
  (25, [.agg [.sym 0, .sym 1, .sym 2, .sym 3, .sym 4, .sym 5]], .lit (.tuple #[.agg #[.bool false, .string ⟨#[]⟩, .int .i64 0], .int .i64 2])),
  (25, [.agg [.sym 6, .sym 7, .sym 8, .sym 9, .sym 10, .sym 11]], .lit (.tuple #[.agg #[.bool false, .string ⟨#[]⟩, .int .i64 0], .int .i64 2])),
  (26, [.lit (.agg #[.bool false, .string ⟨#[]⟩, .int .i64 0]), .lit (.agg #[.bool false, .string ⟨#[]⟩, .int .i64 0])], .tup [.agg [.sym 16, .sym 17, .sym 18], .sym 19]),
  (20, [.row 5 0 [.lit (.int .i64 2), .sym 15, .lit (.int .i64 2), .lit (.int .i64 2), .sym 19]], .lit (.bool b1)),
  (27, [.agg [.sym 0, .sym 1, .sym 2, .sym 3, .sym 4, .sym 5], .agg [.sym 6, .sym 7, .sym 8, .sym 9, .sym 10, .sym 11]], .lit (.tuple #[.agg #[.bool false, .string ⟨#[]⟩, .int .i64 0], .int .i64 2])),
  (28, [.agg [.sym 0, .sym 1, .sym 2, .sym 3, .sym 4, .sym 5], .agg [.sym 6, .sym 7, .sym 8, .sym 9, .sym 10, .sym 11]], .lit (.tuple #[.agg #[.bool false, .string ⟨#[]⟩, .int .i64 0], .int .i64 2])),
  (24, [.agg [.sym 0, .sym 1, .sym 2, .sym 3, .sym 4, .sym 5]], .lit (.agg #[.bool false, .string ⟨#[]⟩, .int .i64 0, .bool false, .string ⟨#[]⟩, .int .i64 0])),
  (9, [.lit (.agg #[.bool false, .string ⟨#[]⟩, .int .i64 0, .bool false, .string ⟨#[]⟩, .int .i64 0]), .agg [.sym 6, .sym 7, .sym 8, .sym 9, .sym 10, .sym 11]], .lit (.tuple #[.agg #[.bool false, .string ⟨#[]⟩, .int .i64 0, .bool false, .string ⟨#[]⟩, .int .i64 0], .int .i64 2])),
  (20, [.row 3 0 [.lit (.int .i64 2), .lit (.int .i64 2), .lit (.int .i64 2)]], .lit (.bool b2)),
  (29, [.agg [.sym 16, .sym 17, .sym 18], .agg [.sym 16, .sym 17, .sym 18]], .tup [.agg [.sym 20, .sym 21, .sym 22], .sym 23]),
  (20, [.row 8 0 [.lit (.int .i64 2), .lit (.int .i64 2), .lit (.int .i64 2), .lit (.int .i64 2), .sym 19, .sym 19, .sym 19, .sym 23]], .lit (.bool b3))]⟩
theorem GaussParts_bb_r1 : @comes (GaussParts_bb_k false false false) Tryd.prog glT 3000 5 [.agg [.sym 0, .sym 1, .sym 2, .sym 3, .sym 4, .sym 5], .agg [.sym 6, .sym 7, .sym 8, .sym 9, .sym 10, .sym 11]] = some (.lit (.bool true)) := by kernel_rfl
set_option maxRecDepth 100000 in
theorem GaussParts_bb (a : Gt) (b : Gt) (w : World) (za : a.Small) (na : ¬ a.Ok) (zb : b.Small) (nb : ¬ b.Ok) (hG : Globs glT w) : Calls Tryd.prog 5 #[.agg #[.bool a.re.g, .string a.re.s, .int .i64 a.re.x, .bool a.im.g, .string a.im.s, .int .i64 a.im.x], .agg #[.bool b.re.g, .string b.re.s, .int .i64 b.re.x, .bool b.im.g, .string b.im.s, .int .i64 b.im.x]] w fun e w' => e = .returned (.bool true) ∧ Below w.heap.size w w' := by
  obtain ⟨b1, i1⟩ := bex (allB [2, dotE Gs.zero Gs.zero, 2, 2, mulE Dy.zero Dy.zero] = true)
  obtain ⟨b2, i2⟩ := bex (allB [2, 2, 2] = true)
  obtain ⟨b3, i3⟩ := bex (allB [2, 2, 2, 2, mulE Dy.zero Dy.zero, mulE Dy.zero Dy.zero, mulE Dy.zero Dy.zero, addE (mulD Dy.zero Dy.zero) (mulD Dy.zero Dy.zero)] = true)
  letI : Env := mkEnv glT [.bool a.re.g, .string a.re.s, .int .i64 a.re.x, .bool a.im.g, .string a.im.s, .int .i64 a.im.x, .bool b.re.g, .string b.re.s, .int .i64 b.re.x, .bool b.im.g, .string b.im.s, .int .i64 b.im.x, .bool (dotD Gs.zero Gs.zero).g, .string (natS (dotD Gs.zero Gs.zero).n), .int .i64 (dotD Gs.zero Gs.zero).x, .int .i64 (dotE Gs.zero Gs.zero), .bool (mulD Dy.zero Dy.zero).g, .string (natS (mulD Dy.zero Dy.zero).n), .int .i64 (mulD Dy.zero Dy.zero).x, .int .i64 (mulE Dy.zero Dy.zero), .bool (addD (mulD Dy.zero Dy.zero) (mulD Dy.zero Dy.zero)).g, .string (natS (addD (mulD Dy.zero Dy.zero) (mulD Dy.zero Dy.zero)).n), .int .i64 (addD (mulD Dy.zero Dy.zero) (mulD Dy.zero Dy.zero)).x, .int .i64 (addE (mulD Dy.zero Dy.zero) (mulD Dy.zero Dy.zero))] rfl
  have hops : OpsT Tryd.prog (@Know.ops (GaussParts_bb_k b1 b2 b3)) := trivial
  have hcalls : CallsT Tryd.prog (@Know.calls (GaussParts_bb_k b1 b2 b3)) := ⟨callt rfl rfl fun w hG => awake6_c w hG,
    callt rfl rfl fun w hG => GMul_bad a b w za zb (fun c => na c.1) hG,
    callt rfl rfl fun w hG => (by have h := GNorm_c Gs.zero w Gs.zero_Ok hG; rw [natS_gzr, natS_gzi] at h; exact h),
    callt rfl rfl fun w hG => GNorm_bad a w za na hG,
    callt rfl rfl fun w hG => GNorm_bad b w zb nb hG,
    callt rfl rfl fun w hG => (by have h := DMul_c Dy.zero Dy.zero w (Or.inl rfl) (Or.inl rfl); rw [natS_dz] at h; exact h),
    callt_row rfl fun w B0 c0 hG hB hC => lAll06_i B0 c0 [2, dotE Gs.zero Gs.zero, 2, 2, mulE Dy.zero Dy.zero] w (by simp) (ers_of hB hC rfl) i1,
    callt rfl rfl fun w hG => GDot_bad a b w za zb (fun c => na c.1) hG,
    callt rfl rfl fun w hG => GCross_bad a b w za zb (fun c => na c.1) hG,
    callt rfl rfl fun w hG => GConj_bad a w za na hG,
    callt rfl rfl fun w hG => GMul_bad Gt.zero b w ⟨Nat.zero_le _, Nat.zero_le _⟩ zb (fun c => nb c.2) hG,
    callt_row rfl fun w B0 c0 hG hB hC => lAll06_i B0 c0 [2, 2, 2] w (by simp) (ers_of hB hC rfl) i2,
    callt rfl rfl fun w hG => DAdd_c (mulD Dy.zero Dy.zero) (mulD Dy.zero Dy.zero) w (mulD_Ok Dy.zero Dy.zero) (mulD_Ok Dy.zero Dy.zero) hG,
    callt_row rfl fun w B0 c0 hG hB hC => lAll06_i B0 c0 [2, 2, 2, 2, mulE Dy.zero Dy.zero, mulE Dy.zero Dy.zero, mulE Dy.zero Dy.zero, addE (mulD Dy.zero Dy.zero) (mulD Dy.zero Dy.zero)] w (by simp) (ers_of hB hC rfl) i3,
    trivial⟩
  have fin : ∀ v, @comes (GaussParts_bb_k b1 b2 b3) Tryd.prog glT 3000 5 [.agg [.sym 0, .sym 1, .sym 2, .sym 3, .sym 4, .sym 5], .agg [.sym 6, .sym 7, .sym 8, .sym 9, .sym 10, .sym 11]] = some v → ground v = true → Ending.returned (gval v) = .returned (.bool true) → Calls Tryd.prog 5 #[.agg #[.bool a.re.g, .string a.re.s, .int .i64 a.re.x, .bool a.im.g, .string a.im.s, .int .i64 a.im.x], .agg #[.bool b.re.g, .string b.re.s, .int .i64 b.re.x, .bool b.im.g, .string b.im.s, .int .i64 b.im.x]] w fun e w' => e = .returned (.bool true) ∧ Below w.heap.size w w' := fun v h1 h2 h3 => (@sym_ok _ (GaussParts_bb_k b1 b2 b3) _ (@KnowOk.of _ (GaussParts_bb_k b1 b2 b3) _ hops hcalls) (by kernel_rfl) _ _ _ _ h1 rfl h2 _ hG).mono fun e w' h => ⟨h.1.trans h3, h.2⟩
  clear hops hcalls
  cases b1 with
  | true =>
    exact absurd (i1.1 rfl) (fun h => absurd (allB_iff.1 h 2 (by simp)) (by decide))
  | false =>
    have h1 : ¬ (allB [2, dotE Gs.zero Gs.zero, 2, 2, mulE Dy.zero Dy.zero] = true) := fun c => Bool.false_ne_true (i1.2 c)
    cases b2 with
    | true =>
      exact absurd (i2.1 rfl) (fun h => absurd (allB_iff.1 h 2 (by simp)) (by decide))
    | false =>
      have h2 : ¬ (allB [2, 2, 2] = true) := fun c => Bool.false_ne_true (i2.2 c)
      cases b3 with
      | true =>
        exact absurd (i3.1 rfl) (fun h => absurd (allB_iff.1 h 2 (by simp)) (by decide))
      | false =>
        have h3 : ¬ (allB [2, 2, 2, 2, mulE Dy.zero Dy.zero, mulE Dy.zero Dy.zero, mulE Dy.zero Dy.zero, addE (mulD Dy.zero Dy.zero) (mulD Dy.zero Dy.zero)] = true) := fun c => Bool.false_ne_true (i3.2 c)
        exact fin _ (GaussParts_bb_r1) rfl rfl

theorem GaussParts_law (a b : Gt) (w : World) (za : a.Small) (zb : b.Small) (hG : Globs glT w) : Calls Tryd.prog 5 #[.agg #[.bool a.re.g, .string a.re.s, .int .i64 a.re.x, .bool a.im.g, .string a.im.s, .int .i64 a.im.x], .agg #[.bool b.re.g, .string b.re.s, .int .i64 b.re.x, .bool b.im.g, .string b.im.s, .int .i64 b.im.x]] w fun e w' => e = .returned (.bool true) ∧ Below w.heap.size w w' := by
  by_cases ha : a.Ok
  · obtain ⟨a, oa, rfl⟩ := Gt.gs ha
    by_cases hb : b.Ok
    · obtain ⟨b, ob, rfl⟩ := Gt.gs hb
      exact GaussParts_oo a b w oa ob hG
    · skip
      exact GaussParts_ob a b w oa zb hb hG
  · skip
    by_cases hb : b.Ok
    · obtain ⟨b, ob, rfl⟩ := Gt.gs hb
      exact GaussParts_bo a b w za ha ob hG
    · skip
      exact GaussParts_bb a b w za ha zb hb hG

end Go.Proofs.YtciidbldnjfooaaDoor
