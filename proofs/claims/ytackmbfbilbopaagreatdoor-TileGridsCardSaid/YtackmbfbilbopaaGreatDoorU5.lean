/- Texts put together: TG4c TGL. -/
import Derived.Test.YtackmbfbilbopaaGreatDoorU4
import Derived.IntWalk
import Derived.Deep.QuietTactic
import Derived.BigQuiet
set_option linter.unusedSimpArgs false
set_option linter.unusedVariables false
namespace Go.Proofs.YtackmbfbilbopaaGreatDoor
open Go Go.RowKit Nt
set_option maxRecDepth 100000 in
set_option maxHeartbeats 4000000 in
theorem rTRect_out (G : GrT) (k : Int) (w : World) (h : G.Ok) (hn : ¬ (0 ≤ k ∧ k < G.A * G.D)) : Calls Tryz.prog 12 #[.agg #[.bool G.w.c.re.g, .string G.w.c.re.s, .int .i64 G.w.c.re.x, .bool G.w.c.im.g, .string G.w.c.im.s, .int .i64 G.w.c.im.x, .int .i64 G.w.e, .int .i64 G.w.a, .int .i64 G.w.d, .int .i64 G.x, .int .i64 G.h], .int .i64 k] w fun e w' => e = .returned (.tuple #[.agg #[.int .i64 0, .int .i64 0, .int .i64 0, .int .i64 0], .bool false]) ∧ Below w.heap.size w w' := by
  have T0 := (GrB.start w G).more (.cells #[.int .i64 0, .int .i64 0, .int .i64 0, .int .i64 0] 37)
  obtain ⟨r0, r1, r2, r3, r4, r5, r6, r7, r8, r9, r10, r11⟩ := T0.2.facts
  have B0 := (Blk.new (w.alloc (.cells #[.bool G.w.c.re.g, .string G.w.c.re.s, .int .i64 G.w.c.re.x, .bool G.w.c.im.g, .string G.w.c.im.s, .int .i64 G.w.c.im.x, .int .i64 G.w.e, .int .i64 G.w.a, .int .i64 G.w.d, .int .i64 G.x, .int .i64 G.h] 30)) 37 #[.int .i64 0, .int .i64 0, .int .i64 0, .int .i64 0])
  rw [World.size_alloc] at B0
  have b1 := (Blk.cell B0 0).trans (show _ = some (.int .i64 0 : Value) from rfl)
  have b2 := (Blk.cell B0 1).trans (show _ = some (.int .i64 0 : Value) from rfl)
  have b3 := (Blk.cell B0 2).trans (show _ = some (.int .i64 0 : Value) from rfl)
  have b4 := (Blk.cell B0 3).trans (show _ = some (.int .i64 0 : Value) from rfl)
  have f1 := Blk.frozen B0 0
  have f2 := Blk.frozen B0 1
  have f3 := Blk.frozen B0 2
  have f4 := Blk.frozen B0 3
  have b0 := Blk.lt B0
  have KV := Lib.hid (fun w => rTCount_c G w h)
  obtain ⟨⟨a1, a2, a3⟩, d1, d2, d3⟩ := GrT.ad h.1 h.2.1
  have p1 : 1 * 1 ≤ G.A * G.D := Int.mul_le_mul (by omega) (by omega) (by omega) (by omega)
  have p2 := h.2.2
  clear h a3 d3
  generalize G.A = A at *
  generalize G.D = D at *
  obtain ⟨p, hp⟩ : ∃ p, A * D = p := ⟨_, rfl⟩
  rw [hp] at p1 p2 hn
  by_cases c0 : k < 0
  · go_enter Tryz.func12, Tryz.ntmps12
    go_wp2_with (go_at_call 11; (with_reducible refine (KV.out _).mono ?_); rintro ee w1 ⟨rfl, hb⟩; replace T0 := T0.step hb; replace B0 := Blk.below B0 hb (Blk.lt B0); clear hb r0 r1 r2 r3 r4 r5 r6 r7 r8 r9 r10 r11; clear b0 b1 b2 b3 b4 f1 f2 f3 f4; obtain ⟨r0, r1, r2, r3, r4, r5, r6, r7, r8, r9, r10, r11⟩ := T0.2.facts; have b1 := (Blk.cell B0 0).trans (show _ = some (.int .i64 0 : Value) from rfl); have b2 := (Blk.cell B0 1).trans (show _ = some (.int .i64 0 : Value) from rfl); have b3 := (Blk.cell B0 2).trans (show _ = some (.int .i64 0 : Value) from rfl); have b4 := (Blk.cell B0 3).trans (show _ = some (.int .i64 0 : Value) from rfl); have f1 := Blk.frozen B0 0; have f2 := Blk.frozen B0 1; have f3 := Blk.frozen B0 2; have f4 := Blk.frozen B0 3; have b0 := Blk.lt B0)
    have B1 := Blk.put4r B0 (.int .i64 0) (.int .i64 0) (.int .i64 0) (.int .i64 0)
    have hb1 := below_put4r (n := w.heap.size) T0.1 (show w.heap.size ≤ w.heap.size + 1 by omega) (.int .i64 0) (.int .i64 0) (.int .i64 0) (.int .i64 0)
    have y1 := (Blk.cell B1 0).trans (show _ = some (.int .i64 0 : Value) from rfl)
    have y2 := (Blk.cell B1 1).trans (show _ = some (.int .i64 0 : Value) from rfl)
    have y3 := (Blk.cell B1 2).trans (show _ = some (.int .i64 0 : Value) from rfl)
    have y4 := (Blk.cell B1 3).trans (show _ = some (.int .i64 0 : Value) from rfl)
    refine bodyPost_ret (v := .tuple #[.agg #[.int .i64 0, .int .i64 0, .int .i64 0, .int .i64 0], .bool false]) (by simp [results, Tryz.results12, go_sem, y1, y2, y3, y4]) rfl ⟨rfl, hb1⟩
  · have c1 : p ≤ k := Int.not_lt.1 fun c => hn ⟨by omega, c⟩
    go_enter Tryz.func12, Tryz.ntmps12
    go_wp2_with (go_at_call 11; (with_reducible refine (KV.out _).mono ?_); rintro ee w1 ⟨rfl, hb⟩; replace T0 := T0.step hb; replace B0 := Blk.below B0 hb (Blk.lt B0); clear hb r0 r1 r2 r3 r4 r5 r6 r7 r8 r9 r10 r11; clear b0 b1 b2 b3 b4 f1 f2 f3 f4; obtain ⟨r0, r1, r2, r3, r4, r5, r6, r7, r8, r9, r10, r11⟩ := T0.2.facts; have b1 := (Blk.cell B0 0).trans (show _ = some (.int .i64 0 : Value) from rfl); have b2 := (Blk.cell B0 1).trans (show _ = some (.int .i64 0 : Value) from rfl); have b3 := (Blk.cell B0 2).trans (show _ = some (.int .i64 0 : Value) from rfl); have b4 := (Blk.cell B0 3).trans (show _ = some (.int .i64 0 : Value) from rfl); have f1 := Blk.frozen B0 0; have f2 := Blk.frozen B0 1; have f3 := Blk.frozen B0 2; have f4 := Blk.frozen B0 3; have b0 := Blk.lt B0)
    have B1 := Blk.put4r B0 (.int .i64 0) (.int .i64 0) (.int .i64 0) (.int .i64 0)
    have hb1 := below_put4r (n := w.heap.size) T0.1 (show w.heap.size ≤ w.heap.size + 1 by omega) (.int .i64 0) (.int .i64 0) (.int .i64 0) (.int .i64 0)
    have y1 := (Blk.cell B1 0).trans (show _ = some (.int .i64 0 : Value) from rfl)
    have y2 := (Blk.cell B1 1).trans (show _ = some (.int .i64 0 : Value) from rfl)
    have y3 := (Blk.cell B1 2).trans (show _ = some (.int .i64 0 : Value) from rfl)
    have y4 := (Blk.cell B1 3).trans (show _ = some (.int .i64 0 : Value) from rfl)
    refine bodyPost_ret (v := .tuple #[.agg #[.int .i64 0, .int .i64 0, .int .i64 0, .int .i64 0], .bool false]) (by simp [results, Tryz.results12, go_sem, y1, y2, y3, y4]) rfl ⟨rfl, hb1⟩
set_option maxRecDepth 100000 in
set_option maxHeartbeats 4000000 in
theorem rTRect_in (G : GrT) (k : Int) (w : World) (hG : G.Ok) (h0 : 0 ≤ k) (hk : k < G.A * G.D) : Calls Tryz.prog 12 #[.agg #[.bool G.w.c.re.g, .string G.w.c.re.s, .int .i64 G.w.c.re.x, .bool G.w.c.im.g, .string G.w.c.im.s, .int .i64 G.w.c.im.x, .int .i64 G.w.e, .int .i64 G.w.a, .int .i64 G.w.d, .int .i64 G.x, .int .i64 G.h], .int .i64 k] w fun e w' => e = .returned (.tuple #[.agg #[.int .i64 (G.rX k), .int .i64 (G.rY k), .int .i64 (G.rA k), .int .i64 (G.rD k)], .bool true]) ∧ Below w.heap.size w w' := by
  have KV := Lib.hid (fun w => rTCount_c G w hG)
  have p1 : 1 * 1 ≤ G.A * G.D := Int.mul_le_mul (GrT.ad hG.1 hG.2.1).1.1 (GrT.ad hG.1 hG.2.1).2.1 (by omega) (by have := (GrT.ad hG.1 hG.2.1).1.1; omega)
  have p2 := hG.2.2
  obtain ⟨⟨a1, a2, a3⟩, d1, d2, d3⟩ := GrT.ad hG.1 hG.2.1
  obtain ⟨⟨u1, u2, v1, v2⟩, ⟨x6, x7⟩, y6, y7⟩ := GrT.rc hG h0 hk
  obtain ⟨x1, x2, x3, x4, x5⟩ := hG.2.1
  obtain ⟨_, _, ha, hd⟩ := hG.1
  have e1 : k.tmod G.A = k % G.A := tr h0
  have e2 : k.tdiv G.A = k / G.A := tq h0
  have e3 : k % G.A * G.x = G.rX k := rfl
  have e4 : k / G.A * G.h = G.rY k := rfl
  have e5 : G.rA k = min G.x (G.w.a - G.rX k) := rfl
  have e6 : G.rD k = min G.h (G.w.d - G.rY k) := rfl
  obtain ⟨z1, z2⟩ := nz_i (show G.A ≠ 0 by omega)
  rw [e5, e6]
  generalize G.rX k = X at *
  generalize G.rY k = Y at *
  generalize k % G.A = u at *
  generalize k / G.A = v at *
  have T0 := (GrB.start w G).more (.cells #[.int .i64 0, .int .i64 0, .int .i64 0, .int .i64 0] 37)
  obtain ⟨r0, r1, r2, r3, r4, r5, r6, r7, r8, r9, r10, r11⟩ := T0.2.facts
  have B0 := (Blk.new (w.alloc (.cells #[.bool G.w.c.re.g, .string G.w.c.re.s, .int .i64 G.w.c.re.x, .bool G.w.c.im.g, .string G.w.c.im.s, .int .i64 G.w.c.im.x, .int .i64 G.w.e, .int .i64 G.w.a, .int .i64 G.w.d, .int .i64 G.x, .int .i64 G.h] 30)) 37 #[.int .i64 0, .int .i64 0, .int .i64 0, .int .i64 0])
  rw [World.size_alloc] at B0
  have b1 := (Blk.cell B0 0).trans (show _ = some (.int .i64 0 : Value) from rfl)
  have b2 := (Blk.cell B0 1).trans (show _ = some (.int .i64 0 : Value) from rfl)
  have b3 := (Blk.cell B0 2).trans (show _ = some (.int .i64 0 : Value) from rfl)
  have b4 := (Blk.cell B0 3).trans (show _ = some (.int .i64 0 : Value) from rfl)
  have f1 := Blk.frozen B0 0
  have f2 := Blk.frozen B0 1
  have f3 := Blk.frozen B0 2
  have f4 := Blk.frozen B0 3
  have b0 := Blk.lt B0
  have s0 : IntKind.i64.wrap (u) = u := IntWalk.i64_in _ (by omega)
  have s1 : IntKind.i64.wrap (v) = v := IntWalk.i64_in _ (by omega)
  have s2 : IntKind.i64.wrap (X) = X := IntWalk.i64_in _ (by omega)
  have s3 : IntKind.i64.wrap (Y) = Y := IntWalk.i64_in _ (by omega)
  have s4 : IntKind.i64.wrap (G.w.a - X) = G.w.a - X := IntWalk.i64_in _ (by omega)
  have s5 : IntKind.i64.wrap (G.w.d - Y) = G.w.d - Y := IntWalk.i64_in _ (by omega)
  clear hG
  generalize G.A = A at *
  generalize G.D = D at *
  obtain ⟨p, hp⟩ : ∃ p, A * D = p := ⟨_, rfl⟩
  rw [hp] at p1 p2 hk
  have c0 : ¬ k < 0 := by omega
  have c1 : ¬ p ≤ k := by omega
  go_enter Tryz.func12, Tryz.ntmps12
  go_wp2_with (go_at_call 11; (with_reducible refine (KV.out _).mono ?_); rintro ee w1 ⟨rfl, hb⟩; replace T0 := T0.step hb; replace B0 := Blk.below B0 hb (Blk.lt B0); clear hb r0 r1 r2 r3 r4 r5 r6 r7 r8 r9 r10 r11; clear b0 b1 b2 b3 b4 f1 f2 f3 f4; obtain ⟨r0, r1, r2, r3, r4, r5, r6, r7, r8, r9, r10, r11⟩ := T0.2.facts; have b1 := (Blk.cell B0 0).trans (show _ = some (.int .i64 0 : Value) from rfl); have b2 := (Blk.cell B0 1).trans (show _ = some (.int .i64 0 : Value) from rfl); have b3 := (Blk.cell B0 2).trans (show _ = some (.int .i64 0 : Value) from rfl); have b4 := (Blk.cell B0 3).trans (show _ = some (.int .i64 0 : Value) from rfl); have f1 := Blk.frozen B0 0; have f2 := Blk.frozen B0 1; have f3 := Blk.frozen B0 2; have f4 := Blk.frozen B0 3; have b0 := Blk.lt B0)
  go_quiet (fail)
  replace T0 := T0.step (below_drewN (Below.refl _ _) nq)
  replace B0 := Blk.drewN B0 nq
  clear r0 r1 r2 r3 r4 r5 r6 r7 r8 r9 r10 r11 b0 b1 b2 b3 b4 f1 f2 f3 f4
  generalize w1.drewN nq = w2 at *
  obtain ⟨r0, r1, r2, r3, r4, r5, r6, r7, r8, r9, r10, r11⟩ := T0.2.facts
  have b1 := (Blk.cell B0 0).trans (show _ = some (.int .i64 0 : Value) from rfl)
  have b2 := (Blk.cell B0 1).trans (show _ = some (.int .i64 0 : Value) from rfl)
  have b3 := (Blk.cell B0 2).trans (show _ = some (.int .i64 0 : Value) from rfl)
  have b4 := (Blk.cell B0 3).trans (show _ = some (.int .i64 0 : Value) from rfl)
  have f1 := Blk.frozen B0 0
  have f2 := Blk.frozen B0 1
  have f3 := Blk.frozen B0 2
  have f4 := Blk.frozen B0 3
  have b0 := Blk.lt B0
  go_wp2_with fail
  have B1 := Blk.put4r B0 (.int .i64 X) (.int .i64 Y) (.int .i64 (min G.x (G.w.a - X))) (.int .i64 (min G.h (G.w.d - Y)))
  have hb1 := below_put4r (n := w.heap.size) T0.1 (show w.heap.size ≤ w.heap.size + 1 by omega) (.int .i64 X) (.int .i64 Y) (.int .i64 (min G.x (G.w.a - X))) (.int .i64 (min G.h (G.w.d - Y)))
  have y1 := (Blk.cell B1 0).trans (show _ = some (.int .i64 X : Value) from rfl)
  have y2 := (Blk.cell B1 1).trans (show _ = some (.int .i64 Y : Value) from rfl)
  have y3 := (Blk.cell B1 2).trans (show _ = some (.int .i64 (min G.x (G.w.a - X)) : Value) from rfl)
  have y4 := (Blk.cell B1 3).trans (show _ = some (.int .i64 (min G.h (G.w.d - Y)) : Value) from rfl)
  refine bodyPost_ret (v := .tuple #[.agg #[.int .i64 X, .int .i64 Y, .int .i64 (min G.x (G.w.a - X)), .int .i64 (min G.h (G.w.d - Y))], .bool true]) (by simp [results, Tryz.results12, go_sem, y1, y2, y3, y4]) rfl ⟨rfl, hb1⟩
end Go.Proofs.YtackmbfbilbopaaGreatDoor
namespace Go.Proofs.YtackmbfbilbopaaGreatDoor
open Go Go.RowKit
set_option maxRecDepth 100000 in
theorem lives25_says : saysG Tryz.prog glT 5000 10 [] true = true := by kernel_rfl
theorem lives25_c (w : World) (hg : Globs glT w) : Calls Tryz.prog 10 #[] w fun e w' => e = .returned (.bool true) ∧ Below w.heap.size w w' := closed_with (by kernel_rfl) lives25_says hg
end Go.Proofs.YtackmbfbilbopaaGreatDoor
