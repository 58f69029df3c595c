/- Texts put together: VE5 VC7 VC4 VC8 G4 G6 VC9 VE6 VE7 Post DP GP WP. -/
import Derived.Test.YtamcnnocjelcjaaGreatDoorU5
import Derived.Laws.EntriesVeiled
import Derived.Deep.RegionWith
import Derived.Below
import Derived.ChangeSame
import Derived.Test.YtamcnnocjelcjaaGreatDoorRows
import Derived.ProofKit
import Derived.Lib.SmallJoins
import Derived.OpenShut
import Derived.ShutString
import Derived.Deep.Strs
set_option linter.unusedVariables false
set_option linter.unusedSimpArgs false
namespace Go.Proofs.YtamcnnocjelcjaaGreatDoor
open Go Go.RowKit Nt
@[reducible] def VEdges_w_f : FuncId := 4
@[reducible] def VEdges_w_a : List AV := [.agg [.sym 0, .sym 1, .sym 2, .sym 3, .sym 4, .sym 5, .sym 6, .sym 7, .sym 8], .sym 9, .sym 10, .sym 11, .sym 12, .agg [.sym 13, .sym 14, .sym 15, .sym 16, .sym 17, .sym 18]]
@[reducible] noncomputable def VEdges_w_k : Know := ⟨[],
  [(8, [], .lit (.bool true)),
  (15, [.agg [.sym 0, .sym 1, .sym 2, .sym 3, .sym 4, .sym 5, .sym 6, .sym 7, .sym 8]], .lit (.int .i64 240))]⟩
theorem VEdges_w_r1 : @comes VEdges_w_k Tryz.prog glT 3000 VEdges_w_f VEdges_w_a = some (.lit (.bool true)) := by kernel_rfl
set_option maxRecDepth 100000 in
set_option maxHeartbeats 4000000 in
theorem VEdges_w (p q : Dt) (y a b c r s t : Int) (g : Gt) (w : World) (hn : True) (HC : ∀ w, Globs glT w → Calls Tryz.prog 15 #[.agg #[.bool p.g, .string p.s, .int .i64 p.x, .bool q.g, .string q.s, .int .i64 q.x, .int .i64 y, .int .i64 a, .int .i64 b]] w fun e w' => e = .returned (.int .i64 240) ∧ Below w.heap.size w w') (hG : Globs glT w) : Calls Tryz.prog 4 #[.agg #[.bool p.g, .string p.s, .int .i64 p.x, .bool q.g, .string q.s, .int .i64 q.x, .int .i64 y, .int .i64 a, .int .i64 b], .int .i64 c, .int .i64 r, .int .i64 s, .int .i64 t, .agg #[.bool g.re.g, .string g.re.s, .int .i64 g.re.x, .bool g.im.g, .string g.im.s, .int .i64 g.im.x]] w fun e w' => e = .returned (.bool true) ∧ Below w.heap.size w w' := by
  letI : Env := mkEnv glT [.bool p.g, .string p.s, .int .i64 p.x, .bool q.g, .string q.s, .int .i64 q.x, .int .i64 y, .int .i64 a, .int .i64 b, .int .i64 c, .int .i64 r, .int .i64 s, .int .i64 t, .bool g.re.g, .string g.re.s, .int .i64 g.re.x, .bool g.im.g, .string g.im.s, .int .i64 g.im.x] rfl
  have hops : OpsT Tryz.prog (@Know.ops VEdges_w_k) := trivial
  have hcalls : CallsT Tryz.prog (@Know.calls VEdges_w_k) := ⟨callt rfl rfl fun w hG => awake24_c w hG,
    callt rfl rfl fun w hG => HC w hG,
    trivial⟩
  have fin : ∀ v, @comes VEdges_w_k Tryz.prog glT 3000 VEdges_w_f VEdges_w_a = some v → ground v = true → Ending.returned (gval v) = .returned (.bool true) → Calls Tryz.prog 4 #[.agg #[.bool p.g, .string p.s, .int .i64 p.x, .bool q.g, .string q.s, .int .i64 q.x, .int .i64 y, .int .i64 a, .int .i64 b], .int .i64 c, .int .i64 r, .int .i64 s, .int .i64 t, .agg #[.bool g.re.g, .string g.re.s, .int .i64 g.re.x, .bool g.im.g, .string g.im.s, .int .i64 g.im.x]] w fun e w' => e = .returned (.bool true) ∧ Below w.heap.size w w' := fun v h1 h2 h3 => (@sym_ok _ VEdges_w_k _ (@KnowOk.of _ VEdges_w_k _ hops hcalls) (by kernel_rfl) _ _ _ _ h1 rfl h2 _ hG).mono fun e w' h => ⟨h.1.trans h3, h.2⟩
  clear hops hcalls
  exact fin _ (VEdges_w_r1) rfl rfl
@[reducible] def VEdges_out_f : FuncId := 4
@[reducible] def VEdges_out_a : List AV := [.agg [.sym 0, .sym 1, .sym 2, .sym 3, .sym 4, .sym 5, .sym 6, .sym 7, .sym 8], .sym 9, .sym 10, .sym 11, .sym 12, .agg [.sym 13, .sym 14, .sym 15, .sym 16, .sym 17, .sym 18]]
@[reducible] noncomputable def VEdges_out_k (b1 b2 b3 b4 b5 b6 b7 b8 b9 b10 : Bool) : Know := ⟨[([0, 16, 3], [.sym 6, .lit (.int .i64 (-4096))], .lit (.bool b1)),
  ([0, 14, 3], [.sym 6, .lit (.int .i64 4096)], .lit (.bool b2)),
  ([0, 16, 3], [.sym 7, .lit (.int .i64 1)], .lit (.bool b3)),
  ([0, 14, 3], [.sym 7, .lit (.int .i64 65536)], .lit (.bool b4)),
  ([0, 16, 3], [.sym 8, .lit (.int .i64 1)], .lit (.bool b5)),
  ([0, 14, 3], [.sym 8, .lit (.int .i64 65536)], .lit (.bool b6)),
  ([0, 1, 3], [.sym 7, .lit (.int .i64 1)], .sym 19),
  ([0, 16, 3], [.sym 9, .lit (.int .i64 0)], .lit (.bool b7)),
  ([0, 14, 3], [.sym 9, .sym 19], .lit (.bool b8)),
  ([0, 1, 3], [.sym 8, .lit (.int .i64 1)], .sym 20),
  ([0, 16, 3], [.sym 10, .lit (.int .i64 0)], .lit (.bool b9)),
  ([0, 14, 3], [.sym 10, .sym 20], .lit (.bool b10))],
  [(8, [], .lit (.bool true)),
  (19, [.agg [.sym 0, .sym 1, .sym 2, .sym 3, .sym 4, .sym 5]], .lit (.int .i64 0))]⟩
theorem VEdges_out_r1 : @comes (VEdges_out_k true true true true true true true true true false) Tryz.prog glT 3000 VEdges_out_f VEdges_out_a = some (.lit (.bool true)) := by kernel_rfl
theorem VEdges_out_r2 (b10 : Bool) : @comes (VEdges_out_k true true true true true true true true false b10) Tryz.prog glT 3000 VEdges_out_f VEdges_out_a = some (.lit (.bool true)) := by kernel_rfl
theorem VEdges_out_r3 (b9 b10 : Bool) : @comes (VEdges_out_k true true true true true true true false b9 b10) Tryz.prog glT 3000 VEdges_out_f VEdges_out_a = some (.lit (.bool true)) := by kernel_rfl
theorem VEdges_out_r4 (b8 b9 b10 : Bool) : @comes (VEdges_out_k true true true true true true false b8 b9 b10) Tryz.prog glT 3000 VEdges_out_f VEdges_out_a = some (.lit (.bool true)) := by kernel_rfl
set_option maxRecDepth 100000 in
set_option maxHeartbeats 4000000 in
theorem VEdges_out (p q : Dy) (y a b c r s t : Int) (g : Gt) (w : World) (hp : p.Ok) (hq : q.Ok) (hy : -4096 ≤ y ∧ y ≤ 4096) (ha : 1 ≤ a ∧ a ≤ 65536) (hb : 1 ≤ b ∧ b ≤ 65536) (hout : ¬ (c ≥ 0 ∧ c ≤ a - 1 ∧ r ≥ 0 ∧ r ≤ b - 1)) (hG : Globs glT w) : Calls Tryz.prog 4 #[.agg #[.bool p.g, .string (natS p.n), .int .i64 p.x, .bool q.g, .string (natS q.n), .int .i64 q.x, .int .i64 y, .int .i64 a, .int .i64 b], .int .i64 c, .int .i64 r, .int .i64 s, .int .i64 t, .agg #[.bool g.re.g, .string g.re.s, .int .i64 g.re.x, .bool g.im.g, .string g.im.s, .int .i64 g.im.x]] w fun e w' => e = .returned (.bool true) ∧ Below w.heap.size w w' := by
  obtain ⟨b1, i1⟩ := bex (y ≥ -4096)
  obtain ⟨b2, i2⟩ := bex (y ≤ 4096)
  obtain ⟨b3, i3⟩ := bex (a ≥ 1)
  obtain ⟨b4, i4⟩ := bex (a ≤ 65536)
  obtain ⟨b5, i5⟩ := bex (b ≥ 1)
  obtain ⟨b6, i6⟩ := bex (b ≤ 65536)
  obtain ⟨b7, i7⟩ := bex (c ≥ 0)
  obtain ⟨b8, i8⟩ := bex (c ≤ a - 1)
  obtain ⟨b9, i9⟩ := bex (r ≥ 0)
  obtain ⟨b10, i10⟩ := bex (r ≤ b - 1)
  letI : Env := mkEnv glT [.bool p.g, .string (natS p.n), .int .i64 p.x, .bool q.g, .string (natS q.n), .int .i64 q.x, .int .i64 y, .int .i64 a, .int .i64 b, .int .i64 c, .int .i64 r, .int .i64 s, .int .i64 t, .bool g.re.g, .string g.re.s, .int .i64 g.re.x, .bool g.im.g, .string g.im.s, .int .i64 g.im.x, .int .i64 (a - 1), .int .i64 (b - 1)] rfl
  have hops : OpsT Tryz.prog (@Know.ops (VEdges_out_k b1 b2 b3 b4 b5 b6 b7 b8 b9 b10)) := ⟨opt_geq_i rfl rfl i1,
    opt_leq_i rfl rfl i2,
    opt_geq_i rfl rfl i3,
    opt_leq_i rfl rfl i4,
    opt_geq_i rfl rfl i5,
    opt_leq_i rfl rfl i6,
    vopt_sub rfl rfl rfl rfl (by omega) ⟨by omega, by omega⟩,
    opt_geq_i rfl rfl i7,
    opt_leq_i rfl rfl i8,
    vopt_sub rfl rfl rfl rfl (by omega) ⟨by omega, by omega⟩,
    opt_geq_i rfl rfl i9,
    opt_leq_i rfl rfl i10,
    trivial⟩
  have hcalls : CallsT Tryz.prog (@Know.calls (VEdges_out_k b1 b2 b3 b4 b5 b6 b7 b8 b9 b10)) := ⟨callt rfl rfl fun w hG => awake24_c w hG,
    callt rfl rfl fun w hG => GCheck_gs ⟨p, q⟩ ⟨hp, hq⟩ w hG,
    trivial⟩
  have fin : ∀ v, @comes (VEdges_out_k b1 b2 b3 b4 b5 b6 b7 b8 b9 b10) Tryz.prog glT 3000 VEdges_out_f VEdges_out_a = some v → ground v = true → Ending.returned (gval v) = .returned (.bool true) → Calls Tryz.prog 4 #[.agg #[.bool p.g, .string (natS p.n), .int .i64 p.x, .bool q.g, .string (natS q.n), .int .i64 q.x, .int .i64 y, .int .i64 a, .int .i64 b], .int .i64 c, .int .i64 r, .int .i64 s, .int .i64 t, .agg #[.bool g.re.g, .string g.re.s, .int .i64 g.re.x, .bool g.im.g, .string g.im.s, .int .i64 g.im.x]] w fun e w' => e = .returned (.bool true) ∧ Below w.heap.size w w' := fun v h1 h2 h3 => (@sym_ok _ (VEdges_out_k b1 b2 b3 b4 b5 b6 b7 b8 b9 b10) _ (@KnowOk.of _ (VEdges_out_k b1 b2 b3 b4 b5 b6 b7 b8 b9 b10) _ hops hcalls) (by kernel_rfl) _ _ _ _ h1 rfl h2 _ hG).mono fun e w' h => ⟨h.1.trans h3, h.2⟩
  clear hops hcalls
  cases b1 with
  | true =>
    have h1 : y ≥ -4096 := i1.1 rfl
    cases b2 with
    | true =>
      have h2 : y ≤ 4096 := i2.1 rfl
      cases b3 with
      | true =>
        have h3 : a ≥ 1 := i3.1 rfl
        cases b4 with
        | true =>
          have h4 : a ≤ 65536 := i4.1 rfl
          cases b5 with
          | true =>
            have h5 : b ≥ 1 := i5.1 rfl
            cases b6 with
            | true =>
              have h6 : b ≤ 65536 := i6.1 rfl
              cases b7 with
              | true =>
                have h7 : c ≥ 0 := i7.1 rfl
                cases b8 with
                | true =>
                  have h8 : c ≤ a - 1 := i8.1 rfl
                  cases b9 with
                  | true =>
                    have h9 : r ≥ 0 := i9.1 rfl
                    cases b10 with
                    | true =>
                      exact absurd (i10.1 rfl) (fun c => hout ⟨h7, h8, h9, c⟩)
                    | false =>
                      have h10 : ¬ (r ≤ b - 1) := fun c => Bool.false_ne_true (i10.2 c)
                      exact fin _ (VEdges_out_r1) rfl rfl
                  | false =>
                    have h9 : ¬ (r ≥ 0) := fun c => Bool.false_ne_true (i9.2 c)
                    exact fin _ (VEdges_out_r2 b10) rfl rfl
                | false =>
                  have h8 : ¬ (c ≤ a - 1) := fun c => Bool.false_ne_true (i8.2 c)
                  exact fin _ (VEdges_out_r3 b9 b10) rfl rfl
              | false =>
                have h7 : ¬ (c ≥ 0) := fun c => Bool.false_ne_true (i7.2 c)
                exact fin _ (VEdges_out_r4 b8 b9 b10) rfl rfl
            | false =>
              exact absurd (i6.2 ((by omega))) Bool.false_ne_true
          | false =>
            exact absurd (i5.2 ((by omega))) Bool.false_ne_true
        | false =>
          exact absurd (i4.2 ((by omega))) Bool.false_ne_true
      | false =>
        exact absurd (i3.2 ((by omega))) Bool.false_ne_true
    | false =>
      exact absurd (i2.2 ((by omega))) Bool.false_ne_true
  | false =>
    exact absurd (i1.2 ((by omega))) Bool.false_ne_true
@[reducible] def VEdges_long_f : FuncId := 4
@[reducible] def VEdges_long_a : List AV := [.agg [.sym 0, .sym 1, .sym 2, .sym 3, .sym 4, .sym 5, .sym 6, .sym 7, .sym 8], .sym 9, .sym 10, .sym 11, .sym 12, .agg [.sym 13, .sym 14, .sym 15, .sym 16, .sym 17, .sym 18]]
@[reducible] noncomputable def VEdges_long_k (b1 b2 b3 b4 b5 b6 b7 b8 b9 b10 b11 b12 : Bool) : Know := ⟨[([0, 16, 3], [.sym 6, .lit (.int .i64 (-4096))], .lit (.bool b1)),
  ([0, 14, 3], [.sym 6, .lit (.int .i64 4096)], .lit (.bool b2)),
  ([0, 16, 3], [.sym 7, .lit (.int .i64 1)], .lit (.bool b3)),
  ([0, 14, 3], [.sym 7, .lit (.int .i64 65536)], .lit (.bool b4)),
  ([0, 16, 3], [.sym 8, .lit (.int .i64 1)], .lit (.bool b5)),
  ([0, 14, 3], [.sym 8, .lit (.int .i64 65536)], .lit (.bool b6)),
  ([0, 1, 3], [.sym 7, .lit (.int .i64 1)], .sym 19),
  ([0, 16, 3], [.sym 9, .lit (.int .i64 0)], .lit (.bool b7)),
  ([0, 14, 3], [.sym 9, .sym 19], .lit (.bool b8)),
  ([0, 1, 3], [.sym 8, .lit (.int .i64 1)], .sym 20),
  ([0, 16, 3], [.sym 10, .lit (.int .i64 0)], .lit (.bool b9)),
  ([0, 14, 3], [.sym 10, .sym 20], .lit (.bool b10)),
  ([0, 2, 3], [.lit (.int .i64 2), .sym 9], .sym 21),
  ([0, 1, 3], [.sym 21, .sym 7], .sym 22),
  ([0, 2, 3], [.lit (.int .i64 2), .sym 10], .sym 30),
  ([0, 1, 3], [.sym 8, .sym 30], .sym 31),
  ([0, 1, 3], [.sym 31, .lit (.int .i64 2)], .sym 32),
  ([0, 12, 31], [.sym 29, .lit (.int .i64 0)], .lit (.bool (!b11))),
  ([0, 12, 31], [.sym 39, .lit (.int .i64 0)], .lit (.bool (!b12)))],
  [(8, [], .lit (.bool true)),
  (19, [.agg [.sym 0, .sym 1, .sym 2, .sym 3, .sym 4, .sym 5]], .lit (.int .i64 0)),
  (39, [.sym 22, .sym 6], .agg [.sym 23, .sym 24, .sym 25]),
  (38, [.agg [.sym 0, .sym 1, .sym 2], .agg [.sym 23, .sym 24, .sym 25]], .tup [.agg [.sym 26, .sym 27, .sym 28], .sym 29]),
  (39, [.sym 32, .sym 6], .agg [.sym 33, .sym 34, .sym 35]),
  (38, [.agg [.sym 3, .sym 4, .sym 5], .agg [.sym 33, .sym 34, .sym 35]], .tup [.agg [.sym 36, .sym 37, .sym 38], .sym 39])]⟩
theorem VEdges_long_r1 : @comes (VEdges_long_k true true true true true true true true true true true false) Tryz.prog glT 3000 VEdges_long_f VEdges_long_a = some (.lit (.bool true)) := by kernel_rfl
theorem VEdges_long_r2 (b12 : Bool) : @comes (VEdges_long_k true true true true true true true true true true false b12) Tryz.prog glT 3000 VEdges_long_f VEdges_long_a = some (.lit (.bool true)) := by kernel_rfl
set_option maxRecDepth 100000 in
set_option maxHeartbeats 4000000 in
theorem VEdges_long (p q : Dy) (y a b c r s t : Int) (g : Gt) (w : World) (hp : p.Ok) (hq : q.Ok) (hy : -4096 ≤ y ∧ y ≤ 4096) (ha : 1 ≤ a ∧ a ≤ 65536) (hb : 1 ≤ b ∧ b ≤ 65536) (c1 : 0 ≤ c) (c2 : c ≤ a - 1) (r1 : 0 ≤ r) (r2 : r ≤ b - 1) (hn : ¬ (addE p (hz ((2 * c) - a) (y - 1)) = 0 ∧ addE q (hz ((b - (2 * r)) - 2) (y - 1)) = 0)) (hG : Globs glT w) : Calls Tryz.prog 4 #[.agg #[.bool p.g, .string (natS p.n), .int .i64 p.x, .bool q.g, .string (natS q.n), .int .i64 q.x, .int .i64 y, .int .i64 a, .int .i64 b], .int .i64 c, .int .i64 r, .int .i64 s, .int .i64 t, .agg #[.bool g.re.g, .string g.re.s, .int .i64 g.re.x, .bool g.im.g, .string g.im.s, .int .i64 g.im.x]] w fun e w' => e = .returned (.bool true) ∧ Below w.heap.size w w' := by
  obtain ⟨b1, i1⟩ := bex (y ≥ -4096)
  obtain ⟨b2, i2⟩ := bex (y ≤ 4096)
  obtain ⟨b3, i3⟩ := bex (a ≥ 1)
  obtain ⟨b4, i4⟩ := bex (a ≤ 65536)
  obtain ⟨b5, i5⟩ := bex (b ≥ 1)
  obtain ⟨b6, i6⟩ := bex (b ≤ 65536)
  obtain ⟨b7, i7⟩ := bex (c ≥ 0)
  obtain ⟨b8, i8⟩ := bex (c ≤ a - 1)
  obtain ⟨b9, i9⟩ := bex (r ≥ 0)
  obtain ⟨b10, i10⟩ := bex (r ≤ b - 1)
  obtain ⟨b11, i11⟩ := bex (addE p (hz ((2 * c) - a) (y - 1)) = 0)
  obtain ⟨b12, i12⟩ := bex (addE q (hz ((b - (2 * r)) - 2) (y - 1)) = 0)
  letI : Env := mkEnv glT [.bool p.g, .string (natS p.n), .int .i64 p.x, .bool q.g, .string (natS q.n), .int .i64 q.x, .int .i64 y, .int .i64 a, .int .i64 b, .int .i64 c, .int .i64 r, .int .i64 s, .int .i64 t, .bool g.re.g, .string g.re.s, .int .i64 g.re.x, .bool g.im.g, .string g.im.s, .int .i64 g.im.x, .int .i64 (a - 1), .int .i64 (b - 1), .int .i64 (2 * c), .int .i64 ((2 * c) - a), .bool (hz ((2 * c) - a) (y - 1)).g, .string (natS (hz ((2 * c) - a) (y - 1)).n), .int .i64 (hz ((2 * c) - a) (y - 1)).x, .bool (addD p (hz ((2 * c) - a) (y - 1))).g, .string (natS (addD p (hz ((2 * c) - a) (y - 1))).n), .int .i64 (addD p (hz ((2 * c) - a) (y - 1))).x, .int .i64 (addE p (hz ((2 * c) - a) (y - 1))), .int .i64 (2 * r), .int .i64 (b - (2 * r)), .int .i64 ((b - (2 * r)) - 2), .bool (hz ((b - (2 * r)) - 2) (y - 1)).g, .string (natS (hz ((b - (2 * r)) - 2) (y - 1)).n), .int .i64 (hz ((b - (2 * r)) - 2) (y - 1)).x, .bool (addD q (hz ((b - (2 * r)) - 2) (y - 1))).g, .string (natS (addD q (hz ((b - (2 * r)) - 2) (y - 1))).n), .int .i64 (addD q (hz ((b - (2 * r)) - 2) (y - 1))).x, .int .i64 (addE q (hz ((b - (2 * r)) - 2) (y - 1)))] rfl
  have hops : OpsT Tryz.prog (@Know.ops (VEdges_long_k b1 b2 b3 b4 b5 b6 b7 b8 b9 b10 b11 b12)) := ⟨opt_geq_i rfl rfl i1,
    opt_leq_i rfl rfl i2,
    opt_geq_i rfl rfl i3,
    opt_leq_i rfl rfl i4,
    opt_geq_i rfl rfl i5,
    opt_leq_i rfl rfl i6,
    vopt_sub rfl rfl rfl rfl (by omega) ⟨by omega, by omega⟩,
    opt_geq_i rfl rfl i7,
    opt_leq_i rfl rfl i8,
    vopt_sub rfl rfl rfl rfl (by omega) ⟨by omega, by omega⟩,
    opt_geq_i rfl rfl i9,
    opt_leq_i rfl rfl i10,
    vopt_mul rfl rfl rfl rfl (by omega) ⟨by omega, by omega⟩,
    vopt_sub rfl rfl rfl rfl (by omega) ⟨by omega, by omega⟩,
    vopt_mul rfl rfl rfl rfl (by omega) ⟨by omega, by omega⟩,
    vopt_sub rfl rfl rfl rfl (by omega) ⟨by omega, by omega⟩,
    vopt_sub rfl rfl rfl rfl (by omega) ⟨by omega, by omega⟩,
    opt_neq_i rfl rfl i11,
    opt_neq_i rfl rfl i12,
    trivial⟩
  have hcalls : CallsT Tryz.prog (@Know.calls (VEdges_long_k b1 b2 b3 b4 b5 b6 b7 b8 b9 b10 b11 b12)) := ⟨callt rfl rfl fun w hG => awake24_c w hG,
    callt rfl rfl fun w hG => GCheck_gs ⟨p, q⟩ ⟨hp, hq⟩ w hG,
    callt rfl rfl fun w hG => halves_z ((2 * c) - a) y w ⟨by omega, by omega⟩ ⟨by omega, by omega⟩ hG,
    callt rfl rfl fun w hG => DAdd_c p (hz ((2 * c) - a) (y - 1)) w hp (hz_Ok _ _) hG,
    callt rfl rfl fun w hG => halves_z ((b - (2 * r)) - 2) y w ⟨by omega, by omega⟩ ⟨by omega, by omega⟩ hG,
    callt rfl rfl fun w hG => DAdd_c q (hz ((b - (2 * r)) - 2) (y - 1)) w hq (hz_Ok _ _) hG,
    trivial⟩
  have fin : ∀ v, @comes (VEdges_long_k b1 b2 b3 b4 b5 b6 b7 b8 b9 b10 b11 b12) Tryz.prog glT 3000 VEdges_long_f VEdges_long_a = some v → ground v = true → Ending.returned (gval v) = .returned (.bool true) → Calls Tryz.prog 4 #[.agg #[.bool p.g, .string (natS p.n), .int .i64 p.x, .bool q.g, .string (natS q.n), .int .i64 q.x, .int .i64 y, .int .i64 a, .int .i64 b], .int .i64 c, .int .i64 r, .int .i64 s, .int .i64 t, .agg #[.bool g.re.g, .string g.re.s, .int .i64 g.re.x, .bool g.im.g, .string g.im.s, .int .i64 g.im.x]] w fun e w' => e = .returned (.bool true) ∧ Below w.heap.size w w' := fun v h1 h2 h3 => (@sym_ok _ (VEdges_long_k b1 b2 b3 b4 b5 b6 b7 b8 b9 b10 b11 b12) _ (@KnowOk.of _ (VEdges_long_k b1 b2 b3 b4 b5 b6 b7 b8 b9 b10 b11 b12) _ hops hcalls) (by kernel_rfl) _ _ _ _ h1 rfl h2 _ hG).mono fun e w' h => ⟨h.1.trans h3, h.2⟩
  clear hops hcalls
  cases b1 with
  | true =>
    have h1 : y ≥ -4096 := i1.1 rfl
    cases b2 with
    | true =>
      have h2 : y ≤ 4096 := i2.1 rfl
      cases b3 with
      | true =>
        have h3 : a ≥ 1 := i3.1 rfl
        cases b4 with
        | true =>
          have h4 : a ≤ 65536 := i4.1 rfl
          cases b5 with
          | true =>
            have h5 : b ≥ 1 := i5.1 rfl
            cases b6 with
            | true =>
              have h6 : b ≤ 65536 := i6.1 rfl
              cases b7 with
              | true =>
                have h7 : c ≥ 0 := i7.1 rfl
                cases b8 with
                | true =>
                  have h8 : c ≤ a - 1 := i8.1 rfl
                  cases b9 with
                  | true =>
                    have h9 : r ≥ 0 := i9.1 rfl
                    cases b10 with
                    | true =>
                      have h10 : r ≤ b - 1 := i10.1 rfl
                      cases b11 with
                      | true =>
                        have h11 : addE p (hz ((2 * c) - a) (y - 1)) = 0 := i11.1 rfl
                        cases b12 with
                        | true =>
                          exact absurd (i12.1 rfl) (fun c => hn ⟨h11, c⟩)
                        | false =>
                          have h12 : ¬ (addE q (hz ((b - (2 * r)) - 2) (y - 1)) = 0) := fun c => Bool.false_ne_true (i12.2 c)
                          exact fin _ (VEdges_long_r1) rfl rfl
                      | false =>
                        have h11 : ¬ (addE p (hz ((2 * c) - a) (y - 1)) = 0) := fun c => Bool.false_ne_true (i11.2 c)
                        exact fin _ (VEdges_long_r2 b12) rfl rfl
                    | false =>
                      exact absurd (i10.2 ((by omega))) Bool.false_ne_true
                  | false =>
                    exact absurd (i9.2 ((by omega))) Bool.false_ne_true
                | false =>
                  exact absurd (i8.2 ((by omega))) Bool.false_ne_true
              | false =>
                exact absurd (i7.2 ((by omega))) Bool.false_ne_true
            | false =>
              exact absurd (i6.2 ((by omega))) Bool.false_ne_true
          | false =>
            exact absurd (i5.2 ((by omega))) Bool.false_ne_true
        | false =>
          exact absurd (i4.2 ((by omega))) Bool.false_ne_true
      | false =>
        exact absurd (i3.2 ((by omega))) Bool.false_ne_true
    | false =>
      exact absurd (i2.2 ((by omega))) Bool.false_ne_true
  | false =>
    exact absurd (i1.2 ((by omega))) Bool.false_ne_true
@[reducible] def VEdges_corn_f : FuncId := 4
@[reducible] def VEdges_corn_a : List AV := [.agg [.sym 0, .sym 1, .sym 2, .sym 3, .sym 4, .sym 5, .sym 6, .sym 7, .sym 8], .sym 9, .sym 10, .sym 11, .sym 12, .agg [.sym 13, .sym 14, .sym 15, .sym 16, .sym 17, .sym 18]]
@[reducible] noncomputable def VEdges_corn_k (b1 b2 b3 b4 b5 b6 b7 b8 b9 b10 b13 b14 : Bool) : Know := ⟨[([0, 16, 3], [.sym 6, .lit (.int .i64 (-4096))], .lit (.bool b1)),
  ([0, 14, 3], [.sym 6, .lit (.int .i64 4096)], .lit (.bool b2)),
  ([0, 16, 3], [.sym 7, .lit (.int .i64 1)], .lit (.bool b3)),
  ([0, 14, 3], [.sym 7, .lit (.int .i64 65536)], .lit (.bool b4)),
  ([0, 16, 3], [.sym 8, .lit (.int .i64 1)], .lit (.bool b5)),
  ([0, 14, 3], [.sym 8, .lit (.int .i64 65536)], .lit (.bool b6)),
  ([0, 1, 3], [.sym 7, .lit (.int .i64 1)], .sym 22),
  ([0, 16, 3], [.sym 9, .lit (.int .i64 0)], .lit (.bool b7)),
  ([0, 14, 3], [.sym 9, .sym 22], .lit (.bool b8)),
  ([0, 1, 3], [.sym 8, .lit (.int .i64 1)], .sym 23),
  ([0, 16, 3], [.sym 10, .lit (.int .i64 0)], .lit (.bool b9)),
  ([0, 14, 3], [.sym 10, .sym 23], .lit (.bool b10)),
  ([0, 2, 3], [.lit (.int .i64 2), .sym 9], .sym 24),
  ([0, 1, 3], [.sym 24, .sym 7], .sym 25),
  ([0, 2, 3], [.lit (.int .i64 2), .sym 10], .sym 37),
  ([0, 1, 3], [.sym 8, .sym 37], .sym 38),
  ([0, 1, 3], [.sym 38, .lit (.int .i64 2)], .sym 39),
  ([0, 12, 31], [.sym 32, .lit (.int .i64 0)], .lit (.bool false)),
  ([0, 12, 31], [.sym 46, .lit (.int .i64 0)], .lit (.bool false)),
  ([0, 12, 31], [.sym 36, .lit (.int .i64 0)], .lit (.bool (!b13))),
  ([0, 12, 31], [.sym 50, .lit (.int .i64 0)], .lit (.bool (!b14)))],
  [(8, [], .lit (.bool true)),
  (19, [.agg [.sym 0, .sym 1, .sym 2, .sym 3, .sym 4, .sym 5]], .lit (.int .i64 0)),
  (39, [.lit (.int .i64 2), .sym 6], .agg [.sym 19, .sym 20, .sym 21]),
  (39, [.sym 25, .sym 6], .agg [.sym 26, .sym 27, .sym 28]),
  (38, [.agg [.sym 0, .sym 1, .sym 2], .agg [.sym 26, .sym 27, .sym 28]], .tup [.agg [.sym 29, .sym 30, .sym 31], .sym 32]),
  (38, [.agg [.sym 29, .sym 30, .sym 31], .agg [.sym 19, .sym 20, .sym 21]], .tup [.agg [.sym 33, .sym 34, .sym 35], .sym 36]),
  (39, [.sym 39, .sym 6], .agg [.sym 40, .sym 41, .sym 42]),
  (38, [.agg [.sym 3, .sym 4, .sym 5], .agg [.sym 40, .sym 41, .sym 42]], .tup [.agg [.sym 43, .sym 44, .sym 45], .sym 46]),
  (32, [.agg [.sym 29, .sym 30, .sym 31, .sym 43, .sym 44, .sym 45, .sym 6]], .lit (.int .i64 0)),
  (38, [.agg [.sym 43, .sym 44, .sym 45], .agg [.sym 19, .sym 20, .sym 21]], .tup [.agg [.sym 47, .sym 48, .sym 49], .sym 50])]⟩
theorem VEdges_corn_r1 : @comes (VEdges_corn_k true true true true true true true true true true true false) Tryz.prog glT 3000 VEdges_corn_f VEdges_corn_a = some (.lit (.bool true)) := by kernel_rfl
theorem VEdges_corn_r2 (b14 : Bool) : @comes (VEdges_corn_k true true true true true true true true true true false b14) Tryz.prog glT 3000 VEdges_corn_f VEdges_corn_a = some (.lit (.bool true)) := by kernel_rfl
set_option maxRecDepth 100000 in
set_option maxHeartbeats 4000000 in
theorem VEdges_corn (p q : Dy) (y a b c r s t : Int) (g : Gt) (w : World) (hp : p.Ok) (hq : q.Ok) (hy : -4096 ≤ y ∧ y ≤ 4096) (ha : 1 ≤ a ∧ a ≤ 65536) (hb : 1 ≤ b ∧ b ≤ 65536) (c1 : 0 ≤ c) (c2 : c ≤ a - 1) (r1 : 0 ≤ r) (r2 : r ≤ b - 1) (hxx : addE p (hz ((2 * c) - a) (y - 1)) = 0) (hyy : addE q (hz ((b - (2 * r)) - 2) (y - 1)) = 0) (hn : ¬ (addE (addD p (hz ((2 * c) - a) (y - 1))) (hz 2 (y - 1)) = 0 ∧ addE (addD q (hz ((b - (2 * r)) - 2) (y - 1))) (hz 2 (y - 1)) = 0)) (hG : Globs glT w) : Calls Tryz.prog 4 #[.agg #[.bool p.g, .string (natS p.n), .int .i64 p.x, .bool q.g, .string (natS q.n), .int .i64 q.x, .int .i64 y, .int .i64 a, .int .i64 b], .int .i64 c, .int .i64 r, .int .i64 s, .int .i64 t, .agg #[.bool g.re.g, .string g.re.s, .int .i64 g.re.x, .bool g.im.g, .string g.im.s, .int .i64 g.im.x]] w fun e w' => e = .returned (.bool true) ∧ Below w.heap.size w w' := by
  obtain ⟨b1, i1⟩ := bex (y ≥ -4096)
  obtain ⟨b2, i2⟩ := bex (y ≤ 4096)
  obtain ⟨b3, i3⟩ := bex (a ≥ 1)
  obtain ⟨b4, i4⟩ := bex (a ≤ 65536)
  obtain ⟨b5, i5⟩ := bex (b ≥ 1)
  obtain ⟨b6, i6⟩ := bex (b ≤ 65536)
  obtain ⟨b7, i7⟩ := bex (c ≥ 0)
  obtain ⟨b8, i8⟩ := bex (c ≤ a - 1)
  obtain ⟨b9, i9⟩ := bex (r ≥ 0)
  obtain ⟨b10, i10⟩ := bex (r ≤ b - 1)
  have h11 : addE p (hz ((2 * c) - a) (y - 1)) = 0 := hxx
  have i11 : true = true ↔ (addE p (hz ((2 * c) - a) (y - 1)) = 0) := ⟨fun _ => h11, fun _ => rfl⟩
  have h12 : addE q (hz ((b - (2 * r)) - 2) (y - 1)) = 0 := hyy
  have i12 : true = true ↔ (addE q (hz ((b - (2 * r)) - 2) (y - 1)) = 0) := ⟨fun _ => h12, fun _ => rfl⟩
  obtain ⟨b13, i13⟩ := bex (addE (addD p (hz ((2 * c) - a) (y - 1))) (hz 2 (y - 1)) = 0)
  obtain ⟨b14, i14⟩ := bex (addE (addD q (hz ((b - (2 * r)) - 2) (y - 1))) (hz 2 (y - 1)) = 0)
  letI : Env := mkEnv glT [.bool p.g, .string (natS p.n), .int .i64 p.x, .bool q.g, .string (natS q.n), .int .i64 q.x, .int .i64 y, .int .i64 a, .int .i64 b, .int .i64 c, .int .i64 r, .int .i64 s, .int .i64 t, .bool g.re.g, .string g.re.s, .int .i64 g.re.x, .bool g.im.g, .string g.im.s, .int .i64 g.im.x, .bool (hz 2 (y - 1)).g, .string (natS (hz 2 (y - 1)).n), .int .i64 (hz 2 (y - 1)).x, .int .i64 (a - 1), .int .i64 (b - 1), .int .i64 (2 * c), .int .i64 ((2 * c) - a), .bool (hz ((2 * c) - a) (y - 1)).g, .string (natS (hz ((2 * c) - a) (y - 1)).n), .int .i64 (hz ((2 * c) - a) (y - 1)).x, .bool (addD p (hz ((2 * c) - a) (y - 1))).g, .string (natS (addD p (hz ((2 * c) - a) (y - 1))).n), .int .i64 (addD p (hz ((2 * c) - a) (y - 1))).x, .int .i64 (addE p (hz ((2 * c) - a) (y - 1))), .bool (addD (addD p (hz ((2 * c) - a) (y - 1))) (hz 2 (y - 1))).g, .string (natS (addD (addD p (hz ((2 * c) - a) (y - 1))) (hz 2 (y - 1))).n), .int .i64 (addD (addD p (hz ((2 * c) - a) (y - 1))) (hz 2 (y - 1))).x, .int .i64 (addE (addD p (hz ((2 * c) - a) (y - 1))) (hz 2 (y - 1))), .int .i64 (2 * r), .int .i64 (b - (2 * r)), .int .i64 ((b - (2 * r)) - 2), .bool (hz ((b - (2 * r)) - 2) (y - 1)).g, .string (natS (hz ((b - (2 * r)) - 2) (y - 1)).n), .int .i64 (hz ((b - (2 * r)) - 2) (y - 1)).x, .bool (addD q (hz ((b - (2 * r)) - 2) (y - 1))).g, .string (natS (addD q (hz ((b - (2 * r)) - 2) (y - 1))).n), .int .i64 (addD q (hz ((b - (2 * r)) - 2) (y - 1))).x, .int .i64 (addE q (hz ((b - (2 * r)) - 2) (y - 1))), .bool (addD (addD q (hz ((b - (2 * r)) - 2) (y - 1))) (hz 2 (y - 1))).g, .string (natS (addD (addD q (hz ((b - (2 * r)) - 2) (y - 1))) (hz 2 (y - 1))).n), .int .i64 (addD (addD q (hz ((b - (2 * r)) - 2) (y - 1))) (hz 2 (y - 1))).x, .int .i64 (addE (addD q (hz ((b - (2 * r)) - 2) (y - 1))) (hz 2 (y - 1)))] rfl
  have hops : OpsT Tryz.prog (@Know.ops (VEdges_corn_k b1 b2 b3 b4 b5 b6 b7 b8 b9 b10 b13 b14)) := ⟨opt_geq_i rfl rfl i1,
    opt_leq_i rfl rfl i2,
    opt_geq_i rfl rfl i3,
    opt_leq_i rfl rfl i4,
    opt_geq_i rfl rfl i5,
    opt_leq_i rfl rfl i6,
    vopt_sub rfl rfl rfl rfl (by omega) ⟨by omega, by omega⟩,
    opt_geq_i rfl rfl i7,
    opt_leq_i rfl rfl i8,
    vopt_sub rfl rfl rfl rfl (by omega) ⟨by omega, by omega⟩,
    opt_geq_i rfl rfl i9,
    opt_leq_i rfl rfl i10,
    vopt_mul rfl rfl rfl rfl (by omega) ⟨by omega, by omega⟩,
    vopt_sub rfl rfl rfl rfl (by omega) ⟨by omega, by omega⟩,
    vopt_mul rfl rfl rfl rfl (by omega) ⟨by omega, by omega⟩,
    vopt_sub rfl rfl rfl rfl (by omega) ⟨by omega, by omega⟩,
    vopt_sub rfl rfl rfl rfl (by omega) ⟨by omega, by omega⟩,
    opt_neq_i rfl rfl i11,
    opt_neq_i rfl rfl i12,
    opt_neq_i rfl rfl i13,
    opt_neq_i rfl rfl i14,
    trivial⟩
  have hcalls : CallsT Tryz.prog (@Know.calls (VEdges_corn_k b1 b2 b3 b4 b5 b6 b7 b8 b9 b10 b13 b14)) := ⟨callt rfl rfl fun w hG => awake24_c w hG,
    callt rfl rfl fun w hG => GCheck_gs ⟨p, q⟩ ⟨hp, hq⟩ w hG,
    callt rfl rfl fun w hG => halves_z 2 y w ⟨by omega, by omega⟩ ⟨by omega, by omega⟩ hG,
    callt rfl rfl fun w hG => halves_z ((2 * c) - a) y w ⟨by omega, by omega⟩ ⟨by omega, by omega⟩ hG,
    callt rfl rfl fun w hG => DAdd_c p (hz ((2 * c) - a) (y - 1)) w hp (hz_Ok _ _) hG,
    callt rfl rfl fun w hG => DAdd_c (addD p (hz ((2 * c) - a) (y - 1))) (hz 2 (y - 1)) w (add_Ok hp (hz_Ok _ _)) (hz_Ok _ _) hG,
    callt rfl rfl fun w hG => halves_z ((b - (2 * r)) - 2) y w ⟨by omega, by omega⟩ ⟨by omega, by omega⟩ hG,
    callt rfl rfl fun w hG => DAdd_c q (hz ((b - (2 * r)) - 2) (y - 1)) w hq (hz_Ok _ _) hG,
    callt rfl rfl fun w hG => VRight_ok (addD p (hz ((2 * c) - a) (y - 1))) (addD q (hz ((b - (2 * r)) - 2) (y - 1))) y w (add_Ok hp (hz_Ok _ _)) (add_Ok hq (hz_Ok _ _)) ⟨by omega, by omega⟩ hG,
    callt rfl rfl fun w hG => DAdd_c (addD q (hz ((b - (2 * r)) - 2) (y - 1))) (hz 2 (y - 1)) w (add_Ok hq (hz_Ok _ _)) (hz_Ok _ _) hG,
    trivial⟩
  have fin : ∀ v, @comes (VEdges_corn_k b1 b2 b3 b4 b5 b6 b7 b8 b9 b10 b13 b14) Tryz.prog glT 3000 VEdges_corn_f VEdges_corn_a = some v → ground v = true → Ending.returned (gval v) = .returned (.bool true) → Calls Tryz.prog 4 #[.agg #[.bool p.g, .string (natS p.n), .int .i64 p.x, .bool q.g, .string (natS q.n), .int .i64 q.x, .int .i64 y, .int .i64 a, .int .i64 b], .int .i64 c, .int .i64 r, .int .i64 s, .int .i64 t, .agg #[.bool g.re.g, .string g.re.s, .int .i64 g.re.x, .bool g.im.g, .string g.im.s, .int .i64 g.im.x]] w fun e w' => e = .returned (.bool true) ∧ Below w.heap.size w w' := fun v h1 h2 h3 => (@sym_ok _ (VEdges_corn_k b1 b2 b3 b4 b5 b6 b7 b8 b9 b10 b13 b14) _ (@KnowOk.of _ (VEdges_corn_k b1 b2 b3 b4 b5 b6 b7 b8 b9 b10 b13 b14) _ hops hcalls) (by kernel_rfl) _ _ _ _ h1 rfl h2 _ hG).mono fun e w' h => ⟨h.1.trans h3, h.2⟩
  clear hops hcalls
  cases b1 with
  | true =>
    have h1 : y ≥ -4096 := i1.1 rfl
    cases b2 with
    | true =>
      have h2 : y ≤ 4096 := i2.1 rfl
      cases b3 with
      | true =>
        have h3 : a ≥ 1 := i3.1 rfl
        cases b4 with
        | true =>
          have h4 : a ≤ 65536 := i4.1 rfl
          cases b5 with
          | true =>
            have h5 : b ≥ 1 := i5.1 rfl
            cases b6 with
            | true =>
              have h6 : b ≤ 65536 := i6.1 rfl
              cases b7 with
              | true =>
                have h7 : c ≥ 0 := i7.1 rfl
                cases b8 with
                | true =>
                  have h8 : c ≤ a - 1 := i8.1 rfl
                  cases b9 with
                  | true =>
                    have h9 : r ≥ 0 := i9.1 rfl
                    cases b10 with
                    | true =>
                      have h10 : r ≤ b - 1 := i10.1 rfl
                      cases b13 with
                      | true =>
                        have h13 : addE (addD p (hz ((2 * c) - a) (y - 1))) (hz 2 (y - 1)) = 0 := i13.1 rfl
                        cases b14 with
                        | true =>
                          exact absurd (i14.1 rfl) (fun c => hn ⟨h13, c⟩)
                        | false =>
                          have h14 : ¬ (addE (addD q (hz ((b - (2 * r)) - 2) (y - 1))) (hz 2 (y - 1)) = 0) := fun c => Bool.false_ne_true (i14.2 c)
                          exact fin _ (VEdges_corn_r1) rfl rfl
                      | false =>
                        have h13 : ¬ (addE (addD p (hz ((2 * c) - a) (y - 1))) (hz 2 (y - 1)) = 0) := fun c => Bool.false_ne_true (i13.2 c)
                        exact fin _ (VEdges_corn_r2 b14) rfl rfl
                    | false =>
                      exact absurd (i10.2 ((by omega))) Bool.false_ne_true
                  | false =>
                    exact absurd (i9.2 ((by omega))) Bool.false_ne_true
                | false =>
                  exact absurd (i8.2 ((by omega))) Bool.false_ne_true
              | false =>
                exact absurd (i7.2 ((by omega))) Bool.false_ne_true
            | false =>
              exact absurd (i6.2 ((by omega))) Bool.false_ne_true
          | false =>
            exact absurd (i5.2 ((by omega))) Bool.false_ne_true
        | false =>
          exact absurd (i4.2 ((by omega))) Bool.false_ne_true
      | false =>
        exact absurd (i3.2 ((by omega))) Bool.false_ne_true
    | false =>
      exact absurd (i2.2 ((by omega))) Bool.false_ne_true
  | false =>
    exact absurd (i1.2 ((by omega))) Bool.false_ne_true
@[reducible] def VEdges_gr_f : FuncId := 4
@[reducible] def VEdges_gr_a : List AV := [.agg [.sym 0, .sym 1, .sym 2, .sym 3, .sym 4, .sym 5, .sym 6, .sym 7, .sym 8], .sym 9, .sym 10, .sym 11, .sym 12, .agg [.sym 13, .sym 14, .sym 15, .sym 16, .sym 17, .sym 18]]
@[reducible] noncomputable def VEdges_gr_k (b1 b2 b3 b4 b5 b6 b7 b8 b9 b10 b15 b16 b17 b18 : Bool) : Know := ⟨[([0, 16, 3], [.sym 6, .lit (.int .i64 (-4096))], .lit (.bool b1)),
  ([0, 14, 3], [.sym 6, .lit (.int .i64 4096)], .lit (.bool b2)),
  ([0, 16, 3], [.sym 7, .lit (.int .i64 1)], .lit (.bool b3)),
  ([0, 14, 3], [.sym 7, .lit (.int .i64 65536)], .lit (.bool b4)),
  ([0, 16, 3], [.sym 8, .lit (.int .i64 1)], .lit (.bool b5)),
  ([0, 14, 3], [.sym 8, .lit (.int .i64 65536)], .lit (.bool b6)),
  ([0, 1, 3], [.sym 7, .lit (.int .i64 1)], .sym 22),
  ([0, 16, 3], [.sym 9, .lit (.int .i64 0)], .lit (.bool b7)),
  ([0, 14, 3], [.sym 9, .sym 22], .lit (.bool b8)),
  ([0, 1, 3], [.sym 8, .lit (.int .i64 1)], .sym 23),
  ([0, 16, 3], [.sym 10, .lit (.int .i64 0)], .lit (.bool b9)),
  ([0, 14, 3], [.sym 10, .sym 23], .lit (.bool b10)),
  ([0, 2, 3], [.lit (.int .i64 2), .sym 9], .sym 24),
  ([0, 1, 3], [.sym 24, .sym 7], .sym 25),
  ([0, 2, 3], [.lit (.int .i64 2), .sym 10], .sym 41),
  ([0, 1, 3], [.sym 8, .sym 41], .sym 42),
  ([0, 1, 3], [.sym 42, .lit (.int .i64 2)], .sym 43),
  ([0, 12, 31], [.sym 32, .lit (.int .i64 0)], .lit (.bool false)),
  ([0, 12, 31], [.sym 50, .lit (.int .i64 0)], .lit (.bool false)),
  ([0, 12, 31], [.sym 36, .lit (.int .i64 0)], .lit (.bool false)),
  ([0, 12, 31], [.sym 54, .lit (.int .i64 0)], .lit (.bool false)),
  ([0, 0, 3], [.sym 9, .lit (.int .i64 1)], .sym 59),
  ([0, 16, 3], [.sym 59, .lit (.int .i64 0)], .lit (.bool b15)),
  ([0, 14, 3], [.sym 59, .sym 22], .lit (.bool b16)),
  ([0, 2, 3], [.lit (.int .i64 2), .sym 59], .sym 60),
  ([0, 1, 3], [.sym 60, .sym 7], .sym 61),
  ([0, 12, 24], [.agg [.sym 33, .sym 34, .sym 35], .agg [.sym 33, .sym 34, .sym 35]], .lit (.bool false)),
  ([0, 12, 24], [.agg [.sym 47, .sym 48, .sym 49], .agg [.sym 47, .sym 48, .sym 49]], .lit (.bool false)),
  ([0, 0, 3], [.sym 10, .lit (.int .i64 1)], .sym 65),
  ([0, 16, 3], [.sym 65, .lit (.int .i64 0)], .lit (.bool b17)),
  ([0, 14, 3], [.sym 65, .sym 23], .lit (.bool b18))],
  [(8, [], .lit (.bool true)),
  (19, [.agg [.sym 0, .sym 1, .sym 2, .sym 3, .sym 4, .sym 5]], .lit (.int .i64 0)),
  (39, [.lit (.int .i64 2), .sym 6], .agg [.sym 19, .sym 20, .sym 21]),
  (39, [.sym 25, .sym 6], .agg [.sym 26, .sym 27, .sym 28]),
  (38, [.agg [.sym 0, .sym 1, .sym 2], .agg [.sym 26, .sym 27, .sym 28]], .tup [.agg [.sym 29, .sym 30, .sym 31], .sym 32]),
  (38, [.agg [.sym 29, .sym 30, .sym 31], .agg [.sym 19, .sym 20, .sym 21]], .tup [.agg [.sym 33, .sym 34, .sym 35], .sym 36]),
  (14, [.agg [.sym 13, .sym 14, .sym 15], .agg [.sym 29, .sym 30, .sym 31]], .tup [.sym 37, .sym 38]),
  (14, [.agg [.sym 13, .sym 14, .sym 15], .agg [.sym 33, .sym 34, .sym 35]], .tup [.sym 39, .sym 40]),
  (39, [.sym 43, .sym 6], .agg [.sym 44, .sym 45, .sym 46]),
  (38, [.agg [.sym 3, .sym 4, .sym 5], .agg [.sym 44, .sym 45, .sym 46]], .tup [.agg [.sym 47, .sym 48, .sym 49], .sym 50]),
  (32, [.agg [.sym 29, .sym 30, .sym 31, .sym 47, .sym 48, .sym 49, .sym 6]], .lit (.int .i64 0)),
  (38, [.agg [.sym 47, .sym 48, .sym 49], .agg [.sym 19, .sym 20, .sym 21]], .tup [.agg [.sym 51, .sym 52, .sym 53], .sym 54]),
  (13, [.agg [.sym 29, .sym 30, .sym 31, .sym 47, .sym 48, .sym 49, .sym 6], .agg [.sym 13, .sym 14, .sym 15, .sym 16, .sym 17, .sym 18]], .lit (.tuple #[.bool false, .int .i64 2])),
  (14, [.agg [.sym 16, .sym 17, .sym 18], .agg [.sym 47, .sym 48, .sym 49]], .tup [.sym 55, .sym 56]),
  (14, [.agg [.sym 16, .sym 17, .sym 18], .agg [.sym 51, .sym 52, .sym 53]], .tup [.sym 57, .sym 58]),
  (39, [.sym 61, .sym 6], .agg [.sym 62, .sym 63, .sym 64]),
  (38, [.agg [.sym 0, .sym 1, .sym 2], .agg [.sym 62, .sym 63, .sym 64]], .tup [.agg [.sym 33, .sym 34, .sym 35], .sym 36])]⟩
theorem VEdges_gr_r1 : @comes (VEdges_gr_k true true true true true true true true true true true true true false) Tryz.prog glT 3000 VEdges_gr_f VEdges_gr_a = some (.lit (.bool true)) := by kernel_rfl
theorem VEdges_gr_r2 : @comes (VEdges_gr_k true true true true true true true true true true true false true false) Tryz.prog glT 3000 VEdges_gr_f VEdges_gr_a = some (.lit (.bool true)) := by kernel_rfl
set_option maxRecDepth 100000 in
set_option maxHeartbeats 4000000 in
theorem VEdges_gr (p q : Dy) (y a b c r s t : Int) (g : Gt) (ca cb cc cd ka kb kc kd : Int) (w : World) (hp : p.Ok) (hq : q.Ok) (hy : -4096 ≤ y ∧ y ≤ 4096) (ha : 1 ≤ a ∧ a ≤ 65536) (hb : 1 ≤ b ∧ b ≤ 65536) (c1 : 0 ≤ c) (c2 : c ≤ a - 1) (r1 : 0 ≤ r) (r2 : r ≤ b - 1) (hxx : addE p (hz ((2 * c) - a) (y - 1)) = 0) (hyy : addE q (hz ((b - (2 * r)) - 2) (y - 1)) = 0) (huu : addE (addD p (hz ((2 * c) - a) (y - 1))) (hz 2 (y - 1)) = 0) (hvv : addE (addD q (hz ((b - (2 * r)) - 2) (y - 1))) (hz 2 (y - 1)) = 0) (hr : b ≤ r + 1) (zg : g.Small) (hn : ¬ g.Ok) (HA : ∀ w, Globs glT w → Calls Tryz.prog 14 #[.agg #[.bool g.re.g, .string g.re.s, .int .i64 g.re.x], .agg #[.bool (addD p (hz ((2 * c) - a) (y - 1))).g, .string (natS (addD p (hz ((2 * c) - a) (y - 1))).n), .int .i64 (addD p (hz ((2 * c) - a) (y - 1))).x]] w fun e w' => e = .returned (.tuple #[.int .i64 ca, .int .i64 ka]) ∧ Below w.heap.size w w') (HB : ∀ w, Globs glT w → Calls Tryz.prog 14 #[.agg #[.bool g.re.g, .string g.re.s, .int .i64 g.re.x], .agg #[.bool (addD (addD p (hz ((2 * c) - a) (y - 1))) (hz 2 (y - 1))).g, .string (natS (addD (addD p (hz ((2 * c) - a) (y - 1))) (hz 2 (y - 1))).n), .int .i64 (addD (addD p (hz ((2 * c) - a) (y - 1))) (hz 2 (y - 1))).x]] w fun e w' => e = .returned (.tuple #[.int .i64 cb, .int .i64 kb]) ∧ Below w.heap.size w w') (HC : ∀ w, Globs glT w → Calls Tryz.prog 14 #[.agg #[.bool g.im.g, .string g.im.s, .int .i64 g.im.x], .agg #[.bool (addD q (hz ((b - (2 * r)) - 2) (y - 1))).g, .string (natS (addD q (hz ((b - (2 * r)) - 2) (y - 1))).n), .int .i64 (addD q (hz ((b - (2 * r)) - 2) (y - 1))).x]] w fun e w' => e = .returned (.tuple #[.int .i64 cc, .int .i64 kc]) ∧ Below w.heap.size w w') (HD : ∀ w, Globs glT w → Calls Tryz.prog 14 #[.agg #[.bool g.im.g, .string g.im.s, .int .i64 g.im.x], .agg #[.bool (addD (addD q (hz ((b - (2 * r)) - 2) (y - 1))) (hz 2 (y - 1))).g, .string (natS (addD (addD q (hz ((b - (2 * r)) - 2) (y - 1))) (hz 2 (y - 1))).n), .int .i64 (addD (addD q (hz ((b - (2 * r)) - 2) (y - 1))) (hz 2 (y - 1))).x]] w fun e w' => e = .returned (.tuple #[.int .i64 cd, .int .i64 kd]) ∧ Below w.heap.size w w') (hG : Globs glT w) : Calls Tryz.prog 4 #[.agg #[.bool p.g, .string (natS p.n), .int .i64 p.x, .bool q.g, .string (natS q.n), .int .i64 q.x, .int .i64 y, .int .i64 a, .int .i64 b], .int .i64 c, .int .i64 r, .int .i64 s, .int .i64 t, .agg #[.bool g.re.g, .string g.re.s, .int .i64 g.re.x, .bool g.im.g, .string g.im.s, .int .i64 g.im.x]] w fun e w' => e = .returned (.bool true) ∧ Below w.heap.size w w' := by
  obtain ⟨b1, i1⟩ := bex (y ≥ -4096)
  obtain ⟨b2, i2⟩ := bex (y ≤ 4096)
  obtain ⟨b3, i3⟩ := bex (a ≥ 1)
  obtain ⟨b4, i4⟩ := bex (a ≤ 65536)
  obtain ⟨b5, i5⟩ := bex (b ≥ 1)
  obtain ⟨b6, i6⟩ := bex (b ≤ 65536)
  obtain ⟨b7, i7⟩ := bex (c ≥ 0)
  obtain ⟨b8, i8⟩ := bex (c ≤ a - 1)
  obtain ⟨b9, i9⟩ := bex (r ≥ 0)
  obtain ⟨b10, i10⟩ := bex (r ≤ b - 1)
  have h11 : addE p (hz ((2 * c) - a) (y - 1)) = 0 := hxx
  have i11 : true = true ↔ (addE p (hz ((2 * c) - a) (y - 1)) = 0) := ⟨fun _ => h11, fun _ => rfl⟩
  have h12 : addE q (hz ((b - (2 * r)) - 2) (y - 1)) = 0 := hyy
  have i12 : true = true ↔ (addE q (hz ((b - (2 * r)) - 2) (y - 1)) = 0) := ⟨fun _ => h12, fun _ => rfl⟩
  have h13 : addE (addD p (hz ((2 * c) - a) (y - 1))) (hz 2 (y - 1)) = 0 := huu
  have i13 : true = true ↔ (addE (addD p (hz ((2 * c) - a) (y - 1))) (hz 2 (y - 1)) = 0) := ⟨fun _ => h13, fun _ => rfl⟩
  have h14 : addE (addD q (hz ((b - (2 * r)) - 2) (y - 1))) (hz 2 (y - 1)) = 0 := hvv
  have i14 : true = true ↔ (addE (addD q (hz ((b - (2 * r)) - 2) (y - 1))) (hz 2 (y - 1)) = 0) := ⟨fun _ => h14, fun _ => rfl⟩
  obtain ⟨b15, i15⟩ := bex (c + 1 ≥ 0)
  obtain ⟨b16, i16⟩ := bex (c + 1 ≤ a - 1)
  obtain ⟨b17, i17⟩ := bex (r + 1 ≥ 0)
  obtain ⟨b18, i18⟩ := bex (r + 1 ≤ b - 1)
  letI : Env := mkEnv glT [.bool p.g, .string (natS p.n), .int .i64 p.x, .bool q.g, .string (natS q.n), .int .i64 q.x, .int .i64 y, .int .i64 a, .int .i64 b, .int .i64 c, .int .i64 r, .int .i64 s, .int .i64 t, .bool g.re.g, .string g.re.s, .int .i64 g.re.x, .bool g.im.g, .string g.im.s, .int .i64 g.im.x, .bool (hz 2 (y - 1)).g, .string (natS (hz 2 (y - 1)).n), .int .i64 (hz 2 (y - 1)).x, .int .i64 (a - 1), .int .i64 (b - 1), .int .i64 (2 * c), .int .i64 ((2 * c) - a), .bool (hz ((2 * c) - a) (y - 1)).g, .string (natS (hz ((2 * c) - a) (y - 1)).n), .int .i64 (hz ((2 * c) - a) (y - 1)).x, .bool (addD p (hz ((2 * c) - a) (y - 1))).g, .string (natS (addD p (hz ((2 * c) - a) (y - 1))).n), .int .i64 (addD p (hz ((2 * c) - a) (y - 1))).x, .int .i64 (addE p (hz ((2 * c) - a) (y - 1))), .bool (addD (addD p (hz ((2 * c) - a) (y - 1))) (hz 2 (y - 1))).g, .string (natS (addD (addD p (hz ((2 * c) - a) (y - 1))) (hz 2 (y - 1))).n), .int .i64 (addD (addD p (hz ((2 * c) - a) (y - 1))) (hz 2 (y - 1))).x, .int .i64 (addE (addD p (hz ((2 * c) - a) (y - 1))) (hz 2 (y - 1))), .int .i64 ca, .int .i64 ka, .int .i64 cb, .int .i64 kb, .int .i64 (2 * r), .int .i64 (b - (2 * r)), .int .i64 ((b - (2 * r)) - 2), .bool (hz ((b - (2 * r)) - 2) (y - 1)).g, .string (natS (hz ((b - (2 * r)) - 2) (y - 1)).n), .int .i64 (hz ((b - (2 * r)) - 2) (y - 1)).x, .bool (addD q (hz ((b - (2 * r)) - 2) (y - 1))).g, .string (natS (addD q (hz ((b - (2 * r)) - 2) (y - 1))).n), .int .i64 (addD q (hz ((b - (2 * r)) - 2) (y - 1))).x, .int .i64 (addE q (hz ((b - (2 * r)) - 2) (y - 1))), .bool (addD (addD q (hz ((b - (2 * r)) - 2) (y - 1))) (hz 2 (y - 1))).g, .string (natS (addD (addD q (hz ((b - (2 * r)) - 2) (y - 1))) (hz 2 (y - 1))).n), .int .i64 (addD (addD q (hz ((b - (2 * r)) - 2) (y - 1))) (hz 2 (y - 1))).x, .int .i64 (addE (addD q (hz ((b - (2 * r)) - 2) (y - 1))) (hz 2 (y - 1))), .int .i64 cc, .int .i64 kc, .int .i64 cd, .int .i64 kd, .int .i64 (c + 1), .int .i64 (2 * (c + 1)), .int .i64 ((2 * (c + 1)) - a), .bool (hz ((2 * (c + 1)) - a) (y - 1)).g, .string (natS (hz ((2 * (c + 1)) - a) (y - 1)).n), .int .i64 (hz ((2 * (c + 1)) - a) (y - 1)).x, .int .i64 (r + 1)] rfl
  have hops : OpsT Tryz.prog (@Know.ops (VEdges_gr_k b1 b2 b3 b4 b5 b6 b7 b8 b9 b10 b15 b16 b17 b18)) := ⟨opt_geq_i rfl rfl i1,
    opt_leq_i rfl rfl i2,
    opt_geq_i rfl rfl i3,
    opt_leq_i rfl rfl i4,
    opt_geq_i rfl rfl i5,
    opt_leq_i rfl rfl i6,
    vopt_sub rfl rfl rfl rfl (by omega) ⟨by omega, by omega⟩,
    opt_geq_i rfl rfl i7,
    opt_leq_i rfl rfl i8,
    vopt_sub rfl rfl rfl rfl (by omega) ⟨by omega, by omega⟩,
    opt_geq_i rfl rfl i9,
    opt_leq_i rfl rfl i10,
    vopt_mul rfl rfl rfl rfl (by omega) ⟨by omega, by omega⟩,
    vopt_sub rfl rfl rfl rfl (by omega) ⟨by omega, by omega⟩,
    vopt_mul rfl rfl rfl rfl (by omega) ⟨by omega, by omega⟩,
    vopt_sub rfl rfl rfl rfl (by omega) ⟨by omega, by omega⟩,
    vopt_sub rfl rfl rfl rfl (by omega) ⟨by omega, by omega⟩,
    opt_neq_i rfl rfl i11,
    opt_neq_i rfl rfl i12,
    opt_neq_i rfl rfl i13,
    opt_neq_i rfl rfl i14,
    vopt_add rfl rfl rfl rfl (by omega) ⟨by omega, by omega⟩,
    opt_geq_i rfl rfl i15,
    opt_leq_i rfl rfl i16,
    vopt_mul rfl rfl rfl rfl (by omega) ⟨by omega, by omega⟩,
    vopt_sub rfl rfl rfl rfl (by omega) ⟨by omega, by omega⟩,
    optD_neq_f (a := addD (addD p (hz ((2 * c) - a) (y - 1))) (hz 2 (y - 1))) (b := addD (addD p (hz ((2 * c) - a) (y - 1))) (hz 2 (y - 1))) rfl rfl rfl,
    optD_neq_f (a := addD q (hz ((b - (2 * r)) - 2) (y - 1))) (b := addD q (hz ((b - (2 * r)) - 2) (y - 1))) rfl rfl rfl,
    vopt_add rfl rfl rfl rfl (by omega) ⟨by omega, by omega⟩,
    opt_geq_i rfl rfl i17,
    opt_leq_i rfl rfl i18,
    trivial⟩
  have hcalls : CallsT Tryz.prog (@Know.calls (VEdges_gr_k b1 b2 b3 b4 b5 b6 b7 b8 b9 b10 b15 b16 b17 b18)) := ⟨callt rfl rfl fun w hG => awake24_c w hG,
    callt rfl rfl fun w hG => GCheck_gs ⟨p, q⟩ ⟨hp, hq⟩ w hG,
    callt rfl rfl fun w hG => halves_z 2 y w ⟨by omega, by omega⟩ ⟨by omega, by omega⟩ hG,
    callt rfl rfl fun w hG => halves_z ((2 * c) - a) y w ⟨by omega, by omega⟩ ⟨by omega, by omega⟩ hG,
    callt rfl rfl fun w hG => DAdd_c p (hz ((2 * c) - a) (y - 1)) w hp (hz_Ok _ _) hG,
    callt rfl rfl fun w hG => DAdd_c (addD p (hz ((2 * c) - a) (y - 1))) (hz 2 (y - 1)) w (add_Ok hp (hz_Ok _ _)) (hz_Ok _ _) hG,
    callt rfl rfl fun w hG => HA w hG,
    callt rfl rfl fun w hG => HB w hG,
    callt rfl rfl fun w hG => halves_z ((b - (2 * r)) - 2) y w ⟨by omega, by omega⟩ ⟨by omega, by omega⟩ hG,
    callt rfl rfl fun w hG => DAdd_c q (hz ((b - (2 * r)) - 2) (y - 1)) w hq (hz_Ok _ _) hG,
    callt rfl rfl fun w hG => VRight_ok (addD p (hz ((2 * c) - a) (y - 1))) (addD q (hz ((b - (2 * r)) - 2) (y - 1))) y w (add_Ok hp (hz_Ok _ _)) (add_Ok hq (hz_Ok _ _)) ⟨by omega, by omega⟩ hG,
    callt rfl rfl fun w hG => DAdd_c (addD q (hz ((b - (2 * r)) - 2) (y - 1))) (hz 2 (y - 1)) w (add_Ok hq (hz_Ok _ _)) (hz_Ok _ _) hG,
    callt rfl rfl fun w hG => VHolds_g (addD p (hz ((2 * c) - a) (y - 1))) (addD q (hz ((b - (2 * r)) - 2) (y - 1))) y g w (add_Ok hp (hz_Ok _ _)) (add_Ok hq (hz_Ok _ _)) hy zg hn hG,
    callt rfl rfl fun w hG => HC w hG,
    callt rfl rfl fun w hG => HD w hG,
    callt rfl rfl fun w hG => halves_z ((2 * (c + 1)) - a) y w ⟨by omega, by omega⟩ ⟨by omega, by omega⟩ hG,
    callt rfl rfl fun w hG => DAdd_canon hp (hz_Ok _ _) (show addD p (hz ((2 * (c + 1)) - a) (y - 1)) = addD (addD p (hz ((2 * c) - a) (y - 1))) (hz 2 (y - 1)) ∧ addE p (hz ((2 * (c + 1)) - a) (y - 1)) = addE (addD p (hz ((2 * c) - a) (y - 1))) (hz 2 (y - 1)) from add_hz hp ⟨by omega, by omega⟩ ⟨by omega, by omega⟩ ⟨by omega, by omega⟩ (by omega) hxx) w hG,
    trivial⟩
  have fin : ∀ v, @comes (VEdges_gr_k b1 b2 b3 b4 b5 b6 b7 b8 b9 b10 b15 b16 b17 b18) Tryz.prog glT 3000 VEdges_gr_f VEdges_gr_a = some v → ground v = true → Ending.returned (gval v) = .returned (.bool true) → Calls Tryz.prog 4 #[.agg #[.bool p.g, .string (natS p.n), .int .i64 p.x, .bool q.g, .string (natS q.n), .int .i64 q.x, .int .i64 y, .int .i64 a, .int .i64 b], .int .i64 c, .int .i64 r, .int .i64 s, .int .i64 t, .agg #[.bool g.re.g, .string g.re.s, .int .i64 g.re.x, .bool g.im.g, .string g.im.s, .int .i64 g.im.x]] w fun e w' => e = .returned (.bool true) ∧ Below w.heap.size w w' := fun v h1 h2 h3 => (@sym_ok _ (VEdges_gr_k b1 b2 b3 b4 b5 b6 b7 b8 b9 b10 b15 b16 b17 b18) _ (@KnowOk.of _ (VEdges_gr_k b1 b2 b3 b4 b5 b6 b7 b8 b9 b10 b15 b16 b17 b18) _ hops hcalls) (by kernel_rfl) _ _ _ _ h1 rfl h2 _ hG).mono fun e w' h => ⟨h.1.trans h3, h.2⟩
  clear hops hcalls
  cases b1 with
  | true =>
    have h1 : y ≥ -4096 := i1.1 rfl
    cases b2 with
    | true =>
      have h2 : y ≤ 4096 := i2.1 rfl
      cases b3 with
      | true =>
        have h3 : a ≥ 1 := i3.1 rfl
        cases b4 with
        | true =>
          have h4 : a ≤ 65536 := i4.1 rfl
          cases b5 with
          | true =>
            have h5 : b ≥ 1 := i5.1 rfl
            cases b6 with
            | true =>
              have h6 : b ≤ 65536 := i6.1 rfl
              cases b7 with
              | true =>
                have h7 : c ≥ 0 := i7.1 rfl
                cases b8 with
                | true =>
                  have h8 : c ≤ a - 1 := i8.1 rfl
                  cases b9 with
                  | true =>
                    have h9 : r ≥ 0 := i9.1 rfl
                    cases b10 with
                    | true =>
                      have h10 : r ≤ b - 1 := i10.1 rfl
                      cases b15 with
                      | true =>
                        have h15 : c + 1 ≥ 0 := i15.1 rfl
                        cases b16 with
                        | true =>
                          have h16 : c + 1 ≤ a - 1 := i16.1 rfl
                          cases b17 with
                          | true =>
                            have h17 : r + 1 ≥ 0 := i17.1 rfl
                            cases b18 with
                            | true =>
                              exact absurd (i18.1 rfl) ((by omega))
                            | false =>
                              have h18 : ¬ (r + 1 ≤ b - 1) := fun c => Bool.false_ne_true (i18.2 c)
                              exact fin _ (VEdges_gr_r1) rfl rfl
                          | false =>
                            exact absurd (i17.2 ((by omega))) Bool.false_ne_true
                        | false =>
                          have h16 : ¬ (c + 1 ≤ a - 1) := fun c => Bool.false_ne_true (i16.2 c)
                          cases b17 with
                          | true =>
                            have h17 : r + 1 ≥ 0 := i17.1 rfl
                            cases b18 with
                            | true =>
                              exact absurd (i18.1 rfl) ((by omega))
                            | false =>
                              have h18 : ¬ (r + 1 ≤ b - 1) := fun c => Bool.false_ne_true (i18.2 c)
                              exact fin _ (VEdges_gr_r2) rfl rfl
                          | false =>
                            exact absurd (i17.2 ((by omega))) Bool.false_ne_true
                      | false =>
                        exact absurd (i15.2 ((by omega))) Bool.false_ne_true
                    | false =>
                      exact absurd (i10.2 ((by omega))) Bool.false_ne_true
                  | false =>
                    exact absurd (i9.2 ((by omega))) Bool.false_ne_true
                | false =>
                  exact absurd (i8.2 ((by omega))) Bool.false_ne_true
              | false =>
                exact absurd (i7.2 ((by omega))) Bool.false_ne_true
            | false =>
              exact absurd (i6.2 ((by omega))) Bool.false_ne_true
          | false =>
            exact absurd (i5.2 ((by omega))) Bool.false_ne_true
        | false =>
          exact absurd (i4.2 ((by omega))) Bool.false_ne_true
      | false =>
        exact absurd (i3.2 ((by omega))) Bool.false_ne_true
    | false =>
      exact absurd (i2.2 ((by omega))) Bool.false_ne_true
  | false =>
    exact absurd (i1.2 ((by omega))) Bool.false_ne_true
@[reducible] def VEdges_ge_f : FuncId := 4
@[reducible] def VEdges_ge_a : List AV := [.agg [.sym 0, .sym 1, .sym 2, .sym 3, .sym 4, .sym 5, .sym 6, .sym 7, .sym 8], .sym 9, .sym 10, .sym 11, .sym 12, .agg [.sym 13, .sym 14, .sym 15, .sym 16, .sym 17, .sym 18]]
@[reducible] noncomputable def VEdges_ge_k (b1 b2 b3 b4 b5 b6 b7 b8 b9 b10 b15 b16 b17 b18 : Bool) : Know := ⟨[([0, 16, 3], [.sym 6, .lit (.int .i64 (-4096))], .lit (.bool b1)),
  ([0, 14, 3], [.sym 6, .lit (.int .i64 4096)], .lit (.bool b2)),
  ([0, 16, 3], [.sym 7, .lit (.int .i64 1)], .lit (.bool b3)),
  ([0, 14, 3], [.sym 7, .lit (.int .i64 65536)], .lit (.bool b4)),
  ([0, 16, 3], [.sym 8, .lit (.int .i64 1)], .lit (.bool b5)),
  ([0, 14, 3], [.sym 8, .lit (.int .i64 65536)], .lit (.bool b6)),
  ([0, 1, 3], [.sym 7, .lit (.int .i64 1)], .sym 22),
  ([0, 16, 3], [.sym 9, .lit (.int .i64 0)], .lit (.bool b7)),
  ([0, 14, 3], [.sym 9, .sym 22], .lit (.bool b8)),
  ([0, 1, 3], [.sym 8, .lit (.int .i64 1)], .sym 23),
  ([0, 16, 3], [.sym 10, .lit (.int .i64 0)], .lit (.bool b9)),
  ([0, 14, 3], [.sym 10, .sym 23], .lit (.bool b10)),
  ([0, 2, 3], [.lit (.int .i64 2), .sym 9], .sym 24),
  ([0, 1, 3], [.sym 24, .sym 7], .sym 25),
  ([0, 2, 3], [.lit (.int .i64 2), .sym 10], .sym 41),
  ([0, 1, 3], [.sym 8, .sym 41], .sym 42),
  ([0, 1, 3], [.sym 42, .lit (.int .i64 2)], .sym 43),
  ([0, 12, 31], [.sym 32, .lit (.int .i64 0)], .lit (.bool false)),
  ([0, 12, 31], [.sym 50, .lit (.int .i64 0)], .lit (.bool false)),
  ([0, 12, 31], [.sym 36, .lit (.int .i64 0)], .lit (.bool false)),
  ([0, 12, 31], [.sym 54, .lit (.int .i64 0)], .lit (.bool false)),
  ([0, 0, 3], [.sym 9, .lit (.int .i64 1)], .sym 59),
  ([0, 16, 3], [.sym 59, .lit (.int .i64 0)], .lit (.bool b15)),
  ([0, 14, 3], [.sym 59, .sym 22], .lit (.bool b16)),
  ([0, 2, 3], [.lit (.int .i64 2), .sym 59], .sym 60),
  ([0, 1, 3], [.sym 60, .sym 7], .sym 61),
  ([0, 12, 24], [.agg [.sym 33, .sym 34, .sym 35], .agg [.sym 33, .sym 34, .sym 35]], .lit (.bool false)),
  ([0, 12, 24], [.agg [.sym 47, .sym 48, .sym 49], .agg [.sym 47, .sym 48, .sym 49]], .lit (.bool false)),
  ([0, 0, 3], [.sym 10, .lit (.int .i64 1)], .sym 65),
  ([0, 16, 3], [.sym 65, .lit (.int .i64 0)], .lit (.bool b17)),
  ([0, 14, 3], [.sym 65, .sym 23], .lit (.bool b18)),
  ([0, 2, 3], [.lit (.int .i64 2), .sym 65], .sym 66),
  ([0, 1, 3], [.sym 8, .sym 66], .sym 67),
  ([0, 1, 3], [.sym 67, .lit (.int .i64 2)], .sym 68),
  ([0, 12, 31], [.sym 75, .lit (.int .i64 0)], .lit (.bool true))],
  [(8, [], .lit (.bool true)),
  (19, [.agg [.sym 0, .sym 1, .sym 2, .sym 3, .sym 4, .sym 5]], .lit (.int .i64 0)),
  (39, [.lit (.int .i64 2), .sym 6], .agg [.sym 19, .sym 20, .sym 21]),
  (39, [.sym 25, .sym 6], .agg [.sym 26, .sym 27, .sym 28]),
  (38, [.agg [.sym 0, .sym 1, .sym 2], .agg [.sym 26, .sym 27, .sym 28]], .tup [.agg [.sym 29, .sym 30, .sym 31], .sym 32]),
  (38, [.agg [.sym 29, .sym 30, .sym 31], .agg [.sym 19, .sym 20, .sym 21]], .tup [.agg [.sym 33, .sym 34, .sym 35], .sym 36]),
  (14, [.agg [.sym 13, .sym 14, .sym 15], .agg [.sym 29, .sym 30, .sym 31]], .tup [.sym 37, .sym 38]),
  (14, [.agg [.sym 13, .sym 14, .sym 15], .agg [.sym 33, .sym 34, .sym 35]], .tup [.sym 39, .sym 40]),
  (39, [.sym 43, .sym 6], .agg [.sym 44, .sym 45, .sym 46]),
  (38, [.agg [.sym 3, .sym 4, .sym 5], .agg [.sym 44, .sym 45, .sym 46]], .tup [.agg [.sym 47, .sym 48, .sym 49], .sym 50]),
  (32, [.agg [.sym 29, .sym 30, .sym 31, .sym 47, .sym 48, .sym 49, .sym 6]], .lit (.int .i64 0)),
  (38, [.agg [.sym 47, .sym 48, .sym 49], .agg [.sym 19, .sym 20, .sym 21]], .tup [.agg [.sym 51, .sym 52, .sym 53], .sym 54]),
  (13, [.agg [.sym 29, .sym 30, .sym 31, .sym 47, .sym 48, .sym 49, .sym 6], .agg [.sym 13, .sym 14, .sym 15, .sym 16, .sym 17, .sym 18]], .lit (.tuple #[.bool false, .int .i64 2])),
  (14, [.agg [.sym 16, .sym 17, .sym 18], .agg [.sym 47, .sym 48, .sym 49]], .tup [.sym 55, .sym 56]),
  (14, [.agg [.sym 16, .sym 17, .sym 18], .agg [.sym 51, .sym 52, .sym 53]], .tup [.sym 57, .sym 58]),
  (39, [.sym 61, .sym 6], .agg [.sym 62, .sym 63, .sym 64]),
  (38, [.agg [.sym 0, .sym 1, .sym 2], .agg [.sym 62, .sym 63, .sym 64]], .tup [.agg [.sym 33, .sym 34, .sym 35], .sym 36]),
  (39, [.sym 68, .sym 6], .agg [.sym 69, .sym 70, .sym 71]),
  (38, [.agg [.sym 3, .sym 4, .sym 5], .agg [.sym 69, .sym 70, .sym 71]], .tup [.agg [.sym 72, .sym 73, .sym 74], .sym 75])]⟩
theorem VEdges_ge_r1 : @comes (VEdges_ge_k true true true true true true true true true true true true true true) Tryz.prog glT 3000 VEdges_ge_f VEdges_ge_a = some (.lit (.bool true)) := by kernel_rfl
theorem VEdges_ge_r2 : @comes (VEdges_ge_k true true true true true true true true true true true false true true) Tryz.prog glT 3000 VEdges_ge_f VEdges_ge_a = some (.lit (.bool true)) := by kernel_rfl
set_option maxRecDepth 100000 in
set_option maxHeartbeats 4000000 in
theorem VEdges_ge (p q : Dy) (y a b c r s t : Int) (g : Gt) (ca cb cc cd ka kb kc kd : Int) (w : World) (hp : p.Ok) (hq : q.Ok) (hy : -4096 ≤ y ∧ y ≤ 4096) (ha : 1 ≤ a ∧ a ≤ 65536) (hb : 1 ≤ b ∧ b ≤ 65536) (c1 : 0 ≤ c) (c2 : c ≤ a - 1) (r1 : 0 ≤ r) (r2 : r ≤ b - 1) (hxx : addE p (hz ((2 * c) - a) (y - 1)) = 0) (hyy : addE q (hz ((b - (2 * r)) - 2) (y - 1)) = 0) (huu : addE (addD p (hz ((2 * c) - a) (y - 1))) (hz 2 (y - 1)) = 0) (hvv : addE (addD q (hz ((b - (2 * r)) - 2) (y - 1))) (hz 2 (y - 1)) = 0) (hr : r + 2 ≤ b) (hu : ¬ addE q (hz ((b - (2 * (r + 1))) - 2) (y - 1)) = 0) (zg : g.Small) (hn : ¬ g.Ok) (HA : ∀ w, Globs glT w → Calls Tryz.prog 14 #[.agg #[.bool g.re.g, .string g.re.s, .int .i64 g.re.x], .agg #[.bool (addD p (hz ((2 * c) - a) (y - 1))).g, .string (natS (addD p (hz ((2 * c) - a) (y - 1))).n), .int .i64 (addD p (hz ((2 * c) - a) (y - 1))).x]] w fun e w' => e = .returned (.tuple #[.int .i64 ca, .int .i64 ka]) ∧ Below w.heap.size w w') (HB : ∀ w, Globs glT w → Calls Tryz.prog 14 #[.agg #[.bool g.re.g, .string g.re.s, .int .i64 g.re.x], .agg #[.bool (addD (addD p (hz ((2 * c) - a) (y - 1))) (hz 2 (y - 1))).g, .string (natS (addD (addD p (hz ((2 * c) - a) (y - 1))) (hz 2 (y - 1))).n), .int .i64 (addD (addD p (hz ((2 * c) - a) (y - 1))) (hz 2 (y - 1))).x]] w fun e w' => e = .returned (.tuple #[.int .i64 cb, .int .i64 kb]) ∧ Below w.heap.size w w') (HC : ∀ w, Globs glT w → Calls Tryz.prog 14 #[.agg #[.bool g.im.g, .string g.im.s, .int .i64 g.im.x], .agg #[.bool (addD q (hz ((b - (2 * r)) - 2) (y - 1))).g, .string (natS (addD q (hz ((b - (2 * r)) - 2) (y - 1))).n), .int .i64 (addD q (hz ((b - (2 * r)) - 2) (y - 1))).x]] w fun e w' => e = .returned (.tuple #[.int .i64 cc, .int .i64 kc]) ∧ Below w.heap.size w w') (HD : ∀ w, Globs glT w → Calls Tryz.prog 14 #[.agg #[.bool g.im.g, .string g.im.s, .int .i64 g.im.x], .agg #[.bool (addD (addD q (hz ((b - (2 * r)) - 2) (y - 1))) (hz 2 (y - 1))).g, .string (natS (addD (addD q (hz ((b - (2 * r)) - 2) (y - 1))) (hz 2 (y - 1))).n), .int .i64 (addD (addD q (hz ((b - (2 * r)) - 2) (y - 1))) (hz 2 (y - 1))).x]] w fun e w' => e = .returned (.tuple #[.int .i64 cd, .int .i64 kd]) ∧ Below w.heap.size w w') (hG : Globs glT w) : Calls Tryz.prog 4 #[.agg #[.bool p.g, .string (natS p.n), .int .i64 p.x, .bool q.g, .string (natS q.n), .int .i64 q.x, .int .i64 y, .int .i64 a, .int .i64 b], .int .i64 c, .int .i64 r, .int .i64 s, .int .i64 t, .agg #[.bool g.re.g, .string g.re.s, .int .i64 g.re.x, .bool g.im.g, .string g.im.s, .int .i64 g.im.x]] w fun e w' => e = .returned (.bool true) ∧ Below w.heap.size w w' := by
  obtain ⟨b1, i1⟩ := bex (y ≥ -4096)
  obtain ⟨b2, i2⟩ := bex (y ≤ 4096)
  obtain ⟨b3, i3⟩ := bex (a ≥ 1)
  obtain ⟨b4, i4⟩ := bex (a ≤ 65536)
  obtain ⟨b5, i5⟩ := bex (b ≥ 1)
  obtain ⟨b6, i6⟩ := bex (b ≤ 65536)
  obtain ⟨b7, i7⟩ := bex (c ≥ 0)
  obtain ⟨b8, i8⟩ := bex (c ≤ a - 1)
  obtain ⟨b9, i9⟩ := bex (r ≥ 0)
  obtain ⟨b10, i10⟩ := bex (r ≤ b - 1)
  have h11 : addE p (hz ((2 * c) - a) (y - 1)) = 0 := hxx
  have i11 : true = true ↔ (addE p (hz ((2 * c) - a) (y - 1)) = 0) := ⟨fun _ => h11, fun _ => rfl⟩
  have h12 : addE q (hz ((b - (2 * r)) - 2) (y - 1)) = 0 := hyy
  have i12 : true = true ↔ (addE q (hz ((b - (2 * r)) - 2) (y - 1)) = 0) := ⟨fun _ => h12, fun _ => rfl⟩
  have h13 : addE (addD p (hz ((2 * c) - a) (y - 1))) (hz 2 (y - 1)) = 0 := huu
  have i13 : true = true ↔ (addE (addD p (hz ((2 * c) - a) (y - 1))) (hz 2 (y - 1)) = 0) := ⟨fun _ => h13, fun _ => rfl⟩
  have h14 : addE (addD q (hz ((b - (2 * r)) - 2) (y - 1))) (hz 2 (y - 1)) = 0 := hvv
  have i14 : true = true ↔ (addE (addD q (hz ((b - (2 * r)) - 2) (y - 1))) (hz 2 (y - 1)) = 0) := ⟨fun _ => h14, fun _ => rfl⟩
  obtain ⟨b15, i15⟩ := bex (c + 1 ≥ 0)
  obtain ⟨b16, i16⟩ := bex (c + 1 ≤ a - 1)
  obtain ⟨b17, i17⟩ := bex (r + 1 ≥ 0)
  obtain ⟨b18, i18⟩ := bex (r + 1 ≤ b - 1)
  have h19 : ¬ (addE q (hz ((b - (2 * (r + 1))) - 2) (y - 1)) = 0) := hu
  have i19 : false = true ↔ (addE q (hz ((b - (2 * (r + 1))) - 2) (y - 1)) = 0) := ⟨fun k => absurd k Bool.false_ne_true, fun k => absurd k h19⟩
  letI : Env := mkEnv glT [.bool p.g, .string (natS p.n), .int .i64 p.x, .bool q.g, .string (natS q.n), .int .i64 q.x, .int .i64 y, .int .i64 a, .int .i64 b, .int .i64 c, .int .i64 r, .int .i64 s, .int .i64 t, .bool g.re.g, .string g.re.s, .int .i64 g.re.x, .bool g.im.g, .string g.im.s, .int .i64 g.im.x, .bool (hz 2 (y - 1)).g, .string (natS (hz 2 (y - 1)).n), .int .i64 (hz 2 (y - 1)).x, .int .i64 (a - 1), .int .i64 (b - 1), .int .i64 (2 * c), .int .i64 ((2 * c) - a), .bool (hz ((2 * c) - a) (y - 1)).g, .string (natS (hz ((2 * c) - a) (y - 1)).n), .int .i64 (hz ((2 * c) - a) (y - 1)).x, .bool (addD p (hz ((2 * c) - a) (y - 1))).g, .string (natS (addD p (hz ((2 * c) - a) (y - 1))).n), .int .i64 (addD p (hz ((2 * c) - a) (y - 1))).x, .int .i64 (addE p (hz ((2 * c) - a) (y - 1))), .bool (addD (addD p (hz ((2 * c) - a) (y - 1))) (hz 2 (y - 1))).g, .string (natS (addD (addD p (hz ((2 * c) - a) (y - 1))) (hz 2 (y - 1))).n), .int .i64 (addD (addD p (hz ((2 * c) - a) (y - 1))) (hz 2 (y - 1))).x, .int .i64 (addE (addD p (hz ((2 * c) - a) (y - 1))) (hz 2 (y - 1))), .int .i64 ca, .int .i64 ka, .int .i64 cb, .int .i64 kb, .int .i64 (2 * r), .int .i64 (b - (2 * r)), .int .i64 ((b - (2 * r)) - 2), .bool (hz ((b - (2 * r)) - 2) (y - 1)).g, .string (natS (hz ((b - (2 * r)) - 2) (y - 1)).n), .int .i64 (hz ((b - (2 * r)) - 2) (y - 1)).x, .bool (addD q (hz ((b - (2 * r)) - 2) (y - 1))).g, .string (natS (addD q (hz ((b - (2 * r)) - 2) (y - 1))).n), .int .i64 (addD q (hz ((b - (2 * r)) - 2) (y - 1))).x, .int .i64 (addE q (hz ((b - (2 * r)) - 2) (y - 1))), .bool (addD (addD q (hz ((b - (2 * r)) - 2) (y - 1))) (hz 2 (y - 1))).g, .string (natS (addD (addD q (hz ((b - (2 * r)) - 2) (y - 1))) (hz 2 (y - 1))).n), .int .i64 (addD (addD q (hz ((b - (2 * r)) - 2) (y - 1))) (hz 2 (y - 1))).x, .int .i64 (addE (addD q (hz ((b - (2 * r)) - 2) (y - 1))) (hz 2 (y - 1))), .int .i64 cc, .int .i64 kc, .int .i64 cd, .int .i64 kd, .int .i64 (c + 1), .int .i64 (2 * (c + 1)), .int .i64 ((2 * (c + 1)) - a), .bool (hz ((2 * (c + 1)) - a) (y - 1)).g, .string (natS (hz ((2 * (c + 1)) - a) (y - 1)).n), .int .i64 (hz ((2 * (c + 1)) - a) (y - 1)).x, .int .i64 (r + 1), .int .i64 (2 * (r + 1)), .int .i64 (b - (2 * (r + 1))), .int .i64 ((b - (2 * (r + 1))) - 2), .bool (hz ((b - (2 * (r + 1))) - 2) (y - 1)).g, .string (natS (hz ((b - (2 * (r + 1))) - 2) (y - 1)).n), .int .i64 (hz ((b - (2 * (r + 1))) - 2) (y - 1)).x, .bool (addD q (hz ((b - (2 * (r + 1))) - 2) (y - 1))).g, .string (natS (addD q (hz ((b - (2 * (r + 1))) - 2) (y - 1))).n), .int .i64 (addD q (hz ((b - (2 * (r + 1))) - 2) (y - 1))).x, .int .i64 (addE q (hz ((b - (2 * (r + 1))) - 2) (y - 1)))] rfl
  have hops : OpsT Tryz.prog (@Know.ops (VEdges_ge_k b1 b2 b3 b4 b5 b6 b7 b8 b9 b10 b15 b16 b17 b18)) := ⟨opt_geq_i rfl rfl i1,
    opt_leq_i rfl rfl i2,
    opt_geq_i rfl rfl i3,
    opt_leq_i rfl rfl i4,
    opt_geq_i rfl rfl i5,
    opt_leq_i rfl rfl i6,
    vopt_sub rfl rfl rfl rfl (by omega) ⟨by omega, by omega⟩,
    opt_geq_i rfl rfl i7,
    opt_leq_i rfl rfl i8,
    vopt_sub rfl rfl rfl rfl (by omega) ⟨by omega, by omega⟩,
    opt_geq_i rfl rfl i9,
    opt_leq_i rfl rfl i10,
    vopt_mul rfl rfl rfl rfl (by omega) ⟨by omega, by omega⟩,
    vopt_sub rfl rfl rfl rfl (by omega) ⟨by omega, by omega⟩,
    vopt_mul rfl rfl rfl rfl (by omega) ⟨by omega, by omega⟩,
    vopt_sub rfl rfl rfl rfl (by omega) ⟨by omega, by omega⟩,
    vopt_sub rfl rfl rfl rfl (by omega) ⟨by omega, by omega⟩,
    opt_neq_i rfl rfl i11,
    opt_neq_i rfl rfl i12,
    opt_neq_i rfl rfl i13,
    opt_neq_i rfl rfl i14,
    vopt_add rfl rfl rfl rfl (by omega) ⟨by omega, by omega⟩,
    opt_geq_i rfl rfl i15,
    opt_leq_i rfl rfl i16,
    vopt_mul rfl rfl rfl rfl (by omega) ⟨by omega, by omega⟩,
    vopt_sub rfl rfl rfl rfl (by omega) ⟨by omega, by omega⟩,
    optD_neq_f (a := addD (addD p (hz ((2 * c) - a) (y - 1))) (hz 2 (y - 1))) (b := addD (addD p (hz ((2 * c) - a) (y - 1))) (hz 2 (y - 1))) rfl rfl rfl,
    optD_neq_f (a := addD q (hz ((b - (2 * r)) - 2) (y - 1))) (b := addD q (hz ((b - (2 * r)) - 2) (y - 1))) rfl rfl rfl,
    vopt_add rfl rfl rfl rfl (by omega) ⟨by omega, by omega⟩,
    opt_geq_i rfl rfl i17,
    opt_leq_i rfl rfl i18,
    vopt_mul rfl rfl rfl rfl (by omega) ⟨by omega, by omega⟩,
    vopt_sub rfl rfl rfl rfl (by omega) ⟨by omega, by omega⟩,
    vopt_sub rfl rfl rfl rfl (by omega) ⟨by omega, by omega⟩,
    opt_neq_i rfl rfl i19,
    trivial⟩
  have hcalls : CallsT Tryz.prog (@Know.calls (VEdges_ge_k b1 b2 b3 b4 b5 b6 b7 b8 b9 b10 b15 b16 b17 b18)) := ⟨callt rfl rfl fun w hG => awake24_c w hG,
    callt rfl rfl fun w hG => GCheck_gs ⟨p, q⟩ ⟨hp, hq⟩ w hG,
    callt rfl rfl fun w hG => halves_z 2 y w ⟨by omega, by omega⟩ ⟨by omega, by omega⟩ hG,
    callt rfl rfl fun w hG => halves_z ((2 * c) - a) y w ⟨by omega, by omega⟩ ⟨by omega, by omega⟩ hG,
    callt rfl rfl fun w hG => DAdd_c p (hz ((2 * c) - a) (y - 1)) w hp (hz_Ok _ _) hG,
    callt rfl rfl fun w hG => DAdd_c (addD p (hz ((2 * c) - a) (y - 1))) (hz 2 (y - 1)) w (add_Ok hp (hz_Ok _ _)) (hz_Ok _ _) hG,
    callt rfl rfl fun w hG => HA w hG,
    callt rfl rfl fun w hG => HB w hG,
    callt rfl rfl fun w hG => halves_z ((b - (2 * r)) - 2) y w ⟨by omega, by omega⟩ ⟨by omega, by omega⟩ hG,
    callt rfl rfl fun w hG => DAdd_c q (hz ((b - (2 * r)) - 2) (y - 1)) w hq (hz_Ok _ _) hG,
    callt rfl rfl fun w hG => VRight_ok (addD p (hz ((2 * c) - a) (y - 1))) (addD q (hz ((b - (2 * r)) - 2) (y - 1))) y w (add_Ok hp (hz_Ok _ _)) (add_Ok hq (hz_Ok _ _)) ⟨by omega, by omega⟩ hG,
    callt rfl rfl fun w hG => DAdd_c (addD q (hz ((b - (2 * r)) - 2) (y - 1))) (hz 2 (y - 1)) w (add_Ok hq (hz_Ok _ _)) (hz_Ok _ _) hG,
    callt rfl rfl fun w hG => VHolds_g (addD p (hz ((2 * c) - a) (y - 1))) (addD q (hz ((b - (2 * r)) - 2) (y - 1))) y g w (add_Ok hp (hz_Ok _ _)) (add_Ok hq (hz_Ok _ _)) hy zg hn hG,
    callt rfl rfl fun w hG => HC w hG,
    callt rfl rfl fun w hG => HD w hG,
    callt rfl rfl fun w hG => halves_z ((2 * (c + 1)) - a) y w ⟨by omega, by omega⟩ ⟨by omega, by omega⟩ hG,
    callt rfl rfl fun w hG => DAdd_canon hp (hz_Ok _ _) (show addD p (hz ((2 * (c + 1)) - a) (y - 1)) = addD (addD p (hz ((2 * c) - a) (y - 1))) (hz 2 (y - 1)) ∧ addE p (hz ((2 * (c + 1)) - a) (y - 1)) = addE (addD p (hz ((2 * c) - a) (y - 1))) (hz 2 (y - 1)) from add_hz hp ⟨by omega, by omega⟩ ⟨by omega, by omega⟩ ⟨by omega, by omega⟩ (by omega) hxx) w hG,
    callt rfl rfl fun w hG => halves_z ((b - (2 * (r + 1))) - 2) y w ⟨by omega, by omega⟩ ⟨by omega, by omega⟩ hG,
    callt rfl rfl fun w hG => DAdd_c q (hz ((b - (2 * (r + 1))) - 2) (y - 1)) w hq (hz_Ok _ _) hG,
    trivial⟩
  have fin : ∀ v, @comes (VEdges_ge_k b1 b2 b3 b4 b5 b6 b7 b8 b9 b10 b15 b16 b17 b18) Tryz.prog glT 3000 VEdges_ge_f VEdges_ge_a = some v → ground v = true → Ending.returned (gval v) = .returned (.bool true) → Calls Tryz.prog 4 #[.agg #[.bool p.g, .string (natS p.n), .int .i64 p.x, .bool q.g, .string (natS q.n), .int .i64 q.x, .int .i64 y, .int .i64 a, .int .i64 b], .int .i64 c, .int .i64 r, .int .i64 s, .int .i64 t, .agg #[.bool g.re.g, .string g.re.s, .int .i64 g.re.x, .bool g.im.g, .string g.im.s, .int .i64 g.im.x]] w fun e w' => e = .returned (.bool true) ∧ Below w.heap.size w w' := fun v h1 h2 h3 => (@sym_ok _ (VEdges_ge_k b1 b2 b3 b4 b5 b6 b7 b8 b9 b10 b15 b16 b17 b18) _ (@KnowOk.of _ (VEdges_ge_k b1 b2 b3 b4 b5 b6 b7 b8 b9 b10 b15 b16 b17 b18) _ hops hcalls) (by kernel_rfl) _ _ _ _ h1 rfl h2 _ hG).mono fun e w' h => ⟨h.1.trans h3, h.2⟩
  clear hops hcalls
  cases b1 with
  | true =>
    have h1 : y ≥ -4096 := i1.1 rfl
    cases b2 with
    | true =>
      have h2 : y ≤ 4096 := i2.1 rfl
      cases b3 with
      | true =>
        have h3 : a ≥ 1 := i3.1 rfl
        cases b4 with
        | true =>
          have h4 : a ≤ 65536 := i4.1 rfl
          cases b5 with
          | true =>
            have h5 : b ≥ 1 := i5.1 rfl
            cases b6 with
            | true =>
              have h6 : b ≤ 65536 := i6.1 rfl
              cases b7 with
              | true =>
                have h7 : c ≥ 0 := i7.1 rfl
                cases b8 with
                | true =>
                  have h8 : c ≤ a - 1 := i8.1 rfl
                  cases b9 with
                  | true =>
                    have h9 : r ≥ 0 := i9.1 rfl
                    cases b10 with
                    | true =>
                      have h10 : r ≤ b - 1 := i10.1 rfl
                      cases b15 with
                      | true =>
                        have h15 : c + 1 ≥ 0 := i15.1 rfl
                        cases b16 with
                        | true =>
                          have h16 : c + 1 ≤ a - 1 := i16.1 rfl
                          cases b17 with
                          | true =>
                            have h17 : r + 1 ≥ 0 := i17.1 rfl
                            cases b18 with
                            | true =>
                              have h18 : r + 1 ≤ b - 1 := i18.1 rfl
                              exact fin _ (VEdges_ge_r1) rfl rfl
                            | false =>
                              exact absurd (i18.2 ((by omega))) Bool.false_ne_true
                          | false =>
                            exact absurd (i17.2 ((by omega))) Bool.false_ne_true
                        | false =>
                          have h16 : ¬ (c + 1 ≤ a - 1) := fun c => Bool.false_ne_true (i16.2 c)
                          cases b17 with
                          | true =>
                            have h17 : r + 1 ≥ 0 := i17.1 rfl
                            cases b18 with
                            | true =>
                              have h18 : r + 1 ≤ b - 1 := i18.1 rfl
                              exact fin _ (VEdges_ge_r2) rfl rfl
                            | false =>
                              exact absurd (i18.2 ((by omega))) Bool.false_ne_true
                          | false =>
                            exact absurd (i17.2 ((by omega))) Bool.false_ne_true
                      | false =>
                        exact absurd (i15.2 ((by omega))) Bool.false_ne_true
                    | false =>
                      exact absurd (i10.2 ((by omega))) Bool.false_ne_true
                  | false =>
                    exact absurd (i9.2 ((by omega))) Bool.false_ne_true
                | false =>
                  exact absurd (i8.2 ((by omega))) Bool.false_ne_true
              | false =>
                exact absurd (i7.2 ((by omega))) Bool.false_ne_true
            | false =>
              exact absurd (i6.2 ((by omega))) Bool.false_ne_true
          | false =>
            exact absurd (i5.2 ((by omega))) Bool.false_ne_true
        | false =>
          exact absurd (i4.2 ((by omega))) Bool.false_ne_true
      | false =>
        exact absurd (i3.2 ((by omega))) Bool.false_ne_true
    | false =>
      exact absurd (i2.2 ((by omega))) Bool.false_ne_true
  | false =>
    exact absurd (i1.2 ((by omega))) Bool.false_ne_true
@[reducible] def VEdges_gk_f : FuncId := 4
@[reducible] def VEdges_gk_a : List AV := [.agg [.sym 0, .sym 1, .sym 2, .sym 3, .sym 4, .sym 5, .sym 6, .sym 7, .sym 8], .sym 9, .sym 10, .sym 11, .sym 12, .agg [.sym 13, .sym 14, .sym 15, .sym 16, .sym 17, .sym 18]]
@[reducible] noncomputable def VEdges_gk_k (b1 b2 b3 b4 b5 b6 b7 b8 b9 b10 b15 b16 b17 b18 : Bool) : Know := ⟨[([0, 16, 3], [.sym 6, .lit (.int .i64 (-4096))], .lit (.bool b1)),
  ([0, 14, 3], [.sym 6, .lit (.int .i64 4096)], .lit (.bool b2)),
  ([0, 16, 3], [.sym 7, .lit (.int .i64 1)], .lit (.bool b3)),
  ([0, 14, 3], [.sym 7, .lit (.int .i64 65536)], .lit (.bool b4)),
  ([0, 16, 3], [.sym 8, .lit (.int .i64 1)], .lit (.bool b5)),
  ([0, 14, 3], [.sym 8, .lit (.int .i64 65536)], .lit (.bool b6)),
  ([0, 1, 3], [.sym 7, .lit (.int .i64 1)], .sym 22),
  ([0, 16, 3], [.sym 9, .lit (.int .i64 0)], .lit (.bool b7)),
  ([0, 14, 3], [.sym 9, .sym 22], .lit (.bool b8)),
  ([0, 1, 3], [.sym 8, .lit (.int .i64 1)], .sym 23),
  ([0, 16, 3], [.sym 10, .lit (.int .i64 0)], .lit (.bool b9)),
  ([0, 14, 3], [.sym 10, .sym 23], .lit (.bool b10)),
  ([0, 2, 3], [.lit (.int .i64 2), .sym 9], .sym 24),
  ([0, 1, 3], [.sym 24, .sym 7], .sym 25),
  ([0, 2, 3], [.lit (.int .i64 2), .sym 10], .sym 41),
  ([0, 1, 3], [.sym 8, .sym 41], .sym 42),
  ([0, 1, 3], [.sym 42, .lit (.int .i64 2)], .sym 43),
  ([0, 12, 31], [.sym 32, .lit (.int .i64 0)], .lit (.bool false)),
  ([0, 12, 31], [.sym 50, .lit (.int .i64 0)], .lit (.bool false)),
  ([0, 12, 31], [.sym 36, .lit (.int .i64 0)], .lit (.bool false)),
  ([0, 12, 31], [.sym 54, .lit (.int .i64 0)], .lit (.bool false)),
  ([0, 0, 3], [.sym 9, .lit (.int .i64 1)], .sym 59),
  ([0, 16, 3], [.sym 59, .lit (.int .i64 0)], .lit (.bool b15)),
  ([0, 14, 3], [.sym 59, .sym 22], .lit (.bool b16)),
  ([0, 2, 3], [.lit (.int .i64 2), .sym 59], .sym 60),
  ([0, 1, 3], [.sym 60, .sym 7], .sym 61),
  ([0, 12, 24], [.agg [.sym 33, .sym 34, .sym 35], .agg [.sym 33, .sym 34, .sym 35]], .lit (.bool false)),
  ([0, 12, 24], [.agg [.sym 47, .sym 48, .sym 49], .agg [.sym 47, .sym 48, .sym 49]], .lit (.bool false)),
  ([0, 0, 3], [.sym 10, .lit (.int .i64 1)], .sym 65),
  ([0, 16, 3], [.sym 65, .lit (.int .i64 0)], .lit (.bool b17)),
  ([0, 14, 3], [.sym 65, .sym 23], .lit (.bool b18)),
  ([0, 2, 3], [.lit (.int .i64 2), .sym 65], .sym 66),
  ([0, 1, 3], [.sym 8, .sym 66], .sym 67),
  ([0, 1, 3], [.sym 67, .lit (.int .i64 2)], .sym 68),
  ([0, 12, 31], [.sym 75, .lit (.int .i64 0)], .lit (.bool false)),
  ([0, 12, 26], [.agg [.sym 29, .sym 30, .sym 31, .sym 47, .sym 48, .sym 49], .agg [.sym 29, .sym 30, .sym 31, .sym 47, .sym 48, .sym 49]], .lit (.bool false)),
  ([0, 12, 26], [.agg [.sym 33, .sym 34, .sym 35, .sym 47, .sym 48, .sym 49], .agg [.sym 33, .sym 34, .sym 35, .sym 47, .sym 48, .sym 49]], .lit (.bool false))],
  [(8, [], .lit (.bool true)),
  (19, [.agg [.sym 0, .sym 1, .sym 2, .sym 3, .sym 4, .sym 5]], .lit (.int .i64 0)),
  (39, [.lit (.int .i64 2), .sym 6], .agg [.sym 19, .sym 20, .sym 21]),
  (39, [.sym 25, .sym 6], .agg [.sym 26, .sym 27, .sym 28]),
  (38, [.agg [.sym 0, .sym 1, .sym 2], .agg [.sym 26, .sym 27, .sym 28]], .tup [.agg [.sym 29, .sym 30, .sym 31], .sym 32]),
  (38, [.agg [.sym 29, .sym 30, .sym 31], .agg [.sym 19, .sym 20, .sym 21]], .tup [.agg [.sym 33, .sym 34, .sym 35], .sym 36]),
  (14, [.agg [.sym 13, .sym 14, .sym 15], .agg [.sym 29, .sym 30, .sym 31]], .tup [.sym 37, .sym 38]),
  (14, [.agg [.sym 13, .sym 14, .sym 15], .agg [.sym 33, .sym 34, .sym 35]], .tup [.sym 39, .sym 40]),
  (39, [.sym 43, .sym 6], .agg [.sym 44, .sym 45, .sym 46]),
  (38, [.agg [.sym 3, .sym 4, .sym 5], .agg [.sym 44, .sym 45, .sym 46]], .tup [.agg [.sym 47, .sym 48, .sym 49], .sym 50]),
  (32, [.agg [.sym 29, .sym 30, .sym 31, .sym 47, .sym 48, .sym 49, .sym 6]], .lit (.int .i64 0)),
  (38, [.agg [.sym 47, .sym 48, .sym 49], .agg [.sym 19, .sym 20, .sym 21]], .tup [.agg [.sym 51, .sym 52, .sym 53], .sym 54]),
  (13, [.agg [.sym 29, .sym 30, .sym 31, .sym 47, .sym 48, .sym 49, .sym 6], .agg [.sym 13, .sym 14, .sym 15, .sym 16, .sym 17, .sym 18]], .lit (.tuple #[.bool false, .int .i64 2])),
  (14, [.agg [.sym 16, .sym 17, .sym 18], .agg [.sym 47, .sym 48, .sym 49]], .tup [.sym 55, .sym 56]),
  (14, [.agg [.sym 16, .sym 17, .sym 18], .agg [.sym 51, .sym 52, .sym 53]], .tup [.sym 57, .sym 58]),
  (39, [.sym 61, .sym 6], .agg [.sym 62, .sym 63, .sym 64]),
  (38, [.agg [.sym 0, .sym 1, .sym 2], .agg [.sym 62, .sym 63, .sym 64]], .tup [.agg [.sym 33, .sym 34, .sym 35], .sym 36]),
  (39, [.sym 68, .sym 6], .agg [.sym 69, .sym 70, .sym 71]),
  (38, [.agg [.sym 3, .sym 4, .sym 5], .agg [.sym 69, .sym 70, .sym 71]], .tup [.agg [.sym 72, .sym 73, .sym 74], .sym 75]),
  (32, [.agg [.sym 29, .sym 30, .sym 31, .sym 72, .sym 73, .sym 74, .sym 6]], .lit (.int .i64 0)),
  (38, [.agg [.sym 72, .sym 73, .sym 74], .agg [.sym 19, .sym 20, .sym 21]], .tup [.agg [.sym 47, .sym 48, .sym 49], .sym 50])]⟩
theorem VEdges_gk_r1 : @comes (VEdges_gk_k true true true true true true true true true true true true true true) Tryz.prog glT 3000 VEdges_gk_f VEdges_gk_a = some (.lit (.bool true)) := by kernel_rfl
theorem VEdges_gk_r2 : @comes (VEdges_gk_k true true true true true true true true true true true false true true) Tryz.prog glT 3000 VEdges_gk_f VEdges_gk_a = some (.lit (.bool true)) := by kernel_rfl
set_option maxRecDepth 100000 in
set_option maxHeartbeats 4000000 in
theorem VEdges_gk (p q : Dy) (y a b c r s t : Int) (g : Gt) (ca cb cc cd ka kb kc kd : Int) (w : World) (hp : p.Ok) (hq : q.Ok) (hy : -4096 ≤ y ∧ y ≤ 4096) (ha : 1 ≤ a ∧ a ≤ 65536) (hb : 1 ≤ b ∧ b ≤ 65536) (c1 : 0 ≤ c) (c2 : c ≤ a - 1) (r1 : 0 ≤ r) (r2 : r ≤ b - 1) (hxx : addE p (hz ((2 * c) - a) (y - 1)) = 0) (hyy : addE q (hz ((b - (2 * r)) - 2) (y - 1)) = 0) (huu : addE (addD p (hz ((2 * c) - a) (y - 1))) (hz 2 (y - 1)) = 0) (hvv : addE (addD q (hz ((b - (2 * r)) - 2) (y - 1))) (hz 2 (y - 1)) = 0) (hr : r + 2 ≤ b) (hu : addE q (hz ((b - (2 * (r + 1))) - 2) (y - 1)) = 0) (zg : g.Small) (hn : ¬ g.Ok) (HA : ∀ w, Globs glT w → Calls Tryz.prog 14 #[.agg #[.bool g.re.g, .string g.re.s, .int .i64 g.re.x], .agg #[.bool (addD p (hz ((2 * c) - a) (y - 1))).g, .string (natS (addD p (hz ((2 * c) - a) (y - 1))).n), .int .i64 (addD p (hz ((2 * c) - a) (y - 1))).x]] w fun e w' => e = .returned (.tuple #[.int .i64 ca, .int .i64 ka]) ∧ Below w.heap.size w w') (HB : ∀ w, Globs glT w → Calls Tryz.prog 14 #[.agg #[.bool g.re.g, .string g.re.s, .int .i64 g.re.x], .agg #[.bool (addD (addD p (hz ((2 * c) - a) (y - 1))) (hz 2 (y - 1))).g, .string (natS (addD (addD p (hz ((2 * c) - a) (y - 1))) (hz 2 (y - 1))).n), .int .i64 (addD (addD p (hz ((2 * c) - a) (y - 1))) (hz 2 (y - 1))).x]] w fun e w' => e = .returned (.tuple #[.int .i64 cb, .int .i64 kb]) ∧ Below w.heap.size w w') (HC : ∀ w, Globs glT w → Calls Tryz.prog 14 #[.agg #[.bool g.im.g, .string g.im.s, .int .i64 g.im.x], .agg #[.bool (addD q (hz ((b - (2 * r)) - 2) (y - 1))).g, .string (natS (addD q (hz ((b - (2 * r)) - 2) (y - 1))).n), .int .i64 (addD q (hz ((b - (2 * r)) - 2) (y - 1))).x]] w fun e w' => e = .returned (.tuple #[.int .i64 cc, .int .i64 kc]) ∧ Below w.heap.size w w') (HD : ∀ w, Globs glT w → Calls Tryz.prog 14 #[.agg #[.bool g.im.g, .string g.im.s, .int .i64 g.im.x], .agg #[.bool (addD (addD q (hz ((b - (2 * r)) - 2) (y - 1))) (hz 2 (y - 1))).g, .string (natS (addD (addD q (hz ((b - (2 * r)) - 2) (y - 1))) (hz 2 (y - 1))).n), .int .i64 (addD (addD q (hz ((b - (2 * r)) - 2) (y - 1))) (hz 2 (y - 1))).x]] w fun e w' => e = .returned (.tuple #[.int .i64 cd, .int .i64 kd]) ∧ Below w.heap.size w w') (hG : Globs glT w) : Calls Tryz.prog 4 #[.agg #[.bool p.g, .string (natS p.n), .int .i64 p.x, .bool q.g, .string (natS q.n), .int .i64 q.x, .int .i64 y, .int .i64 a, .int .i64 b], .int .i64 c, .int .i64 r, .int .i64 s, .int .i64 t, .agg #[.bool g.re.g, .string g.re.s, .int .i64 g.re.x, .bool g.im.g, .string g.im.s, .int .i64 g.im.x]] w fun e w' => e = .returned (.bool true) ∧ Below w.heap.size w w' := by
  obtain ⟨b1, i1⟩ := bex (y ≥ -4096)
  obtain ⟨b2, i2⟩ := bex (y ≤ 4096)
  obtain ⟨b3, i3⟩ := bex (a ≥ 1)
  obtain ⟨b4, i4⟩ := bex (a ≤ 65536)
  obtain ⟨b5, i5⟩ := bex (b ≥ 1)
  obtain ⟨b6, i6⟩ := bex (b ≤ 65536)
  obtain ⟨b7, i7⟩ := bex (c ≥ 0)
  obtain ⟨b8, i8⟩ := bex (c ≤ a - 1)
  obtain ⟨b9, i9⟩ := bex (r ≥ 0)
  obtain ⟨b10, i10⟩ := bex (r ≤ b - 1)
  have h11 : addE p (hz ((2 * c) - a) (y - 1)) = 0 := hxx
  have i11 : true = true ↔ (addE p (hz ((2 * c) - a) (y - 1)) = 0) := ⟨fun _ => h11, fun _ => rfl⟩
  have h12 : addE q (hz ((b - (2 * r)) - 2) (y - 1)) = 0 := hyy
  have i12 : true = true ↔ (addE q (hz ((b - (2 * r)) - 2) (y - 1)) = 0) := ⟨fun _ => h12, fun _ => rfl⟩
  have h13 : addE (addD p (hz ((2 * c) - a) (y - 1))) (hz 2 (y - 1)) = 0 := huu
  have i13 : true = true ↔ (addE (addD p (hz ((2 * c) - a) (y - 1))) (hz 2 (y - 1)) = 0) := ⟨fun _ => h13, fun _ => rfl⟩
  have h14 : addE (addD q (hz ((b - (2 * r)) - 2) (y - 1))) (hz 2 (y - 1)) = 0 := hvv
  have i14 : true = true ↔ (addE (addD q (hz ((b - (2 * r)) - 2) (y - 1))) (hz 2 (y - 1)) = 0) := ⟨fun _ => h14, fun _ => rfl⟩
  obtain ⟨b15, i15⟩ := bex (c + 1 ≥ 0)
  obtain ⟨b16, i16⟩ := bex (c + 1 ≤ a - 1)
  obtain ⟨b17, i17⟩ := bex (r + 1 ≥ 0)
  obtain ⟨b18, i18⟩ := bex (r + 1 ≤ b - 1)
  have h19 : addE q (hz ((b - (2 * (r + 1))) - 2) (y - 1)) = 0 := hu
  have i19 : true = true ↔ (addE q (hz ((b - (2 * (r + 1))) - 2) (y - 1)) = 0) := ⟨fun _ => h19, fun _ => rfl⟩
  letI : Env := mkEnv glT [.bool p.g, .string (natS p.n), .int .i64 p.x, .bool q.g, .string (natS q.n), .int .i64 q.x, .int .i64 y, .int .i64 a, .int .i64 b, .int .i64 c, .int .i64 r, .int .i64 s, .int .i64 t, .bool g.re.g, .string g.re.s, .int .i64 g.re.x, .bool g.im.g, .string g.im.s, .int .i64 g.im.x, .bool (hz 2 (y - 1)).g, .string (natS (hz 2 (y - 1)).n), .int .i64 (hz 2 (y - 1)).x, .int .i64 (a - 1), .int .i64 (b - 1), .int .i64 (2 * c), .int .i64 ((2 * c) - a), .bool (hz ((2 * c) - a) (y - 1)).g, .string (natS (hz ((2 * c) - a) (y - 1)).n), .int .i64 (hz ((2 * c) - a) (y - 1)).x, .bool (addD p (hz ((2 * c) - a) (y - 1))).g, .string (natS (addD p (hz ((2 * c) - a) (y - 1))).n), .int .i64 (addD p (hz ((2 * c) - a) (y - 1))).x, .int .i64 (addE p (hz ((2 * c) - a) (y - 1))), .bool (addD (addD p (hz ((2 * c) - a) (y - 1))) (hz 2 (y - 1))).g, .string (natS (addD (addD p (hz ((2 * c) - a) (y - 1))) (hz 2 (y - 1))).n), .int .i64 (addD (addD p (hz ((2 * c) - a) (y - 1))) (hz 2 (y - 1))).x, .int .i64 (addE (addD p (hz ((2 * c) - a) (y - 1))) (hz 2 (y - 1))), .int .i64 ca, .int .i64 ka, .int .i64 cb, .int .i64 kb, .int .i64 (2 * r), .int .i64 (b - (2 * r)), .int .i64 ((b - (2 * r)) - 2), .bool (hz ((b - (2 * r)) - 2) (y - 1)).g, .string (natS (hz ((b - (2 * r)) - 2) (y - 1)).n), .int .i64 (hz ((b - (2 * r)) - 2) (y - 1)).x, .bool (addD q (hz ((b - (2 * r)) - 2) (y - 1))).g, .string (natS (addD q (hz ((b - (2 * r)) - 2) (y - 1))).n), .int .i64 (addD q (hz ((b - (2 * r)) - 2) (y - 1))).x, .int .i64 (addE q (hz ((b - (2 * r)) - 2) (y - 1))), .bool (addD (addD q (hz ((b - (2 * r)) - 2) (y - 1))) (hz 2 (y - 1))).g, .string (natS (addD (addD q (hz ((b - (2 * r)) - 2) (y - 1))) (hz 2 (y - 1))).n), .int .i64 (addD (addD q (hz ((b - (2 * r)) - 2) (y - 1))) (hz 2 (y - 1))).x, .int .i64 (addE (addD q (hz ((b - (2 * r)) - 2) (y - 1))) (hz 2 (y - 1))), .int .i64 cc, .int .i64 kc, .int .i64 cd, .int .i64 kd, .int .i64 (c + 1), .int .i64 (2 * (c + 1)), .int .i64 ((2 * (c + 1)) - a), .bool (hz ((2 * (c + 1)) - a) (y - 1)).g, .string (natS (hz ((2 * (c + 1)) - a) (y - 1)).n), .int .i64 (hz ((2 * (c + 1)) - a) (y - 1)).x, .int .i64 (r + 1), .int .i64 (2 * (r + 1)), .int .i64 (b - (2 * (r + 1))), .int .i64 ((b - (2 * (r + 1))) - 2), .bool (hz ((b - (2 * (r + 1))) - 2) (y - 1)).g, .string (natS (hz ((b - (2 * (r + 1))) - 2) (y - 1)).n), .int .i64 (hz ((b - (2 * (r + 1))) - 2) (y - 1)).x, .bool (addD q (hz ((b - (2 * (r + 1))) - 2) (y - 1))).g, .string (natS (addD q (hz ((b - (2 * (r + 1))) - 2) (y - 1))).n), .int .i64 (addD q (hz ((b - (2 * (r + 1))) - 2) (y - 1))).x, .int .i64 (addE q (hz ((b - (2 * (r + 1))) - 2) (y - 1)))] rfl
  have hops : OpsT Tryz.prog (@Know.ops (VEdges_gk_k b1 b2 b3 b4 b5 b6 b7 b8 b9 b10 b15 b16 b17 b18)) := ⟨opt_geq_i rfl rfl i1,
    opt_leq_i rfl rfl i2,
    opt_geq_i rfl rfl i3,
    opt_leq_i rfl rfl i4,
    opt_geq_i rfl rfl i5,
    opt_leq_i rfl rfl i6,
    vopt_sub rfl rfl rfl rfl (by omega) ⟨by omega, by omega⟩,
    opt_geq_i rfl rfl i7,
    opt_leq_i rfl rfl i8,
    vopt_sub rfl rfl rfl rfl (by omega) ⟨by omega, by omega⟩,
    opt_geq_i rfl rfl i9,
    opt_leq_i rfl rfl i10,
    vopt_mul rfl rfl rfl rfl (by omega) ⟨by omega, by omega⟩,
    vopt_sub rfl rfl rfl rfl (by omega) ⟨by omega, by omega⟩,
    vopt_mul rfl rfl rfl rfl (by omega) ⟨by omega, by omega⟩,
    vopt_sub rfl rfl rfl rfl (by omega) ⟨by omega, by omega⟩,
    vopt_sub rfl rfl rfl rfl (by omega) ⟨by omega, by omega⟩,
    opt_neq_i rfl rfl i11,
    opt_neq_i rfl rfl i12,
    opt_neq_i rfl rfl i13,
    opt_neq_i rfl rfl i14,
    vopt_add rfl rfl rfl rfl (by omega) ⟨by omega, by omega⟩,
    opt_geq_i rfl rfl i15,
    opt_leq_i rfl rfl i16,
    vopt_mul rfl rfl rfl rfl (by omega) ⟨by omega, by omega⟩,
    vopt_sub rfl rfl rfl rfl (by omega) ⟨by omega, by omega⟩,
    optD_neq_f (a := addD (addD p (hz ((2 * c) - a) (y - 1))) (hz 2 (y - 1))) (b := addD (addD p (hz ((2 * c) - a) (y - 1))) (hz 2 (y - 1))) rfl rfl rfl,
    optD_neq_f (a := addD q (hz ((b - (2 * r)) - 2) (y - 1))) (b := addD q (hz ((b - (2 * r)) - 2) (y - 1))) rfl rfl rfl,
    vopt_add rfl rfl rfl rfl (by omega) ⟨by omega, by omega⟩,
    opt_geq_i rfl rfl i17,
    opt_leq_i rfl rfl i18,
    vopt_mul rfl rfl rfl rfl (by omega) ⟨by omega, by omega⟩,
    vopt_sub rfl rfl rfl rfl (by omega) ⟨by omega, by omega⟩,
    vopt_sub rfl rfl rfl rfl (by omega) ⟨by omega, by omega⟩,
    opt_neq_i rfl rfl i19,
    optG_neq_f (a := ⟨addD p (hz ((2 * c) - a) (y - 1)), addD q (hz ((b - (2 * r)) - 2) (y - 1))⟩) (b := ⟨addD p (hz ((2 * c) - a) (y - 1)), addD q (hz ((b - (2 * r)) - 2) (y - 1))⟩) rfl rfl rfl,
    optG_neq_f (a := ⟨addD (addD p (hz ((2 * c) - a) (y - 1))) (hz 2 (y - 1)), addD q (hz ((b - (2 * r)) - 2) (y - 1))⟩) (b := ⟨addD (addD p (hz ((2 * c) - a) (y - 1))) (hz 2 (y - 1)), addD q (hz ((b - (2 * r)) - 2) (y - 1))⟩) rfl rfl rfl,
    trivial⟩
  have hcalls : CallsT Tryz.prog (@Know.calls (VEdges_gk_k b1 b2 b3 b4 b5 b6 b7 b8 b9 b10 b15 b16 b17 b18)) := ⟨callt rfl rfl fun w hG => awake24_c w hG,
    callt rfl rfl fun w hG => GCheck_gs ⟨p, q⟩ ⟨hp, hq⟩ w hG,
    callt rfl rfl fun w hG => halves_z 2 y w ⟨by omega, by omega⟩ ⟨by omega, by omega⟩ hG,
    callt rfl rfl fun w hG => halves_z ((2 * c) - a) y w ⟨by omega, by omega⟩ ⟨by omega, by omega⟩ hG,
    callt rfl rfl fun w hG => DAdd_c p (hz ((2 * c) - a) (y - 1)) w hp (hz_Ok _ _) hG,
    callt rfl rfl fun w hG => DAdd_c (addD p (hz ((2 * c) - a) (y - 1))) (hz 2 (y - 1)) w (add_Ok hp (hz_Ok _ _)) (hz_Ok _ _) hG,
    callt rfl rfl fun w hG => HA w hG,
    callt rfl rfl fun w hG => HB w hG,
    callt rfl rfl fun w hG => halves_z ((b - (2 * r)) - 2) y w ⟨by omega, by omega⟩ ⟨by omega, by omega⟩ hG,
    callt rfl rfl fun w hG => DAdd_c q (hz ((b - (2 * r)) - 2) (y - 1)) w hq (hz_Ok _ _) hG,
    callt rfl rfl fun w hG => VRight_ok (addD p (hz ((2 * c) - a) (y - 1))) (addD q (hz ((b - (2 * r)) - 2) (y - 1))) y w (add_Ok hp (hz_Ok _ _)) (add_Ok hq (hz_Ok _ _)) ⟨by omega, by omega⟩ hG,
    callt rfl rfl fun w hG => DAdd_c (addD q (hz ((b - (2 * r)) - 2) (y - 1))) (hz 2 (y - 1)) w (add_Ok hq (hz_Ok _ _)) (hz_Ok _ _) hG,
    callt rfl rfl fun w hG => VHolds_g (addD p (hz ((2 * c) - a) (y - 1))) (addD q (hz ((b - (2 * r)) - 2) (y - 1))) y g w (add_Ok hp (hz_Ok _ _)) (add_Ok hq (hz_Ok _ _)) hy zg hn hG,
    callt rfl rfl fun w hG => HC w hG,
    callt rfl rfl fun w hG => HD w hG,
    callt rfl rfl fun w hG => halves_z ((2 * (c + 1)) - a) y w ⟨by omega, by omega⟩ ⟨by omega, by omega⟩ hG,
    callt rfl rfl fun w hG => DAdd_canon hp (hz_Ok _ _) (show addD p (hz ((2 * (c + 1)) - a) (y - 1)) = addD (addD p (hz ((2 * c) - a) (y - 1))) (hz 2 (y - 1)) ∧ addE p (hz ((2 * (c + 1)) - a) (y - 1)) = addE (addD p (hz ((2 * c) - a) (y - 1))) (hz 2 (y - 1)) from add_hz hp ⟨by omega, by omega⟩ ⟨by omega, by omega⟩ ⟨by omega, by omega⟩ (by omega) hxx) w hG,
    callt rfl rfl fun w hG => halves_z ((b - (2 * (r + 1))) - 2) y w ⟨by omega, by omega⟩ ⟨by omega, by omega⟩ hG,
    callt rfl rfl fun w hG => DAdd_c q (hz ((b - (2 * (r + 1))) - 2) (y - 1)) w hq (hz_Ok _ _) hG,
    callt rfl rfl fun w hG => VRight_ok (addD p (hz ((2 * c) - a) (y - 1))) (addD q (hz ((b - (2 * (r + 1))) - 2) (y - 1))) y w (add_Ok hp (hz_Ok _ _)) (add_Ok hq (hz_Ok _ _)) ⟨by omega, by omega⟩ hG,
    callt rfl rfl fun w hG => DAdd_canon (add_Ok hq (hz_Ok _ _)) (hz_Ok _ _) (show addD (addD q (hz ((b - (2 * (r + 1))) - 2) (y - 1))) (hz 2 (y - 1)) = addD q (hz ((b - (2 * r)) - 2) (y - 1)) ∧ addE (addD q (hz ((b - (2 * (r + 1))) - 2) (y - 1))) (hz 2 (y - 1)) = addE q (hz ((b - (2 * r)) - 2) (y - 1)) from (fun t => ⟨t.1.symm, t.2.symm⟩) (add_hz hq ⟨by omega, by omega⟩ ⟨by omega, by omega⟩ ⟨by omega, by omega⟩ (by omega) hu)) w hG,
    trivial⟩
  have fin : ∀ v, @comes (VEdges_gk_k b1 b2 b3 b4 b5 b6 b7 b8 b9 b10 b15 b16 b17 b18) Tryz.prog glT 3000 VEdges_gk_f VEdges_gk_a = some v → ground v = true → Ending.returned (gval v) = .returned (.bool true) → Calls Tryz.prog 4 #[.agg #[.bool p.g, .string (natS p.n), .int .i64 p.x, .bool q.g, .string (natS q.n), .int .i64 q.x, .int .i64 y, .int .i64 a, .int .i64 b], .int .i64 c, .int .i64 r, .int .i64 s, .int .i64 t, .agg #[.bool g.re.g, .string g.re.s, .int .i64 g.re.x, .bool g.im.g, .string g.im.s, .int .i64 g.im.x]] w fun e w' => e = .returned (.bool true) ∧ Below w.heap.size w w' := fun v h1 h2 h3 => (@sym_ok _ (VEdges_gk_k b1 b2 b3 b4 b5 b6 b7 b8 b9 b10 b15 b16 b17 b18) _ (@KnowOk.of _ (VEdges_gk_k b1 b2 b3 b4 b5 b6 b7 b8 b9 b10 b15 b16 b17 b18) _ hops hcalls) (by kernel_rfl) _ _ _ _ h1 rfl h2 _ hG).mono fun e w' h => ⟨h.1.trans h3, h.2⟩
  clear hops hcalls
  cases b1 with
  | true =>
    have h1 : y ≥ -4096 := i1.1 rfl
    cases b2 with
    | true =>
      have h2 : y ≤ 4096 := i2.1 rfl
      cases b3 with
      | true =>
        have h3 : a ≥ 1 := i3.1 rfl
        cases b4 with
        | true =>
          have h4 : a ≤ 65536 := i4.1 rfl
          cases b5 with
          | true =>
            have h5 : b ≥ 1 := i5.1 rfl
            cases b6 with
            | true =>
              have h6 : b ≤ 65536 := i6.1 rfl
              cases b7 with
              | true =>
                have h7 : c ≥ 0 := i7.1 rfl
                cases b8 with
                | true =>
                  have h8 : c ≤ a - 1 := i8.1 rfl
                  cases b9 with
                  | true =>
                    have h9 : r ≥ 0 := i9.1 rfl
                    cases b10 with
                    | true =>
                      have h10 : r ≤ b - 1 := i10.1 rfl
                      cases b15 with
                      | true =>
                        have h15 : c + 1 ≥ 0 := i15.1 rfl
                        cases b16 with
                        | true =>
                          have h16 : c + 1 ≤ a - 1 := i16.1 rfl
                          cases b17 with
                          | true =>
                            have h17 : r + 1 ≥ 0 := i17.1 rfl
                            cases b18 with
                            | true =>
                              have h18 : r + 1 ≤ b - 1 := i18.1 rfl
                              exact fin _ (VEdges_gk_r1) rfl rfl
                            | false =>
                              exact absurd (i18.2 ((by omega))) Bool.false_ne_true
                          | false =>
                            exact absurd (i17.2 ((by omega))) Bool.false_ne_true
                        | false =>
                          have h16 : ¬ (c + 1 ≤ a - 1) := fun c => Bool.false_ne_true (i16.2 c)
                          cases b17 with
                          | true =>
                            have h17 : r + 1 ≥ 0 := i17.1 rfl
                            cases b18 with
                            | true =>
                              have h18 : r + 1 ≤ b - 1 := i18.1 rfl
                              exact fin _ (VEdges_gk_r2) rfl rfl
                            | false =>
                              exact absurd (i18.2 ((by omega))) Bool.false_ne_true
                          | false =>
                            exact absurd (i17.2 ((by omega))) Bool.false_ne_true
                      | false =>
                        exact absurd (i15.2 ((by omega))) Bool.false_ne_true
                    | false =>
                      exact absurd (i10.2 ((by omega))) Bool.false_ne_true
                  | false =>
                    exact absurd (i9.2 ((by omega))) Bool.false_ne_true
                | false =>
                  exact absurd (i8.2 ((by omega))) Bool.false_ne_true
              | false =>
                exact absurd (i7.2 ((by omega))) Bool.false_ne_true
            | false =>
              exact absurd (i6.2 ((by omega))) Bool.false_ne_true
          | false =>
            exact absurd (i5.2 ((by omega))) Bool.false_ne_true
        | false =>
          exact absurd (i4.2 ((by omega))) Bool.false_ne_true
      | false =>
        exact absurd (i3.2 ((by omega))) Bool.false_ne_true
    | false =>
      exact absurd (i2.2 ((by omega))) Bool.false_ne_true
  | false =>
    exact absurd (i1.2 ((by omega))) Bool.false_ne_true
end Go.Proofs.YtamcnnocjelcjaaGreatDoor
namespace Go.Proofs.YtamcnnocjelcjaaGreatDoor
open Go Go.RowKit Nt
theorem VCheck_ok (p q : Dy) (y a b : Int) (w : World) (hp : p.Ok) (hq : q.Ok) (hy : -4096 ≤ y ∧ y ≤ 4096) (ha : 1 ≤ a ∧ a ≤ 65536) (hb : 1 ≤ b ∧ b ≤ 65536) (hG : Globs glT w) : Calls Tryz.prog 15 #[.agg #[.bool p.g, .string (natS p.n), .int .i64 p.x, .bool q.g, .string (natS q.n), .int .i64 q.x, .int .i64 y, .int .i64 a, .int .i64 b]] w fun e w' => e = .returned (.int .i64 0) ∧ Below w.heap.size w w' := by
  have h1 := Dt.small (Dy.ok_t hp)
  have h2 := Dt.small (Dy.ok_t hq)
  have h := VCheck_c (⟨⟨p.t, q.t⟩, y, a, b⟩ : WinT) w ⟨Nat.le_trans h1 (by decide), Nat.le_trans h2 (by decide)⟩ hG
  rw [wE_ok ⟨⟨Dy.ok_t hp, Dy.ok_t hq⟩, hy, ha, hb⟩] at h
  exact h
@[reducible] def VFind_sub_f : FuncId := 6
@[reducible] def VFind_sub_a : List AV := [.agg [.sym 0, .sym 1, .sym 2, .sym 3, .sym 4, .sym 5, .sym 6, .sym 7, .sym 8], .agg [.sym 9, .sym 10, .sym 11, .sym 12, .sym 13, .sym 14]]
@[reducible] noncomputable def VFind_sub_k : Know := ⟨[([0, 12, 31], [.sym 21, .lit (.int .i64 0)], .lit (.bool true))],
  [(15, [.agg [.sym 0, .sym 1, .sym 2, .sym 3, .sym 4, .sym 5, .sym 6, .sym 7, .sym 8]], .lit (.int .i64 0)),
  (19, [.agg [.sym 9, .sym 10, .sym 11, .sym 12, .sym 13, .sym 14]], .lit (.int .i64 0)),
  (20, [.agg [.sym 9, .sym 10, .sym 11, .sym 12, .sym 13, .sym 14], .agg [.sym 0, .sym 1, .sym 2, .sym 3, .sym 4, .sym 5]], .tup [.agg [.sym 15, .sym 16, .sym 17, .sym 18, .sym 19, .sym 20], .sym 21])]⟩
theorem VFind_sub_r1 : @comes VFind_sub_k Tryz.prog glT 3000 VFind_sub_f VFind_sub_a = some (.tup [.lit (.int .i64 0), .lit (.int .i64 0), .sym 21]) := by kernel_rfl
set_option maxRecDepth 100000 in
set_option maxHeartbeats 4000000 in
theorem VFind_sub (p q : Dy) (y a b : Int) (g d : Gs) (kk : Int) (w : World) (hp : p.Ok) (hq : q.Ok) (hy : -4096 ≤ y ∧ y ≤ 4096) (ha : 1 ≤ a ∧ a ≤ 65536) (hb : 1 ≤ b ∧ b ≤ 65536) (hg : g.Ok) (HS : ∀ w, Globs glT w → Calls Tryz.prog 20 #[.agg #[.bool g.re.g, .string (natS g.re.n), .int .i64 g.re.x, .bool g.im.g, .string (natS g.im.n), .int .i64 g.im.x], .agg #[.bool (p).g, .string (natS (p).n), .int .i64 (p).x, .bool (q).g, .string (natS (q).n), .int .i64 (q).x]] w fun e w' => e = .returned (.tuple #[.agg #[.bool d.re.g, .string (natS d.re.n), .int .i64 d.re.x, .bool d.im.g, .string (natS d.im.n), .int .i64 d.im.x], .int .i64 kk]) ∧ Below w.heap.size w w') (hk : ¬ kk = 0) (hG : Globs glT w) : Calls Tryz.prog 6 #[.agg #[.bool p.g, .string (natS p.n), .int .i64 p.x, .bool q.g, .string (natS q.n), .int .i64 q.x, .int .i64 y, .int .i64 a, .int .i64 b], .agg #[.bool g.re.g, .string (natS g.re.n), .int .i64 g.re.x, .bool g.im.g, .string (natS g.im.n), .int .i64 g.im.x]] w fun e w' => e = .returned (.tuple #[.int .i64 0, .int .i64 0, .int .i64 kk]) ∧ Below w.heap.size w w' := by
  have h1 : ¬ (kk = 0) := hk
  have i1 : false = true ↔ (kk = 0) := ⟨fun k => absurd k Bool.false_ne_true, fun k => absurd k h1⟩
  letI : Env := mkEnv glT [.bool p.g, .string (natS p.n), .int .i64 p.x, .bool q.g, .string (natS q.n), .int .i64 q.x, .int .i64 y, .int .i64 a, .int .i64 b, .bool g.re.g, .string (natS g.re.n), .int .i64 g.re.x, .bool g.im.g, .string (natS g.im.n), .int .i64 g.im.x, .bool d.re.g, .string (natS d.re.n), .int .i64 d.re.x, .bool d.im.g, .string (natS d.im.n), .int .i64 d.im.x, .int .i64 kk] rfl
  have hops : OpsT Tryz.prog (@Know.ops VFind_sub_k) := ⟨opt_neq_i rfl rfl i1,
    trivial⟩
  have hcalls : CallsT Tryz.prog (@Know.calls VFind_sub_k) := ⟨callt rfl rfl fun w hG => VCheck_ok p q y a b w hp hq hy ha hb hG,
    callt rfl rfl fun w hG => GCheck_gs g hg w hG,
    callt rfl rfl fun w hG => HS w hG,
    trivial⟩
  have fin : ∀ v, @comes VFind_sub_k Tryz.prog glT 3000 VFind_sub_f VFind_sub_a = some v → ground v = true → Ending.returned (gval v) = .returned (.tuple #[.int .i64 0, .int .i64 0, .int .i64 kk]) → Calls Tryz.prog 6 #[.agg #[.bool p.g, .string (natS p.n), .int .i64 p.x, .bool q.g, .string (natS q.n), .int .i64 q.x, .int .i64 y, .int .i64 a, .int .i64 b], .agg #[.bool g.re.g, .string (natS g.re.n), .int .i64 g.re.x, .bool g.im.g, .string (natS g.im.n), .int .i64 g.im.x]] w fun e w' => e = .returned (.tuple #[.int .i64 0, .int .i64 0, .int .i64 kk]) ∧ Below w.heap.size w w' := fun v h1 h2 h3 => (@sym_ok _ VFind_sub_k _ (@KnowOk.of _ VFind_sub_k _ hops hcalls) (by kernel_rfl) _ _ _ _ h1 rfl h2 _ hG).mono fun e w' h => ⟨h.1.trans h3, h.2⟩
  clear hops hcalls
  exact fin _ (VFind_sub_r1) rfl rfl
@[reducible] def VFind_yes_f : FuncId := 6
@[reducible] def VFind_yes_a : List AV := [.agg [.sym 0, .sym 1, .sym 2, .sym 3, .sym 4, .sym 5, .sym 6, .sym 7, .sym 8], .agg [.sym 9, .sym 10, .sym 11, .sym 12, .sym 13, .sym 14]]
@[reducible] noncomputable def VFind_yes_k : Know := ⟨[],
  [(15, [.agg [.sym 0, .sym 1, .sym 2, .sym 3, .sym 4, .sym 5, .sym 6, .sym 7, .sym 8]], .lit (.int .i64 0)),
  (19, [.agg [.sym 9, .sym 10, .sym 11, .sym 12, .sym 13, .sym 14]], .lit (.int .i64 0)),
  (20, [.agg [.sym 9, .sym 10, .sym 11, .sym 12, .sym 13, .sym 14], .agg [.sym 0, .sym 1, .sym 2, .sym 3, .sym 4, .sym 5]], .tup [.agg [.sym 15, .sym 16, .sym 17, .sym 18, .sym 19, .sym 20], .lit (.int .i64 0)]),
  (21, [.agg [.sym 15, .sym 16, .sym 17], .sym 7, .sym 6], .tup [.sym 21, .lit (.bool true)]),
  (22, [.agg [.sym 18, .sym 19, .sym 20]], .agg [.sym 22, .sym 23, .sym 24]),
  (21, [.agg [.sym 22, .sym 23, .sym 24], .sym 8, .sym 6], .tup [.sym 25, .lit (.bool true)])]⟩
theorem VFind_yes_r1 : @comes VFind_yes_k Tryz.prog glT 3000 VFind_yes_f VFind_yes_a = some (.tup [.sym 21, .sym 25, .lit (.int .i64 0)]) := by kernel_rfl
set_option maxRecDepth 100000 in
set_option maxHeartbeats 4000000 in
theorem VFind_yes (p q : Dy) (y a b : Int) (g d : Gs) (t : Dy) (m n : Int) (w : World) (hp : p.Ok) (hq : q.Ok) (hy : -4096 ≤ y ∧ y ≤ 4096) (ha : 1 ≤ a ∧ a ≤ 65536) (hb : 1 ≤ b ∧ b ≤ 65536) (hg : g.Ok) (HS : ∀ w, Globs glT w → Calls Tryz.prog 20 #[.agg #[.bool g.re.g, .string (natS g.re.n), .int .i64 g.re.x, .bool g.im.g, .string (natS g.im.n), .int .i64 g.im.x], .agg #[.bool (p).g, .string (natS (p).n), .int .i64 (p).x, .bool (q).g, .string (natS (q).n), .int .i64 (q).x]] w fun e w' => e = .returned (.tuple #[.agg #[.bool d.re.g, .string (natS d.re.n), .int .i64 d.re.x, .bool d.im.g, .string (natS d.im.n), .int .i64 d.im.x], .int .i64 0]) ∧ Below w.heap.size w w') (HL : ∀ w, Globs glT w → Calls Tryz.prog 21 #[.agg #[.bool d.re.g, .string (natS d.re.n), .int .i64 d.re.x], .int .i64 a, .int .i64 y] w fun e w' => e = .returned (.tuple #[.int .i64 m, .bool true]) ∧ Below w.heap.size w w') (HN : ∀ w, Globs glT w → Calls Tryz.prog 22 #[.agg #[.bool d.im.g, .string (natS d.im.n), .int .i64 d.im.x]] w fun e w' => e = .returned (.agg #[.bool t.g, .string (natS t.n), .int .i64 t.x]) ∧ Below w.heap.size w w') (HT : ∀ w, Globs glT w → Calls Tryz.prog 21 #[.agg #[.bool t.g, .string (natS t.n), .int .i64 t.x], .int .i64 b, .int .i64 y] w fun e w' => e = .returned (.tuple #[.int .i64 n, .bool true]) ∧ Below w.heap.size w w') (hG : Globs glT w) : Calls Tryz.prog 6 #[.agg #[.bool p.g, .string (natS p.n), .int .i64 p.x, .bool q.g, .string (natS q.n), .int .i64 q.x, .int .i64 y, .int .i64 a, .int .i64 b], .agg #[.bool g.re.g, .string (natS g.re.n), .int .i64 g.re.x, .bool g.im.g, .string (natS g.im.n), .int .i64 g.im.x]] w fun e w' => e = .returned (.tuple #[.int .i64 m, .int .i64 n, .int .i64 0]) ∧ Below w.heap.size w w' := by
  letI : Env := mkEnv glT [.bool p.g, .string (natS p.n), .int .i64 p.x, .bool q.g, .string (natS q.n), .int .i64 q.x, .int .i64 y, .int .i64 a, .int .i64 b, .bool g.re.g, .string (natS g.re.n), .int .i64 g.re.x, .bool g.im.g, .string (natS g.im.n), .int .i64 g.im.x, .bool d.re.g, .string (natS d.re.n), .int .i64 d.re.x, .bool d.im.g, .string (natS d.im.n), .int .i64 d.im.x, .int .i64 m, .bool t.g, .string (natS t.n), .int .i64 t.x, .int .i64 n] rfl
  have hops : OpsT Tryz.prog (@Know.ops VFind_yes_k) := trivial
  have hcalls : CallsT Tryz.prog (@Know.calls VFind_yes_k) := ⟨callt rfl rfl fun w hG => VCheck_ok p q y a b w hp hq hy ha hb hG,
    callt rfl rfl fun w hG => GCheck_gs g hg w hG,
    callt rfl rfl fun w hG => HS w hG,
    callt rfl rfl fun w hG => HL w hG,
    callt rfl rfl fun w hG => HN w hG,
    callt rfl rfl fun w hG => HT w hG,
    trivial⟩
  have fin : ∀ v, @comes VFind_yes_k Tryz.prog glT 3000 VFind_yes_f VFind_yes_a = some v → ground v = true → Ending.returned (gval v) = .returned (.tuple #[.int .i64 m, .int .i64 n, .int .i64 0]) → Calls Tryz.prog 6 #[.agg #[.bool p.g, .string (natS p.n), .int .i64 p.x, .bool q.g, .string (natS q.n), .int .i64 q.x, .int .i64 y, .int .i64 a, .int .i64 b], .agg #[.bool g.re.g, .string (natS g.re.n), .int .i64 g.re.x, .bool g.im.g, .string (natS g.im.n), .int .i64 g.im.x]] w fun e w' => e = .returned (.tuple #[.int .i64 m, .int .i64 n, .int .i64 0]) ∧ Below w.heap.size w w' := fun v h1 h2 h3 => (@sym_ok _ VFind_yes_k _ (@KnowOk.of _ VFind_yes_k _ hops hcalls) (by kernel_rfl) _ _ _ _ h1 rfl h2 _ hG).mono fun e w' h => ⟨h.1.trans h3, h.2⟩
  clear hops hcalls
  exact fin _ (VFind_yes_r1) rfl rfl
end Go.Proofs.YtamcnnocjelcjaaGreatDoor
namespace Go.Proofs.YtamcnnocjelcjaaGreatDoor
open Go Go.RowKit Nt
theorem SlB.start (w : World) (x : Dy) (n : Nat) (e : Int) : SlB w x n e ((((w.alloc (.cells #[.bool x.g, .string (natS x.n), .int .i64 x.x] 24)).alloc (.cells #[.int .i64 (n : Nat)] 3)).alloc (.cells #[.int .i64 e] 3)).alloc (.cells #[.func (.func 44) #[] #[.pointer (some ⟨w.heap.size, 0, none⟩), .pointer (some ⟨w.heap.size + 1 + 1, 0, none⟩)]] 62)) := by
  refine ⟨?_, ?_, ?_, ?_, ?_⟩
  · exact ((((Below.refl _ _).alloc (Nat.le_refl _) _).alloc (by simp) _).alloc (by simp; omega) _).alloc (by simp; omega) _
  · exact (((Blk.new w _ _).alloc _).alloc _).alloc _
  · have h := Blk.new (w.alloc (.cells #[.bool x.g, .string (natS x.n), .int .i64 x.x] 24)) 3 #[.int .i64 (n : Nat)]
    rw [World.size_alloc] at h
    exact (h.alloc _).alloc _
  · have h := Blk.new ((w.alloc (.cells #[.bool x.g, .string (natS x.n), .int .i64 x.x] 24)).alloc (.cells #[.int .i64 (n : Nat)] 3)) 3 #[.int .i64 e]
    rw [World.size_alloc, World.size_alloc] at h
    exact h.alloc _
  · have h := Blk.new (((w.alloc (.cells #[.bool x.g, .string (natS x.n), .int .i64 x.x] 24)).alloc (.cells #[.int .i64 (n : Nat)] 3)).alloc (.cells #[.int .i64 e] 3)) 62 #[.func (.func 44) #[] #[.pointer (some ⟨w.heap.size, 0, none⟩), .pointer (some ⟨w.heap.size + 1 + 1, 0, none⟩)]]
    rw [World.size_alloc, World.size_alloc, World.size_alloc] at h
    exact h
set_option maxRecDepth 100000 in
set_option maxHeartbeats 4000000 in
theorem slot_w (x : Dy) (n : Nat) (e : Int) (c : Nat) (ok : Bool) (w : World) (hx : x.Ok) (h1 : 1 ≤ n) (hn : n ≤ 65536) (he : -4096 ≤ e ∧ e ≤ 4096)
    (h : (¬ -(n : Int) * hT e ≤ iv x ∧ ok = false ∧ c = 0) ∨ (-(n : Int) * hT e ≤ iv x ∧ ¬ iv x ≤ (n : Int) * hT e ∧ ok = false ∧ c = 0) ∨ (-(n : Int) * hT e ≤ iv x ∧ iv x ≤ (n : Int) * hT e ∧ IsSlot (iv x) (hT e) n c ∧ ok = true)) :
    Calls Tryz.prog 21 #[.agg #[.bool x.g, .string (natS x.n), .int .i64 x.x], .int .i64 (n : Nat), .int .i64 e] w fun r w' => r = .returned (.tuple #[.int .i64 (c : Nat), .bool ok]) ∧ Below w.heap.size w w' := by
  have K1 := Lib.hid (fun w => halves_c (-(n : Int)) e (by omega) (by omega) w)
  have K2 := Lib.hid (fun w => DCmp_c x (hz (-(n : Int)) (e - 1)) w hx (hz_Ok _ _))
  have hcmp : cmpD x (hz (-(n : Int)) (e - 1)) < 0 ↔ iv x < -(n : Int) * hT e := by rw [cmpV_lt hx (hz_Ok _ _), iv_half (by omega) he]
  have hcm2 : cmpD x (hz (n : Int) (e - 1)) ≤ 0 ↔ iv x ≤ (n : Int) * hT e := by rw [cmpV_le hx (hz_Ok _ _), iv_half (by omega) he]
  have HC1 := Lib.hid hcmp
  have HC2 := Lib.hid hcm2
  have HH := Lib.hid h
  have HX := Lib.hid hx
  have HE := Lib.hid he
  have hw : IntKind.i64.wrap (-(n : Int)) = -(n : Int) := IntWalk.i64_in _ (by omega)
  have T0 := SlB.start w x n e
  clear hcmp hcm2 h hx he
  generalize cmpD x (hz (-(n : Int)) (e - 1)) = C1 at *
  generalize hz (-(n : Int)) (e - 1) = D1 at *
  unfold Dy.v at K1
  go_enter Tryz.func21, Tryz.ntmps21
  go_upto_region 2 with fail
  generalize ((((w.alloc (.cells #[.bool x.g, .string (natS x.n), .int .i64 x.x] 24)).alloc (.cells #[.int .i64 (n : Nat)] 3)).alloc (.cells #[.int .i64 e] 3)).alloc (.cells #[.func (.func 44) #[] #[.pointer (some ⟨w.heap.size, 0, none⟩), .pointer (some ⟨w.heap.size + 1 + 1, 0, none⟩)]] 62)) = W4 at *
  have S0 : StV W4 W4 := Below.refl _ _
  have L0 := fun U (s : StV W4 U) => (T0.step s).c0
  have L1 := fun U (s : StV W4 U) => (T0.step s).c1
  have L2 := fun U (s : StV W4 U) => (T0.step s).c2
  have L3 := fun U (s : StV W4 U) => (T0.step s).cn
  have L4 := fun U (s : StV W4 U) => (T0.step s).ce
  go_region_held3 (StV W4) (first | assumption | exact StV.step (by assumption) (by assumption) | exact StV.drew (by assumption) | exact StV.drawn (by assumption) _)
    (first
      | (go_at_call 39; (with_reducible refine (K1.out _).mono ?_); rintro ee w1 ⟨rfl, hb1⟩)
      | (go_at_call 14; (with_reducible refine (K2.out _).mono ?_); rintro ee w2 ⟨rfl, hb2⟩))
  rename_i hHeld
  replace T0 := T0.step hHeld
  clear L0 L1 L2 L3 L4 hb1 hb2 hHeld S0
  have cn := T0.cn
  have cf := T0.cf
  rcases HH.out with ⟨h1, rfl, rfl⟩ | ⟨h1, h2, rfl, rfl⟩ | ⟨h1, h2, h3, rfl⟩
  · have q : C1 < 0 := HC1.out.2 (by omega)
    clear HH h1
    go_wp2_with fail
    go_ret2
    exact ⟨rfl, T0.low⟩
  · have q : ¬ C1 < 0 := fun c => absurd (HC1.out.1 c) (by omega)
    have K3 := T0.upTo (n : Int) HX.out (by omega) (by have := HE.out; omega)
    rw [decide_eq_false (fun c => absurd (HC2.out.1 c) (Int.not_le.2 (by omega)))] at K3
    have K4 := Lib.hid K3
    clear HH h1 h2 K3
    go_wp2_with (first | (go_at_call 44; (with_reducible refine K4.out.mono ?_); rintro ee w3 ⟨rfl, hb⟩; replace T0 := T0.step hb; clear hb))
    go_ret2
    exact ⟨rfl, T0.low⟩
  · have q : ¬ C1 < 0 := fun c => absurd (HC1.out.1 c) (by omega)
    have K3 := T0.upTo (n : Int) HX.out (by omega) (by have := HE.out; omega)
    rw [decide_eq_true (HC2.out.2 h2)] at K3
    have K4 := Lib.hid K3
    have H3 := Lib.hid h3
    have hcn : c ≤ n := Nat.le_of_lt h3.1
    clear HH h1 h2 h3 K3
    go_wp2_with (first | (go_at_call 44; (with_reducible refine K4.out.mono ?_); rintro ee w3 ⟨rfl, hb⟩; replace T0 := T0.step hb; clear hb cn cf; have cn := T0.cn; have cf := T0.cf) | (go_at_call 45; have HK := Search_c T0 c HX.out hn HE.out H3.out; (with_reducible refine HK.mono ?_); clear HK; rintro ee w4 ⟨rfl, hb⟩; replace T0 := T0.step hb; clear hb cn cf))
    go_ret2
    exact ⟨rfl, T0.low⟩
end Go.Proofs.YtamcnnocjelcjaaGreatDoor
namespace Go.Proofs.YtamcnnocjelcjaaGreatDoor
open Go Go.RowKit Nt
theorem StV.more {w W : World} (h : StV w W) (o : Obj) : StV w (W.alloc o) := Below.alloc h h.size o
theorem StV.put {w W : World} (h : StV w W) {B : Nat} (hB : w.heap.size ≤ B) (x y z : Value) : StV w (((W.setCell ⟨B, 0, none⟩ x).setCell ⟨B, 1, none⟩ y).setCell ⟨B, 2, none⟩ z) := below_put h hB x y z
structure FS (w : World) (uc : Gt) (ue : Int) (na nb : Nat) (x t : Dy) (X Y : Nat) (W : World) : Prop where
  win : WinB w ⟨uc, ue, na, nb⟩ W
  lx : X < W.heap.size
  ly : Y < W.heap.size
  x0 : W.cell? ⟨X, 0, none⟩ = some (.bool x.g)
  x1 : W.cell? ⟨X, 1, none⟩ = some (.string (natS x.n))
  x2 : W.cell? ⟨X, 2, none⟩ = some (.int .i64 x.x)
  y0 : W.cell? ⟨Y, 0, none⟩ = some (.bool t.g)
  y1 : W.cell? ⟨Y, 1, none⟩ = some (.string (natS t.n))
  y2 : W.cell? ⟨Y, 2, none⟩ = some (.int .i64 t.x)
theorem FS.step {w : World} {uc : Gt} {ue : Int} {na nb : Nat} {x t : Dy} {X Y : Nat} {W W' : World} (h : FS w uc ue na nb x t X Y W) (hb : Below W.heap.size W W') : FS w uc ue na nb x t X Y W' :=
  ⟨h.win.step hb, Nat.lt_of_lt_of_le h.lx hb.size, Nat.lt_of_lt_of_le h.ly hb.size, (Below.cell hb (p := ⟨X, 0, none⟩) h.lx).trans h.x0, (Below.cell hb (p := ⟨X, 1, none⟩) h.lx).trans h.x1, (Below.cell hb (p := ⟨X, 2, none⟩) h.lx).trans h.x2, (Below.cell hb (p := ⟨Y, 0, none⟩) h.ly).trans h.y0, (Below.cell hb (p := ⟨Y, 1, none⟩) h.ly).trans h.y1, (Below.cell hb (p := ⟨Y, 2, none⟩) h.ly).trans h.y2⟩
end Go.Proofs.YtamcnnocjelcjaaGreatDoor
namespace Go.Proofs.YtamcnnocjelcjaaGreatDoor
open Go Go.RowKit Nt
@[reducible] noncomputable def GSub_c_k1 : Know := ⟨[([0, 12, 31], [.sym 15, .lit (.int .i64 0)], .lit (.bool false)),
  ([0, 12, 31], [.sym 19, .lit (.int .i64 0)], .lit (.bool false))],
  [(19, [.agg [.sym 0, .sym 1, .sym 2, .sym 3, .sym 4, .sym 5]], .lit (.int .i64 0)),
  (19, [.agg [.sym 6, .sym 7, .sym 8, .sym 9, .sym 10, .sym 11]], .lit (.int .i64 0)),
  (71, [.agg [.sym 0, .sym 1, .sym 2], .agg [.sym 6, .sym 7, .sym 8]], .tup [.agg [.sym 12, .sym 13, .sym 14], .sym 15]),
  (71, [.agg [.sym 3, .sym 4, .sym 5], .agg [.sym 9, .sym 10, .sym 11]], .tup [.agg [.sym 16, .sym 17, .sym 18], .sym 19])]⟩
theorem GSub_c_r1 : @comes GSub_c_k1 Tryz.prog glT 3000 20 [.agg [.sym 0, .sym 1, .sym 2, .sym 3, .sym 4, .sym 5], .agg [.sym 6, .sym 7, .sym 8, .sym 9, .sym 10, .sym 11]] = some (.tup [.agg [.sym 12, .sym 13, .sym 14, .sym 16, .sym 17, .sym 18], .lit (.int .i64 0)]) := by kernel_rfl
@[reducible] noncomputable def GSub_c_k2 : Know := ⟨[([0, 12, 31], [.sym 15, .lit (.int .i64 0)], .lit (.bool false)),
  ([0, 12, 31], [.sym 19, .lit (.int .i64 0)], .lit (.bool true))],
  [(19, [.agg [.sym 0, .sym 1, .sym 2, .sym 3, .sym 4, .sym 5]], .lit (.int .i64 0)),
  (19, [.agg [.sym 6, .sym 7, .sym 8, .sym 9, .sym 10, .sym 11]], .lit (.int .i64 0)),
  (71, [.agg [.sym 0, .sym 1, .sym 2], .agg [.sym 6, .sym 7, .sym 8]], .tup [.agg [.sym 12, .sym 13, .sym 14], .sym 15]),
  (71, [.agg [.sym 3, .sym 4, .sym 5], .agg [.sym 9, .sym 10, .sym 11]], .tup [.agg [.sym 16, .sym 17, .sym 18], .sym 19])]⟩
theorem GSub_c_r2 : @comes GSub_c_k2 Tryz.prog glT 3000 20 [.agg [.sym 0, .sym 1, .sym 2, .sym 3, .sym 4, .sym 5], .agg [.sym 6, .sym 7, .sym 8, .sym 9, .sym 10, .sym 11]] = some (.tup [.lit (.agg #[.bool false, .string ⟨#[]⟩, .int .i64 0, .bool false, .string ⟨#[]⟩, .int .i64 0]), .sym 19]) := by kernel_rfl
@[reducible] noncomputable def GSub_c_k3 : Know := ⟨[([0, 12, 31], [.sym 15, .lit (.int .i64 0)], .lit (.bool true))],
  [(19, [.agg [.sym 0, .sym 1, .sym 2, .sym 3, .sym 4, .sym 5]], .lit (.int .i64 0)),
  (19, [.agg [.sym 6, .sym 7, .sym 8, .sym 9, .sym 10, .sym 11]], .lit (.int .i64 0)),
  (71, [.agg [.sym 0, .sym 1, .sym 2], .agg [.sym 6, .sym 7, .sym 8]], .tup [.agg [.sym 12, .sym 13, .sym 14], .sym 15])]⟩
theorem GSub_c_r3 : @comes GSub_c_k3 Tryz.prog glT 3000 20 [.agg [.sym 0, .sym 1, .sym 2, .sym 3, .sym 4, .sym 5], .agg [.sym 6, .sym 7, .sym 8, .sym 9, .sym 10, .sym 11]] = some (.tup [.lit (.agg #[.bool false, .string ⟨#[]⟩, .int .i64 0, .bool false, .string ⟨#[]⟩, .int .i64 0]), .sym 15]) := by kernel_rfl
set_option maxRecDepth 100000 in
theorem GSub_c (a b : Gs) (w : World) (ha : a.Ok) (hb : b.Ok) (hG : Globs glT w) : Calls Tryz.prog 20 #[.agg #[.bool a.re.g, .string (natS a.re.n), .int .i64 a.re.x, .bool a.im.g, .string (natS a.im.n), .int .i64 a.im.x], .agg #[.bool b.re.g, .string (natS b.re.n), .int .i64 b.re.x, .bool b.im.g, .string (natS b.im.n), .int .i64 b.im.x]] w fun e w' => e = .returned (.tuple #[(gaddD a (neG b)).v, .int .i64 (gaddE a (neG b))]) ∧ Below w.heap.size w w' := by
  by_cases h1 : addE a.re (negD b.re) = 0
  · by_cases h2 : addE a.im (negD b.im) = 0
    · letI : Env := mkEnv glT [.bool a.re.g, .string (natS a.re.n), .int .i64 a.re.x, .bool a.im.g, .string (natS a.im.n), .int .i64 a.im.x, .bool b.re.g, .string (natS b.re.n), .int .i64 b.re.x, .bool b.im.g, .string (natS b.im.n), .int .i64 b.im.x, .bool (addD a.re (negD b.re)).g, .string (natS (addD a.re (negD b.re)).n), .int .i64 (addD a.re (negD b.re)).x, .int .i64 (addE a.re (negD b.re)), .bool (addD a.im (negD b.im)).g, .string (natS (addD a.im (negD b.im)).n), .int .i64 (addD a.im (negD b.im)).x, .int .i64 (addE a.im (negD b.im))] rfl
      have hops : OpsT Tryz.prog (@Know.ops GSub_c_k1) := ⟨opt_neq_f rfl rfl h1, opt_neq_f rfl rfl h2, trivial⟩
      have hcalls : CallsT Tryz.prog (@Know.calls GSub_c_k1) := ⟨callt rfl rfl fun w hG => GCheck_gs a ha w hG, callt rfl rfl fun w hG => GCheck_gs b hb w hG, callt rfl rfl fun w hG => DSub_c a.re b.re w ha.1 hb.1 hG, callt rfl rfl fun w hG => DSub_c a.im b.im w ha.2 hb.2 hG, trivial⟩
      exact (@sym_ok _ GSub_c_k1 _ (@KnowOk.of _ GSub_c_k1 _ hops hcalls) (by kernel_rfl) _ _ _ _ GSub_c_r1 rfl rfl _ hG).mono fun e w' h => ⟨h.1.trans (show Ending.returned (.tuple #[.agg #[.bool (addD a.re (negD b.re)).g, .string (natS (addD a.re (negD b.re)).n), .int .i64 (addD a.re (negD b.re)).x, .bool (addD a.im (negD b.im)).g, .string (natS (addD a.im (negD b.im)).n), .int .i64 (addD a.im (negD b.im)).x], .int .i64 0]) = .returned (.tuple #[(gaddD a (neG b)).v, .int .i64 (gaddE a (neG b))]) from by rw [show gaddD a (neG b) = _ from erG_ok (l := gaddL a (neG b)) (show All0 (gaddL a (neG b)) from ⟨h1, h2, trivial⟩), show gaddE a (neG b) = 0 from erI_ok (l := gaddL a (neG b)) (show All0 (gaddL a (neG b)) from ⟨h1, h2, trivial⟩)]; rfl), h.2⟩
    · letI : Env := mkEnv glT [.bool a.re.g, .string (natS a.re.n), .int .i64 a.re.x, .bool a.im.g, .string (natS a.im.n), .int .i64 a.im.x, .bool b.re.g, .string (natS b.re.n), .int .i64 b.re.x, .bool b.im.g, .string (natS b.im.n), .int .i64 b.im.x, .bool (addD a.re (negD b.re)).g, .string (natS (addD a.re (negD b.re)).n), .int .i64 (addD a.re (negD b.re)).x, .int .i64 (addE a.re (negD b.re)), .bool (addD a.im (negD b.im)).g, .string (natS (addD a.im (negD b.im)).n), .int .i64 (addD a.im (negD b.im)).x, .int .i64 (addE a.im (negD b.im))] rfl
      have hops : OpsT Tryz.prog (@Know.ops GSub_c_k2) := ⟨opt_neq_f rfl rfl h1, opt_neq_t rfl rfl h2, trivial⟩
      have hcalls : CallsT Tryz.prog (@Know.calls GSub_c_k2) := ⟨callt rfl rfl fun w hG => GCheck_gs a ha w hG, callt rfl rfl fun w hG => GCheck_gs b hb w hG, callt rfl rfl fun w hG => DSub_c a.re b.re w ha.1 hb.1 hG, callt rfl rfl fun w hG => DSub_c a.im b.im w ha.2 hb.2 hG, trivial⟩
      exact (@sym_ok _ GSub_c_k2 _ (@KnowOk.of _ GSub_c_k2 _ hops hcalls) (by kernel_rfl) _ _ _ _ GSub_c_r2 rfl rfl _ hG).mono fun e w' h => ⟨h.1.trans (show Ending.returned (.tuple #[.agg #[.bool false, .string ⟨#[]⟩, .int .i64 0, .bool false, .string ⟨#[]⟩, .int .i64 0], .int .i64 (addE a.im (negD b.im))]) = .returned (.tuple #[(gaddD a (neG b)).v, .int .i64 (gaddE a (neG b))]) from by rw [show gaddD a (neG b) = _ from erG_no (l := gaddL a (neG b)) (show ¬ All0 (gaddL a (neG b)) from (fun c => h2 c.2.1)), show gaddE a (neG b) = 4 from erI_no (l := gaddL a (neG b)) (show ¬ All0 (gaddL a (neG b)) from (fun c => h2 c.2.1)), Gs.zero_v, addE4 h2]), h.2⟩
  · letI : Env := mkEnv glT [.bool a.re.g, .string (natS a.re.n), .int .i64 a.re.x, .bool a.im.g, .string (natS a.im.n), .int .i64 a.im.x, .bool b.re.g, .string (natS b.re.n), .int .i64 b.re.x, .bool b.im.g, .string (natS b.im.n), .int .i64 b.im.x, .bool (addD a.re (negD b.re)).g, .string (natS (addD a.re (negD b.re)).n), .int .i64 (addD a.re (negD b.re)).x, .int .i64 (addE a.re (negD b.re))] rfl
    have hops : OpsT Tryz.prog (@Know.ops GSub_c_k3) := ⟨opt_neq_t rfl rfl h1, trivial⟩
    have hcalls : CallsT Tryz.prog (@Know.calls GSub_c_k3) := ⟨callt rfl rfl fun w hG => GCheck_gs a ha w hG, callt rfl rfl fun w hG => GCheck_gs b hb w hG, callt rfl rfl fun w hG => DSub_c a.re b.re w ha.1 hb.1 hG, trivial⟩
    exact (@sym_ok _ GSub_c_k3 _ (@KnowOk.of _ GSub_c_k3 _ hops hcalls) (by kernel_rfl) _ _ _ _ GSub_c_r3 rfl rfl _ hG).mono fun e w' h => ⟨h.1.trans (show Ending.returned (.tuple #[.agg #[.bool false, .string ⟨#[]⟩, .int .i64 0, .bool false, .string ⟨#[]⟩, .int .i64 0], .int .i64 (addE a.re (negD b.re))]) = .returned (.tuple #[(gaddD a (neG b)).v, .int .i64 (gaddE a (neG b))]) from by rw [show gaddD a (neG b) = _ from erG_no (l := gaddL a (neG b)) (show ¬ All0 (gaddL a (neG b)) from (fun c => h1 c.1)), show gaddE a (neG b) = 4 from erI_no (l := gaddL a (neG b)) (show ¬ All0 (gaddL a (neG b)) from (fun c => h1 c.1)), Gs.zero_v, addE4 h1]), h.2⟩
end Go.Proofs.YtamcnnocjelcjaaGreatDoor
namespace Go.Proofs.YtamcnnocjelcjaaGreatDoor
open Go Go.RowKit Nt
open Classical in
@[irreducible] noncomputable def Dt.d (t : Dt) : Dy := if h : t.Ok then Classical.choose (Dt.dy h) else Dy.zero
noncomputable def Gt.s (a : Gt) : Gs := ⟨a.re.d, a.im.d⟩
end Go.Proofs.YtamcnnocjelcjaaGreatDoor
namespace Go.Proofs.YtamcnnocjelcjaaGreatDoor
open Go Go.RowKit Nt
theorem gaddE4 {a b : Gs} (h : ¬ gaddE a b = 0) : gaddE a b = 4 := by
  unfold gaddE at h ⊢
  by_cases c : All0 (gaddL a b)
  · exact absurd (erI_ok c) h
  · exact erI_no c
theorem slot_t (x : Dy) (n : Nat) (e : Int) (c : Nat) (w : World) (hx : x.Ok) (h1 : 1 ≤ n) (hn : n ≤ 65536) (he : -4096 ≤ e ∧ e ≤ 4096) (hl : -(n : Int) * hT e ≤ iv x) (hu : iv x ≤ (n : Int) * hT e) (hs : IsSlot (iv x) (hT e) n c) :
    Calls Tryz.prog 21 #[.agg #[.bool x.g, .string (natS x.n), .int .i64 x.x], .int .i64 (n : Nat), .int .i64 e] w fun r w' => r = .returned (.tuple #[.int .i64 (c : Nat), .bool true]) ∧ Below w.heap.size w w' :=
  slot_w x n e c true w hx h1 hn he (Or.inr (Or.inr ⟨hl, hu, hs, rfl⟩))
end Go.Proofs.YtamcnnocjelcjaaGreatDoor
namespace Go.Proofs.YtamcnnocjelcjaaGreatDoor
open Go Go.RowKit Nt
theorem hz_pw (y : Int) : hz 2 (y - 1) = pw y := by
  unfold hz
  exact (pw_two y).1
theorem cmpG_ge {a b : Dy} (ha : a.Ok) (hb : b.Ok) : cmpD a b ≥ 0 ↔ iv b ≤ iv a := by
  have := cmpV_lt ha hb
  omega
theorem slot_in {G T : Int} {n c : Nat} (hT : 0 < T) (hc : c < n) (h1 : (2 * (c : Int) - n) * T < G) (h2 : G < (2 * (c : Int) - n) * T + 2 * T) : IsSlot G T n c ∧ -(n : Int) * T ≤ G ∧ G ≤ (n : Int) * T := by
  have e : (2 * (c : Int) + 2 - n) * T = (2 * (c : Int) - n) * T + 2 * T := by rw [← Int.add_mul]; congr 1; omega
  refine ⟨⟨hc, ?_, fun j hj hu => ?_⟩, ?_, ?_⟩
  · unfold Upto; omega
  · unfold Upto at hu
    have : (2 * (j : Int) + 2 - n) * T ≤ (2 * (c : Int) - n) * T := Int.mul_le_mul_of_nonneg_right (by omega) (by omega)
    omega
  · have : -(n : Int) * T ≤ (2 * (c : Int) - n) * T := Int.mul_le_mul_of_nonneg_right (by omega) (by omega)
    omega
  · have : (2 * (c : Int) + 2 - n) * T ≤ (n : Int) * T := Int.mul_le_mul_of_nonneg_right (by omega) (by omega)
    omega
theorem cell_one {P T z s G : Int} (hT : 0 < T) (h1 : P + z * T < G) (h2 : G < P + z * T + 2 * T) (h3 : P + s * T ≤ G) (h4 : G ≤ P + s * T + 2 * T) : z - 2 < s ∧ s < z + 2 := by
  constructor
  · refine Int.not_le.1 fun h => ?_
    have : (s + 2) * T ≤ z * T := Int.mul_le_mul_of_nonneg_right (by omega) (by omega)
    rw [Int.add_mul] at this
    omega
  · refine Int.not_le.1 fun h => ?_
    have : (z + 2) * T ≤ s * T := Int.mul_le_mul_of_nonneg_right (by omega) (by omega)
    rw [Int.add_mul] at this
    omega
theorem Find_in (p q : Dy) (y : Int) (na nb c r : Nat) (g : Gs) (hp : p.Ok) (hq : q.Ok) (hy : -4096 ≤ y ∧ y ≤ 4096) (ha : 1 ≤ na ∧ na ≤ 65536) (hb : 1 ≤ nb ∧ nb ≤ 65536) (hg : g.Ok) (hc : c < na) (hr : r < nb)
    (x1 : iv p + ((2 * (c : Int)) - na) * hT y < iv g.re) (x2 : iv g.re < iv p + ((2 * (c : Int)) - na) * hT y + 2 * hT y) (y1 : iv q + (((nb : Int) - (2 * (r : Int))) - 2) * hT y < iv g.im) (y2 : iv g.im < iv q + (((nb : Int) - (2 * (r : Int))) - 2) * hT y + 2 * hT y) :
    ∃ m n k : Int, (∀ w, Globs glT w → Calls Tryz.prog 6 #[.agg #[.bool p.g, .string (natS p.n), .int .i64 p.x, .bool q.g, .string (natS q.n), .int .i64 q.x, .int .i64 y, .int .i64 (na : Int), .int .i64 (nb : Int)], .agg #[.bool g.re.g, .string (natS g.re.n), .int .i64 g.re.x, .bool g.im.g, .string (natS g.im.n), .int .i64 g.im.x]] w fun e w' => e = .returned (.tuple #[.int .i64 m, .int .i64 n, .int .i64 k]) ∧ Below w.heap.size w w') ∧ (k = 0 → m = c) ∧ (k = 0 → n = r) ∧ ¬ k = 241 := by
  have HS := fun w (hG : Globs glT w) => GSub_c g ⟨p, q⟩ w hg ⟨hp, hq⟩ hG
  have hd : (gaddD g (neG ⟨p, q⟩)).Ok := gaddD_Ok hg (neG_Ok ⟨hp, hq⟩)
  have ha' : 1 ≤ (na : Int) ∧ (na : Int) ≤ 65536 := by omega
  have hb' : 1 ≤ (nb : Int) ∧ (nb : Int) ≤ 65536 := by omega
  by_cases hk : gaddE g (neG ⟨p, q⟩) = 0
  · have h0 : All0 (gaddL g (neG ⟨p, q⟩)) := erI_zero.1 hk
    have er : addE g.re (negD p) = 0 := h0.1
    have ei : addE g.im (negD q) = 0 := h0.2.1
    have hre : iv (gaddD g (neG ⟨p, q⟩)).re = iv g.re - iv p := by
      unfold gaddD
      rw [erG_ok h0]
      show iv (addD g.re (negD p)) = _
      rw [iv_addz hg.1 (negD_Ok hp) er, iv_neg]
      omega
    have him : iv (gaddD g (neG ⟨p, q⟩)).im = iv g.im - iv q := by
      unfold gaddD
      rw [erG_ok h0]
      show iv (addD g.im (negD q)) = _
      rw [iv_addz hg.2 (negD_Ok hq) ei, iv_neg]
      omega
    rw [hk] at HS
    generalize gaddD g (neG ⟨p, q⟩) = d at *
    obtain ⟨hdr, hdi⟩ := hd
    have ht := negD_Ok hdi
    have HN := fun w (_ : Globs glT w) => DNeg_c d.im w hdi
    have ivt := iv_neg d.im
    generalize negD d.im = t at *
    have hT0 := hT_pos y
    obtain ⟨sx, lx, ux⟩ := slot_in (G := iv d.re) hT0 hc (by omega) (by omega)
    have en : ((2 * (r : Int)) - nb) * hT y = - ((((nb : Int) - (2 * (r : Int))) - 2) * hT y + 2 * hT y) := by
      rw [← Int.add_mul, ← Int.neg_mul]; congr 1; omega
    obtain ⟨sy, ly, uy⟩ := slot_in (G := iv t) (n := nb) (c := r) hT0 hr (by omega) (by omega)
    have HL := fun w (_ : Globs glT w) => slot_t d.re na y c w hdr ha.1 ha.2 hy lx ux sx
    have HT := fun w (_ : Globs glT w) => slot_t t nb y r w ht hb.1 hb.2 hy ly uy sy
    exact ⟨c, r, 0, fun w hG => VFind_yes p q y na nb g d t c r w hp hq hy ha' hb' hg HS HL HN HT hG, fun _ => rfl, fun _ => rfl, by omega⟩
  · refine ⟨0, 0, gaddE g (neG ⟨p, q⟩), fun w hG => VFind_sub p q y na nb g (gaddD g (neG ⟨p, q⟩)) (gaddE g (neG ⟨p, q⟩)) w hp hq hy ha' hb' hg HS hk hG, fun h => absurd h hk, fun h => absurd h hk, ?_⟩
    rw [gaddE4 hk]; omega
end Go.Proofs.YtamcnnocjelcjaaGreatDoor
