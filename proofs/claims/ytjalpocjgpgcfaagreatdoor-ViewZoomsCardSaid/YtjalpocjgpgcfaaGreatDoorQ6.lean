/- Texts put together: V5. -/
import Derived.Test.YtjalpocjgpgcfaaGreatDoorQ5
set_option linter.unusedVariables false
set_option linter.unusedSimpArgs false
namespace Go.Proofs.YtjalpocjgpgcfaaGreatDoor
open Go Go.RowKit Nt


@[reducible] def Zm_w_f : FuncId := 5
@[reducible] def Zm_w_a : List AV := [.agg [.sym 0, .sym 1, .sym 2, .sym 3, .sym 4, .sym 5, .sym 6, .sym 7, .sym 8], .sym 9, .sym 10, .sym 11, .sym 12, .sym 13, .sym 14]
@[reducible] noncomputable def Zm_w_k : Know := ⟨[],
  [(13, [], .lit (.bool true)),
  (47, [.agg [.sym 0, .sym 1, .sym 2, .sym 3, .sym 4, .sym 5, .sym 6, .sym 7, .sym 8]], .lit (.int .i64 240))]⟩
theorem Zm_w_r1 : @comes Zm_w_k Tryz.prog glT 3000 Zm_w_f Zm_w_a = some (.lit (.bool true)) := by kernel_rfl

set_option maxRecDepth 100000 in
set_option maxHeartbeats 4000000 in
theorem Zm_w (p q : Dt) (y a b c r s t u z : Int) (w : World) (zp : p.s.size ≤ 9223372036854775807) (zq : q.s.size ≤ 9223372036854775807) (hn : ¬ (p.Ok ∧ q.Ok ∧ y ≥ -4096 ∧ y ≤ 4096 ∧ a ≥ 1 ∧ a ≤ 65536 ∧ b ≥ 1 ∧ b ≤ 65536)) (hG : Globs glT w) : Calls Tryz.prog 5 #[.agg #[.bool p.g, .string p.s, .int .i64 p.x, .bool q.g, .string q.s, .int .i64 q.x, .int .i64 y, .int .i64 a, .int .i64 b], .int .i64 c, .int .i64 r, .int .i64 s, .int .i64 t, .int .i64 u, .int .i64 z] w fun e w' => e = .returned (.bool true) ∧ Below w.heap.size w w' := by
  letI : Env := mkEnv glT [.bool p.g, .string p.s, .int .i64 p.x, .bool q.g, .string q.s, .int .i64 q.x, .int .i64 y, .int .i64 a, .int .i64 b, .int .i64 c, .int .i64 r, .int .i64 s, .int .i64 t, .int .i64 u, .int .i64 z] rfl
  have hops : OpsT Tryz.prog (@Know.ops Zm_w_k) := trivial
  have hcalls : CallsT Tryz.prog (@Know.calls Zm_w_k) := ⟨callt rfl rfl fun w hG => awake24_c w hG,
    callt rfl rfl fun w hG => VCheck_no p q y a b w zp zq hn hG,
    trivial⟩
  have fin : ∀ v, @comes Zm_w_k Tryz.prog glT 3000 Zm_w_f Zm_w_a = some v → ground v = true → Ending.returned (gval v) = .returned (.bool true) → Calls Tryz.prog 5 #[.agg #[.bool p.g, .string p.s, .int .i64 p.x, .bool q.g, .string q.s, .int .i64 q.x, .int .i64 y, .int .i64 a, .int .i64 b], .int .i64 c, .int .i64 r, .int .i64 s, .int .i64 t, .int .i64 u, .int .i64 z] w fun e w' => e = .returned (.bool true) ∧ Below w.heap.size w w' := fun v h1 h2 h3 => (@sym_ok _ Zm_w_k _ (@KnowOk.of _ Zm_w_k _ hops hcalls) (by kernel_rfl) _ _ _ _ h1 rfl h2 _ hG).mono fun e w' h => ⟨h.1.trans h3, h.2⟩
  clear hops hcalls
  exact fin _ (Zm_w_r1) rfl rfl

@[reducible] def Zm_o_f : FuncId := 5
@[reducible] def Zm_o_a : List AV := [.agg [.sym 0, .sym 1, .sym 2, .sym 3, .sym 4, .sym 5, .sym 6, .sym 7, .sym 8], .sym 9, .sym 10, .sym 11, .sym 12, .sym 13, .sym 14]
@[reducible] noncomputable def Zm_o_k (b7 b8 b9 b10 b11 b14 b16 : Bool) : Know := ⟨[([0, 16, 3], [.sym 6, .lit (.int .i64 (-4096))], .lit (.bool true)),
  ([0, 14, 3], [.sym 6, .lit (.int .i64 4096)], .lit (.bool true)),
  ([0, 16, 3], [.sym 7, .lit (.int .i64 1)], .lit (.bool true)),
  ([0, 14, 3], [.sym 7, .lit (.int .i64 65536)], .lit (.bool true)),
  ([0, 16, 3], [.sym 8, .lit (.int .i64 1)], .lit (.bool true)),
  ([0, 14, 3], [.sym 8, .lit (.int .i64 65536)], .lit (.bool true)),
  ([0, 1, 3], [.sym 7, .lit (.int .i64 1)], .sym 15),
  ([0, 16, 3], [.sym 9, .lit (.int .i64 0)], .lit (.bool b7)),
  ([0, 14, 3], [.sym 9, .sym 15], .lit (.bool b8)),
  ([0, 1, 3], [.sym 8, .lit (.int .i64 1)], .sym 16),
  ([0, 16, 3], [.sym 10, .lit (.int .i64 0)], .lit (.bool b9)),
  ([0, 14, 3], [.sym 10, .sym 16], .lit (.bool b10)),
  ([0, 1, 3], [.sym 6, .lit (.int .i64 1)], .sym 17),
  ([0, 8, 3], [.sym 7, .lit (.int .i64 1)], .sym 18),
  ([0, 8, 3], [.sym 8, .lit (.int .i64 1)], .sym 19),
  ([0, 16, 3], [.sym 17, .lit (.int .i64 (-4096))], .lit (.bool b11)),
  ([0, 14, 3], [.sym 17, .lit (.int .i64 4096)], .lit (.bool true)),
  ([0, 16, 3], [.sym 18, .lit (.int .i64 1)], .lit (.bool true)),
  ([0, 14, 3], [.sym 18, .lit (.int .i64 65536)], .lit (.bool b14)),
  ([0, 16, 3], [.sym 19, .lit (.int .i64 1)], .lit (.bool true)),
  ([0, 14, 3], [.sym 19, .lit (.int .i64 65536)], .lit (.bool b16))],
  [(13, [], .lit (.bool true)),
  (25, [.agg [.sym 0, .sym 1, .sym 2, .sym 3, .sym 4, .sym 5]], .lit (.int .i64 0))]⟩
theorem Zm_o_r1 : @comes (Zm_o_k true true true false true true true) Tryz.prog glT 3000 Zm_o_f Zm_o_a = some (.lit (.bool true)) := by kernel_rfl
theorem Zm_o_r2 : @comes (Zm_o_k true true true false true true false) Tryz.prog glT 3000 Zm_o_f Zm_o_a = some (.lit (.bool true)) := by kernel_rfl
theorem Zm_o_r3 (b16 : Bool) : @comes (Zm_o_k true true true false true false b16) Tryz.prog glT 3000 Zm_o_f Zm_o_a = some (.lit (.bool true)) := by kernel_rfl
theorem Zm_o_r4 (b14 b16 : Bool) : @comes (Zm_o_k true true true false false b14 b16) Tryz.prog glT 3000 Zm_o_f Zm_o_a = some (.lit (.bool true)) := by kernel_rfl
theorem Zm_o_r5 (b10 : Bool) : @comes (Zm_o_k true true false b10 true true true) Tryz.prog glT 3000 Zm_o_f Zm_o_a = some (.lit (.bool true)) := by kernel_rfl
theorem Zm_o_r6 (b10 : Bool) : @comes (Zm_o_k true true false b10 true true false) Tryz.prog glT 3000 Zm_o_f Zm_o_a = some (.lit (.bool true)) := by kernel_rfl
theorem Zm_o_r7 (b10 b16 : Bool) : @comes (Zm_o_k true true false b10 true false b16) Tryz.prog glT 3000 Zm_o_f Zm_o_a = some (.lit (.bool true)) := by kernel_rfl
theorem Zm_o_r8 (b10 b14 b16 : Bool) : @comes (Zm_o_k true true false b10 false b14 b16) Tryz.prog glT 3000 Zm_o_f Zm_o_a = some (.lit (.bool true)) := by kernel_rfl
theorem Zm_o_r9 (b9 b10 : Bool) : @comes (Zm_o_k true false b9 b10 true true true) Tryz.prog glT 3000 Zm_o_f Zm_o_a = some (.lit (.bool true)) := by kernel_rfl
theorem Zm_o_r10 (b9 b10 : Bool) : @comes (Zm_o_k true false b9 b10 true true false) Tryz.prog glT 3000 Zm_o_f Zm_o_a = some (.lit (.bool true)) := by kernel_rfl
theorem Zm_o_r11 (b9 b10 b16 : Bool) : @comes (Zm_o_k true false b9 b10 true false b16) Tryz.prog glT 3000 Zm_o_f Zm_o_a = some (.lit (.bool true)) := by kernel_rfl
theorem Zm_o_r12 (b9 b10 b14 b16 : Bool) : @comes (Zm_o_k true false b9 b10 false b14 b16) Tryz.prog glT 3000 Zm_o_f Zm_o_a = some (.lit (.bool true)) := by kernel_rfl
theorem Zm_o_r13 (b8 b9 b10 : Bool) : @comes (Zm_o_k false b8 b9 b10 true true true) Tryz.prog glT 3000 Zm_o_f Zm_o_a = some (.lit (.bool true)) := by kernel_rfl
theorem Zm_o_r14 (b8 b9 b10 : Bool) : @comes (Zm_o_k false b8 b9 b10 true true false) Tryz.prog glT 3000 Zm_o_f Zm_o_a = some (.lit (.bool true)) := by kernel_rfl
theorem Zm_o_r15 (b8 b9 b10 b16 : Bool) : @comes (Zm_o_k false b8 b9 b10 true false b16) Tryz.prog glT 3000 Zm_o_f Zm_o_a = some (.lit (.bool true)) := by kernel_rfl
theorem Zm_o_r16 (b8 b9 b10 b14 b16 : Bool) : @comes (Zm_o_k false b8 b9 b10 false b14 b16) Tryz.prog glT 3000 Zm_o_f Zm_o_a = some (.lit (.bool true)) := by kernel_rfl

set_option maxRecDepth 100000 in
set_option maxHeartbeats 4000000 in
theorem Zm_o (p q : Dy) (y a b c r s t u z : Int) (w : World) (hp : p.Ok) (hq : q.Ok) (e1 : -4096 ≤ y) (e2 : y ≤ 4096) (a1 : 1 ≤ a) (a2 : a ≤ 65536) (b1 : 1 ≤ b) (b2 : b ≤ 65536) (hn : ¬ (c ≥ 0 ∧ c ≤ a - 1 ∧ r ≥ 0 ∧ r ≤ b - 1)) (hG : Globs glT w) : Calls Tryz.prog 5 #[.agg #[.bool p.g, .string (natS p.n), .int .i64 p.x, .bool q.g, .string (natS q.n), .int .i64 q.x, .int .i64 y, .int .i64 a, .int .i64 b], .int .i64 c, .int .i64 r, .int .i64 s, .int .i64 t, .int .i64 u, .int .i64 z] w fun e w' => e = .returned (.bool true) ∧ Below w.heap.size w w' := by
  have h1 : y ≥ -4096 := (by omega)
  have i1 : true = true ↔ (y ≥ -4096) := ⟨fun _ => h1, fun _ => rfl⟩
  have h2 : y ≤ 4096 := (by omega)
  have i2 : true = true ↔ (y ≤ 4096) := ⟨fun _ => h2, fun _ => rfl⟩
  have h3 : a ≥ 1 := (by omega)
  have i3 : true = true ↔ (a ≥ 1) := ⟨fun _ => h3, fun _ => rfl⟩
  have h4 : a ≤ 65536 := (by omega)
  have i4 : true = true ↔ (a ≤ 65536) := ⟨fun _ => h4, fun _ => rfl⟩
  have h5 : b ≥ 1 := (by omega)
  have i5 : true = true ↔ (b ≥ 1) := ⟨fun _ => h5, fun _ => rfl⟩
  have h6 : b ≤ 65536 := (by omega)
  have i6 : true = true ↔ (b ≤ 65536) := ⟨fun _ => h6, fun _ => rfl⟩
  obtain ⟨b7, i7⟩ := bex (c ≥ 0)
  obtain ⟨b8, i8⟩ := bex (c ≤ a - 1)
  obtain ⟨b9, i9⟩ := bex (r ≥ 0)
  obtain ⟨b10, i10⟩ := bex (r ≤ b - 1)
  obtain ⟨b11, i11⟩ := bex (y - 1 ≥ -4096)
  have h12 : y - 1 ≤ 4096 := (by omega)
  have i12 : true = true ↔ (y - 1 ≤ 4096) := ⟨fun _ => h12, fun _ => rfl⟩
  have h13 : 2 * a ≥ 1 := (by omega)
  have i13 : true = true ↔ (2 * a ≥ 1) := ⟨fun _ => h13, fun _ => rfl⟩
  obtain ⟨b14, i14⟩ := bex (2 * a ≤ 65536)
  have h15 : 2 * b ≥ 1 := (by omega)
  have i15 : true = true ↔ (2 * b ≥ 1) := ⟨fun _ => h15, fun _ => rfl⟩
  obtain ⟨b16, i16⟩ := bex (2 * b ≤ 65536)
  letI : Env := mkEnv glT [.bool p.g, .string (natS p.n), .int .i64 p.x, .bool q.g, .string (natS q.n), .int .i64 q.x, .int .i64 y, .int .i64 a, .int .i64 b, .int .i64 c, .int .i64 r, .int .i64 s, .int .i64 t, .int .i64 u, .int .i64 z, .int .i64 (a - 1), .int .i64 (b - 1), .int .i64 (y - 1), .int .i64 (2 * a), .int .i64 (2 * b)] rfl
  have hops : OpsT Tryz.prog (@Know.ops (Zm_o_k b7 b8 b9 b10 b11 b14 b16)) := ⟨opt_geq_i rfl rfl i1,
    opt_leq_i rfl rfl i2,
    opt_geq_i rfl rfl i3,
    opt_leq_i rfl rfl i4,
    opt_geq_i rfl rfl i5,
    opt_leq_i rfl rfl i6,
    vopt_sub rfl rfl rfl rfl (by omega) ⟨by omega, by omega⟩,
    opt_geq_i rfl rfl i7,
    opt_leq_i rfl rfl i8,
    vopt_sub rfl rfl rfl rfl (by omega) ⟨by omega, by omega⟩,
    opt_geq_i rfl rfl i9,
    opt_leq_i rfl rfl i10,
    vopt_sub rfl rfl rfl rfl (by omega) ⟨by omega, by omega⟩,
    vopt_shl rfl rfl rfl rfl (by omega) ⟨by omega, by omega⟩,
    vopt_shl rfl rfl rfl rfl (by omega) ⟨by omega, by omega⟩,
    opt_geq_i rfl rfl i11,
    opt_leq_i rfl rfl i12,
    opt_geq_i rfl rfl i13,
    opt_leq_i rfl rfl i14,
    opt_geq_i rfl rfl i15,
    opt_leq_i rfl rfl i16,
    trivial⟩
  have hcalls : CallsT Tryz.prog (@Know.calls (Zm_o_k b7 b8 b9 b10 b11 b14 b16)) := ⟨callt rfl rfl fun w hG => awake24_c w hG,
    callt rfl rfl fun w hG => GCheck_gs ⟨p, q⟩ ⟨hp, hq⟩ w hG,
    trivial⟩
  have fin : ∀ v, @comes (Zm_o_k b7 b8 b9 b10 b11 b14 b16) Tryz.prog glT 3000 Zm_o_f Zm_o_a = some v → ground v = true → Ending.returned (gval v) = .returned (.bool true) → Calls Tryz.prog 5 #[.agg #[.bool p.g, .string (natS p.n), .int .i64 p.x, .bool q.g, .string (natS q.n), .int .i64 q.x, .int .i64 y, .int .i64 a, .int .i64 b], .int .i64 c, .int .i64 r, .int .i64 s, .int .i64 t, .int .i64 u, .int .i64 z] w fun e w' => e = .returned (.bool true) ∧ Below w.heap.size w w' := fun v h1 h2 h3 => (@sym_ok _ (Zm_o_k b7 b8 b9 b10 b11 b14 b16) _ (@KnowOk.of _ (Zm_o_k b7 b8 b9 b10 b11 b14 b16) _ hops hcalls) (by kernel_rfl) _ _ _ _ h1 rfl h2 _ hG).mono fun e w' h => ⟨h.1.trans h3, h.2⟩
  clear hops hcalls
  cases b7 with
  | true =>
    have h7 : c ≥ 0 := i7.1 rfl
    cases b8 with
    | true =>
      have h8 : c ≤ a - 1 := i8.1 rfl
      cases b9 with
      | true =>
        have h9 : r ≥ 0 := i9.1 rfl
        cases b10 with
        | true =>
          exact absurd (i10.1 rfl) (fun c => hn ⟨h7, h8, h9, c⟩)
        | false =>
          have h10 : ¬ (r ≤ b - 1) := fun c => Bool.false_ne_true (i10.2 c)
          cases b11 with
          | true =>
            have h11 : y - 1 ≥ -4096 := i11.1 rfl
            cases b14 with
            | true =>
              have h14 : 2 * a ≤ 65536 := i14.1 rfl
              cases b16 with
              | true =>
                have h16 : 2 * b ≤ 65536 := i16.1 rfl
                exact fin _ (Zm_o_r1) rfl rfl
              | false =>
                have h16 : ¬ (2 * b ≤ 65536) := fun c => Bool.false_ne_true (i16.2 c)
                exact fin _ (Zm_o_r2) rfl rfl
            | false =>
              have h14 : ¬ (2 * a ≤ 65536) := fun c => Bool.false_ne_true (i14.2 c)
              exact fin _ (Zm_o_r3 b16) rfl rfl
          | false =>
            have h11 : ¬ (y - 1 ≥ -4096) := fun c => Bool.false_ne_true (i11.2 c)
            exact fin _ (Zm_o_r4 b14 b16) rfl rfl
      | false =>
        have h9 : ¬ (r ≥ 0) := fun c => Bool.false_ne_true (i9.2 c)
        cases b11 with
        | true =>
          have h11 : y - 1 ≥ -4096 := i11.1 rfl
          cases b14 with
          | true =>
            have h14 : 2 * a ≤ 65536 := i14.1 rfl
            cases b16 with
            | true =>
              have h16 : 2 * b ≤ 65536 := i16.1 rfl
              exact fin _ (Zm_o_r5 b10) rfl rfl
            | false =>
              have h16 : ¬ (2 * b ≤ 65536) := fun c => Bool.false_ne_true (i16.2 c)
              exact fin _ (Zm_o_r6 b10) rfl rfl
          | false =>
            have h14 : ¬ (2 * a ≤ 65536) := fun c => Bool.false_ne_true (i14.2 c)
            exact fin _ (Zm_o_r7 b10 b16) rfl rfl
        | false =>
          have h11 : ¬ (y - 1 ≥ -4096) := fun c => Bool.false_ne_true (i11.2 c)
          exact fin _ (Zm_o_r8 b10 b14 b16) rfl rfl
    | false =>
      have h8 : ¬ (c ≤ a - 1) := fun c => Bool.false_ne_true (i8.2 c)
      cases b11 with
      | true =>
        have h11 : y - 1 ≥ -4096 := i11.1 rfl
        cases b14 with
        | true =>
          have h14 : 2 * a ≤ 65536 := i14.1 rfl
          cases b16 with
          | true =>
            have h16 : 2 * b ≤ 65536 := i16.1 rfl
            exact fin _ (Zm_o_r9 b9 b10) rfl rfl
          | false =>
            have h16 : ¬ (2 * b ≤ 65536) := fun c => Bool.false_ne_true (i16.2 c)
            exact fin _ (Zm_o_r10 b9 b10) rfl rfl
        | false =>
          have h14 : ¬ (2 * a ≤ 65536) := fun c => Bool.false_ne_true (i14.2 c)
          exact fin _ (Zm_o_r11 b9 b10 b16) rfl rfl
      | false =>
        have h11 : ¬ (y - 1 ≥ -4096) := fun c => Bool.false_ne_true (i11.2 c)
        exact fin _ (Zm_o_r12 b9 b10 b14 b16) rfl rfl
  | false =>
    have h7 : ¬ (c ≥ 0) := fun c => Bool.false_ne_true (i7.2 c)
    cases b11 with
    | true =>
      have h11 : y - 1 ≥ -4096 := i11.1 rfl
      cases b14 with
      | true =>
        have h14 : 2 * a ≤ 65536 := i14.1 rfl
        cases b16 with
        | true =>
          have h16 : 2 * b ≤ 65536 := i16.1 rfl
          exact fin _ (Zm_o_r13 b8 b9 b10) rfl rfl
        | false =>
          have h16 : ¬ (2 * b ≤ 65536) := fun c => Bool.false_ne_true (i16.2 c)
          exact fin _ (Zm_o_r14 b8 b9 b10) rfl rfl
      | false =>
        have h14 : ¬ (2 * a ≤ 65536) := fun c => Bool.false_ne_true (i14.2 c)
        exact fin _ (Zm_o_r15 b8 b9 b10 b16) rfl rfl
    | false =>
      have h11 : ¬ (y - 1 ≥ -4096) := fun c => Bool.false_ne_true (i11.2 c)
      exact fin _ (Zm_o_r16 b8 b9 b10 b14 b16) rfl rfl

@[reducible] def Zm_C0N_f : FuncId := 5
@[reducible] def Zm_C0N_a : List AV := [.agg [.sym 0, .sym 1, .sym 2, .sym 3, .sym 4, .sym 5, .sym 6, .sym 7, .sym 8], .sym 9, .sym 10, .sym 11, .sym 12, .sym 13, .sym 14]
@[reducible] noncomputable def Zm_C0N_k (b11 b12 b15 b17 b18 b19 b20 b21 b22 : Bool) : Know := ⟨[([0, 16, 3], [.sym 6, .lit (.int .i64 (-4096))], .lit (.bool true)),
  ([0, 14, 3], [.sym 6, .lit (.int .i64 4096)], .lit (.bool true)),
  ([0, 16, 3], [.sym 7, .lit (.int .i64 1)], .lit (.bool true)),
  ([0, 14, 3], [.sym 7, .lit (.int .i64 65536)], .lit (.bool true)),
  ([0, 16, 3], [.sym 8, .lit (.int .i64 1)], .lit (.bool true)),
  ([0, 14, 3], [.sym 8, .lit (.int .i64 65536)], .lit (.bool true)),
  ([0, 1, 3], [.sym 7, .lit (.int .i64 1)], .sym 15),
  ([0, 16, 3], [.sym 9, .lit (.int .i64 0)], .lit (.bool true)),
  ([0, 14, 3], [.sym 9, .sym 15], .lit (.bool true)),
  ([0, 1, 3], [.sym 8, .lit (.int .i64 1)], .sym 16),
  ([0, 16, 3], [.sym 10, .lit (.int .i64 0)], .lit (.bool true)),
  ([0, 14, 3], [.sym 10, .sym 16], .lit (.bool true)),
  ([0, 2, 3], [.lit (.int .i64 2), .sym 9], .sym 17),
  ([0, 1, 3], [.sym 17, .sym 7], .sym 18),
  ([0, 2, 3], [.lit (.int .i64 2), .sym 10], .sym 26),
  ([0, 1, 3], [.sym 8, .sym 26], .sym 27),
  ([0, 1, 3], [.sym 27, .lit (.int .i64 2)], .sym 28),
  ([0, 12, 30], [.sym 25, .lit (.int .i64 0)], .lit (.bool (!b11))),
  ([0, 1, 3], [.sym 6, .lit (.int .i64 1)], .sym 36),
  ([0, 8, 3], [.sym 7, .lit (.int .i64 1)], .sym 37),
  ([0, 8, 3], [.sym 8, .lit (.int .i64 1)], .sym 38),
  ([0, 16, 3], [.sym 36, .lit (.int .i64 (-4096))], .lit (.bool b12)),
  ([0, 14, 3], [.sym 36, .lit (.int .i64 4096)], .lit (.bool true)),
  ([0, 16, 3], [.sym 37, .lit (.int .i64 1)], .lit (.bool true)),
  ([0, 14, 3], [.sym 37, .lit (.int .i64 65536)], .lit (.bool b15)),
  ([0, 16, 3], [.sym 38, .lit (.int .i64 1)], .lit (.bool true)),
  ([0, 14, 3], [.sym 38, .lit (.int .i64 65536)], .lit (.bool b17)),
  ([0, 1, 3], [.sym 7, .sym 9], .sym 39),
  ([0, 16, 3], [.sym 11, .lit (.int .i64 1)], .lit (.bool b18)),
  ([0, 14, 3], [.sym 11, .sym 39], .lit (.bool b19)),
  ([0, 1, 3], [.sym 8, .sym 10], .sym 40),
  ([0, 16, 3], [.sym 12, .lit (.int .i64 1)], .lit (.bool b20)),
  ([0, 14, 3], [.sym 12, .sym 40], .lit (.bool b21)),
  ([0, 12, 30], [.sym 35, .lit (.int .i64 0)], .lit (.bool (!b22)))],
  [(13, [], .lit (.bool true)),
  (25, [.agg [.sym 0, .sym 1, .sym 2, .sym 3, .sym 4, .sym 5]], .lit (.int .i64 0)),
  (50, [.sym 18, .sym 6], .agg [.sym 19, .sym 20, .sym 21]),
  (20, [.agg [.sym 0, .sym 1, .sym 2], .agg [.sym 19, .sym 20, .sym 21]], .tup [.agg [.sym 22, .sym 23, .sym 24], .sym 25]),
  (50, [.sym 28, .sym 6], .agg [.sym 29, .sym 30, .sym 31]),
  (20, [.agg [.sym 3, .sym 4, .sym 5], .agg [.sym 29, .sym 30, .sym 31]], .tup [.agg [.sym 32, .sym 33, .sym 34], .sym 35])]⟩
theorem Zm_C0N_r1 : @comes (Zm_C0N_k true true true true true true true false false) Tryz.prog glT 3000 Zm_C0N_f Zm_C0N_a = some (.lit (.bool true)) := by kernel_rfl
theorem Zm_C0N_r2 (b21 : Bool) : @comes (Zm_C0N_k true true true true true true false b21 false) Tryz.prog glT 3000 Zm_C0N_f Zm_C0N_a = some (.lit (.bool true)) := by kernel_rfl
theorem Zm_C0N_r3 (b20 b21 : Bool) : @comes (Zm_C0N_k true true true true true false b20 b21 false) Tryz.prog glT 3000 Zm_C0N_f Zm_C0N_a = some (.lit (.bool true)) := by kernel_rfl
theorem Zm_C0N_r4 (b19 b20 b21 : Bool) : @comes (Zm_C0N_k true true true true false b19 b20 b21 false) Tryz.prog glT 3000 Zm_C0N_f Zm_C0N_a = some (.lit (.bool true)) := by kernel_rfl
theorem Zm_C0N_r5 : @comes (Zm_C0N_k true true true false true true true false false) Tryz.prog glT 3000 Zm_C0N_f Zm_C0N_a = some (.lit (.bool true)) := by kernel_rfl
theorem Zm_C0N_r6 (b21 : Bool) : @comes (Zm_C0N_k true true true false true true false b21 false) Tryz.prog glT 3000 Zm_C0N_f Zm_C0N_a = some (.lit (.bool true)) := by kernel_rfl
theorem Zm_C0N_r7 (b20 b21 : Bool) : @comes (Zm_C0N_k true true true false true false b20 b21 false) Tryz.prog glT 3000 Zm_C0N_f Zm_C0N_a = some (.lit (.bool true)) := by kernel_rfl
theorem Zm_C0N_r8 (b19 b20 b21 : Bool) : @comes (Zm_C0N_k true true true false false b19 b20 b21 false) Tryz.prog glT 3000 Zm_C0N_f Zm_C0N_a = some (.lit (.bool true)) := by kernel_rfl
theorem Zm_C0N_r9 (b17 : Bool) : @comes (Zm_C0N_k true true false b17 true true true false false) Tryz.prog glT 3000 Zm_C0N_f Zm_C0N_a = some (.lit (.bool true)) := by kernel_rfl
theorem Zm_C0N_r10 (b17 b21 : Bool) : @comes (Zm_C0N_k true true false b17 true true false b21 false) Tryz.prog glT 3000 Zm_C0N_f Zm_C0N_a = some (.lit (.bool true)) := by kernel_rfl
theorem Zm_C0N_r11 (b17 b20 b21 : Bool) : @comes (Zm_C0N_k true true false b17 true false b20 b21 false) Tryz.prog glT 3000 Zm_C0N_f Zm_C0N_a = some (.lit (.bool true)) := by kernel_rfl
theorem Zm_C0N_r12 (b17 b19 b20 b21 : Bool) : @comes (Zm_C0N_k true true false b17 false b19 b20 b21 false) Tryz.prog glT 3000 Zm_C0N_f Zm_C0N_a = some (.lit (.bool true)) := by kernel_rfl
theorem Zm_C0N_r13 (b15 b17 : Bool) : @comes (Zm_C0N_k true false b15 b17 true true true false false) Tryz.prog glT 3000 Zm_C0N_f Zm_C0N_a = some (.lit (.bool true)) := by kernel_rfl
theorem Zm_C0N_r14 (b15 b17 b21 : Bool) : @comes (Zm_C0N_k true false b15 b17 true true false b21 false) Tryz.prog glT 3000 Zm_C0N_f Zm_C0N_a = some (.lit (.bool true)) := by kernel_rfl
theorem Zm_C0N_r15 (b15 b17 b20 b21 : Bool) : @comes (Zm_C0N_k true false b15 b17 true false b20 b21 false) Tryz.prog glT 3000 Zm_C0N_f Zm_C0N_a = some (.lit (.bool true)) := by kernel_rfl
theorem Zm_C0N_r16 (b15 b17 b19 b20 b21 : Bool) : @comes (Zm_C0N_k true false b15 b17 false b19 b20 b21 false) Tryz.prog glT 3000 Zm_C0N_f Zm_C0N_a = some (.lit (.bool true)) := by kernel_rfl
theorem Zm_C0N_r17 (b22 : Bool) : @comes (Zm_C0N_k false true true true true true true false b22) Tryz.prog glT 3000 Zm_C0N_f Zm_C0N_a = some (.lit (.bool true)) := by kernel_rfl
theorem Zm_C0N_r18 (b21 b22 : Bool) : @comes (Zm_C0N_k false true true true true true false b21 b22) Tryz.prog glT 3000 Zm_C0N_f Zm_C0N_a = some (.lit (.bool true)) := by kernel_rfl
theorem Zm_C0N_r19 (b20 b21 b22 : Bool) : @comes (Zm_C0N_k false true true true true false b20 b21 b22) Tryz.prog glT 3000 Zm_C0N_f Zm_C0N_a = some (.lit (.bool true)) := by kernel_rfl
theorem Zm_C0N_r20 (b19 b20 b21 b22 : Bool) : @comes (Zm_C0N_k false true true true false b19 b20 b21 b22) Tryz.prog glT 3000 Zm_C0N_f Zm_C0N_a = some (.lit (.bool true)) := by kernel_rfl
theorem Zm_C0N_r21 (b22 : Bool) : @comes (Zm_C0N_k false true true false true true true false b22) Tryz.prog glT 3000 Zm_C0N_f Zm_C0N_a = some (.lit (.bool true)) := by kernel_rfl
theorem Zm_C0N_r22 (b21 b22 : Bool) : @comes (Zm_C0N_k false true true false true true false b21 b22) Tryz.prog glT 3000 Zm_C0N_f Zm_C0N_a = some (.lit (.bool true)) := by kernel_rfl
theorem Zm_C0N_r23 (b20 b21 b22 : Bool) : @comes (Zm_C0N_k false true true false true false b20 b21 b22) Tryz.prog glT 3000 Zm_C0N_f Zm_C0N_a = some (.lit (.bool true)) := by kernel_rfl
theorem Zm_C0N_r24 (b19 b20 b21 b22 : Bool) : @comes (Zm_C0N_k false true true false false b19 b20 b21 b22) Tryz.prog glT 3000 Zm_C0N_f Zm_C0N_a = some (.lit (.bool true)) := by kernel_rfl
theorem Zm_C0N_r25 (b17 b22 : Bool) : @comes (Zm_C0N_k false true false b17 true true true false b22) Tryz.prog glT 3000 Zm_C0N_f Zm_C0N_a = some (.lit (.bool true)) := by kernel_rfl
theorem Zm_C0N_r26 (b17 b21 b22 : Bool) : @comes (Zm_C0N_k false true false b17 true true false b21 b22) Tryz.prog glT 3000 Zm_C0N_f Zm_C0N_a = some (.lit (.bool true)) := by kernel_rfl
theorem Zm_C0N_r27 (b17 b20 b21 b22 : Bool) : @comes (Zm_C0N_k false true false b17 true false b20 b21 b22) Tryz.prog glT 3000 Zm_C0N_f Zm_C0N_a = some (.lit (.bool true)) := by kernel_rfl
theorem Zm_C0N_r28 (b17 b19 b20 b21 b22 : Bool) : @comes (Zm_C0N_k false true false b17 false b19 b20 b21 b22) Tryz.prog glT 3000 Zm_C0N_f Zm_C0N_a = some (.lit (.bool true)) := by kernel_rfl
theorem Zm_C0N_r29 (b15 b17 b22 : Bool) : @comes (Zm_C0N_k false false b15 b17 true true true false b22) Tryz.prog glT 3000 Zm_C0N_f Zm_C0N_a = some (.lit (.bool true)) := by kernel_rfl
theorem Zm_C0N_r30 (b15 b17 b21 b22 : Bool) : @comes (Zm_C0N_k false false b15 b17 true true false b21 b22) Tryz.prog glT 3000 Zm_C0N_f Zm_C0N_a = some (.lit (.bool true)) := by kernel_rfl
theorem Zm_C0N_r31 (b15 b17 b20 b21 b22 : Bool) : @comes (Zm_C0N_k false false b15 b17 true false b20 b21 b22) Tryz.prog glT 3000 Zm_C0N_f Zm_C0N_a = some (.lit (.bool true)) := by kernel_rfl
theorem Zm_C0N_r32 (b15 b17 b19 b20 b21 b22 : Bool) : @comes (Zm_C0N_k false false b15 b17 false b19 b20 b21 b22) Tryz.prog glT 3000 Zm_C0N_f Zm_C0N_a = some (.lit (.bool true)) := by kernel_rfl

set_option maxRecDepth 100000 in
set_option maxHeartbeats 4000000 in
theorem Zm_C0N (p q : Dy) (y a b c r s t u z : Int) (w : World) (hp : p.Ok) (hq : q.Ok) (e1 : -4096 ≤ y) (e2 : y ≤ 4096) (a1 : 1 ≤ a) (a2 : a ≤ 65536) (b1 : 1 ≤ b) (b2 : b ≤ 65536) (c1 : 0 ≤ c) (c2 : c ≤ a - 1) (r1 : 0 ≤ r) (r2 : r ≤ b - 1) (hn1 : ¬ (addE p (hz ((2 * c) - a) (y - 1)) = 0 ∧ addE q (hz ((b - (2 * r)) - 2) (y - 1)) = 0)) (hn2 : ¬ (s ≥ 1 ∧ s ≤ a - c ∧ t ≥ 1 ∧ t ≤ b - r)) (hG : Globs glT w) : Calls Tryz.prog 5 #[.agg #[.bool p.g, .string (natS p.n), .int .i64 p.x, .bool q.g, .string (natS q.n), .int .i64 q.x, .int .i64 y, .int .i64 a, .int .i64 b], .int .i64 c, .int .i64 r, .int .i64 s, .int .i64 t, .int .i64 u, .int .i64 z] w fun e w' => e = .returned (.bool true) ∧ Below w.heap.size w w' := by
  have h1 : y ≥ -4096 := (by omega)
  have i1 : true = true ↔ (y ≥ -4096) := ⟨fun _ => h1, fun _ => rfl⟩
  have h2 : y ≤ 4096 := (by omega)
  have i2 : true = true ↔ (y ≤ 4096) := ⟨fun _ => h2, fun _ => rfl⟩
  have h3 : a ≥ 1 := (by omega)
  have i3 : true = true ↔ (a ≥ 1) := ⟨fun _ => h3, fun _ => rfl⟩
  have h4 : a ≤ 65536 := (by omega)
  have i4 : true = true ↔ (a ≤ 65536) := ⟨fun _ => h4, fun _ => rfl⟩
  have h5 : b ≥ 1 := (by omega)
  have i5 : true = true ↔ (b ≥ 1) := ⟨fun _ => h5, fun _ => rfl⟩
  have h6 : b ≤ 65536 := (by omega)
  have i6 : true = true ↔ (b ≤ 65536) := ⟨fun _ => h6, fun _ => rfl⟩
  have h7 : c ≥ 0 := (by omega)
  have i7 : true = true ↔ (c ≥ 0) := ⟨fun _ => h7, fun _ => rfl⟩
  have h8 : c ≤ a - 1 := (by omega)
  have i8 : true = true ↔ (c ≤ a - 1) := ⟨fun _ => h8, fun _ => rfl⟩
  have h9 : r ≥ 0 := (by omega)
  have i9 : true = true ↔ (r ≥ 0) := ⟨fun _ => h9, fun _ => rfl⟩
  have h10 : r ≤ b - 1 := (by omega)
  have i10 : true = true ↔ (r ≤ b - 1) := ⟨fun _ => h10, fun _ => rfl⟩
  obtain ⟨b11, i11⟩ := bex (addE p (hz ((2 * c) - a) (y - 1)) = 0)
  obtain ⟨b12, i12⟩ := bex (y - 1 ≥ -4096)
  have h13 : y - 1 ≤ 4096 := (by omega)
  have i13 : true = true ↔ (y - 1 ≤ 4096) := ⟨fun _ => h13, fun _ => rfl⟩
  have h14 : 2 * a ≥ 1 := (by omega)
  have i14 : true = true ↔ (2 * a ≥ 1) := ⟨fun _ => h14, fun _ => rfl⟩
  obtain ⟨b15, i15⟩ := bex (2 * a ≤ 65536)
  have h16 : 2 * b ≥ 1 := (by omega)
  have i16 : true = true ↔ (2 * b ≥ 1) := ⟨fun _ => h16, fun _ => rfl⟩
  obtain ⟨b17, i17⟩ := bex (2 * b ≤ 65536)
  obtain ⟨b18, i18⟩ := bex (s ≥ 1)
  obtain ⟨b19, i19⟩ := bex (s ≤ a - c)
  obtain ⟨b20, i20⟩ := bex (t ≥ 1)
  obtain ⟨b21, i21⟩ := bex (t ≤ b - r)
  obtain ⟨b22, i22⟩ := bex (addE q (hz ((b - (2 * r)) - 2) (y - 1)) = 0)
  letI : Env := mkEnv glT [.bool p.g, .string (natS p.n), .int .i64 p.x, .bool q.g, .string (natS q.n), .int .i64 q.x, .int .i64 y, .int .i64 a, .int .i64 b, .int .i64 c, .int .i64 r, .int .i64 s, .int .i64 t, .int .i64 u, .int .i64 z, .int .i64 (a - 1), .int .i64 (b - 1), .int .i64 (2 * c), .int .i64 ((2 * c) - a), .bool (hz ((2 * c) - a) (y - 1)).g, .string (natS (hz ((2 * c) - a) (y - 1)).n), .int .i64 (hz ((2 * c) - a) (y - 1)).x, .bool (addD p (hz ((2 * c) - a) (y - 1))).g, .string (natS (addD p (hz ((2 * c) - a) (y - 1))).n), .int .i64 (addD p (hz ((2 * c) - a) (y - 1))).x, .int .i64 (addE p (hz ((2 * c) - a) (y - 1))), .int .i64 (2 * r), .int .i64 (b - (2 * r)), .int .i64 ((b - (2 * r)) - 2), .bool (hz ((b - (2 * r)) - 2) (y - 1)).g, .string (natS (hz ((b - (2 * r)) - 2) (y - 1)).n), .int .i64 (hz ((b - (2 * r)) - 2) (y - 1)).x, .bool (addD q (hz ((b - (2 * r)) - 2) (y - 1))).g, .string (natS (addD q (hz ((b - (2 * r)) - 2) (y - 1))).n), .int .i64 (addD q (hz ((b - (2 * r)) - 2) (y - 1))).x, .int .i64 (addE q (hz ((b - (2 * r)) - 2) (y - 1))), .int .i64 (y - 1), .int .i64 (2 * a), .int .i64 (2 * b), .int .i64 (a - c), .int .i64 (b - r)] rfl
  have hops : OpsT Tryz.prog (@Know.ops (Zm_C0N_k b11 b12 b15 b17 b18 b19 b20 b21 b22)) := ⟨opt_geq_i rfl rfl i1,
    opt_leq_i rfl rfl i2,
    opt_geq_i rfl rfl i3,
    opt_leq_i rfl rfl i4,
    opt_geq_i rfl rfl i5,
    opt_leq_i rfl rfl i6,
    vopt_sub rfl rfl rfl rfl (by omega) ⟨by omega, by omega⟩,
    opt_geq_i rfl rfl i7,
    opt_leq_i rfl rfl i8,
    vopt_sub rfl rfl rfl rfl (by omega) ⟨by omega, by omega⟩,
    opt_geq_i rfl rfl i9,
    opt_leq_i rfl rfl i10,
    vopt_mul rfl rfl rfl rfl (by omega) ⟨by omega, by omega⟩,
    vopt_sub rfl rfl rfl rfl (by omega) ⟨by omega, by omega⟩,
    vopt_mul rfl rfl rfl rfl (by omega) ⟨by omega, by omega⟩,
    vopt_sub rfl rfl rfl rfl (by omega) ⟨by omega, by omega⟩,
    vopt_sub rfl rfl rfl rfl (by omega) ⟨by omega, by omega⟩,
    opt_neq_i rfl rfl i11,
    vopt_sub rfl rfl rfl rfl (by omega) ⟨by omega, by omega⟩,
    vopt_shl rfl rfl rfl rfl (by omega) ⟨by omega, by omega⟩,
    vopt_shl rfl rfl rfl rfl (by omega) ⟨by omega, by omega⟩,
    opt_geq_i rfl rfl i12,
    opt_leq_i rfl rfl i13,
    opt_geq_i rfl rfl i14,
    opt_leq_i rfl rfl i15,
    opt_geq_i rfl rfl i16,
    opt_leq_i rfl rfl i17,
    vopt_sub rfl rfl rfl rfl (by omega) ⟨by omega, by omega⟩,
    opt_geq_i rfl rfl i18,
    opt_leq_i rfl rfl i19,
    vopt_sub rfl rfl rfl rfl (by omega) ⟨by omega, by omega⟩,
    opt_geq_i rfl rfl i20,
    opt_leq_i rfl rfl i21,
    opt_neq_i rfl rfl i22,
    trivial⟩
  have hcalls : CallsT Tryz.prog (@Know.calls (Zm_C0N_k b11 b12 b15 b17 b18 b19 b20 b21 b22)) := ⟨callt rfl rfl fun w hG => awake24_c w hG,
    callt rfl rfl fun w hG => GCheck_gs ⟨p, q⟩ ⟨hp, hq⟩ w hG,
    callt rfl rfl fun w hG => halves_z ((2 * c) - a) y w ⟨by omega, by omega⟩ ⟨by omega, by omega⟩ hG,
    callt rfl rfl fun w hG => DAdd_c p (hz ((2 * c) - a) (y - 1)) w hp (hz_Ok _ _) hG,
    callt rfl rfl fun w hG => halves_z ((b - (2 * r)) - 2) y w ⟨by omega, by omega⟩ ⟨by omega, by omega⟩ hG,
    callt rfl rfl fun w hG => DAdd_c q (hz ((b - (2 * r)) - 2) (y - 1)) w hq (hz_Ok _ _) hG,
    trivial⟩
  have fin : ∀ v, @comes (Zm_C0N_k b11 b12 b15 b17 b18 b19 b20 b21 b22) Tryz.prog glT 3000 Zm_C0N_f Zm_C0N_a = some v → ground v = true → Ending.returned (gval v) = .returned (.bool true) → Calls Tryz.prog 5 #[.agg #[.bool p.g, .string (natS p.n), .int .i64 p.x, .bool q.g, .string (natS q.n), .int .i64 q.x, .int .i64 y, .int .i64 a, .int .i64 b], .int .i64 c, .int .i64 r, .int .i64 s, .int .i64 t, .int .i64 u, .int .i64 z] w fun e w' => e = .returned (.bool true) ∧ Below w.heap.size w w' := fun v h1 h2 h3 => (@sym_ok _ (Zm_C0N_k b11 b12 b15 b17 b18 b19 b20 b21 b22) _ (@KnowOk.of _ (Zm_C0N_k b11 b12 b15 b17 b18 b19 b20 b21 b22) _ hops hcalls) (by kernel_rfl) _ _ _ _ h1 rfl h2 _ hG).mono fun e w' h => ⟨h.1.trans h3, h.2⟩
  clear hops hcalls
  cases b11 with
  | true =>
    have h11 : addE p (hz ((2 * c) - a) (y - 1)) = 0 := i11.1 rfl
    cases b22 with
    | true =>
      exact absurd (i22.1 rfl) (fun k => hn1 ⟨h11, k⟩)
    | false =>
      have h22 : ¬ (addE q (hz ((b - (2 * r)) - 2) (y - 1)) = 0) := fun c => Bool.false_ne_true (i22.2 c)
      cases b12 with
      | true =>
        have h12 : y - 1 ≥ -4096 := i12.1 rfl
        cases b15 with
        | true =>
          have h15 : 2 * a ≤ 65536 := i15.1 rfl
          cases b17 with
          | true =>
            have h17 : 2 * b ≤ 65536 := i17.1 rfl
            cases b18 with
            | true =>
              have h18 : s ≥ 1 := i18.1 rfl
              cases b19 with
              | true =>
                have h19 : s ≤ a - c := i19.1 rfl
                cases b20 with
                | true =>
                  have h20 : t ≥ 1 := i20.1 rfl
                  cases b21 with
                  | true =>
                    exact absurd (i21.1 rfl) (fun c => hn2 ⟨h18, h19, h20, c⟩)
                  | false =>
                    have h21 : ¬ (t ≤ b - r) := fun c => Bool.false_ne_true (i21.2 c)
                    exact fin _ (Zm_C0N_r1) rfl rfl
                | false =>
                  have h20 : ¬ (t ≥ 1) := fun c => Bool.false_ne_true (i20.2 c)
                  exact fin _ (Zm_C0N_r2 b21) rfl rfl
              | false =>
                have h19 : ¬ (s ≤ a - c) := fun c => Bool.false_ne_true (i19.2 c)
                exact fin _ (Zm_C0N_r3 b20 b21) rfl rfl
            | false =>
              have h18 : ¬ (s ≥ 1) := fun c => Bool.false_ne_true (i18.2 c)
              exact fin _ (Zm_C0N_r4 b19 b20 b21) rfl rfl
          | false =>
            have h17 : ¬ (2 * b ≤ 65536) := fun c => Bool.false_ne_true (i17.2 c)
            cases b18 with
            | true =>
              have h18 : s ≥ 1 := i18.1 rfl
              cases b19 with
              | true =>
                have h19 : s ≤ a - c := i19.1 rfl
                cases b20 with
                | true =>
                  have h20 : t ≥ 1 := i20.1 rfl
                  cases b21 with
                  | true =>
                    exact absurd (i21.1 rfl) (fun c => hn2 ⟨h18, h19, h20, c⟩)
                  | false =>
                    have h21 : ¬ (t ≤ b - r) := fun c => Bool.false_ne_true (i21.2 c)
                    exact fin _ (Zm_C0N_r5) rfl rfl
                | false =>
                  have h20 : ¬ (t ≥ 1) := fun c => Bool.false_ne_true (i20.2 c)
                  exact fin _ (Zm_C0N_r6 b21) rfl rfl
              | false =>
                have h19 : ¬ (s ≤ a - c) := fun c => Bool.false_ne_true (i19.2 c)
                exact fin _ (Zm_C0N_r7 b20 b21) rfl rfl
            | false =>
              have h18 : ¬ (s ≥ 1) := fun c => Bool.false_ne_true (i18.2 c)
              exact fin _ (Zm_C0N_r8 b19 b20 b21) rfl rfl
        | false =>
          have h15 : ¬ (2 * a ≤ 65536) := fun c => Bool.false_ne_true (i15.2 c)
          cases b18 with
          | true =>
            have h18 : s ≥ 1 := i18.1 rfl
            cases b19 with
            | true =>
              have h19 : s ≤ a - c := i19.1 rfl
              cases b20 with
              | true =>
                have h20 : t ≥ 1 := i20.1 rfl
                cases b21 with
                | true =>
                  exact absurd (i21.1 rfl) (fun c => hn2 ⟨h18, h19, h20, c⟩)
                | false =>
                  have h21 : ¬ (t ≤ b - r) := fun c => Bool.false_ne_true (i21.2 c)
                  exact fin _ (Zm_C0N_r9 b17) rfl rfl
              | false =>
                have h20 : ¬ (t ≥ 1) := fun c => Bool.false_ne_true (i20.2 c)
                exact fin _ (Zm_C0N_r10 b17 b21) rfl rfl
            | false =>
              have h19 : ¬ (s ≤ a - c) := fun c => Bool.false_ne_true (i19.2 c)
              exact fin _ (Zm_C0N_r11 b17 b20 b21) rfl rfl
          | false =>
            have h18 : ¬ (s ≥ 1) := fun c => Bool.false_ne_true (i18.2 c)
            exact fin _ (Zm_C0N_r12 b17 b19 b20 b21) rfl rfl
      | false =>
        have h12 : ¬ (y - 1 ≥ -4096) := fun c => Bool.false_ne_true (i12.2 c)
        cases b18 with
        | true =>
          have h18 : s ≥ 1 := i18.1 rfl
          cases b19 with
          | true =>
            have h19 : s ≤ a - c := i19.1 rfl
            cases b20 with
            | true =>
              have h20 : t ≥ 1 := i20.1 rfl
              cases b21 with
              | true =>
                exact absurd (i21.1 rfl) (fun c => hn2 ⟨h18, h19, h20, c⟩)
              | false =>
                have h21 : ¬ (t ≤ b - r) := fun c => Bool.false_ne_true (i21.2 c)
                exact fin _ (Zm_C0N_r13 b15 b17) rfl rfl
            | false =>
              have h20 : ¬ (t ≥ 1) := fun c => Bool.false_ne_true (i20.2 c)
              exact fin _ (Zm_C0N_r14 b15 b17 b21) rfl rfl
          | false =>
            have h19 : ¬ (s ≤ a - c) := fun c => Bool.false_ne_true (i19.2 c)
            exact fin _ (Zm_C0N_r15 b15 b17 b20 b21) rfl rfl
        | false =>
          have h18 : ¬ (s ≥ 1) := fun c => Bool.false_ne_true (i18.2 c)
          exact fin _ (Zm_C0N_r16 b15 b17 b19 b20 b21) rfl rfl
  | false =>
    have h11 : ¬ (addE p (hz ((2 * c) - a) (y - 1)) = 0) := fun c => Bool.false_ne_true (i11.2 c)
    cases b12 with
    | true =>
      have h12 : y - 1 ≥ -4096 := i12.1 rfl
      cases b15 with
      | true =>
        have h15 : 2 * a ≤ 65536 := i15.1 rfl
        cases b17 with
        | true =>
          have h17 : 2 * b ≤ 65536 := i17.1 rfl
          cases b18 with
          | true =>
            have h18 : s ≥ 1 := i18.1 rfl
            cases b19 with
            | true =>
              have h19 : s ≤ a - c := i19.1 rfl
              cases b20 with
              | true =>
                have h20 : t ≥ 1 := i20.1 rfl
                cases b21 with
                | true =>
                  exact absurd (i21.1 rfl) (fun c => hn2 ⟨h18, h19, h20, c⟩)
                | false =>
                  have h21 : ¬ (t ≤ b - r) := fun c => Bool.false_ne_true (i21.2 c)
                  exact fin _ (Zm_C0N_r17 b22) rfl rfl
              | false =>
                have h20 : ¬ (t ≥ 1) := fun c => Bool.false_ne_true (i20.2 c)
                exact fin _ (Zm_C0N_r18 b21 b22) rfl rfl
            | false =>
              have h19 : ¬ (s ≤ a - c) := fun c => Bool.false_ne_true (i19.2 c)
              exact fin _ (Zm_C0N_r19 b20 b21 b22) rfl rfl
          | false =>
            have h18 : ¬ (s ≥ 1) := fun c => Bool.false_ne_true (i18.2 c)
            exact fin _ (Zm_C0N_r20 b19 b20 b21 b22) rfl rfl
        | false =>
          have h17 : ¬ (2 * b ≤ 65536) := fun c => Bool.false_ne_true (i17.2 c)
          cases b18 with
          | true =>
            have h18 : s ≥ 1 := i18.1 rfl
            cases b19 with
            | true =>
              have h19 : s ≤ a - c := i19.1 rfl
              cases b20 with
              | true =>
                have h20 : t ≥ 1 := i20.1 rfl
                cases b21 with
                | true =>
                  exact absurd (i21.1 rfl) (fun c => hn2 ⟨h18, h19, h20, c⟩)
                | false =>
                  have h21 : ¬ (t ≤ b - r) := fun c => Bool.false_ne_true (i21.2 c)
                  exact fin _ (Zm_C0N_r21 b22) rfl rfl
              | false =>
                have h20 : ¬ (t ≥ 1) := fun c => Bool.false_ne_true (i20.2 c)
                exact fin _ (Zm_C0N_r22 b21 b22) rfl rfl
            | false =>
              have h19 : ¬ (s ≤ a - c) := fun c => Bool.false_ne_true (i19.2 c)
              exact fin _ (Zm_C0N_r23 b20 b21 b22) rfl rfl
          | false =>
            have h18 : ¬ (s ≥ 1) := fun c => Bool.false_ne_true (i18.2 c)
            exact fin _ (Zm_C0N_r24 b19 b20 b21 b22) rfl rfl
      | false =>
        have h15 : ¬ (2 * a ≤ 65536) := fun c => Bool.false_ne_true (i15.2 c)
        cases b18 with
        | true =>
          have h18 : s ≥ 1 := i18.1 rfl
          cases b19 with
          | true =>
            have h19 : s ≤ a - c := i19.1 rfl
            cases b20 with
            | true =>
              have h20 : t ≥ 1 := i20.1 rfl
              cases b21 with
              | true =>
                exact absurd (i21.1 rfl) (fun c => hn2 ⟨h18, h19, h20, c⟩)
              | false =>
                have h21 : ¬ (t ≤ b - r) := fun c => Bool.false_ne_true (i21.2 c)
                exact fin _ (Zm_C0N_r25 b17 b22) rfl rfl
            | false =>
              have h20 : ¬ (t ≥ 1) := fun c => Bool.false_ne_true (i20.2 c)
              exact fin _ (Zm_C0N_r26 b17 b21 b22) rfl rfl
          | false =>
            have h19 : ¬ (s ≤ a - c) := fun c => Bool.false_ne_true (i19.2 c)
            exact fin _ (Zm_C0N_r27 b17 b20 b21 b22) rfl rfl
        | false =>
          have h18 : ¬ (s ≥ 1) := fun c => Bool.false_ne_true (i18.2 c)
          exact fin _ (Zm_C0N_r28 b17 b19 b20 b21 b22) rfl rfl
    | false =>
      have h12 : ¬ (y - 1 ≥ -4096) := fun c => Bool.false_ne_true (i12.2 c)
      cases b18 with
      | true =>
        have h18 : s ≥ 1 := i18.1 rfl
        cases b19 with
        | true =>
          have h19 : s ≤ a - c := i19.1 rfl
          cases b20 with
          | true =>
            have h20 : t ≥ 1 := i20.1 rfl
            cases b21 with
            | true =>
              exact absurd (i21.1 rfl) (fun c => hn2 ⟨h18, h19, h20, c⟩)
            | false =>
              have h21 : ¬ (t ≤ b - r) := fun c => Bool.false_ne_true (i21.2 c)
              exact fin _ (Zm_C0N_r29 b15 b17 b22) rfl rfl
          | false =>
            have h20 : ¬ (t ≥ 1) := fun c => Bool.false_ne_true (i20.2 c)
            exact fin _ (Zm_C0N_r30 b15 b17 b21 b22) rfl rfl
        | false =>
          have h19 : ¬ (s ≤ a - c) := fun c => Bool.false_ne_true (i19.2 c)
          exact fin _ (Zm_C0N_r31 b15 b17 b20 b21 b22) rfl rfl
      | false =>
        have h18 : ¬ (s ≥ 1) := fun c => Bool.false_ne_true (i18.2 c)
        exact fin _ (Zm_C0N_r32 b15 b17 b19 b20 b21 b22) rfl rfl

@[reducible] def Zm_C1N_f : FuncId := 5
@[reducible] def Zm_C1N_a : List AV := [.agg [.sym 0, .sym 1, .sym 2, .sym 3, .sym 4, .sym 5, .sym 6, .sym 7, .sym 8], .sym 9, .sym 10, .sym 11, .sym 12, .sym 13, .sym 14]
@[reducible] noncomputable def Zm_C1N_k (b11 b12 b15 b17 b22 b23 b24 b25 b26 b27 b28 b29 : Bool) : Know := ⟨[([0, 16, 3], [.sym 6, .lit (.int .i64 (-4096))], .lit (.bool true)),
  ([0, 14, 3], [.sym 6, .lit (.int .i64 4096)], .lit (.bool true)),
  ([0, 16, 3], [.sym 7, .lit (.int .i64 1)], .lit (.bool true)),
  ([0, 14, 3], [.sym 7, .lit (.int .i64 65536)], .lit (.bool true)),
  ([0, 16, 3], [.sym 8, .lit (.int .i64 1)], .lit (.bool true)),
  ([0, 14, 3], [.sym 8, .lit (.int .i64 65536)], .lit (.bool true)),
  ([0, 1, 3], [.sym 7, .lit (.int .i64 1)], .sym 15),
  ([0, 16, 3], [.sym 9, .lit (.int .i64 0)], .lit (.bool true)),
  ([0, 14, 3], [.sym 9, .sym 15], .lit (.bool true)),
  ([0, 1, 3], [.sym 8, .lit (.int .i64 1)], .sym 16),
  ([0, 16, 3], [.sym 10, .lit (.int .i64 0)], .lit (.bool true)),
  ([0, 14, 3], [.sym 10, .sym 16], .lit (.bool true)),
  ([0, 2, 3], [.lit (.int .i64 2), .sym 9], .sym 17),
  ([0, 1, 3], [.sym 17, .sym 7], .sym 18),
  ([0, 2, 3], [.lit (.int .i64 2), .sym 10], .sym 26),
  ([0, 1, 3], [.sym 8, .sym 26], .sym 27),
  ([0, 1, 3], [.sym 27, .lit (.int .i64 2)], .sym 28),
  ([0, 12, 30], [.sym 25, .lit (.int .i64 0)], .lit (.bool (!b11))),
  ([0, 1, 3], [.sym 6, .lit (.int .i64 1)], .sym 36),
  ([0, 8, 3], [.sym 7, .lit (.int .i64 1)], .sym 37),
  ([0, 8, 3], [.sym 8, .lit (.int .i64 1)], .sym 38),
  ([0, 16, 3], [.sym 36, .lit (.int .i64 (-4096))], .lit (.bool b12)),
  ([0, 14, 3], [.sym 36, .lit (.int .i64 4096)], .lit (.bool true)),
  ([0, 16, 3], [.sym 37, .lit (.int .i64 1)], .lit (.bool true)),
  ([0, 14, 3], [.sym 37, .lit (.int .i64 65536)], .lit (.bool b15)),
  ([0, 16, 3], [.sym 38, .lit (.int .i64 1)], .lit (.bool true)),
  ([0, 14, 3], [.sym 38, .lit (.int .i64 65536)], .lit (.bool b17)),
  ([0, 1, 3], [.sym 7, .sym 9], .sym 39),
  ([0, 16, 3], [.sym 11, .lit (.int .i64 1)], .lit (.bool true)),
  ([0, 14, 3], [.sym 11, .sym 39], .lit (.bool true)),
  ([0, 1, 3], [.sym 8, .sym 10], .sym 40),
  ([0, 16, 3], [.sym 12, .lit (.int .i64 1)], .lit (.bool true)),
  ([0, 14, 3], [.sym 12, .sym 40], .lit (.bool true)),
  ([0, 11, 100], [.agg [.sym 11, .sym 12], .agg [.sym 7, .sym 8]], .lit (.bool b22)),
  ([0, 13, 3], [.sym 13, .lit (.int .i64 0)], .lit (.bool b23)),
  ([0, 13, 3], [.sym 14, .lit (.int .i64 0)], .lit (.bool b24)),
  ([0, 16, 3], [.sym 13, .sym 11], .lit (.bool b25)),
  ([0, 16, 3], [.sym 14, .sym 12], .lit (.bool b26)),
  ([0, 0, 3], [.sym 17, .sym 11], .sym 41),
  ([0, 1, 3], [.sym 41, .sym 7], .sym 42),
  ([0, 1, 3], [.sym 27, .sym 12], .sym 50),
  ([0, 12, 30], [.sym 49, .lit (.int .i64 0)], .lit (.bool (!b27))),
  ([0, 12, 30], [.sym 57, .lit (.int .i64 0)], .lit (.bool (!b28))),
  ([0, 12, 30], [.sym 35, .lit (.int .i64 0)], .lit (.bool (!b29)))],
  [(13, [], .lit (.bool true)),
  (25, [.agg [.sym 0, .sym 1, .sym 2, .sym 3, .sym 4, .sym 5]], .lit (.int .i64 0)),
  (50, [.sym 18, .sym 6], .agg [.sym 19, .sym 20, .sym 21]),
  (20, [.agg [.sym 0, .sym 1, .sym 2], .agg [.sym 19, .sym 20, .sym 21]], .tup [.agg [.sym 22, .sym 23, .sym 24], .sym 25]),
  (50, [.sym 28, .sym 6], .agg [.sym 29, .sym 30, .sym 31]),
  (20, [.agg [.sym 3, .sym 4, .sym 5], .agg [.sym 29, .sym 30, .sym 31]], .tup [.agg [.sym 32, .sym 33, .sym 34], .sym 35]),
  (50, [.sym 42, .sym 6], .agg [.sym 43, .sym 44, .sym 45]),
  (20, [.agg [.sym 0, .sym 1, .sym 2], .agg [.sym 43, .sym 44, .sym 45]], .tup [.agg [.sym 46, .sym 47, .sym 48], .sym 49]),
  (50, [.sym 50, .sym 6], .agg [.sym 51, .sym 52, .sym 53]),
  (20, [.agg [.sym 3, .sym 4, .sym 5], .agg [.sym 51, .sym 52, .sym 53]], .tup [.agg [.sym 54, .sym 55, .sym 56], .sym 57])]⟩
theorem Zm_C1N_r1 (b24 b25 b26 b27 b28 : Bool) : @comes (Zm_C1N_k true true true true true true b24 b25 b26 b27 b28 false) Tryz.prog glT 3000 Zm_C1N_f Zm_C1N_a = some (.lit (.bool true)) := by kernel_rfl
theorem Zm_C1N_r2 (b25 b26 b27 b28 : Bool) : @comes (Zm_C1N_k true true true true true false true b25 b26 b27 b28 false) Tryz.prog glT 3000 Zm_C1N_f Zm_C1N_a = some (.lit (.bool true)) := by kernel_rfl
theorem Zm_C1N_r3 (b26 b27 b28 : Bool) : @comes (Zm_C1N_k true true true true true false false true b26 b27 b28 false) Tryz.prog glT 3000 Zm_C1N_f Zm_C1N_a = some (.lit (.bool true)) := by kernel_rfl
theorem Zm_C1N_r4 (b27 b28 : Bool) : @comes (Zm_C1N_k true true true true true false false false true b27 b28 false) Tryz.prog glT 3000 Zm_C1N_f Zm_C1N_a = some (.lit (.bool true)) := by kernel_rfl
theorem Zm_C1N_r5 (b24 b25 b26 : Bool) : @comes (Zm_C1N_k true true true true false true b24 b25 b26 true true false) Tryz.prog glT 3000 Zm_C1N_f Zm_C1N_a = some (.lit (.bool true)) := by kernel_rfl
theorem Zm_C1N_r6 (b25 b26 : Bool) : @comes (Zm_C1N_k true true true true false false true b25 b26 true true false) Tryz.prog glT 3000 Zm_C1N_f Zm_C1N_a = some (.lit (.bool true)) := by kernel_rfl
theorem Zm_C1N_r7 (b26 : Bool) : @comes (Zm_C1N_k true true true true false false false true b26 true true false) Tryz.prog glT 3000 Zm_C1N_f Zm_C1N_a = some (.lit (.bool true)) := by kernel_rfl
theorem Zm_C1N_r8 : @comes (Zm_C1N_k true true true true false false false false true true true false) Tryz.prog glT 3000 Zm_C1N_f Zm_C1N_a = some (.lit (.bool true)) := by kernel_rfl
theorem Zm_C1N_r9 (b23 b24 b25 b26 : Bool) : @comes (Zm_C1N_k true true true true false b23 b24 b25 b26 true false false) Tryz.prog glT 3000 Zm_C1N_f Zm_C1N_a = some (.lit (.bool true)) := by kernel_rfl
theorem Zm_C1N_r10 (b23 b24 b25 b26 b28 : Bool) : @comes (Zm_C1N_k true true true true false b23 b24 b25 b26 false b28 false) Tryz.prog glT 3000 Zm_C1N_f Zm_C1N_a = some (.lit (.bool true)) := by kernel_rfl
theorem Zm_C1N_r11 (b24 b25 b26 b27 b28 : Bool) : @comes (Zm_C1N_k true true true false true true b24 b25 b26 b27 b28 false) Tryz.prog glT 3000 Zm_C1N_f Zm_C1N_a = some (.lit (.bool true)) := by kernel_rfl
theorem Zm_C1N_r12 (b25 b26 b27 b28 : Bool) : @comes (Zm_C1N_k true true true false true false true b25 b26 b27 b28 false) Tryz.prog glT 3000 Zm_C1N_f Zm_C1N_a = some (.lit (.bool true)) := by kernel_rfl
theorem Zm_C1N_r13 (b26 b27 b28 : Bool) : @comes (Zm_C1N_k true true true false true false false true b26 b27 b28 false) Tryz.prog glT 3000 Zm_C1N_f Zm_C1N_a = some (.lit (.bool true)) := by kernel_rfl
theorem Zm_C1N_r14 (b27 b28 : Bool) : @comes (Zm_C1N_k true true true false true false false false true b27 b28 false) Tryz.prog glT 3000 Zm_C1N_f Zm_C1N_a = some (.lit (.bool true)) := by kernel_rfl
theorem Zm_C1N_r15 (b24 b25 b26 : Bool) : @comes (Zm_C1N_k true true true false false true b24 b25 b26 true true false) Tryz.prog glT 3000 Zm_C1N_f Zm_C1N_a = some (.lit (.bool true)) := by kernel_rfl
theorem Zm_C1N_r16 (b25 b26 : Bool) : @comes (Zm_C1N_k true true true false false false true b25 b26 true true false) Tryz.prog glT 3000 Zm_C1N_f Zm_C1N_a = some (.lit (.bool true)) := by kernel_rfl
theorem Zm_C1N_r17 (b26 : Bool) : @comes (Zm_C1N_k true true true false false false false true b26 true true false) Tryz.prog glT 3000 Zm_C1N_f Zm_C1N_a = some (.lit (.bool true)) := by kernel_rfl
theorem Zm_C1N_r18 : @comes (Zm_C1N_k true true true false false false false false true true true false) Tryz.prog glT 3000 Zm_C1N_f Zm_C1N_a = some (.lit (.bool true)) := by kernel_rfl
theorem Zm_C1N_r19 (b23 b24 b25 b26 : Bool) : @comes (Zm_C1N_k true true true false false b23 b24 b25 b26 true false false) Tryz.prog glT 3000 Zm_C1N_f Zm_C1N_a = some (.lit (.bool true)) := by kernel_rfl
theorem Zm_C1N_r20 (b23 b24 b25 b26 b28 : Bool) : @comes (Zm_C1N_k true true true false false b23 b24 b25 b26 false b28 false) Tryz.prog glT 3000 Zm_C1N_f Zm_C1N_a = some (.lit (.bool true)) := by kernel_rfl
theorem Zm_C1N_r21 (b17 b24 b25 b26 b27 b28 : Bool) : @comes (Zm_C1N_k true true false b17 true true b24 b25 b26 b27 b28 false) Tryz.prog glT 3000 Zm_C1N_f Zm_C1N_a = some (.lit (.bool true)) := by kernel_rfl
theorem Zm_C1N_r22 (b17 b25 b26 b27 b28 : Bool) : @comes (Zm_C1N_k true true false b17 true false true b25 b26 b27 b28 false) Tryz.prog glT 3000 Zm_C1N_f Zm_C1N_a = some (.lit (.bool true)) := by kernel_rfl
theorem Zm_C1N_r23 (b17 b26 b27 b28 : Bool) : @comes (Zm_C1N_k true true false b17 true false false true b26 b27 b28 false) Tryz.prog glT 3000 Zm_C1N_f Zm_C1N_a = some (.lit (.bool true)) := by kernel_rfl
theorem Zm_C1N_r24 (b17 b27 b28 : Bool) : @comes (Zm_C1N_k true true false b17 true false false false true b27 b28 false) Tryz.prog glT 3000 Zm_C1N_f Zm_C1N_a = some (.lit (.bool true)) := by kernel_rfl
theorem Zm_C1N_r25 (b17 b24 b25 b26 : Bool) : @comes (Zm_C1N_k true true false b17 false true b24 b25 b26 true true false) Tryz.prog glT 3000 Zm_C1N_f Zm_C1N_a = some (.lit (.bool true)) := by kernel_rfl
theorem Zm_C1N_r26 (b17 b25 b26 : Bool) : @comes (Zm_C1N_k true true false b17 false false true b25 b26 true true false) Tryz.prog glT 3000 Zm_C1N_f Zm_C1N_a = some (.lit (.bool true)) := by kernel_rfl
theorem Zm_C1N_r27 (b17 b26 : Bool) : @comes (Zm_C1N_k true true false b17 false false false true b26 true true false) Tryz.prog glT 3000 Zm_C1N_f Zm_C1N_a = some (.lit (.bool true)) := by kernel_rfl
theorem Zm_C1N_r28 (b17 : Bool) : @comes (Zm_C1N_k true true false b17 false false false false true true true false) Tryz.prog glT 3000 Zm_C1N_f Zm_C1N_a = some (.lit (.bool true)) := by kernel_rfl
theorem Zm_C1N_r29 (b17 b23 b24 b25 b26 : Bool) : @comes (Zm_C1N_k true true false b17 false b23 b24 b25 b26 true false false) Tryz.prog glT 3000 Zm_C1N_f Zm_C1N_a = some (.lit (.bool true)) := by kernel_rfl
theorem Zm_C1N_r30 (b17 b23 b24 b25 b26 b28 : Bool) : @comes (Zm_C1N_k true true false b17 false b23 b24 b25 b26 false b28 false) Tryz.prog glT 3000 Zm_C1N_f Zm_C1N_a = some (.lit (.bool true)) := by kernel_rfl
theorem Zm_C1N_r31 (b15 b17 b24 b25 b26 b27 b28 : Bool) : @comes (Zm_C1N_k true false b15 b17 true true b24 b25 b26 b27 b28 false) Tryz.prog glT 3000 Zm_C1N_f Zm_C1N_a = some (.lit (.bool true)) := by kernel_rfl
theorem Zm_C1N_r32 (b15 b17 b25 b26 b27 b28 : Bool) : @comes (Zm_C1N_k true false b15 b17 true false true b25 b26 b27 b28 false) Tryz.prog glT 3000 Zm_C1N_f Zm_C1N_a = some (.lit (.bool true)) := by kernel_rfl
theorem Zm_C1N_r33 (b15 b17 b26 b27 b28 : Bool) : @comes (Zm_C1N_k true false b15 b17 true false false true b26 b27 b28 false) Tryz.prog glT 3000 Zm_C1N_f Zm_C1N_a = some (.lit (.bool true)) := by kernel_rfl
theorem Zm_C1N_r34 (b15 b17 b27 b28 : Bool) : @comes (Zm_C1N_k true false b15 b17 true false false false true b27 b28 false) Tryz.prog glT 3000 Zm_C1N_f Zm_C1N_a = some (.lit (.bool true)) := by kernel_rfl
theorem Zm_C1N_r35 (b15 b17 b24 b25 b26 : Bool) : @comes (Zm_C1N_k true false b15 b17 false true b24 b25 b26 true true false) Tryz.prog glT 3000 Zm_C1N_f Zm_C1N_a = some (.lit (.bool true)) := by kernel_rfl
theorem Zm_C1N_r36 (b15 b17 b25 b26 : Bool) : @comes (Zm_C1N_k true false b15 b17 false false true b25 b26 true true false) Tryz.prog glT 3000 Zm_C1N_f Zm_C1N_a = some (.lit (.bool true)) := by kernel_rfl
theorem Zm_C1N_r37 (b15 b17 b26 : Bool) : @comes (Zm_C1N_k true false b15 b17 false false false true b26 true true false) Tryz.prog glT 3000 Zm_C1N_f Zm_C1N_a = some (.lit (.bool true)) := by kernel_rfl
theorem Zm_C1N_r38 (b15 b17 : Bool) : @comes (Zm_C1N_k true false b15 b17 false false false false true true true false) Tryz.prog glT 3000 Zm_C1N_f Zm_C1N_a = some (.lit (.bool true)) := by kernel_rfl
theorem Zm_C1N_r39 (b15 b17 b23 b24 b25 b26 : Bool) : @comes (Zm_C1N_k true false b15 b17 false b23 b24 b25 b26 true false false) Tryz.prog glT 3000 Zm_C1N_f Zm_C1N_a = some (.lit (.bool true)) := by kernel_rfl
theorem Zm_C1N_r40 (b15 b17 b23 b24 b25 b26 b28 : Bool) : @comes (Zm_C1N_k true false b15 b17 false b23 b24 b25 b26 false b28 false) Tryz.prog glT 3000 Zm_C1N_f Zm_C1N_a = some (.lit (.bool true)) := by kernel_rfl
theorem Zm_C1N_r41 (b24 b25 b26 b27 b28 b29 : Bool) : @comes (Zm_C1N_k false true true true true true b24 b25 b26 b27 b28 b29) Tryz.prog glT 3000 Zm_C1N_f Zm_C1N_a = some (.lit (.bool true)) := by kernel_rfl
theorem Zm_C1N_r42 (b25 b26 b27 b28 b29 : Bool) : @comes (Zm_C1N_k false true true true true false true b25 b26 b27 b28 b29) Tryz.prog glT 3000 Zm_C1N_f Zm_C1N_a = some (.lit (.bool true)) := by kernel_rfl
theorem Zm_C1N_r43 (b26 b27 b28 b29 : Bool) : @comes (Zm_C1N_k false true true true true false false true b26 b27 b28 b29) Tryz.prog glT 3000 Zm_C1N_f Zm_C1N_a = some (.lit (.bool true)) := by kernel_rfl
theorem Zm_C1N_r44 (b27 b28 b29 : Bool) : @comes (Zm_C1N_k false true true true true false false false true b27 b28 b29) Tryz.prog glT 3000 Zm_C1N_f Zm_C1N_a = some (.lit (.bool true)) := by kernel_rfl
theorem Zm_C1N_r45 (b24 b25 b26 b29 : Bool) : @comes (Zm_C1N_k false true true true false true b24 b25 b26 true true b29) Tryz.prog glT 3000 Zm_C1N_f Zm_C1N_a = some (.lit (.bool true)) := by kernel_rfl
theorem Zm_C1N_r46 (b25 b26 b29 : Bool) : @comes (Zm_C1N_k false true true true false false true b25 b26 true true b29) Tryz.prog glT 3000 Zm_C1N_f Zm_C1N_a = some (.lit (.bool true)) := by kernel_rfl
theorem Zm_C1N_r47 (b26 b29 : Bool) : @comes (Zm_C1N_k false true true true false false false true b26 true true b29) Tryz.prog glT 3000 Zm_C1N_f Zm_C1N_a = some (.lit (.bool true)) := by kernel_rfl
theorem Zm_C1N_r48 (b29 : Bool) : @comes (Zm_C1N_k false true true true false false false false true true true b29) Tryz.prog glT 3000 Zm_C1N_f Zm_C1N_a = some (.lit (.bool true)) := by kernel_rfl
theorem Zm_C1N_r49 (b23 b24 b25 b26 b29 : Bool) : @comes (Zm_C1N_k false true true true false b23 b24 b25 b26 true false b29) Tryz.prog glT 3000 Zm_C1N_f Zm_C1N_a = some (.lit (.bool true)) := by kernel_rfl
theorem Zm_C1N_r50 (b23 b24 b25 b26 b28 b29 : Bool) : @comes (Zm_C1N_k false true true true false b23 b24 b25 b26 false b28 b29) Tryz.prog glT 3000 Zm_C1N_f Zm_C1N_a = some (.lit (.bool true)) := by kernel_rfl
theorem Zm_C1N_r51 (b24 b25 b26 b27 b28 b29 : Bool) : @comes (Zm_C1N_k false true true false true true b24 b25 b26 b27 b28 b29) Tryz.prog glT 3000 Zm_C1N_f Zm_C1N_a = some (.lit (.bool true)) := by kernel_rfl
theorem Zm_C1N_r52 (b25 b26 b27 b28 b29 : Bool) : @comes (Zm_C1N_k false true true false true false true b25 b26 b27 b28 b29) Tryz.prog glT 3000 Zm_C1N_f Zm_C1N_a = some (.lit (.bool true)) := by kernel_rfl
theorem Zm_C1N_r53 (b26 b27 b28 b29 : Bool) : @comes (Zm_C1N_k false true true false true false false true b26 b27 b28 b29) Tryz.prog glT 3000 Zm_C1N_f Zm_C1N_a = some (.lit (.bool true)) := by kernel_rfl
theorem Zm_C1N_r54 (b27 b28 b29 : Bool) : @comes (Zm_C1N_k false true true false true false false false true b27 b28 b29) Tryz.prog glT 3000 Zm_C1N_f Zm_C1N_a = some (.lit (.bool true)) := by kernel_rfl
theorem Zm_C1N_r55 (b24 b25 b26 b29 : Bool) : @comes (Zm_C1N_k false true true false false true b24 b25 b26 true true b29) Tryz.prog glT 3000 Zm_C1N_f Zm_C1N_a = some (.lit (.bool true)) := by kernel_rfl
theorem Zm_C1N_r56 (b25 b26 b29 : Bool) : @comes (Zm_C1N_k false true true false false false true b25 b26 true true b29) Tryz.prog glT 3000 Zm_C1N_f Zm_C1N_a = some (.lit (.bool true)) := by kernel_rfl
theorem Zm_C1N_r57 (b26 b29 : Bool) : @comes (Zm_C1N_k false true true false false false false true b26 true true b29) Tryz.prog glT 3000 Zm_C1N_f Zm_C1N_a = some (.lit (.bool true)) := by kernel_rfl
theorem Zm_C1N_r58 (b29 : Bool) : @comes (Zm_C1N_k false true true false false false false false true true true b29) Tryz.prog glT 3000 Zm_C1N_f Zm_C1N_a = some (.lit (.bool true)) := by kernel_rfl
theorem Zm_C1N_r59 (b23 b24 b25 b26 b29 : Bool) : @comes (Zm_C1N_k false true true false false b23 b24 b25 b26 true false b29) Tryz.prog glT 3000 Zm_C1N_f Zm_C1N_a = some (.lit (.bool true)) := by kernel_rfl
theorem Zm_C1N_r60 (b23 b24 b25 b26 b28 b29 : Bool) : @comes (Zm_C1N_k false true true false false b23 b24 b25 b26 false b28 b29) Tryz.prog glT 3000 Zm_C1N_f Zm_C1N_a = some (.lit (.bool true)) := by kernel_rfl
theorem Zm_C1N_r61 (b17 b24 b25 b26 b27 b28 b29 : Bool) : @comes (Zm_C1N_k false true false b17 true true b24 b25 b26 b27 b28 b29) Tryz.prog glT 3000 Zm_C1N_f Zm_C1N_a = some (.lit (.bool true)) := by kernel_rfl
theorem Zm_C1N_r62 (b17 b25 b26 b27 b28 b29 : Bool) : @comes (Zm_C1N_k false true false b17 true false true b25 b26 b27 b28 b29) Tryz.prog glT 3000 Zm_C1N_f Zm_C1N_a = some (.lit (.bool true)) := by kernel_rfl
theorem Zm_C1N_r63 (b17 b26 b27 b28 b29 : Bool) : @comes (Zm_C1N_k false true false b17 true false false true b26 b27 b28 b29) Tryz.prog glT 3000 Zm_C1N_f Zm_C1N_a = some (.lit (.bool true)) := by kernel_rfl
theorem Zm_C1N_r64 (b17 b27 b28 b29 : Bool) : @comes (Zm_C1N_k false true false b17 true false false false true b27 b28 b29) Tryz.prog glT 3000 Zm_C1N_f Zm_C1N_a = some (.lit (.bool true)) := by kernel_rfl
theorem Zm_C1N_r65 (b17 b24 b25 b26 b29 : Bool) : @comes (Zm_C1N_k false true false b17 false true b24 b25 b26 true true b29) Tryz.prog glT 3000 Zm_C1N_f Zm_C1N_a = some (.lit (.bool true)) := by kernel_rfl
theorem Zm_C1N_r66 (b17 b25 b26 b29 : Bool) : @comes (Zm_C1N_k false true false b17 false false true b25 b26 true true b29) Tryz.prog glT 3000 Zm_C1N_f Zm_C1N_a = some (.lit (.bool true)) := by kernel_rfl
theorem Zm_C1N_r67 (b17 b26 b29 : Bool) : @comes (Zm_C1N_k false true false b17 false false false true b26 true true b29) Tryz.prog glT 3000 Zm_C1N_f Zm_C1N_a = some (.lit (.bool true)) := by kernel_rfl
theorem Zm_C1N_r68 (b17 b29 : Bool) : @comes (Zm_C1N_k false true false b17 false false false false true true true b29) Tryz.prog glT 3000 Zm_C1N_f Zm_C1N_a = some (.lit (.bool true)) := by kernel_rfl
theorem Zm_C1N_r69 (b17 b23 b24 b25 b26 b29 : Bool) : @comes (Zm_C1N_k false true false b17 false b23 b24 b25 b26 true false b29) Tryz.prog glT 3000 Zm_C1N_f Zm_C1N_a = some (.lit (.bool true)) := by kernel_rfl
theorem Zm_C1N_r70 (b17 b23 b24 b25 b26 b28 b29 : Bool) : @comes (Zm_C1N_k false true false b17 false b23 b24 b25 b26 false b28 b29) Tryz.prog glT 3000 Zm_C1N_f Zm_C1N_a = some (.lit (.bool true)) := by kernel_rfl
theorem Zm_C1N_r71 (b15 b17 b24 b25 b26 b27 b28 b29 : Bool) : @comes (Zm_C1N_k false false b15 b17 true true b24 b25 b26 b27 b28 b29) Tryz.prog glT 3000 Zm_C1N_f Zm_C1N_a = some (.lit (.bool true)) := by kernel_rfl
theorem Zm_C1N_r72 (b15 b17 b25 b26 b27 b28 b29 : Bool) : @comes (Zm_C1N_k false false b15 b17 true false true b25 b26 b27 b28 b29) Tryz.prog glT 3000 Zm_C1N_f Zm_C1N_a = some (.lit (.bool true)) := by kernel_rfl
theorem Zm_C1N_r73 (b15 b17 b26 b27 b28 b29 : Bool) : @comes (Zm_C1N_k false false b15 b17 true false false true b26 b27 b28 b29) Tryz.prog glT 3000 Zm_C1N_f Zm_C1N_a = some (.lit (.bool true)) := by kernel_rfl
theorem Zm_C1N_r74 (b15 b17 b27 b28 b29 : Bool) : @comes (Zm_C1N_k false false b15 b17 true false false false true b27 b28 b29) Tryz.prog glT 3000 Zm_C1N_f Zm_C1N_a = some (.lit (.bool true)) := by kernel_rfl
theorem Zm_C1N_r75 (b15 b17 b24 b25 b26 b29 : Bool) : @comes (Zm_C1N_k false false b15 b17 false true b24 b25 b26 true true b29) Tryz.prog glT 3000 Zm_C1N_f Zm_C1N_a = some (.lit (.bool true)) := by kernel_rfl
theorem Zm_C1N_r76 (b15 b17 b25 b26 b29 : Bool) : @comes (Zm_C1N_k false false b15 b17 false false true b25 b26 true true b29) Tryz.prog glT 3000 Zm_C1N_f Zm_C1N_a = some (.lit (.bool true)) := by kernel_rfl
theorem Zm_C1N_r77 (b15 b17 b26 b29 : Bool) : @comes (Zm_C1N_k false false b15 b17 false false false true b26 true true b29) Tryz.prog glT 3000 Zm_C1N_f Zm_C1N_a = some (.lit (.bool true)) := by kernel_rfl
theorem Zm_C1N_r78 (b15 b17 b29 : Bool) : @comes (Zm_C1N_k false false b15 b17 false false false false true true true b29) Tryz.prog glT 3000 Zm_C1N_f Zm_C1N_a = some (.lit (.bool true)) := by kernel_rfl
theorem Zm_C1N_r79 (b15 b17 b23 b24 b25 b26 b29 : Bool) : @comes (Zm_C1N_k false false b15 b17 false b23 b24 b25 b26 true false b29) Tryz.prog glT 3000 Zm_C1N_f Zm_C1N_a = some (.lit (.bool true)) := by kernel_rfl
theorem Zm_C1N_r80 (b15 b17 b23 b24 b25 b26 b28 b29 : Bool) : @comes (Zm_C1N_k false false b15 b17 false b23 b24 b25 b26 false b28 b29) Tryz.prog glT 3000 Zm_C1N_f Zm_C1N_a = some (.lit (.bool true)) := by kernel_rfl

set_option maxRecDepth 100000 in
set_option maxHeartbeats 4000000 in
theorem Zm_C1N (p q : Dy) (y a b c r s t u z : Int) (w : World) (hp : p.Ok) (hq : q.Ok) (e1 : -4096 ≤ y) (e2 : y ≤ 4096) (a1 : 1 ≤ a) (a2 : a ≤ 65536) (b1 : 1 ≤ b) (b2 : b ≤ 65536) (c1 : 0 ≤ c) (c2 : c ≤ a - 1) (r1 : 0 ≤ r) (r2 : r ≤ b - 1) (hn1 : ¬ (addE p (hz ((2 * c) - a) (y - 1)) = 0 ∧ addE q (hz ((b - (2 * r)) - 2) (y - 1)) = 0)) (s1 : 1 ≤ s) (s2 : s ≤ a - c) (t1 : 1 ≤ t) (t2 : t ≤ b - r) (hn3 : u < 0 ∨ z < 0 ∨ u ≥ s ∨ z ≥ t) (hG : Globs glT w) : Calls Tryz.prog 5 #[.agg #[.bool p.g, .string (natS p.n), .int .i64 p.x, .bool q.g, .string (natS q.n), .int .i64 q.x, .int .i64 y, .int .i64 a, .int .i64 b], .int .i64 c, .int .i64 r, .int .i64 s, .int .i64 t, .int .i64 u, .int .i64 z] w fun e w' => e = .returned (.bool true) ∧ Below w.heap.size w w' := by
  have h1 : y ≥ -4096 := (by omega)
  have i1 : true = true ↔ (y ≥ -4096) := ⟨fun _ => h1, fun _ => rfl⟩
  have h2 : y ≤ 4096 := (by omega)
  have i2 : true = true ↔ (y ≤ 4096) := ⟨fun _ => h2, fun _ => rfl⟩
  have h3 : a ≥ 1 := (by omega)
  have i3 : true = true ↔ (a ≥ 1) := ⟨fun _ => h3, fun _ => rfl⟩
  have h4 : a ≤ 65536 := (by omega)
  have i4 : true = true ↔ (a ≤ 65536) := ⟨fun _ => h4, fun _ => rfl⟩
  have h5 : b ≥ 1 := (by omega)
  have i5 : true = true ↔ (b ≥ 1) := ⟨fun _ => h5, fun _ => rfl⟩
  have h6 : b ≤ 65536 := (by omega)
  have i6 : true = true ↔ (b ≤ 65536) := ⟨fun _ => h6, fun _ => rfl⟩
  have h7 : c ≥ 0 := (by omega)
  have i7 : true = true ↔ (c ≥ 0) := ⟨fun _ => h7, fun _ => rfl⟩
  have h8 : c ≤ a - 1 := (by omega)
  have i8 : true = true ↔ (c ≤ a - 1) := ⟨fun _ => h8, fun _ => rfl⟩
  have h9 : r ≥ 0 := (by omega)
  have i9 : true = true ↔ (r ≥ 0) := ⟨fun _ => h9, fun _ => rfl⟩
  have h10 : r ≤ b - 1 := (by omega)
  have i10 : true = true ↔ (r ≤ b - 1) := ⟨fun _ => h10, fun _ => rfl⟩
  obtain ⟨b11, i11⟩ := bex (addE p (hz ((2 * c) - a) (y - 1)) = 0)
  obtain ⟨b12, i12⟩ := bex (y - 1 ≥ -4096)
  have h13 : y - 1 ≤ 4096 := (by omega)
  have i13 : true = true ↔ (y - 1 ≤ 4096) := ⟨fun _ => h13, fun _ => rfl⟩
  have h14 : 2 * a ≥ 1 := (by omega)
  have i14 : true = true ↔ (2 * a ≥ 1) := ⟨fun _ => h14, fun _ => rfl⟩
  obtain ⟨b15, i15⟩ := bex (2 * a ≤ 65536)
  have h16 : 2 * b ≥ 1 := (by omega)
  have i16 : true = true ↔ (2 * b ≥ 1) := ⟨fun _ => h16, fun _ => rfl⟩
  obtain ⟨b17, i17⟩ := bex (2 * b ≤ 65536)
  have h18 : s ≥ 1 := (by omega)
  have i18 : true = true ↔ (s ≥ 1) := ⟨fun _ => h18, fun _ => rfl⟩
  have h19 : s ≤ a - c := (by omega)
  have i19 : true = true ↔ (s ≤ a - c) := ⟨fun _ => h19, fun _ => rfl⟩
  have h20 : t ≥ 1 := (by omega)
  have i20 : true = true ↔ (t ≥ 1) := ⟨fun _ => h20, fun _ => rfl⟩
  have h21 : t ≤ b - r := (by omega)
  have i21 : true = true ↔ (t ≤ b - r) := ⟨fun _ => h21, fun _ => rfl⟩
  obtain ⟨b22, i22⟩ := bex ((s, t) = (a, b))
  obtain ⟨b23, i23⟩ := bex (u < 0)
  obtain ⟨b24, i24⟩ := bex (z < 0)
  obtain ⟨b25, i25⟩ := bex (u ≥ s)
  obtain ⟨b26, i26⟩ := bex (z ≥ t)
  obtain ⟨b27, i27⟩ := bex (addE p (hz (((2 * c) + s) - a) (y - 1)) = 0)
  obtain ⟨b28, i28⟩ := bex (addE q (hz ((b - (2 * r)) - t) (y - 1)) = 0)
  obtain ⟨b29, i29⟩ := bex (addE q (hz ((b - (2 * r)) - 2) (y - 1)) = 0)
  letI : Env := mkEnv glT [.bool p.g, .string (natS p.n), .int .i64 p.x, .bool q.g, .string (natS q.n), .int .i64 q.x, .int .i64 y, .int .i64 a, .int .i64 b, .int .i64 c, .int .i64 r, .int .i64 s, .int .i64 t, .int .i64 u, .int .i64 z, .int .i64 (a - 1), .int .i64 (b - 1), .int .i64 (2 * c), .int .i64 ((2 * c) - a), .bool (hz ((2 * c) - a) (y - 1)).g, .string (natS (hz ((2 * c) - a) (y - 1)).n), .int .i64 (hz ((2 * c) - a) (y - 1)).x, .bool (addD p (hz ((2 * c) - a) (y - 1))).g, .string (natS (addD p (hz ((2 * c) - a) (y - 1))).n), .int .i64 (addD p (hz ((2 * c) - a) (y - 1))).x, .int .i64 (addE p (hz ((2 * c) - a) (y - 1))), .int .i64 (2 * r), .int .i64 (b - (2 * r)), .int .i64 ((b - (2 * r)) - 2), .bool (hz ((b - (2 * r)) - 2) (y - 1)).g, .string (natS (hz ((b - (2 * r)) - 2) (y - 1)).n), .int .i64 (hz ((b - (2 * r)) - 2) (y - 1)).x, .bool (addD q (hz ((b - (2 * r)) - 2) (y - 1))).g, .string (natS (addD q (hz ((b - (2 * r)) - 2) (y - 1))).n), .int .i64 (addD q (hz ((b - (2 * r)) - 2) (y - 1))).x, .int .i64 (addE q (hz ((b - (2 * r)) - 2) (y - 1))), .int .i64 (y - 1), .int .i64 (2 * a), .int .i64 (2 * b), .int .i64 (a - c), .int .i64 (b - r), .int .i64 ((2 * c) + s), .int .i64 (((2 * c) + s) - a), .bool (hz (((2 * c) + s) - a) (y - 1)).g, .string (natS (hz (((2 * c) + s) - a) (y - 1)).n), .int .i64 (hz (((2 * c) + s) - a) (y - 1)).x, .bool (addD p (hz (((2 * c) + s) - a) (y - 1))).g, .string (natS (addD p (hz (((2 * c) + s) - a) (y - 1))).n), .int .i64 (addD p (hz (((2 * c) + s) - a) (y - 1))).x, .int .i64 (addE p (hz (((2 * c) + s) - a) (y - 1))), .int .i64 ((b - (2 * r)) - t), .bool (hz ((b - (2 * r)) - t) (y - 1)).g, .string (natS (hz ((b - (2 * r)) - t) (y - 1)).n), .int .i64 (hz ((b - (2 * r)) - t) (y - 1)).x, .bool (addD q (hz ((b - (2 * r)) - t) (y - 1))).g, .string (natS (addD q (hz ((b - (2 * r)) - t) (y - 1))).n), .int .i64 (addD q (hz ((b - (2 * r)) - t) (y - 1))).x, .int .i64 (addE q (hz ((b - (2 * r)) - t) (y - 1)))] rfl
  have hops : OpsT Tryz.prog (@Know.ops (Zm_C1N_k b11 b12 b15 b17 b22 b23 b24 b25 b26 b27 b28 b29)) := ⟨opt_geq_i rfl rfl i1,
    opt_leq_i rfl rfl i2,
    opt_geq_i rfl rfl i3,
    opt_leq_i rfl rfl i4,
    opt_geq_i rfl rfl i5,
    opt_leq_i rfl rfl i6,
    vopt_sub rfl rfl rfl rfl (by omega) ⟨by omega, by omega⟩,
    opt_geq_i rfl rfl i7,
    opt_leq_i rfl rfl i8,
    vopt_sub rfl rfl rfl rfl (by omega) ⟨by omega, by omega⟩,
    opt_geq_i rfl rfl i9,
    opt_leq_i rfl rfl i10,
    vopt_mul rfl rfl rfl rfl (by omega) ⟨by omega, by omega⟩,
    vopt_sub rfl rfl rfl rfl (by omega) ⟨by omega, by omega⟩,
    vopt_mul rfl rfl rfl rfl (by omega) ⟨by omega, by omega⟩,
    vopt_sub rfl rfl rfl rfl (by omega) ⟨by omega, by omega⟩,
    vopt_sub rfl rfl rfl rfl (by omega) ⟨by omega, by omega⟩,
    opt_neq_i rfl rfl i11,
    vopt_sub rfl rfl rfl rfl (by omega) ⟨by omega, by omega⟩,
    vopt_shl rfl rfl rfl rfl (by omega) ⟨by omega, by omega⟩,
    vopt_shl rfl rfl rfl rfl (by omega) ⟨by omega, by omega⟩,
    opt_geq_i rfl rfl i12,
    opt_leq_i rfl rfl i13,
    opt_geq_i rfl rfl i14,
    opt_leq_i rfl rfl i15,
    opt_geq_i rfl rfl i16,
    opt_leq_i rfl rfl i17,
    vopt_sub rfl rfl rfl rfl (by omega) ⟨by omega, by omega⟩,
    opt_geq_i rfl rfl i18,
    opt_leq_i rfl rfl i19,
    vopt_sub rfl rfl rfl rfl (by omega) ⟨by omega, by omega⟩,
    opt_geq_i rfl rfl i20,
    opt_leq_i rfl rfl i21,
    optI2_eql_i rfl rfl i22,
    opt_lss_i rfl rfl i23,
    opt_lss_i rfl rfl i24,
    opt_geq_i rfl rfl i25,
    opt_geq_i rfl rfl i26,
    vopt_add rfl rfl rfl rfl (by omega) ⟨by omega, by omega⟩,
    vopt_sub rfl rfl rfl rfl (by omega) ⟨by omega, by omega⟩,
    vopt_sub rfl rfl rfl rfl (by omega) ⟨by omega, by omega⟩,
    opt_neq_i rfl rfl i27,
    opt_neq_i rfl rfl i28,
    opt_neq_i rfl rfl i29,
    trivial⟩
  have hcalls : CallsT Tryz.prog (@Know.calls (Zm_C1N_k b11 b12 b15 b17 b22 b23 b24 b25 b26 b27 b28 b29)) := ⟨callt rfl rfl fun w hG => awake24_c w hG,
    callt rfl rfl fun w hG => GCheck_gs ⟨p, q⟩ ⟨hp, hq⟩ w hG,
    callt rfl rfl fun w hG => halves_z ((2 * c) - a) y w ⟨by omega, by omega⟩ ⟨by omega, by omega⟩ hG,
    callt rfl rfl fun w hG => DAdd_c p (hz ((2 * c) - a) (y - 1)) w hp (hz_Ok _ _) hG,
    callt rfl rfl fun w hG => halves_z ((b - (2 * r)) - 2) y w ⟨by omega, by omega⟩ ⟨by omega, by omega⟩ hG,
    callt rfl rfl fun w hG => DAdd_c q (hz ((b - (2 * r)) - 2) (y - 1)) w hq (hz_Ok _ _) hG,
    callt rfl rfl fun w hG => halves_z (((2 * c) + s) - a) y w ⟨by omega, by omega⟩ ⟨by omega, by omega⟩ hG,
    callt rfl rfl fun w hG => DAdd_c p (hz (((2 * c) + s) - a) (y - 1)) w hp (hz_Ok _ _) hG,
    callt rfl rfl fun w hG => halves_z ((b - (2 * r)) - t) y w ⟨by omega, by omega⟩ ⟨by omega, by omega⟩ hG,
    callt rfl rfl fun w hG => DAdd_c q (hz ((b - (2 * r)) - t) (y - 1)) w hq (hz_Ok _ _) hG,
    trivial⟩
  have fin : ∀ v, @comes (Zm_C1N_k b11 b12 b15 b17 b22 b23 b24 b25 b26 b27 b28 b29) Tryz.prog glT 3000 Zm_C1N_f Zm_C1N_a = some v → ground v = true → Ending.returned (gval v) = .returned (.bool true) → Calls Tryz.prog 5 #[.agg #[.bool p.g, .string (natS p.n), .int .i64 p.x, .bool q.g, .string (natS q.n), .int .i64 q.x, .int .i64 y, .int .i64 a, .int .i64 b], .int .i64 c, .int .i64 r, .int .i64 s, .int .i64 t, .int .i64 u, .int .i64 z] w fun e w' => e = .returned (.bool true) ∧ Below w.heap.size w w' := fun v h1 h2 h3 => (@sym_ok _ (Zm_C1N_k b11 b12 b15 b17 b22 b23 b24 b25 b26 b27 b28 b29) _ (@KnowOk.of _ (Zm_C1N_k b11 b12 b15 b17 b22 b23 b24 b25 b26 b27 b28 b29) _ hops hcalls) (by kernel_rfl) _ _ _ _ h1 rfl h2 _ hG).mono fun e w' h => ⟨h.1.trans h3, h.2⟩
  clear hops hcalls
  cases b11 with
  | true =>
    have h11 : addE p (hz ((2 * c) - a) (y - 1)) = 0 := i11.1 rfl
    cases b29 with
    | true =>
      exact absurd (i29.1 rfl) (fun k => hn1 ⟨h11, k⟩)
    | false =>
      have h29 : ¬ (addE q (hz ((b - (2 * r)) - 2) (y - 1)) = 0) := fun c => Bool.false_ne_true (i29.2 c)
      cases b12 with
      | true =>
        have h12 : y - 1 ≥ -4096 := i12.1 rfl
        cases b15 with
        | true =>
          have h15 : 2 * a ≤ 65536 := i15.1 rfl
          cases b17 with
          | true =>
            have h17 : 2 * b ≤ 65536 := i17.1 rfl
            cases b22 with
            | true =>
              have h22 : (s, t) = (a, b) := i22.1 rfl
              cases b23 with
              | true =>
                have h23 : u < 0 := i23.1 rfl
                exact fin _ (Zm_C1N_r1 b24 b25 b26 b27 b28) rfl rfl
              | false =>
                have h23 : ¬ (u < 0) := fun c => Bool.false_ne_true (i23.2 c)
                cases b24 with
                | true =>
                  have h24 : z < 0 := i24.1 rfl
                  exact fin _ (Zm_C1N_r2 b25 b26 b27 b28) rfl rfl
                | false =>
                  have h24 : ¬ (z < 0) := fun c => Bool.false_ne_true (i24.2 c)
                  cases b25 with
                  | true =>
                    have h25 : u ≥ s := i25.1 rfl
                    exact fin _ (Zm_C1N_r3 b26 b27 b28) rfl rfl
                  | false =>
                    have h25 : ¬ (u ≥ s) := fun c => Bool.false_ne_true (i25.2 c)
                    cases b26 with
                    | true =>
                      have h26 : z ≥ t := i26.1 rfl
                      exact fin _ (Zm_C1N_r4 b27 b28) rfl rfl
                    | false =>
                      exact absurd (i26.2 ((by omega))) Bool.false_ne_true
            | false =>
              have h22 : ¬ ((s, t) = (a, b)) := fun c => Bool.false_ne_true (i22.2 c)
              cases b27 with
              | true =>
                have h27 : addE p (hz (((2 * c) + s) - a) (y - 1)) = 0 := i27.1 rfl
                cases b28 with
                | true =>
                  have h28 : addE q (hz ((b - (2 * r)) - t) (y - 1)) = 0 := i28.1 rfl
                  cases b23 with
                  | true =>
                    have h23 : u < 0 := i23.1 rfl
                    exact fin _ (Zm_C1N_r5 b24 b25 b26) rfl rfl
                  | false =>
                    have h23 : ¬ (u < 0) := fun c => Bool.false_ne_true (i23.2 c)
                    cases b24 with
                    | true =>
                      have h24 : z < 0 := i24.1 rfl
                      exact fin _ (Zm_C1N_r6 b25 b26) rfl rfl
                    | false =>
                      have h24 : ¬ (z < 0) := fun c => Bool.false_ne_true (i24.2 c)
                      cases b25 with
                      | true =>
                        have h25 : u ≥ s := i25.1 rfl
                        exact fin _ (Zm_C1N_r7 b26) rfl rfl
                      | false =>
                        have h25 : ¬ (u ≥ s) := fun c => Bool.false_ne_true (i25.2 c)
                        cases b26 with
                        | true =>
                          have h26 : z ≥ t := i26.1 rfl
                          exact fin _ (Zm_C1N_r8) rfl rfl
                        | false =>
                          exact absurd (i26.2 ((by omega))) Bool.false_ne_true
                | false =>
                  have h28 : ¬ (addE q (hz ((b - (2 * r)) - t) (y - 1)) = 0) := fun c => Bool.false_ne_true (i28.2 c)
                  exact fin _ (Zm_C1N_r9 b23 b24 b25 b26) rfl rfl
              | false =>
                have h27 : ¬ (addE p (hz (((2 * c) + s) - a) (y - 1)) = 0) := fun c => Bool.false_ne_true (i27.2 c)
                exact fin _ (Zm_C1N_r10 b23 b24 b25 b26 b28) rfl rfl
          | false =>
            have h17 : ¬ (2 * b ≤ 65536) := fun c => Bool.false_ne_true (i17.2 c)
            cases b22 with
            | true =>
              have h22 : (s, t) = (a, b) := i22.1 rfl
              cases b23 with
              | true =>
                have h23 : u < 0 := i23.1 rfl
                exact fin _ (Zm_C1N_r11 b24 b25 b26 b27 b28) rfl rfl
              | false =>
                have h23 : ¬ (u < 0) := fun c => Bool.false_ne_true (i23.2 c)
                cases b24 with
                | true =>
                  have h24 : z < 0 := i24.1 rfl
                  exact fin _ (Zm_C1N_r12 b25 b26 b27 b28) rfl rfl
                | false =>
                  have h24 : ¬ (z < 0) := fun c => Bool.false_ne_true (i24.2 c)
                  cases b25 with
                  | true =>
                    have h25 : u ≥ s := i25.1 rfl
                    exact fin _ (Zm_C1N_r13 b26 b27 b28) rfl rfl
                  | false =>
                    have h25 : ¬ (u ≥ s) := fun c => Bool.false_ne_true (i25.2 c)
                    cases b26 with
                    | true =>
                      have h26 : z ≥ t := i26.1 rfl
                      exact fin _ (Zm_C1N_r14 b27 b28) rfl rfl
                    | false =>
                      exact absurd (i26.2 ((by omega))) Bool.false_ne_true
            | false =>
              have h22 : ¬ ((s, t) = (a, b)) := fun c => Bool.false_ne_true (i22.2 c)
              cases b27 with
              | true =>
                have h27 : addE p (hz (((2 * c) + s) - a) (y - 1)) = 0 := i27.1 rfl
                cases b28 with
                | true =>
                  have h28 : addE q (hz ((b - (2 * r)) - t) (y - 1)) = 0 := i28.1 rfl
                  cases b23 with
                  | true =>
                    have h23 : u < 0 := i23.1 rfl
                    exact fin _ (Zm_C1N_r15 b24 b25 b26) rfl rfl
                  | false =>
                    have h23 : ¬ (u < 0) := fun c => Bool.false_ne_true (i23.2 c)
                    cases b24 with
                    | true =>
                      have h24 : z < 0 := i24.1 rfl
                      exact fin _ (Zm_C1N_r16 b25 b26) rfl rfl
                    | false =>
                      have h24 : ¬ (z < 0) := fun c => Bool.false_ne_true (i24.2 c)
                      cases b25 with
                      | true =>
                        have h25 : u ≥ s := i25.1 rfl
                        exact fin _ (Zm_C1N_r17 b26) rfl rfl
                      | false =>
                        have h25 : ¬ (u ≥ s) := fun c => Bool.false_ne_true (i25.2 c)
                        cases b26 with
                        | true =>
                          have h26 : z ≥ t := i26.1 rfl
                          exact fin _ (Zm_C1N_r18) rfl rfl
                        | false =>
                          exact absurd (i26.2 ((by omega))) Bool.false_ne_true
                | false =>
                  have h28 : ¬ (addE q (hz ((b - (2 * r)) - t) (y - 1)) = 0) := fun c => Bool.false_ne_true (i28.2 c)
                  exact fin _ (Zm_C1N_r19 b23 b24 b25 b26) rfl rfl
              | false =>
                have h27 : ¬ (addE p (hz (((2 * c) + s) - a) (y - 1)) = 0) := fun c => Bool.false_ne_true (i27.2 c)
                exact fin _ (Zm_C1N_r20 b23 b24 b25 b26 b28) rfl rfl
        | false =>
          have h15 : ¬ (2 * a ≤ 65536) := fun c => Bool.false_ne_true (i15.2 c)
          cases b22 with
          | true =>
            have h22 : (s, t) = (a, b) := i22.1 rfl
            cases b23 with
            | true =>
              have h23 : u < 0 := i23.1 rfl
              exact fin _ (Zm_C1N_r21 b17 b24 b25 b26 b27 b28) rfl rfl
            | false =>
              have h23 : ¬ (u < 0) := fun c => Bool.false_ne_true (i23.2 c)
              cases b24 with
              | true =>
                have h24 : z < 0 := i24.1 rfl
                exact fin _ (Zm_C1N_r22 b17 b25 b26 b27 b28) rfl rfl
              | false =>
                have h24 : ¬ (z < 0) := fun c => Bool.false_ne_true (i24.2 c)
                cases b25 with
                | true =>
                  have h25 : u ≥ s := i25.1 rfl
                  exact fin _ (Zm_C1N_r23 b17 b26 b27 b28) rfl rfl
                | false =>
                  have h25 : ¬ (u ≥ s) := fun c => Bool.false_ne_true (i25.2 c)
                  cases b26 with
                  | true =>
                    have h26 : z ≥ t := i26.1 rfl
                    exact fin _ (Zm_C1N_r24 b17 b27 b28) rfl rfl
                  | false =>
                    exact absurd (i26.2 ((by omega))) Bool.false_ne_true
          | false =>
            have h22 : ¬ ((s, t) = (a, b)) := fun c => Bool.false_ne_true (i22.2 c)
            cases b27 with
            | true =>
              have h27 : addE p (hz (((2 * c) + s) - a) (y - 1)) = 0 := i27.1 rfl
              cases b28 with
              | true =>
                have h28 : addE q (hz ((b - (2 * r)) - t) (y - 1)) = 0 := i28.1 rfl
                cases b23 with
                | true =>
                  have h23 : u < 0 := i23.1 rfl
                  exact fin _ (Zm_C1N_r25 b17 b24 b25 b26) rfl rfl
                | false =>
                  have h23 : ¬ (u < 0) := fun c => Bool.false_ne_true (i23.2 c)
                  cases b24 with
                  | true =>
                    have h24 : z < 0 := i24.1 rfl
                    exact fin _ (Zm_C1N_r26 b17 b25 b26) rfl rfl
                  | false =>
                    have h24 : ¬ (z < 0) := fun c => Bool.false_ne_true (i24.2 c)
                    cases b25 with
                    | true =>
                      have h25 : u ≥ s := i25.1 rfl
                      exact fin _ (Zm_C1N_r27 b17 b26) rfl rfl
                    | false =>
                      have h25 : ¬ (u ≥ s) := fun c => Bool.false_ne_true (i25.2 c)
                      cases b26 with
                      | true =>
                        have h26 : z ≥ t := i26.1 rfl
                        exact fin _ (Zm_C1N_r28 b17) rfl rfl
                      | false =>
                        exact absurd (i26.2 ((by omega))) Bool.false_ne_true
              | false =>
                have h28 : ¬ (addE q (hz ((b - (2 * r)) - t) (y - 1)) = 0) := fun c => Bool.false_ne_true (i28.2 c)
                exact fin _ (Zm_C1N_r29 b17 b23 b24 b25 b26) rfl rfl
            | false =>
              have h27 : ¬ (addE p (hz (((2 * c) + s) - a) (y - 1)) = 0) := fun c => Bool.false_ne_true (i27.2 c)
              exact fin _ (Zm_C1N_r30 b17 b23 b24 b25 b26 b28) rfl rfl
      | false =>
        have h12 : ¬ (y - 1 ≥ -4096) := fun c => Bool.false_ne_true (i12.2 c)
        cases b22 with
        | true =>
          have h22 : (s, t) = (a, b) := i22.1 rfl
          cases b23 with
          | true =>
            have h23 : u < 0 := i23.1 rfl
            exact fin _ (Zm_C1N_r31 b15 b17 b24 b25 b26 b27 b28) rfl rfl
          | false =>
            have h23 : ¬ (u < 0) := fun c => Bool.false_ne_true (i23.2 c)
            cases b24 with
            | true =>
              have h24 : z < 0 := i24.1 rfl
              exact fin _ (Zm_C1N_r32 b15 b17 b25 b26 b27 b28) rfl rfl
            | false =>
              have h24 : ¬ (z < 0) := fun c => Bool.false_ne_true (i24.2 c)
              cases b25 with
              | true =>
                have h25 : u ≥ s := i25.1 rfl
                exact fin _ (Zm_C1N_r33 b15 b17 b26 b27 b28) rfl rfl
              | false =>
                have h25 : ¬ (u ≥ s) := fun c => Bool.false_ne_true (i25.2 c)
                cases b26 with
                | true =>
                  have h26 : z ≥ t := i26.1 rfl
                  exact fin _ (Zm_C1N_r34 b15 b17 b27 b28) rfl rfl
                | false =>
                  exact absurd (i26.2 ((by omega))) Bool.false_ne_true
        | false =>
          have h22 : ¬ ((s, t) = (a, b)) := fun c => Bool.false_ne_true (i22.2 c)
          cases b27 with
          | true =>
            have h27 : addE p (hz (((2 * c) + s) - a) (y - 1)) = 0 := i27.1 rfl
            cases b28 with
            | true =>
              have h28 : addE q (hz ((b - (2 * r)) - t) (y - 1)) = 0 := i28.1 rfl
              cases b23 with
              | true =>
                have h23 : u < 0 := i23.1 rfl
                exact fin _ (Zm_C1N_r35 b15 b17 b24 b25 b26) rfl rfl
              | false =>
                have h23 : ¬ (u < 0) := fun c => Bool.false_ne_true (i23.2 c)
                cases b24 with
                | true =>
                  have h24 : z < 0 := i24.1 rfl
                  exact fin _ (Zm_C1N_r36 b15 b17 b25 b26) rfl rfl
                | false =>
                  have h24 : ¬ (z < 0) := fun c => Bool.false_ne_true (i24.2 c)
                  cases b25 with
                  | true =>
                    have h25 : u ≥ s := i25.1 rfl
                    exact fin _ (Zm_C1N_r37 b15 b17 b26) rfl rfl
                  | false =>
                    have h25 : ¬ (u ≥ s) := fun c => Bool.false_ne_true (i25.2 c)
                    cases b26 with
                    | true =>
                      have h26 : z ≥ t := i26.1 rfl
                      exact fin _ (Zm_C1N_r38 b15 b17) rfl rfl
                    | false =>
                      exact absurd (i26.2 ((by omega))) Bool.false_ne_true
            | false =>
              have h28 : ¬ (addE q (hz ((b - (2 * r)) - t) (y - 1)) = 0) := fun c => Bool.false_ne_true (i28.2 c)
              exact fin _ (Zm_C1N_r39 b15 b17 b23 b24 b25 b26) rfl rfl
          | false =>
            have h27 : ¬ (addE p (hz (((2 * c) + s) - a) (y - 1)) = 0) := fun c => Bool.false_ne_true (i27.2 c)
            exact fin _ (Zm_C1N_r40 b15 b17 b23 b24 b25 b26 b28) rfl rfl
  | false =>
    have h11 : ¬ (addE p (hz ((2 * c) - a) (y - 1)) = 0) := fun c => Bool.false_ne_true (i11.2 c)
    cases b12 with
    | true =>
      have h12 : y - 1 ≥ -4096 := i12.1 rfl
      cases b15 with
      | true =>
        have h15 : 2 * a ≤ 65536 := i15.1 rfl
        cases b17 with
        | true =>
          have h17 : 2 * b ≤ 65536 := i17.1 rfl
          cases b22 with
          | true =>
            have h22 : (s, t) = (a, b) := i22.1 rfl
            cases b23 with
            | true =>
              have h23 : u < 0 := i23.1 rfl
              exact fin _ (Zm_C1N_r41 b24 b25 b26 b27 b28 b29) rfl rfl
            | false =>
              have h23 : ¬ (u < 0) := fun c => Bool.false_ne_true (i23.2 c)
              cases b24 with
              | true =>
                have h24 : z < 0 := i24.1 rfl
                exact fin _ (Zm_C1N_r42 b25 b26 b27 b28 b29) rfl rfl
              | false =>
                have h24 : ¬ (z < 0) := fun c => Bool.false_ne_true (i24.2 c)
                cases b25 with
                | true =>
                  have h25 : u ≥ s := i25.1 rfl
                  exact fin _ (Zm_C1N_r43 b26 b27 b28 b29) rfl rfl
                | false =>
                  have h25 : ¬ (u ≥ s) := fun c => Bool.false_ne_true (i25.2 c)
                  cases b26 with
                  | true =>
                    have h26 : z ≥ t := i26.1 rfl
                    exact fin _ (Zm_C1N_r44 b27 b28 b29) rfl rfl
                  | false =>
                    exact absurd (i26.2 ((by omega))) Bool.false_ne_true
          | false =>
            have h22 : ¬ ((s, t) = (a, b)) := fun c => Bool.false_ne_true (i22.2 c)
            cases b27 with
            | true =>
              have h27 : addE p (hz (((2 * c) + s) - a) (y - 1)) = 0 := i27.1 rfl
              cases b28 with
              | true =>
                have h28 : addE q (hz ((b - (2 * r)) - t) (y - 1)) = 0 := i28.1 rfl
                cases b23 with
                | true =>
                  have h23 : u < 0 := i23.1 rfl
                  exact fin _ (Zm_C1N_r45 b24 b25 b26 b29) rfl rfl
                | false =>
                  have h23 : ¬ (u < 0) := fun c => Bool.false_ne_true (i23.2 c)
                  cases b24 with
                  | true =>
                    have h24 : z < 0 := i24.1 rfl
                    exact fin _ (Zm_C1N_r46 b25 b26 b29) rfl rfl
                  | false =>
                    have h24 : ¬ (z < 0) := fun c => Bool.false_ne_true (i24.2 c)
                    cases b25 with
                    | true =>
                      have h25 : u ≥ s := i25.1 rfl
                      exact fin _ (Zm_C1N_r47 b26 b29) rfl rfl
                    | false =>
                      have h25 : ¬ (u ≥ s) := fun c => Bool.false_ne_true (i25.2 c)
                      cases b26 with
                      | true =>
                        have h26 : z ≥ t := i26.1 rfl
                        exact fin _ (Zm_C1N_r48 b29) rfl rfl
                      | false =>
                        exact absurd (i26.2 ((by omega))) Bool.false_ne_true
              | false =>
                have h28 : ¬ (addE q (hz ((b - (2 * r)) - t) (y - 1)) = 0) := fun c => Bool.false_ne_true (i28.2 c)
                exact fin _ (Zm_C1N_r49 b23 b24 b25 b26 b29) rfl rfl
            | false =>
              have h27 : ¬ (addE p (hz (((2 * c) + s) - a) (y - 1)) = 0) := fun c => Bool.false_ne_true (i27.2 c)
              exact fin _ (Zm_C1N_r50 b23 b24 b25 b26 b28 b29) rfl rfl
        | false =>
          have h17 : ¬ (2 * b ≤ 65536) := fun c => Bool.false_ne_true (i17.2 c)
          cases b22 with
          | true =>
            have h22 : (s, t) = (a, b) := i22.1 rfl
            cases b23 with
            | true =>
              have h23 : u < 0 := i23.1 rfl
              exact fin _ (Zm_C1N_r51 b24 b25 b26 b27 b28 b29) rfl rfl
            | false =>
              have h23 : ¬ (u < 0) := fun c => Bool.false_ne_true (i23.2 c)
              cases b24 with
              | true =>
                have h24 : z < 0 := i24.1 rfl
                exact fin _ (Zm_C1N_r52 b25 b26 b27 b28 b29) rfl rfl
              | false =>
                have h24 : ¬ (z < 0) := fun c => Bool.false_ne_true (i24.2 c)
                cases b25 with
                | true =>
                  have h25 : u ≥ s := i25.1 rfl
                  exact fin _ (Zm_C1N_r53 b26 b27 b28 b29) rfl rfl
                | false =>
                  have h25 : ¬ (u ≥ s) := fun c => Bool.false_ne_true (i25.2 c)
                  cases b26 with
                  | true =>
                    have h26 : z ≥ t := i26.1 rfl
                    exact fin _ (Zm_C1N_r54 b27 b28 b29) rfl rfl
                  | false =>
                    exact absurd (i26.2 ((by omega))) Bool.false_ne_true
          | false =>
            have h22 : ¬ ((s, t) = (a, b)) := fun c => Bool.false_ne_true (i22.2 c)
            cases b27 with
            | true =>
              have h27 : addE p (hz (((2 * c) + s) - a) (y - 1)) = 0 := i27.1 rfl
              cases b28 with
              | true =>
                have h28 : addE q (hz ((b - (2 * r)) - t) (y - 1)) = 0 := i28.1 rfl
                cases b23 with
                | true =>
                  have h23 : u < 0 := i23.1 rfl
                  exact fin _ (Zm_C1N_r55 b24 b25 b26 b29) rfl rfl
                | false =>
                  have h23 : ¬ (u < 0) := fun c => Bool.false_ne_true (i23.2 c)
                  cases b24 with
                  | true =>
                    have h24 : z < 0 := i24.1 rfl
                    exact fin _ (Zm_C1N_r56 b25 b26 b29) rfl rfl
                  | false =>
                    have h24 : ¬ (z < 0) := fun c => Bool.false_ne_true (i24.2 c)
                    cases b25 with
                    | true =>
                      have h25 : u ≥ s := i25.1 rfl
                      exact fin _ (Zm_C1N_r57 b26 b29) rfl rfl
                    | false =>
                      have h25 : ¬ (u ≥ s) := fun c => Bool.false_ne_true (i25.2 c)
                      cases b26 with
                      | true =>
                        have h26 : z ≥ t := i26.1 rfl
                        exact fin _ (Zm_C1N_r58 b29) rfl rfl
                      | false =>
                        exact absurd (i26.2 ((by omega))) Bool.false_ne_true
              | false =>
                have h28 : ¬ (addE q (hz ((b - (2 * r)) - t) (y - 1)) = 0) := fun c => Bool.false_ne_true (i28.2 c)
                exact fin _ (Zm_C1N_r59 b23 b24 b25 b26 b29) rfl rfl
            | false =>
              have h27 : ¬ (addE p (hz (((2 * c) + s) - a) (y - 1)) = 0) := fun c => Bool.false_ne_true (i27.2 c)
              exact fin _ (Zm_C1N_r60 b23 b24 b25 b26 b28 b29) rfl rfl
      | false =>
        have h15 : ¬ (2 * a ≤ 65536) := fun c => Bool.false_ne_true (i15.2 c)
        cases b22 with
        | true =>
          have h22 : (s, t) = (a, b) := i22.1 rfl
          cases b23 with
          | true =>
            have h23 : u < 0 := i23.1 rfl
            exact fin _ (Zm_C1N_r61 b17 b24 b25 b26 b27 b28 b29) rfl rfl
          | false =>
            have h23 : ¬ (u < 0) := fun c => Bool.false_ne_true (i23.2 c)
            cases b24 with
            | true =>
              have h24 : z < 0 := i24.1 rfl
              exact fin _ (Zm_C1N_r62 b17 b25 b26 b27 b28 b29) rfl rfl
            | false =>
              have h24 : ¬ (z < 0) := fun c => Bool.false_ne_true (i24.2 c)
              cases b25 with
              | true =>
                have h25 : u ≥ s := i25.1 rfl
                exact fin _ (Zm_C1N_r63 b17 b26 b27 b28 b29) rfl rfl
              | false =>
                have h25 : ¬ (u ≥ s) := fun c => Bool.false_ne_true (i25.2 c)
                cases b26 with
                | true =>
                  have h26 : z ≥ t := i26.1 rfl
                  exact fin _ (Zm_C1N_r64 b17 b27 b28 b29) rfl rfl
                | false =>
                  exact absurd (i26.2 ((by omega))) Bool.false_ne_true
        | false =>
          have h22 : ¬ ((s, t) = (a, b)) := fun c => Bool.false_ne_true (i22.2 c)
          cases b27 with
          | true =>
            have h27 : addE p (hz (((2 * c) + s) - a) (y - 1)) = 0 := i27.1 rfl
            cases b28 with
            | true =>
              have h28 : addE q (hz ((b - (2 * r)) - t) (y - 1)) = 0 := i28.1 rfl
              cases b23 with
              | true =>
                have h23 : u < 0 := i23.1 rfl
                exact fin _ (Zm_C1N_r65 b17 b24 b25 b26 b29) rfl rfl
              | false =>
                have h23 : ¬ (u < 0) := fun c => Bool.false_ne_true (i23.2 c)
                cases b24 with
                | true =>
                  have h24 : z < 0 := i24.1 rfl
                  exact fin _ (Zm_C1N_r66 b17 b25 b26 b29) rfl rfl
                | false =>
                  have h24 : ¬ (z < 0) := fun c => Bool.false_ne_true (i24.2 c)
                  cases b25 with
                  | true =>
                    have h25 : u ≥ s := i25.1 rfl
                    exact fin _ (Zm_C1N_r67 b17 b26 b29) rfl rfl
                  | false =>
                    have h25 : ¬ (u ≥ s) := fun c => Bool.false_ne_true (i25.2 c)
                    cases b26 with
                    | true =>
                      have h26 : z ≥ t := i26.1 rfl
                      exact fin _ (Zm_C1N_r68 b17 b29) rfl rfl
                    | false =>
                      exact absurd (i26.2 ((by omega))) Bool.false_ne_true
            | false =>
              have h28 : ¬ (addE q (hz ((b - (2 * r)) - t) (y - 1)) = 0) := fun c => Bool.false_ne_true (i28.2 c)
              exact fin _ (Zm_C1N_r69 b17 b23 b24 b25 b26 b29) rfl rfl
          | false =>
            have h27 : ¬ (addE p (hz (((2 * c) + s) - a) (y - 1)) = 0) := fun c => Bool.false_ne_true (i27.2 c)
            exact fin _ (Zm_C1N_r70 b17 b23 b24 b25 b26 b28 b29) rfl rfl
    | false =>
      have h12 : ¬ (y - 1 ≥ -4096) := fun c => Bool.false_ne_true (i12.2 c)
      cases b22 with
      | true =>
        have h22 : (s, t) = (a, b) := i22.1 rfl
        cases b23 with
        | true =>
          have h23 : u < 0 := i23.1 rfl
          exact fin _ (Zm_C1N_r71 b15 b17 b24 b25 b26 b27 b28 b29) rfl rfl
        | false =>
          have h23 : ¬ (u < 0) := fun c => Bool.false_ne_true (i23.2 c)
          cases b24 with
          | true =>
            have h24 : z < 0 := i24.1 rfl
            exact fin _ (Zm_C1N_r72 b15 b17 b25 b26 b27 b28 b29) rfl rfl
          | false =>
            have h24 : ¬ (z < 0) := fun c => Bool.false_ne_true (i24.2 c)
            cases b25 with
            | true =>
              have h25 : u ≥ s := i25.1 rfl
              exact fin _ (Zm_C1N_r73 b15 b17 b26 b27 b28 b29) rfl rfl
            | false =>
              have h25 : ¬ (u ≥ s) := fun c => Bool.false_ne_true (i25.2 c)
              cases b26 with
              | true =>
                have h26 : z ≥ t := i26.1 rfl
                exact fin _ (Zm_C1N_r74 b15 b17 b27 b28 b29) rfl rfl
              | false =>
                exact absurd (i26.2 ((by omega))) Bool.false_ne_true
      | false =>
        have h22 : ¬ ((s, t) = (a, b)) := fun c => Bool.false_ne_true (i22.2 c)
        cases b27 with
        | true =>
          have h27 : addE p (hz (((2 * c) + s) - a) (y - 1)) = 0 := i27.1 rfl
          cases b28 with
          | true =>
            have h28 : addE q (hz ((b - (2 * r)) - t) (y - 1)) = 0 := i28.1 rfl
            cases b23 with
            | true =>
              have h23 : u < 0 := i23.1 rfl
              exact fin _ (Zm_C1N_r75 b15 b17 b24 b25 b26 b29) rfl rfl
            | false =>
              have h23 : ¬ (u < 0) := fun c => Bool.false_ne_true (i23.2 c)
              cases b24 with
              | true =>
                have h24 : z < 0 := i24.1 rfl
                exact fin _ (Zm_C1N_r76 b15 b17 b25 b26 b29) rfl rfl
              | false =>
                have h24 : ¬ (z < 0) := fun c => Bool.false_ne_true (i24.2 c)
                cases b25 with
                | true =>
                  have h25 : u ≥ s := i25.1 rfl
                  exact fin _ (Zm_C1N_r77 b15 b17 b26 b29) rfl rfl
                | false =>
                  have h25 : ¬ (u ≥ s) := fun c => Bool.false_ne_true (i25.2 c)
                  cases b26 with
                  | true =>
                    have h26 : z ≥ t := i26.1 rfl
                    exact fin _ (Zm_C1N_r78 b15 b17 b29) rfl rfl
                  | false =>
                    exact absurd (i26.2 ((by omega))) Bool.false_ne_true
          | false =>
            have h28 : ¬ (addE q (hz ((b - (2 * r)) - t) (y - 1)) = 0) := fun c => Bool.false_ne_true (i28.2 c)
            exact fin _ (Zm_C1N_r79 b15 b17 b23 b24 b25 b26 b29) rfl rfl
        | false =>
          have h27 : ¬ (addE p (hz (((2 * c) + s) - a) (y - 1)) = 0) := fun c => Bool.false_ne_true (i27.2 c)
          exact fin _ (Zm_C1N_r80 b15 b17 b23 b24 b25 b26 b28 b29) rfl rfl

@[reducible] def Zm_C2N_f : FuncId := 5
@[reducible] def Zm_C2N_a : List AV := [.agg [.sym 0, .sym 1, .sym 2, .sym 3, .sym 4, .sym 5, .sym 6, .sym 7, .sym 8], .sym 9, .sym 10, .sym 11, .sym 12, .sym 13, .sym 14]
@[reducible] noncomputable def Zm_C2N_k (b11 b12 b15 b17 b23 b24 b25 : Bool) : Know := ⟨[([0, 16, 3], [.sym 6, .lit (.int .i64 (-4096))], .lit (.bool true)),
  ([0, 14, 3], [.sym 6, .lit (.int .i64 4096)], .lit (.bool true)),
  ([0, 16, 3], [.sym 7, .lit (.int .i64 1)], .lit (.bool true)),
  ([0, 14, 3], [.sym 7, .lit (.int .i64 65536)], .lit (.bool true)),
  ([0, 16, 3], [.sym 8, .lit (.int .i64 1)], .lit (.bool true)),
  ([0, 14, 3], [.sym 8, .lit (.int .i64 65536)], .lit (.bool true)),
  ([0, 1, 3], [.sym 7, .lit (.int .i64 1)], .sym 15),
  ([0, 16, 3], [.sym 9, .lit (.int .i64 0)], .lit (.bool true)),
  ([0, 14, 3], [.sym 9, .sym 15], .lit (.bool true)),
  ([0, 1, 3], [.sym 8, .lit (.int .i64 1)], .sym 16),
  ([0, 16, 3], [.sym 10, .lit (.int .i64 0)], .lit (.bool true)),
  ([0, 14, 3], [.sym 10, .sym 16], .lit (.bool true)),
  ([0, 2, 3], [.lit (.int .i64 2), .sym 9], .sym 17),
  ([0, 1, 3], [.sym 17, .sym 7], .sym 18),
  ([0, 2, 3], [.lit (.int .i64 2), .sym 10], .sym 26),
  ([0, 1, 3], [.sym 8, .sym 26], .sym 27),
  ([0, 1, 3], [.sym 27, .lit (.int .i64 2)], .sym 28),
  ([0, 12, 30], [.sym 25, .lit (.int .i64 0)], .lit (.bool (!b11))),
  ([0, 1, 3], [.sym 6, .lit (.int .i64 1)], .sym 36),
  ([0, 8, 3], [.sym 7, .lit (.int .i64 1)], .sym 37),
  ([0, 8, 3], [.sym 8, .lit (.int .i64 1)], .sym 38),
  ([0, 16, 3], [.sym 36, .lit (.int .i64 (-4096))], .lit (.bool b12)),
  ([0, 14, 3], [.sym 36, .lit (.int .i64 4096)], .lit (.bool true)),
  ([0, 16, 3], [.sym 37, .lit (.int .i64 1)], .lit (.bool true)),
  ([0, 14, 3], [.sym 37, .lit (.int .i64 65536)], .lit (.bool b15)),
  ([0, 16, 3], [.sym 38, .lit (.int .i64 1)], .lit (.bool true)),
  ([0, 14, 3], [.sym 38, .lit (.int .i64 65536)], .lit (.bool b17)),
  ([0, 1, 3], [.sym 7, .sym 9], .sym 39),
  ([0, 16, 3], [.sym 11, .lit (.int .i64 1)], .lit (.bool true)),
  ([0, 14, 3], [.sym 11, .sym 39], .lit (.bool true)),
  ([0, 1, 3], [.sym 8, .sym 10], .sym 40),
  ([0, 16, 3], [.sym 12, .lit (.int .i64 1)], .lit (.bool true)),
  ([0, 14, 3], [.sym 12, .sym 40], .lit (.bool true)),
  ([0, 11, 100], [.agg [.sym 11, .sym 12], .agg [.sym 7, .sym 8]], .lit (.bool false)),
  ([0, 0, 3], [.sym 17, .sym 11], .sym 41),
  ([0, 1, 3], [.sym 41, .sym 7], .sym 42),
  ([0, 1, 3], [.sym 27, .sym 12], .sym 50),
  ([0, 12, 30], [.sym 49, .lit (.int .i64 0)], .lit (.bool (!b23))),
  ([0, 12, 30], [.sym 57, .lit (.int .i64 0)], .lit (.bool (!b24))),
  ([0, 12, 30], [.sym 35, .lit (.int .i64 0)], .lit (.bool (!b25)))],
  [(13, [], .lit (.bool true)),
  (25, [.agg [.sym 0, .sym 1, .sym 2, .sym 3, .sym 4, .sym 5]], .lit (.int .i64 0)),
  (50, [.sym 18, .sym 6], .agg [.sym 19, .sym 20, .sym 21]),
  (20, [.agg [.sym 0, .sym 1, .sym 2], .agg [.sym 19, .sym 20, .sym 21]], .tup [.agg [.sym 22, .sym 23, .sym 24], .sym 25]),
  (50, [.sym 28, .sym 6], .agg [.sym 29, .sym 30, .sym 31]),
  (20, [.agg [.sym 3, .sym 4, .sym 5], .agg [.sym 29, .sym 30, .sym 31]], .tup [.agg [.sym 32, .sym 33, .sym 34], .sym 35]),
  (50, [.sym 42, .sym 6], .agg [.sym 43, .sym 44, .sym 45]),
  (20, [.agg [.sym 0, .sym 1, .sym 2], .agg [.sym 43, .sym 44, .sym 45]], .tup [.agg [.sym 46, .sym 47, .sym 48], .sym 49]),
  (50, [.sym 50, .sym 6], .agg [.sym 51, .sym 52, .sym 53]),
  (20, [.agg [.sym 3, .sym 4, .sym 5], .agg [.sym 51, .sym 52, .sym 53]], .tup [.agg [.sym 54, .sym 55, .sym 56], .sym 57])]⟩
theorem Zm_C2N_r1 : @comes (Zm_C2N_k true true true true true false false) Tryz.prog glT 3000 Zm_C2N_f Zm_C2N_a = some (.lit (.bool true)) := by kernel_rfl
theorem Zm_C2N_r2 (b24 : Bool) : @comes (Zm_C2N_k true true true true false b24 false) Tryz.prog glT 3000 Zm_C2N_f Zm_C2N_a = some (.lit (.bool true)) := by kernel_rfl
theorem Zm_C2N_r3 : @comes (Zm_C2N_k true true true false true false false) Tryz.prog glT 3000 Zm_C2N_f Zm_C2N_a = some (.lit (.bool true)) := by kernel_rfl
theorem Zm_C2N_r4 (b24 : Bool) : @comes (Zm_C2N_k true true true false false b24 false) Tryz.prog glT 3000 Zm_C2N_f Zm_C2N_a = some (.lit (.bool true)) := by kernel_rfl
theorem Zm_C2N_r5 (b17 : Bool) : @comes (Zm_C2N_k true true false b17 true false false) Tryz.prog glT 3000 Zm_C2N_f Zm_C2N_a = some (.lit (.bool true)) := by kernel_rfl
theorem Zm_C2N_r6 (b17 b24 : Bool) : @comes (Zm_C2N_k true true false b17 false b24 false) Tryz.prog glT 3000 Zm_C2N_f Zm_C2N_a = some (.lit (.bool true)) := by kernel_rfl
theorem Zm_C2N_r7 (b15 b17 : Bool) : @comes (Zm_C2N_k true false b15 b17 true false false) Tryz.prog glT 3000 Zm_C2N_f Zm_C2N_a = some (.lit (.bool true)) := by kernel_rfl
theorem Zm_C2N_r8 (b15 b17 b24 : Bool) : @comes (Zm_C2N_k true false b15 b17 false b24 false) Tryz.prog glT 3000 Zm_C2N_f Zm_C2N_a = some (.lit (.bool true)) := by kernel_rfl
theorem Zm_C2N_r9 (b25 : Bool) : @comes (Zm_C2N_k false true true true true false b25) Tryz.prog glT 3000 Zm_C2N_f Zm_C2N_a = some (.lit (.bool true)) := by kernel_rfl
theorem Zm_C2N_r10 (b24 b25 : Bool) : @comes (Zm_C2N_k false true true true false b24 b25) Tryz.prog glT 3000 Zm_C2N_f Zm_C2N_a = some (.lit (.bool true)) := by kernel_rfl
theorem Zm_C2N_r11 (b25 : Bool) : @comes (Zm_C2N_k false true true false true false b25) Tryz.prog glT 3000 Zm_C2N_f Zm_C2N_a = some (.lit (.bool true)) := by kernel_rfl
theorem Zm_C2N_r12 (b24 b25 : Bool) : @comes (Zm_C2N_k false true true false false b24 b25) Tryz.prog glT 3000 Zm_C2N_f Zm_C2N_a = some (.lit (.bool true)) := by kernel_rfl
theorem Zm_C2N_r13 (b17 b25 : Bool) : @comes (Zm_C2N_k false true false b17 true false b25) Tryz.prog glT 3000 Zm_C2N_f Zm_C2N_a = some (.lit (.bool true)) := by kernel_rfl
theorem Zm_C2N_r14 (b17 b24 b25 : Bool) : @comes (Zm_C2N_k false true false b17 false b24 b25) Tryz.prog glT 3000 Zm_C2N_f Zm_C2N_a = some (.lit (.bool true)) := by kernel_rfl
theorem Zm_C2N_r15 (b15 b17 b25 : Bool) : @comes (Zm_C2N_k false false b15 b17 true false b25) Tryz.prog glT 3000 Zm_C2N_f Zm_C2N_a = some (.lit (.bool true)) := by kernel_rfl
theorem Zm_C2N_r16 (b15 b17 b24 b25 : Bool) : @comes (Zm_C2N_k false false b15 b17 false b24 b25) Tryz.prog glT 3000 Zm_C2N_f Zm_C2N_a = some (.lit (.bool true)) := by kernel_rfl

set_option maxRecDepth 100000 in
set_option maxHeartbeats 4000000 in
theorem Zm_C2N (p q : Dy) (y a b c r s t u z : Int) (w : World) (hp : p.Ok) (hq : q.Ok) (e1 : -4096 ≤ y) (e2 : y ≤ 4096) (a1 : 1 ≤ a) (a2 : a ≤ 65536) (b1 : 1 ≤ b) (b2 : b ≤ 65536) (c1 : 0 ≤ c) (c2 : c ≤ a - 1) (r1 : 0 ≤ r) (r2 : r ≤ b - 1) (hn1 : ¬ (addE p (hz ((2 * c) - a) (y - 1)) = 0 ∧ addE q (hz ((b - (2 * r)) - 2) (y - 1)) = 0)) (s1 : 1 ≤ s) (s2 : s ≤ a - c) (t1 : 1 ≤ t) (t2 : t ≤ b - r) (u1 : 0 ≤ u) (u2 : u < s) (v1 : 0 ≤ z) (v2 : z < t) (hsp : ¬ (s, t) = (a, b)) (hn4 : ¬ (addE p (hz (((2 * c) + s) - a) (y - 1)) = 0 ∧ addE q (hz ((b - (2 * r)) - t) (y - 1)) = 0)) (hG : Globs glT w) : Calls Tryz.prog 5 #[.agg #[.bool p.g, .string (natS p.n), .int .i64 p.x, .bool q.g, .string (natS q.n), .int .i64 q.x, .int .i64 y, .int .i64 a, .int .i64 b], .int .i64 c, .int .i64 r, .int .i64 s, .int .i64 t, .int .i64 u, .int .i64 z] w fun e w' => e = .returned (.bool true) ∧ Below w.heap.size w w' := by
  have h1 : y ≥ -4096 := (by omega)
  have i1 : true = true ↔ (y ≥ -4096) := ⟨fun _ => h1, fun _ => rfl⟩
  have h2 : y ≤ 4096 := (by omega)
  have i2 : true = true ↔ (y ≤ 4096) := ⟨fun _ => h2, fun _ => rfl⟩
  have h3 : a ≥ 1 := (by omega)
  have i3 : true = true ↔ (a ≥ 1) := ⟨fun _ => h3, fun _ => rfl⟩
  have h4 : a ≤ 65536 := (by omega)
  have i4 : true = true ↔ (a ≤ 65536) := ⟨fun _ => h4, fun _ => rfl⟩
  have h5 : b ≥ 1 := (by omega)
  have i5 : true = true ↔ (b ≥ 1) := ⟨fun _ => h5, fun _ => rfl⟩
  have h6 : b ≤ 65536 := (by omega)
  have i6 : true = true ↔ (b ≤ 65536) := ⟨fun _ => h6, fun _ => rfl⟩
  have h7 : c ≥ 0 := (by omega)
  have i7 : true = true ↔ (c ≥ 0) := ⟨fun _ => h7, fun _ => rfl⟩
  have h8 : c ≤ a - 1 := (by omega)
  have i8 : true = true ↔ (c ≤ a - 1) := ⟨fun _ => h8, fun _ => rfl⟩
  have h9 : r ≥ 0 := (by omega)
  have i9 : true = true ↔ (r ≥ 0) := ⟨fun _ => h9, fun _ => rfl⟩
  have h10 : r ≤ b - 1 := (by omega)
  have i10 : true = true ↔ (r ≤ b - 1) := ⟨fun _ => h10, fun _ => rfl⟩
  obtain ⟨b11, i11⟩ := bex (addE p (hz ((2 * c) - a) (y - 1)) = 0)
  obtain ⟨b12, i12⟩ := bex (y - 1 ≥ -4096)
  have h13 : y - 1 ≤ 4096 := (by omega)
  have i13 : true = true ↔ (y - 1 ≤ 4096) := ⟨fun _ => h13, fun _ => rfl⟩
  have h14 : 2 * a ≥ 1 := (by omega)
  have i14 : true = true ↔ (2 * a ≥ 1) := ⟨fun _ => h14, fun _ => rfl⟩
  obtain ⟨b15, i15⟩ := bex (2 * a ≤ 65536)
  have h16 : 2 * b ≥ 1 := (by omega)
  have i16 : true = true ↔ (2 * b ≥ 1) := ⟨fun _ => h16, fun _ => rfl⟩
  obtain ⟨b17, i17⟩ := bex (2 * b ≤ 65536)
  have h18 : s ≥ 1 := (by omega)
  have i18 : true = true ↔ (s ≥ 1) := ⟨fun _ => h18, fun _ => rfl⟩
  have h19 : s ≤ a - c := (by omega)
  have i19 : true = true ↔ (s ≤ a - c) := ⟨fun _ => h19, fun _ => rfl⟩
  have h20 : t ≥ 1 := (by omega)
  have i20 : true = true ↔ (t ≥ 1) := ⟨fun _ => h20, fun _ => rfl⟩
  have h21 : t ≤ b - r := (by omega)
  have i21 : true = true ↔ (t ≤ b - r) := ⟨fun _ => h21, fun _ => rfl⟩
  have h22 : ¬ ((s, t) = (a, b)) := hsp
  have i22 : false = true ↔ ((s, t) = (a, b)) := ⟨fun k => absurd k Bool.false_ne_true, fun k => absurd k h22⟩
  obtain ⟨b23, i23⟩ := bex (addE p (hz (((2 * c) + s) - a) (y - 1)) = 0)
  obtain ⟨b24, i24⟩ := bex (addE q (hz ((b - (2 * r)) - t) (y - 1)) = 0)
  obtain ⟨b25, i25⟩ := bex (addE q (hz ((b - (2 * r)) - 2) (y - 1)) = 0)
  letI : Env := mkEnv glT [.bool p.g, .string (natS p.n), .int .i64 p.x, .bool q.g, .string (natS q.n), .int .i64 q.x, .int .i64 y, .int .i64 a, .int .i64 b, .int .i64 c, .int .i64 r, .int .i64 s, .int .i64 t, .int .i64 u, .int .i64 z, .int .i64 (a - 1), .int .i64 (b - 1), .int .i64 (2 * c), .int .i64 ((2 * c) - a), .bool (hz ((2 * c) - a) (y - 1)).g, .string (natS (hz ((2 * c) - a) (y - 1)).n), .int .i64 (hz ((2 * c) - a) (y - 1)).x, .bool (addD p (hz ((2 * c) - a) (y - 1))).g, .string (natS (addD p (hz ((2 * c) - a) (y - 1))).n), .int .i64 (addD p (hz ((2 * c) - a) (y - 1))).x, .int .i64 (addE p (hz ((2 * c) - a) (y - 1))), .int .i64 (2 * r), .int .i64 (b - (2 * r)), .int .i64 ((b - (2 * r)) - 2), .bool (hz ((b - (2 * r)) - 2) (y - 1)).g, .string (natS (hz ((b - (2 * r)) - 2) (y - 1)).n), .int .i64 (hz ((b - (2 * r)) - 2) (y - 1)).x, .bool (addD q (hz ((b - (2 * r)) - 2) (y - 1))).g, .string (natS (addD q (hz ((b - (2 * r)) - 2) (y - 1))).n), .int .i64 (addD q (hz ((b - (2 * r)) - 2) (y - 1))).x, .int .i64 (addE q (hz ((b - (2 * r)) - 2) (y - 1))), .int .i64 (y - 1), .int .i64 (2 * a), .int .i64 (2 * b), .int .i64 (a - c), .int .i64 (b - r), .int .i64 ((2 * c) + s), .int .i64 (((2 * c) + s) - a), .bool (hz (((2 * c) + s) - a) (y - 1)).g, .string (natS (hz (((2 * c) + s) - a) (y - 1)).n), .int .i64 (hz (((2 * c) + s) - a) (y - 1)).x, .bool (addD p (hz (((2 * c) + s) - a) (y - 1))).g, .string (natS (addD p (hz (((2 * c) + s) - a) (y - 1))).n), .int .i64 (addD p (hz (((2 * c) + s) - a) (y - 1))).x, .int .i64 (addE p (hz (((2 * c) + s) - a) (y - 1))), .int .i64 ((b - (2 * r)) - t), .bool (hz ((b - (2 * r)) - t) (y - 1)).g, .string (natS (hz ((b - (2 * r)) - t) (y - 1)).n), .int .i64 (hz ((b - (2 * r)) - t) (y - 1)).x, .bool (addD q (hz ((b - (2 * r)) - t) (y - 1))).g, .string (natS (addD q (hz ((b - (2 * r)) - t) (y - 1))).n), .int .i64 (addD q (hz ((b - (2 * r)) - t) (y - 1))).x, .int .i64 (addE q (hz ((b - (2 * r)) - t) (y - 1)))] rfl
  have hops : OpsT Tryz.prog (@Know.ops (Zm_C2N_k b11 b12 b15 b17 b23 b24 b25)) := ⟨opt_geq_i rfl rfl i1,
    opt_leq_i rfl rfl i2,
    opt_geq_i rfl rfl i3,
    opt_leq_i rfl rfl i4,
    opt_geq_i rfl rfl i5,
    opt_leq_i rfl rfl i6,
    vopt_sub rfl rfl rfl rfl (by omega) ⟨by omega, by omega⟩,
    opt_geq_i rfl rfl i7,
    opt_leq_i rfl rfl i8,
    vopt_sub rfl rfl rfl rfl (by omega) ⟨by omega, by omega⟩,
    opt_geq_i rfl rfl i9,
    opt_leq_i rfl rfl i10,
    vopt_mul rfl rfl rfl rfl (by omega) ⟨by omega, by omega⟩,
    vopt_sub rfl rfl rfl rfl (by omega) ⟨by omega, by omega⟩,
    vopt_mul rfl rfl rfl rfl (by omega) ⟨by omega, by omega⟩,
    vopt_sub rfl rfl rfl rfl (by omega) ⟨by omega, by omega⟩,
    vopt_sub rfl rfl rfl rfl (by omega) ⟨by omega, by omega⟩,
    opt_neq_i rfl rfl i11,
    vopt_sub rfl rfl rfl rfl (by omega) ⟨by omega, by omega⟩,
    vopt_shl rfl rfl rfl rfl (by omega) ⟨by omega, by omega⟩,
    vopt_shl rfl rfl rfl rfl (by omega) ⟨by omega, by omega⟩,
    opt_geq_i rfl rfl i12,
    opt_leq_i rfl rfl i13,
    opt_geq_i rfl rfl i14,
    opt_leq_i rfl rfl i15,
    opt_geq_i rfl rfl i16,
    opt_leq_i rfl rfl i17,
    vopt_sub rfl rfl rfl rfl (by omega) ⟨by omega, by omega⟩,
    opt_geq_i rfl rfl i18,
    opt_leq_i rfl rfl i19,
    vopt_sub rfl rfl rfl rfl (by omega) ⟨by omega, by omega⟩,
    opt_geq_i rfl rfl i20,
    opt_leq_i rfl rfl i21,
    optI2_eql_i rfl rfl i22,
    vopt_add rfl rfl rfl rfl (by omega) ⟨by omega, by omega⟩,
    vopt_sub rfl rfl rfl rfl (by omega) ⟨by omega, by omega⟩,
    vopt_sub rfl rfl rfl rfl (by omega) ⟨by omega, by omega⟩,
    opt_neq_i rfl rfl i23,
    opt_neq_i rfl rfl i24,
    opt_neq_i rfl rfl i25,
    trivial⟩
  have hcalls : CallsT Tryz.prog (@Know.calls (Zm_C2N_k b11 b12 b15 b17 b23 b24 b25)) := ⟨callt rfl rfl fun w hG => awake24_c w hG,
    callt rfl rfl fun w hG => GCheck_gs ⟨p, q⟩ ⟨hp, hq⟩ w hG,
    callt rfl rfl fun w hG => halves_z ((2 * c) - a) y w ⟨by omega, by omega⟩ ⟨by omega, by omega⟩ hG,
    callt rfl rfl fun w hG => DAdd_c p (hz ((2 * c) - a) (y - 1)) w hp (hz_Ok _ _) hG,
    callt rfl rfl fun w hG => halves_z ((b - (2 * r)) - 2) y w ⟨by omega, by omega⟩ ⟨by omega, by omega⟩ hG,
    callt rfl rfl fun w hG => DAdd_c q (hz ((b - (2 * r)) - 2) (y - 1)) w hq (hz_Ok _ _) hG,
    callt rfl rfl fun w hG => halves_z (((2 * c) + s) - a) y w ⟨by omega, by omega⟩ ⟨by omega, by omega⟩ hG,
    callt rfl rfl fun w hG => DAdd_c p (hz (((2 * c) + s) - a) (y - 1)) w hp (hz_Ok _ _) hG,
    callt rfl rfl fun w hG => halves_z ((b - (2 * r)) - t) y w ⟨by omega, by omega⟩ ⟨by omega, by omega⟩ hG,
    callt rfl rfl fun w hG => DAdd_c q (hz ((b - (2 * r)) - t) (y - 1)) w hq (hz_Ok _ _) hG,
    trivial⟩
  have fin : ∀ v, @comes (Zm_C2N_k b11 b12 b15 b17 b23 b24 b25) Tryz.prog glT 3000 Zm_C2N_f Zm_C2N_a = some v → ground v = true → Ending.returned (gval v) = .returned (.bool true) → Calls Tryz.prog 5 #[.agg #[.bool p.g, .string (natS p.n), .int .i64 p.x, .bool q.g, .string (natS q.n), .int .i64 q.x, .int .i64 y, .int .i64 a, .int .i64 b], .int .i64 c, .int .i64 r, .int .i64 s, .int .i64 t, .int .i64 u, .int .i64 z] w fun e w' => e = .returned (.bool true) ∧ Below w.heap.size w w' := fun v h1 h2 h3 => (@sym_ok _ (Zm_C2N_k b11 b12 b15 b17 b23 b24 b25) _ (@KnowOk.of _ (Zm_C2N_k b11 b12 b15 b17 b23 b24 b25) _ hops hcalls) (by kernel_rfl) _ _ _ _ h1 rfl h2 _ hG).mono fun e w' h => ⟨h.1.trans h3, h.2⟩
  clear hops hcalls
  cases b11 with
  | true =>
    have h11 : addE p (hz ((2 * c) - a) (y - 1)) = 0 := i11.1 rfl
    cases b25 with
    | true =>
      exact absurd (i25.1 rfl) (fun k => hn1 ⟨h11, k⟩)
    | false =>
      have h25 : ¬ (addE q (hz ((b - (2 * r)) - 2) (y - 1)) = 0) := fun c => Bool.false_ne_true (i25.2 c)
      cases b12 with
      | true =>
        have h12 : y - 1 ≥ -4096 := i12.1 rfl
        cases b15 with
        | true =>
          have h15 : 2 * a ≤ 65536 := i15.1 rfl
          cases b17 with
          | true =>
            have h17 : 2 * b ≤ 65536 := i17.1 rfl
            cases b23 with
            | true =>
              have h23 : addE p (hz (((2 * c) + s) - a) (y - 1)) = 0 := i23.1 rfl
              cases b24 with
              | true =>
                exact absurd (i24.1 rfl) (fun k => hn4 ⟨h23, k⟩)
              | false =>
                have h24 : ¬ (addE q (hz ((b - (2 * r)) - t) (y - 1)) = 0) := fun c => Bool.false_ne_true (i24.2 c)
                exact fin _ (Zm_C2N_r1) rfl rfl
            | false =>
              have h23 : ¬ (addE p (hz (((2 * c) + s) - a) (y - 1)) = 0) := fun c => Bool.false_ne_true (i23.2 c)
              exact fin _ (Zm_C2N_r2 b24) rfl rfl
          | false =>
            have h17 : ¬ (2 * b ≤ 65536) := fun c => Bool.false_ne_true (i17.2 c)
            cases b23 with
            | true =>
              have h23 : addE p (hz (((2 * c) + s) - a) (y - 1)) = 0 := i23.1 rfl
              cases b24 with
              | true =>
                exact absurd (i24.1 rfl) (fun k => hn4 ⟨h23, k⟩)
              | false =>
                have h24 : ¬ (addE q (hz ((b - (2 * r)) - t) (y - 1)) = 0) := fun c => Bool.false_ne_true (i24.2 c)
                exact fin _ (Zm_C2N_r3) rfl rfl
            | false =>
              have h23 : ¬ (addE p (hz (((2 * c) + s) - a) (y - 1)) = 0) := fun c => Bool.false_ne_true (i23.2 c)
              exact fin _ (Zm_C2N_r4 b24) rfl rfl
        | false =>
          have h15 : ¬ (2 * a ≤ 65536) := fun c => Bool.false_ne_true (i15.2 c)
          cases b23 with
          | true =>
            have h23 : addE p (hz (((2 * c) + s) - a) (y - 1)) = 0 := i23.1 rfl
            cases b24 with
            | true =>
              exact absurd (i24.1 rfl) (fun k => hn4 ⟨h23, k⟩)
            | false =>
              have h24 : ¬ (addE q (hz ((b - (2 * r)) - t) (y - 1)) = 0) := fun c => Bool.false_ne_true (i24.2 c)
              exact fin _ (Zm_C2N_r5 b17) rfl rfl
          | false =>
            have h23 : ¬ (addE p (hz (((2 * c) + s) - a) (y - 1)) = 0) := fun c => Bool.false_ne_true (i23.2 c)
            exact fin _ (Zm_C2N_r6 b17 b24) rfl rfl
      | false =>
        have h12 : ¬ (y - 1 ≥ -4096) := fun c => Bool.false_ne_true (i12.2 c)
        cases b23 with
        | true =>
          have h23 : addE p (hz (((2 * c) + s) - a) (y - 1)) = 0 := i23.1 rfl
          cases b24 with
          | true =>
            exact absurd (i24.1 rfl) (fun k => hn4 ⟨h23, k⟩)
          | false =>
            have h24 : ¬ (addE q (hz ((b - (2 * r)) - t) (y - 1)) = 0) := fun c => Bool.false_ne_true (i24.2 c)
            exact fin _ (Zm_C2N_r7 b15 b17) rfl rfl
        | false =>
          have h23 : ¬ (addE p (hz (((2 * c) + s) - a) (y - 1)) = 0) := fun c => Bool.false_ne_true (i23.2 c)
          exact fin _ (Zm_C2N_r8 b15 b17 b24) rfl rfl
  | false =>
    have h11 : ¬ (addE p (hz ((2 * c) - a) (y - 1)) = 0) := fun c => Bool.false_ne_true (i11.2 c)
    cases b12 with
    | true =>
      have h12 : y - 1 ≥ -4096 := i12.1 rfl
      cases b15 with
      | true =>
        have h15 : 2 * a ≤ 65536 := i15.1 rfl
        cases b17 with
        | true =>
          have h17 : 2 * b ≤ 65536 := i17.1 rfl
          cases b23 with
          | true =>
            have h23 : addE p (hz (((2 * c) + s) - a) (y - 1)) = 0 := i23.1 rfl
            cases b24 with
            | true =>
              exact absurd (i24.1 rfl) (fun k => hn4 ⟨h23, k⟩)
            | false =>
              have h24 : ¬ (addE q (hz ((b - (2 * r)) - t) (y - 1)) = 0) := fun c => Bool.false_ne_true (i24.2 c)
              exact fin _ (Zm_C2N_r9 b25) rfl rfl
          | false =>
            have h23 : ¬ (addE p (hz (((2 * c) + s) - a) (y - 1)) = 0) := fun c => Bool.false_ne_true (i23.2 c)
            exact fin _ (Zm_C2N_r10 b24 b25) rfl rfl
        | false =>
          have h17 : ¬ (2 * b ≤ 65536) := fun c => Bool.false_ne_true (i17.2 c)
          cases b23 with
          | true =>
            have h23 : addE p (hz (((2 * c) + s) - a) (y - 1)) = 0 := i23.1 rfl
            cases b24 with
            | true =>
              exact absurd (i24.1 rfl) (fun k => hn4 ⟨h23, k⟩)
            | false =>
              have h24 : ¬ (addE q (hz ((b - (2 * r)) - t) (y - 1)) = 0) := fun c => Bool.false_ne_true (i24.2 c)
              exact fin _ (Zm_C2N_r11 b25) rfl rfl
          | false =>
            have h23 : ¬ (addE p (hz (((2 * c) + s) - a) (y - 1)) = 0) := fun c => Bool.false_ne_true (i23.2 c)
            exact fin _ (Zm_C2N_r12 b24 b25) rfl rfl
      | false =>
        have h15 : ¬ (2 * a ≤ 65536) := fun c => Bool.false_ne_true (i15.2 c)
        cases b23 with
        | true =>
          have h23 : addE p (hz (((2 * c) + s) - a) (y - 1)) = 0 := i23.1 rfl
          cases b24 with
          | true =>
            exact absurd (i24.1 rfl) (fun k => hn4 ⟨h23, k⟩)
          | false =>
            have h24 : ¬ (addE q (hz ((b - (2 * r)) - t) (y - 1)) = 0) := fun c => Bool.false_ne_true (i24.2 c)
            exact fin _ (Zm_C2N_r13 b17 b25) rfl rfl
        | false =>
          have h23 : ¬ (addE p (hz (((2 * c) + s) - a) (y - 1)) = 0) := fun c => Bool.false_ne_true (i23.2 c)
          exact fin _ (Zm_C2N_r14 b17 b24 b25) rfl rfl
    | false =>
      have h12 : ¬ (y - 1 ≥ -4096) := fun c => Bool.false_ne_true (i12.2 c)
      cases b23 with
      | true =>
        have h23 : addE p (hz (((2 * c) + s) - a) (y - 1)) = 0 := i23.1 rfl
        cases b24 with
        | true =>
          exact absurd (i24.1 rfl) (fun k => hn4 ⟨h23, k⟩)
        | false =>
          have h24 : ¬ (addE q (hz ((b - (2 * r)) - t) (y - 1)) = 0) := fun c => Bool.false_ne_true (i24.2 c)
          exact fin _ (Zm_C2N_r15 b15 b17 b25) rfl rfl
      | false =>
        have h23 : ¬ (addE p (hz (((2 * c) + s) - a) (y - 1)) = 0) := fun c => Bool.false_ne_true (i23.2 c)
        exact fin _ (Zm_C2N_r16 b15 b17 b24 b25) rfl rfl

@[reducible] def Zm_C3N_f : FuncId := 5
@[reducible] def Zm_C3N_a : List AV := [.agg [.sym 0, .sym 1, .sym 2, .sym 3, .sym 4, .sym 5, .sym 6, .sym 7, .sym 8], .sym 9, .sym 10, .sym 11, .sym 12, .sym 13, .sym 14]
@[reducible] noncomputable def Zm_C3N_k (b11 b12 b15 b17 b35 b40 b41 : Bool) : Know := ⟨[([0, 16, 3], [.sym 6, .lit (.int .i64 (-4096))], .lit (.bool true)),
  ([0, 14, 3], [.sym 6, .lit (.int .i64 4096)], .lit (.bool true)),
  ([0, 16, 3], [.sym 7, .lit (.int .i64 1)], .lit (.bool true)),
  ([0, 14, 3], [.sym 7, .lit (.int .i64 65536)], .lit (.bool true)),
  ([0, 16, 3], [.sym 8, .lit (.int .i64 1)], .lit (.bool true)),
  ([0, 14, 3], [.sym 8, .lit (.int .i64 65536)], .lit (.bool true)),
  ([0, 1, 3], [.sym 7, .lit (.int .i64 1)], .sym 15),
  ([0, 16, 3], [.sym 9, .lit (.int .i64 0)], .lit (.bool true)),
  ([0, 14, 3], [.sym 9, .sym 15], .lit (.bool true)),
  ([0, 1, 3], [.sym 8, .lit (.int .i64 1)], .sym 16),
  ([0, 16, 3], [.sym 10, .lit (.int .i64 0)], .lit (.bool true)),
  ([0, 14, 3], [.sym 10, .sym 16], .lit (.bool true)),
  ([0, 2, 3], [.lit (.int .i64 2), .sym 9], .sym 17),
  ([0, 1, 3], [.sym 17, .sym 7], .sym 18),
  ([0, 2, 3], [.lit (.int .i64 2), .sym 10], .sym 26),
  ([0, 1, 3], [.sym 8, .sym 26], .sym 27),
  ([0, 1, 3], [.sym 27, .lit (.int .i64 2)], .sym 28),
  ([0, 12, 30], [.sym 25, .lit (.int .i64 0)], .lit (.bool (!b11))),
  ([0, 1, 3], [.sym 6, .lit (.int .i64 1)], .sym 36),
  ([0, 8, 3], [.sym 7, .lit (.int .i64 1)], .sym 37),
  ([0, 8, 3], [.sym 8, .lit (.int .i64 1)], .sym 38),
  ([0, 16, 3], [.sym 36, .lit (.int .i64 (-4096))], .lit (.bool b12)),
  ([0, 14, 3], [.sym 36, .lit (.int .i64 4096)], .lit (.bool true)),
  ([0, 16, 3], [.sym 37, .lit (.int .i64 1)], .lit (.bool true)),
  ([0, 14, 3], [.sym 37, .lit (.int .i64 65536)], .lit (.bool b15)),
  ([0, 16, 3], [.sym 38, .lit (.int .i64 1)], .lit (.bool true)),
  ([0, 14, 3], [.sym 38, .lit (.int .i64 65536)], .lit (.bool b17)),
  ([0, 1, 3], [.sym 7, .sym 9], .sym 39),
  ([0, 16, 3], [.sym 11, .lit (.int .i64 1)], .lit (.bool true)),
  ([0, 14, 3], [.sym 11, .sym 39], .lit (.bool true)),
  ([0, 1, 3], [.sym 8, .sym 10], .sym 40),
  ([0, 16, 3], [.sym 12, .lit (.int .i64 1)], .lit (.bool true)),
  ([0, 14, 3], [.sym 12, .sym 40], .lit (.bool true)),
  ([0, 11, 100], [.agg [.sym 11, .sym 12], .agg [.sym 7, .sym 8]], .lit (.bool false)),
  ([0, 0, 3], [.sym 17, .sym 11], .sym 41),
  ([0, 1, 3], [.sym 41, .sym 7], .sym 42),
  ([0, 1, 3], [.sym 27, .sym 12], .sym 50),
  ([0, 12, 30], [.sym 49, .lit (.int .i64 0)], .lit (.bool false)),
  ([0, 12, 30], [.sym 57, .lit (.int .i64 0)], .lit (.bool false)),
  ([0, 13, 3], [.sym 13, .lit (.int .i64 0)], .lit (.bool false)),
  ([0, 13, 3], [.sym 14, .lit (.int .i64 0)], .lit (.bool false)),
  ([0, 16, 3], [.sym 13, .sym 11], .lit (.bool false)),
  ([0, 16, 3], [.sym 14, .sym 12], .lit (.bool false)),
  ([0, 14, 3], [.sym 11, .lit (.int .i64 65536)], .lit (.bool true)),
  ([0, 14, 3], [.sym 12, .lit (.int .i64 65536)], .lit (.bool true)),
  ([0, 1, 3], [.sym 11, .lit (.int .i64 1)], .sym 58),
  ([0, 16, 3], [.sym 13, .lit (.int .i64 0)], .lit (.bool true)),
  ([0, 14, 3], [.sym 13, .sym 58], .lit (.bool true)),
  ([0, 1, 3], [.sym 12, .lit (.int .i64 1)], .sym 59),
  ([0, 16, 3], [.sym 14, .lit (.int .i64 0)], .lit (.bool true)),
  ([0, 14, 3], [.sym 14, .sym 59], .lit (.bool true)),
  ([0, 2, 3], [.lit (.int .i64 2), .sym 13], .sym 60),
  ([0, 1, 3], [.sym 60, .sym 11], .sym 61),
  ([0, 2, 3], [.lit (.int .i64 2), .sym 14], .sym 69),
  ([0, 1, 3], [.sym 12, .sym 69], .sym 70),
  ([0, 1, 3], [.sym 70, .lit (.int .i64 2)], .sym 71),
  ([0, 12, 30], [.sym 68, .lit (.int .i64 0)], .lit (.bool (!b35))),
  ([0, 0, 3], [.sym 9, .sym 13], .sym 79),
  ([0, 0, 3], [.sym 10, .sym 14], .sym 80),
  ([0, 16, 3], [.sym 79, .lit (.int .i64 0)], .lit (.bool true)),
  ([0, 14, 3], [.sym 79, .sym 15], .lit (.bool true)),
  ([0, 16, 3], [.sym 80, .lit (.int .i64 0)], .lit (.bool true)),
  ([0, 14, 3], [.sym 80, .sym 16], .lit (.bool true)),
  ([0, 2, 3], [.lit (.int .i64 2), .sym 79], .sym 81),
  ([0, 1, 3], [.sym 81, .sym 7], .sym 82),
  ([0, 2, 3], [.lit (.int .i64 2), .sym 80], .sym 86),
  ([0, 1, 3], [.sym 8, .sym 86], .sym 87),
  ([0, 1, 3], [.sym 87, .lit (.int .i64 2)], .sym 88),
  ([0, 12, 30], [.sym 78, .lit (.int .i64 0)], .lit (.bool (!b40))),
  ([0, 11, 26], [.agg [.sym 65, .sym 66, .sym 67, .sym 75, .sym 76, .sym 77, .sym 6], .agg [.sym 65, .sym 66, .sym 67, .sym 75, .sym 76, .sym 77, .sym 6]], .lit (.bool true)),
  ([0, 12, 30], [.sym 35, .lit (.int .i64 0)], .lit (.bool (!b41)))],
  [(13, [], .lit (.bool true)),
  (25, [.agg [.sym 0, .sym 1, .sym 2, .sym 3, .sym 4, .sym 5]], .lit (.int .i64 0)),
  (50, [.sym 18, .sym 6], .agg [.sym 19, .sym 20, .sym 21]),
  (20, [.agg [.sym 0, .sym 1, .sym 2], .agg [.sym 19, .sym 20, .sym 21]], .tup [.agg [.sym 22, .sym 23, .sym 24], .sym 25]),
  (50, [.sym 28, .sym 6], .agg [.sym 29, .sym 30, .sym 31]),
  (20, [.agg [.sym 3, .sym 4, .sym 5], .agg [.sym 29, .sym 30, .sym 31]], .tup [.agg [.sym 32, .sym 33, .sym 34], .sym 35]),
  (50, [.sym 42, .sym 6], .agg [.sym 43, .sym 44, .sym 45]),
  (20, [.agg [.sym 0, .sym 1, .sym 2], .agg [.sym 43, .sym 44, .sym 45]], .tup [.agg [.sym 46, .sym 47, .sym 48], .sym 49]),
  (50, [.sym 50, .sym 6], .agg [.sym 51, .sym 52, .sym 53]),
  (20, [.agg [.sym 3, .sym 4, .sym 5], .agg [.sym 51, .sym 52, .sym 53]], .tup [.agg [.sym 54, .sym 55, .sym 56], .sym 57]),
  (25, [.agg [.sym 46, .sym 47, .sym 48, .sym 54, .sym 55, .sym 56]], .lit (.int .i64 0)),
  (50, [.sym 61, .sym 6], .agg [.sym 62, .sym 63, .sym 64]),
  (20, [.agg [.sym 46, .sym 47, .sym 48], .agg [.sym 62, .sym 63, .sym 64]], .tup [.agg [.sym 65, .sym 66, .sym 67], .sym 68]),
  (50, [.sym 71, .sym 6], .agg [.sym 72, .sym 73, .sym 74]),
  (20, [.agg [.sym 54, .sym 55, .sym 56], .agg [.sym 72, .sym 73, .sym 74]], .tup [.agg [.sym 75, .sym 76, .sym 77], .sym 78]),
  (50, [.sym 82, .sym 6], .agg [.sym 83, .sym 84, .sym 85]),
  (20, [.agg [.sym 0, .sym 1, .sym 2], .agg [.sym 83, .sym 84, .sym 85]], .tup [.agg [.sym 65, .sym 66, .sym 67], .sym 68]),
  (50, [.sym 88, .sym 6], .agg [.sym 89, .sym 90, .sym 91]),
  (20, [.agg [.sym 3, .sym 4, .sym 5], .agg [.sym 89, .sym 90, .sym 91]], .tup [.agg [.sym 75, .sym 76, .sym 77], .sym 78])]⟩
theorem Zm_C3N_r1 : @comes (Zm_C3N_k true true true true true true false) Tryz.prog glT 3000 Zm_C3N_f Zm_C3N_a = some (.lit (.bool true)) := by kernel_rfl
theorem Zm_C3N_r2 : @comes (Zm_C3N_k true true true true true false false) Tryz.prog glT 3000 Zm_C3N_f Zm_C3N_a = some (.lit (.bool true)) := by kernel_rfl
theorem Zm_C3N_r3 (b40 : Bool) : @comes (Zm_C3N_k true true true true false b40 false) Tryz.prog glT 3000 Zm_C3N_f Zm_C3N_a = some (.lit (.bool true)) := by kernel_rfl
theorem Zm_C3N_r4 : @comes (Zm_C3N_k true true true false true true false) Tryz.prog glT 3000 Zm_C3N_f Zm_C3N_a = some (.lit (.bool true)) := by kernel_rfl
theorem Zm_C3N_r5 : @comes (Zm_C3N_k true true true false true false false) Tryz.prog glT 3000 Zm_C3N_f Zm_C3N_a = some (.lit (.bool true)) := by kernel_rfl
theorem Zm_C3N_r6 (b40 : Bool) : @comes (Zm_C3N_k true true true false false b40 false) Tryz.prog glT 3000 Zm_C3N_f Zm_C3N_a = some (.lit (.bool true)) := by kernel_rfl
theorem Zm_C3N_r7 (b17 : Bool) : @comes (Zm_C3N_k true true false b17 true true false) Tryz.prog glT 3000 Zm_C3N_f Zm_C3N_a = some (.lit (.bool true)) := by kernel_rfl
theorem Zm_C3N_r8 (b17 : Bool) : @comes (Zm_C3N_k true true false b17 true false false) Tryz.prog glT 3000 Zm_C3N_f Zm_C3N_a = some (.lit (.bool true)) := by kernel_rfl
theorem Zm_C3N_r9 (b17 b40 : Bool) : @comes (Zm_C3N_k true true false b17 false b40 false) Tryz.prog glT 3000 Zm_C3N_f Zm_C3N_a = some (.lit (.bool true)) := by kernel_rfl
theorem Zm_C3N_r10 (b15 b17 : Bool) : @comes (Zm_C3N_k true false b15 b17 true true false) Tryz.prog glT 3000 Zm_C3N_f Zm_C3N_a = some (.lit (.bool true)) := by kernel_rfl
theorem Zm_C3N_r11 (b15 b17 : Bool) : @comes (Zm_C3N_k true false b15 b17 true false false) Tryz.prog glT 3000 Zm_C3N_f Zm_C3N_a = some (.lit (.bool true)) := by kernel_rfl
theorem Zm_C3N_r12 (b15 b17 b40 : Bool) : @comes (Zm_C3N_k true false b15 b17 false b40 false) Tryz.prog glT 3000 Zm_C3N_f Zm_C3N_a = some (.lit (.bool true)) := by kernel_rfl
theorem Zm_C3N_r13 (b41 : Bool) : @comes (Zm_C3N_k false true true true true true b41) Tryz.prog glT 3000 Zm_C3N_f Zm_C3N_a = some (.lit (.bool true)) := by kernel_rfl
theorem Zm_C3N_r14 (b41 : Bool) : @comes (Zm_C3N_k false true true true true false b41) Tryz.prog glT 3000 Zm_C3N_f Zm_C3N_a = some (.lit (.bool true)) := by kernel_rfl
theorem Zm_C3N_r15 (b40 b41 : Bool) : @comes (Zm_C3N_k false true true true false b40 b41) Tryz.prog glT 3000 Zm_C3N_f Zm_C3N_a = some (.lit (.bool true)) := by kernel_rfl
theorem Zm_C3N_r16 (b41 : Bool) : @comes (Zm_C3N_k false true true false true true b41) Tryz.prog glT 3000 Zm_C3N_f Zm_C3N_a = some (.lit (.bool true)) := by kernel_rfl
theorem Zm_C3N_r17 (b41 : Bool) : @comes (Zm_C3N_k false true true false true false b41) Tryz.prog glT 3000 Zm_C3N_f Zm_C3N_a = some (.lit (.bool true)) := by kernel_rfl
theorem Zm_C3N_r18 (b40 b41 : Bool) : @comes (Zm_C3N_k false true true false false b40 b41) Tryz.prog glT 3000 Zm_C3N_f Zm_C3N_a = some (.lit (.bool true)) := by kernel_rfl
theorem Zm_C3N_r19 (b17 b41 : Bool) : @comes (Zm_C3N_k false true false b17 true true b41) Tryz.prog glT 3000 Zm_C3N_f Zm_C3N_a = some (.lit (.bool true)) := by kernel_rfl
theorem Zm_C3N_r20 (b17 b41 : Bool) : @comes (Zm_C3N_k false true false b17 true false b41) Tryz.prog glT 3000 Zm_C3N_f Zm_C3N_a = some (.lit (.bool true)) := by kernel_rfl
theorem Zm_C3N_r21 (b17 b40 b41 : Bool) : @comes (Zm_C3N_k false true false b17 false b40 b41) Tryz.prog glT 3000 Zm_C3N_f Zm_C3N_a = some (.lit (.bool true)) := by kernel_rfl
theorem Zm_C3N_r22 (b15 b17 b41 : Bool) : @comes (Zm_C3N_k false false b15 b17 true true b41) Tryz.prog glT 3000 Zm_C3N_f Zm_C3N_a = some (.lit (.bool true)) := by kernel_rfl
theorem Zm_C3N_r23 (b15 b17 b41 : Bool) : @comes (Zm_C3N_k false false b15 b17 true false b41) Tryz.prog glT 3000 Zm_C3N_f Zm_C3N_a = some (.lit (.bool true)) := by kernel_rfl
theorem Zm_C3N_r24 (b15 b17 b40 b41 : Bool) : @comes (Zm_C3N_k false false b15 b17 false b40 b41) Tryz.prog glT 3000 Zm_C3N_f Zm_C3N_a = some (.lit (.bool true)) := by kernel_rfl

set_option maxRecDepth 100000 in
set_option maxHeartbeats 4000000 in
theorem Zm_C3N (p q : Dy) (y a b c r s t u z : Int) (w : World) (hp : p.Ok) (hq : q.Ok) (e1 : -4096 ≤ y) (e2 : y ≤ 4096) (a1 : 1 ≤ a) (a2 : a ≤ 65536) (b1 : 1 ≤ b) (b2 : b ≤ 65536) (c1 : 0 ≤ c) (c2 : c ≤ a - 1) (r1 : 0 ≤ r) (r2 : r ≤ b - 1) (hn1 : ¬ (addE p (hz ((2 * c) - a) (y - 1)) = 0 ∧ addE q (hz ((b - (2 * r)) - 2) (y - 1)) = 0)) (s1 : 1 ≤ s) (s2 : s ≤ a - c) (t1 : 1 ≤ t) (t2 : t ≤ b - r) (u1 : 0 ≤ u) (u2 : u < s) (v1 : 0 ≤ z) (v2 : z < t) (hsp : ¬ (s, t) = (a, b)) (cx : addE p (hz (((2 * c) + s) - a) (y - 1)) = 0) (cy : addE q (hz ((b - (2 * r)) - t) (y - 1)) = 0) (hG : Globs glT w) : Calls Tryz.prog 5 #[.agg #[.bool p.g, .string (natS p.n), .int .i64 p.x, .bool q.g, .string (natS q.n), .int .i64 q.x, .int .i64 y, .int .i64 a, .int .i64 b], .int .i64 c, .int .i64 r, .int .i64 s, .int .i64 t, .int .i64 u, .int .i64 z] w fun e w' => e = .returned (.bool true) ∧ Below w.heap.size w w' := by
  have h1 : y ≥ -4096 := (by omega)
  have i1 : true = true ↔ (y ≥ -4096) := ⟨fun _ => h1, fun _ => rfl⟩
  have h2 : y ≤ 4096 := (by omega)
  have i2 : true = true ↔ (y ≤ 4096) := ⟨fun _ => h2, fun _ => rfl⟩
  have h3 : a ≥ 1 := (by omega)
  have i3 : true = true ↔ (a ≥ 1) := ⟨fun _ => h3, fun _ => rfl⟩
  have h4 : a ≤ 65536 := (by omega)
  have i4 : true = true ↔ (a ≤ 65536) := ⟨fun _ => h4, fun _ => rfl⟩
  have h5 : b ≥ 1 := (by omega)
  have i5 : true = true ↔ (b ≥ 1) := ⟨fun _ => h5, fun _ => rfl⟩
  have h6 : b ≤ 65536 := (by omega)
  have i6 : true = true ↔ (b ≤ 65536) := ⟨fun _ => h6, fun _ => rfl⟩
  have h7 : c ≥ 0 := (by omega)
  have i7 : true = true ↔ (c ≥ 0) := ⟨fun _ => h7, fun _ => rfl⟩
  have h8 : c ≤ a - 1 := (by omega)
  have i8 : true = true ↔ (c ≤ a - 1) := ⟨fun _ => h8, fun _ => rfl⟩
  have h9 : r ≥ 0 := (by omega)
  have i9 : true = true ↔ (r ≥ 0) := ⟨fun _ => h9, fun _ => rfl⟩
  have h10 : r ≤ b - 1 := (by omega)
  have i10 : true = true ↔ (r ≤ b - 1) := ⟨fun _ => h10, fun _ => rfl⟩
  obtain ⟨b11, i11⟩ := bex (addE p (hz ((2 * c) - a) (y - 1)) = 0)
  obtain ⟨b12, i12⟩ := bex (y - 1 ≥ -4096)
  have h13 : y - 1 ≤ 4096 := (by omega)
  have i13 : true = true ↔ (y - 1 ≤ 4096) := ⟨fun _ => h13, fun _ => rfl⟩
  have h14 : 2 * a ≥ 1 := (by omega)
  have i14 : true = true ↔ (2 * a ≥ 1) := ⟨fun _ => h14, fun _ => rfl⟩
  obtain ⟨b15, i15⟩ := bex (2 * a ≤ 65536)
  have h16 : 2 * b ≥ 1 := (by omega)
  have i16 : true = true ↔ (2 * b ≥ 1) := ⟨fun _ => h16, fun _ => rfl⟩
  obtain ⟨b17, i17⟩ := bex (2 * b ≤ 65536)
  have h18 : s ≥ 1 := (by omega)
  have i18 : true = true ↔ (s ≥ 1) := ⟨fun _ => h18, fun _ => rfl⟩
  have h19 : s ≤ a - c := (by omega)
  have i19 : true = true ↔ (s ≤ a - c) := ⟨fun _ => h19, fun _ => rfl⟩
  have h20 : t ≥ 1 := (by omega)
  have i20 : true = true ↔ (t ≥ 1) := ⟨fun _ => h20, fun _ => rfl⟩
  have h21 : t ≤ b - r := (by omega)
  have i21 : true = true ↔ (t ≤ b - r) := ⟨fun _ => h21, fun _ => rfl⟩
  have h22 : ¬ ((s, t) = (a, b)) := hsp
  have i22 : false = true ↔ ((s, t) = (a, b)) := ⟨fun k => absurd k Bool.false_ne_true, fun k => absurd k h22⟩
  have h23 : addE p (hz (((2 * c) + s) - a) (y - 1)) = 0 := cx
  have i23 : true = true ↔ (addE p (hz (((2 * c) + s) - a) (y - 1)) = 0) := ⟨fun _ => h23, fun _ => rfl⟩
  have h24 : addE q (hz ((b - (2 * r)) - t) (y - 1)) = 0 := cy
  have i24 : true = true ↔ (addE q (hz ((b - (2 * r)) - t) (y - 1)) = 0) := ⟨fun _ => h24, fun _ => rfl⟩
  have h25 : ¬ (u < 0) := (by omega)
  have i25 : false = true ↔ (u < 0) := ⟨fun k => absurd k Bool.false_ne_true, fun k => absurd k h25⟩
  have h26 : ¬ (z < 0) := (by omega)
  have i26 : false = true ↔ (z < 0) := ⟨fun k => absurd k Bool.false_ne_true, fun k => absurd k h26⟩
  have h27 : ¬ (u ≥ s) := (by omega)
  have i27 : false = true ↔ (u ≥ s) := ⟨fun k => absurd k Bool.false_ne_true, fun k => absurd k h27⟩
  have h28 : ¬ (z ≥ t) := (by omega)
  have i28 : false = true ↔ (z ≥ t) := ⟨fun k => absurd k Bool.false_ne_true, fun k => absurd k h28⟩
  have h29 : s ≤ 65536 := (by omega)
  have i29 : true = true ↔ (s ≤ 65536) := ⟨fun _ => h29, fun _ => rfl⟩
  have h30 : t ≤ 65536 := (by omega)
  have i30 : true = true ↔ (t ≤ 65536) := ⟨fun _ => h30, fun _ => rfl⟩
  have h31 : u ≥ 0 := (by omega)
  have i31 : true = true ↔ (u ≥ 0) := ⟨fun _ => h31, fun _ => rfl⟩
  have h32 : u ≤ s - 1 := (by omega)
  have i32 : true = true ↔ (u ≤ s - 1) := ⟨fun _ => h32, fun _ => rfl⟩
  have h33 : z ≥ 0 := (by omega)
  have i33 : true = true ↔ (z ≥ 0) := ⟨fun _ => h33, fun _ => rfl⟩
  have h34 : z ≤ t - 1 := (by omega)
  have i34 : true = true ↔ (z ≤ t - 1) := ⟨fun _ => h34, fun _ => rfl⟩
  obtain ⟨b35, i35⟩ := bex (addE (addD p (hz (((2 * c) + s) - a) (y - 1))) (hz ((2 * u) - s) (y - 1)) = 0)
  have h36 : c + u ≥ 0 := (by omega)
  have i36 : true = true ↔ (c + u ≥ 0) := ⟨fun _ => h36, fun _ => rfl⟩
  have h37 : c + u ≤ a - 1 := (by omega)
  have i37 : true = true ↔ (c + u ≤ a - 1) := ⟨fun _ => h37, fun _ => rfl⟩
  have h38 : r + z ≥ 0 := (by omega)
  have i38 : true = true ↔ (r + z ≥ 0) := ⟨fun _ => h38, fun _ => rfl⟩
  have h39 : r + z ≤ b - 1 := (by omega)
  have i39 : true = true ↔ (r + z ≤ b - 1) := ⟨fun _ => h39, fun _ => rfl⟩
  obtain ⟨b40, i40⟩ := bex (addE (addD q (hz ((b - (2 * r)) - t) (y - 1))) (hz ((t - (2 * z)) - 2) (y - 1)) = 0)
  obtain ⟨b41, i41⟩ := bex (addE q (hz ((b - (2 * r)) - 2) (y - 1)) = 0)
  letI : Env := mkEnv glT [.bool p.g, .string (natS p.n), .int .i64 p.x, .bool q.g, .string (natS q.n), .int .i64 q.x, .int .i64 y, .int .i64 a, .int .i64 b, .int .i64 c, .int .i64 r, .int .i64 s, .int .i64 t, .int .i64 u, .int .i64 z, .int .i64 (a - 1), .int .i64 (b - 1), .int .i64 (2 * c), .int .i64 ((2 * c) - a), .bool (hz ((2 * c) - a) (y - 1)).g, .string (natS (hz ((2 * c) - a) (y - 1)).n), .int .i64 (hz ((2 * c) - a) (y - 1)).x, .bool (addD p (hz ((2 * c) - a) (y - 1))).g, .string (natS (addD p (hz ((2 * c) - a) (y - 1))).n), .int .i64 (addD p (hz ((2 * c) - a) (y - 1))).x, .int .i64 (addE p (hz ((2 * c) - a) (y - 1))), .int .i64 (2 * r), .int .i64 (b - (2 * r)), .int .i64 ((b - (2 * r)) - 2), .bool (hz ((b - (2 * r)) - 2) (y - 1)).g, .string (natS (hz ((b - (2 * r)) - 2) (y - 1)).n), .int .i64 (hz ((b - (2 * r)) - 2) (y - 1)).x, .bool (addD q (hz ((b - (2 * r)) - 2) (y - 1))).g, .string (natS (addD q (hz ((b - (2 * r)) - 2) (y - 1))).n), .int .i64 (addD q (hz ((b - (2 * r)) - 2) (y - 1))).x, .int .i64 (addE q (hz ((b - (2 * r)) - 2) (y - 1))), .int .i64 (y - 1), .int .i64 (2 * a), .int .i64 (2 * b), .int .i64 (a - c), .int .i64 (b - r), .int .i64 ((2 * c) + s), .int .i64 (((2 * c) + s) - a), .bool (hz (((2 * c) + s) - a) (y - 1)).g, .string (natS (hz (((2 * c) + s) - a) (y - 1)).n), .int .i64 (hz (((2 * c) + s) - a) (y - 1)).x, .bool (addD p (hz (((2 * c) + s) - a) (y - 1))).g, .string (natS (addD p (hz (((2 * c) + s) - a) (y - 1))).n), .int .i64 (addD p (hz (((2 * c) + s) - a) (y - 1))).x, .int .i64 (addE p (hz (((2 * c) + s) - a) (y - 1))), .int .i64 ((b - (2 * r)) - t), .bool (hz ((b - (2 * r)) - t) (y - 1)).g, .string (natS (hz ((b - (2 * r)) - t) (y - 1)).n), .int .i64 (hz ((b - (2 * r)) - t) (y - 1)).x, .bool (addD q (hz ((b - (2 * r)) - t) (y - 1))).g, .string (natS (addD q (hz ((b - (2 * r)) - t) (y - 1))).n), .int .i64 (addD q (hz ((b - (2 * r)) - t) (y - 1))).x, .int .i64 (addE q (hz ((b - (2 * r)) - t) (y - 1))), .int .i64 (s - 1), .int .i64 (t - 1), .int .i64 (2 * u), .int .i64 ((2 * u) - s), .bool (hz ((2 * u) - s) (y - 1)).g, .string (natS (hz ((2 * u) - s) (y - 1)).n), .int .i64 (hz ((2 * u) - s) (y - 1)).x, .bool (addD (addD p (hz (((2 * c) + s) - a) (y - 1))) (hz ((2 * u) - s) (y - 1))).g, .string (natS (addD (addD p (hz (((2 * c) + s) - a) (y - 1))) (hz ((2 * u) - s) (y - 1))).n), .int .i64 (addD (addD p (hz (((2 * c) + s) - a) (y - 1))) (hz ((2 * u) - s) (y - 1))).x, .int .i64 (addE (addD p (hz (((2 * c) + s) - a) (y - 1))) (hz ((2 * u) - s) (y - 1))), .int .i64 (2 * z), .int .i64 (t - (2 * z)), .int .i64 ((t - (2 * z)) - 2), .bool (hz ((t - (2 * z)) - 2) (y - 1)).g, .string (natS (hz ((t - (2 * z)) - 2) (y - 1)).n), .int .i64 (hz ((t - (2 * z)) - 2) (y - 1)).x, .bool (addD (addD q (hz ((b - (2 * r)) - t) (y - 1))) (hz ((t - (2 * z)) - 2) (y - 1))).g, .string (natS (addD (addD q (hz ((b - (2 * r)) - t) (y - 1))) (hz ((t - (2 * z)) - 2) (y - 1))).n), .int .i64 (addD (addD q (hz ((b - (2 * r)) - t) (y - 1))) (hz ((t - (2 * z)) - 2) (y - 1))).x, .int .i64 (addE (addD q (hz ((b - (2 * r)) - t) (y - 1))) (hz ((t - (2 * z)) - 2) (y - 1))), .int .i64 (c + u), .int .i64 (r + z), .int .i64 (2 * (c + u)), .int .i64 ((2 * (c + u)) - a), .bool (hz ((2 * (c + u)) - a) (y - 1)).g, .string (natS (hz ((2 * (c + u)) - a) (y - 1)).n), .int .i64 (hz ((2 * (c + u)) - a) (y - 1)).x, .int .i64 (2 * (r + z)), .int .i64 (b - (2 * (r + z))), .int .i64 ((b - (2 * (r + z))) - 2), .bool (hz ((b - (2 * (r + z))) - 2) (y - 1)).g, .string (natS (hz ((b - (2 * (r + z))) - 2) (y - 1)).n), .int .i64 (hz ((b - (2 * (r + z))) - 2) (y - 1)).x] rfl
  have hops : OpsT Tryz.prog (@Know.ops (Zm_C3N_k b11 b12 b15 b17 b35 b40 b41)) := ⟨opt_geq_i rfl rfl i1,
    opt_leq_i rfl rfl i2,
    opt_geq_i rfl rfl i3,
    opt_leq_i rfl rfl i4,
    opt_geq_i rfl rfl i5,
    opt_leq_i rfl rfl i6,
    vopt_sub rfl rfl rfl rfl (by omega) ⟨by omega, by omega⟩,
    opt_geq_i rfl rfl i7,
    opt_leq_i rfl rfl i8,
    vopt_sub rfl rfl rfl rfl (by omega) ⟨by omega, by omega⟩,
    opt_geq_i rfl rfl i9,
    opt_leq_i rfl rfl i10,
    vopt_mul rfl rfl rfl rfl (by omega) ⟨by omega, by omega⟩,
    vopt_sub rfl rfl rfl rfl (by omega) ⟨by omega, by omega⟩,
    vopt_mul rfl rfl rfl rfl (by omega) ⟨by omega, by omega⟩,
    vopt_sub rfl rfl rfl rfl (by omega) ⟨by omega, by omega⟩,
    vopt_sub rfl rfl rfl rfl (by omega) ⟨by omega, by omega⟩,
    opt_neq_i rfl rfl i11,
    vopt_sub rfl rfl rfl rfl (by omega) ⟨by omega, by omega⟩,
    vopt_shl rfl rfl rfl rfl (by omega) ⟨by omega, by omega⟩,
    vopt_shl rfl rfl rfl rfl (by omega) ⟨by omega, by omega⟩,
    opt_geq_i rfl rfl i12,
    opt_leq_i rfl rfl i13,
    opt_geq_i rfl rfl i14,
    opt_leq_i rfl rfl i15,
    opt_geq_i rfl rfl i16,
    opt_leq_i rfl rfl i17,
    vopt_sub rfl rfl rfl rfl (by omega) ⟨by omega, by omega⟩,
    opt_geq_i rfl rfl i18,
    opt_leq_i rfl rfl i19,
    vopt_sub rfl rfl rfl rfl (by omega) ⟨by omega, by omega⟩,
    opt_geq_i rfl rfl i20,
    opt_leq_i rfl rfl i21,
    optI2_eql_i rfl rfl i22,
    vopt_add rfl rfl rfl rfl (by omega) ⟨by omega, by omega⟩,
    vopt_sub rfl rfl rfl rfl (by omega) ⟨by omega, by omega⟩,
    vopt_sub rfl rfl rfl rfl (by omega) ⟨by omega, by omega⟩,
    opt_neq_i rfl rfl i23,
    opt_neq_i rfl rfl i24,
    opt_lss_i rfl rfl i25,
    opt_lss_i rfl rfl i26,
    opt_geq_i rfl rfl i27,
    opt_geq_i rfl rfl i28,
    opt_leq_i rfl rfl i29,
    opt_leq_i rfl rfl i30,
    vopt_sub rfl rfl rfl rfl (by omega) ⟨by omega, by omega⟩,
    opt_geq_i rfl rfl i31,
    opt_leq_i rfl rfl i32,
    vopt_sub rfl rfl rfl rfl (by omega) ⟨by omega, by omega⟩,
    opt_geq_i rfl rfl i33,
    opt_leq_i rfl rfl i34,
    vopt_mul rfl rfl rfl rfl (by omega) ⟨by omega, by omega⟩,
    vopt_sub rfl rfl rfl rfl (by omega) ⟨by omega, by omega⟩,
    vopt_mul rfl rfl rfl rfl (by omega) ⟨by omega, by omega⟩,
    vopt_sub rfl rfl rfl rfl (by omega) ⟨by omega, by omega⟩,
    vopt_sub rfl rfl rfl rfl (by omega) ⟨by omega, by omega⟩,
    opt_neq_i rfl rfl i35,
    vopt_add rfl rfl rfl rfl (by omega) ⟨by omega, by omega⟩,
    vopt_add rfl rfl rfl rfl (by omega) ⟨by omega, by omega⟩,
    opt_geq_i rfl rfl i36,
    opt_leq_i rfl rfl i37,
    opt_geq_i rfl rfl i38,
    opt_leq_i rfl rfl i39,
    vopt_mul rfl rfl rfl rfl (by omega) ⟨by omega, by omega⟩,
    vopt_sub rfl rfl rfl rfl (by omega) ⟨by omega, by omega⟩,
    vopt_mul rfl rfl rfl rfl (by omega) ⟨by omega, by omega⟩,
    vopt_sub rfl rfl rfl rfl (by omega) ⟨by omega, by omega⟩,
    vopt_sub rfl rfl rfl rfl (by omega) ⟨by omega, by omega⟩,
    opt_neq_i rfl rfl i40,
    opt_self_eql fun p q w => selfe_7 p q w,
    opt_neq_i rfl rfl i41,
    trivial⟩
  have hcalls : CallsT Tryz.prog (@Know.calls (Zm_C3N_k b11 b12 b15 b17 b35 b40 b41)) := ⟨callt rfl rfl fun w hG => awake24_c w hG,
    callt rfl rfl fun w hG => GCheck_gs ⟨p, q⟩ ⟨hp, hq⟩ w hG,
    callt rfl rfl fun w hG => halves_z ((2 * c) - a) y w ⟨by omega, by omega⟩ ⟨by omega, by omega⟩ hG,
    callt rfl rfl fun w hG => DAdd_c p (hz ((2 * c) - a) (y - 1)) w hp (hz_Ok _ _) hG,
    callt rfl rfl fun w hG => halves_z ((b - (2 * r)) - 2) y w ⟨by omega, by omega⟩ ⟨by omega, by omega⟩ hG,
    callt rfl rfl fun w hG => DAdd_c q (hz ((b - (2 * r)) - 2) (y - 1)) w hq (hz_Ok _ _) hG,
    callt rfl rfl fun w hG => halves_z (((2 * c) + s) - a) y w ⟨by omega, by omega⟩ ⟨by omega, by omega⟩ hG,
    callt rfl rfl fun w hG => DAdd_c p (hz (((2 * c) + s) - a) (y - 1)) w hp (hz_Ok _ _) hG,
    callt rfl rfl fun w hG => halves_z ((b - (2 * r)) - t) y w ⟨by omega, by omega⟩ ⟨by omega, by omega⟩ hG,
    callt rfl rfl fun w hG => DAdd_c q (hz ((b - (2 * r)) - t) (y - 1)) w hq (hz_Ok _ _) hG,
    callt rfl rfl fun w hG => GCheck_gs ⟨addD p (hz (((2 * c) + s) - a) (y - 1)), addD q (hz ((b - (2 * r)) - t) (y - 1))⟩ ⟨(add_Ok hp (hz_Ok _ _)), (add_Ok hq (hz_Ok _ _))⟩ w hG,
    callt rfl rfl fun w hG => halves_z ((2 * u) - s) y w ⟨by omega, by omega⟩ ⟨by omega, by omega⟩ hG,
    callt rfl rfl fun w hG => DAdd_c (addD p (hz (((2 * c) + s) - a) (y - 1))) (hz ((2 * u) - s) (y - 1)) w (add_Ok hp (hz_Ok _ _)) (hz_Ok _ _) hG,
    callt rfl rfl fun w hG => halves_z ((t - (2 * z)) - 2) y w ⟨by omega, by omega⟩ ⟨by omega, by omega⟩ hG,
    callt rfl rfl fun w hG => DAdd_c (addD q (hz ((b - (2 * r)) - t) (y - 1))) (hz ((t - (2 * z)) - 2) (y - 1)) w (add_Ok hq (hz_Ok _ _)) (hz_Ok _ _) hG,
    callt rfl rfl fun w hG => halves_z ((2 * (c + u)) - a) y w ⟨by omega, by omega⟩ ⟨by omega, by omega⟩ hG,
    callt rfl rfl fun w hG => DAdd_canon hp (hz_Ok _ _) (show addD p (hz ((2 * (c + u)) - a) (y - 1)) = addD (addD p (hz (((2 * c) + s) - a) (y - 1))) (hz ((2 * u) - s) (y - 1)) ∧ addE p (hz ((2 * (c + u)) - a) (y - 1)) = addE (addD p (hz (((2 * c) + s) - a) (y - 1))) (hz ((2 * u) - s) (y - 1)) from add_hz hp ⟨by omega, by omega⟩ ⟨by omega, by omega⟩ ⟨by omega, by omega⟩ (by omega) cx) w hG,
    callt rfl rfl fun w hG => halves_z ((b - (2 * (r + z))) - 2) y w ⟨by omega, by omega⟩ ⟨by omega, by omega⟩ hG,
    callt rfl rfl fun w hG => DAdd_canon hq (hz_Ok _ _) (show addD q (hz ((b - (2 * (r + z))) - 2) (y - 1)) = addD (addD q (hz ((b - (2 * r)) - t) (y - 1))) (hz ((t - (2 * z)) - 2) (y - 1)) ∧ addE q (hz ((b - (2 * (r + z))) - 2) (y - 1)) = addE (addD q (hz ((b - (2 * r)) - t) (y - 1))) (hz ((t - (2 * z)) - 2) (y - 1)) from add_hz hq ⟨by omega, by omega⟩ ⟨by omega, by omega⟩ ⟨by omega, by omega⟩ (by omega) cy) w hG,
    trivial⟩
  have fin : ∀ v, @comes (Zm_C3N_k b11 b12 b15 b17 b35 b40 b41) Tryz.prog glT 3000 Zm_C3N_f Zm_C3N_a = some v → ground v = true → Ending.returned (gval v) = .returned (.bool true) → Calls Tryz.prog 5 #[.agg #[.bool p.g, .string (natS p.n), .int .i64 p.x, .bool q.g, .string (natS q.n), .int .i64 q.x, .int .i64 y, .int .i64 a, .int .i64 b], .int .i64 c, .int .i64 r, .int .i64 s, .int .i64 t, .int .i64 u, .int .i64 z] w fun e w' => e = .returned (.bool true) ∧ Below w.heap.size w w' := fun v h1 h2 h3 => (@sym_ok _ (Zm_C3N_k b11 b12 b15 b17 b35 b40 b41) _ (@KnowOk.of _ (Zm_C3N_k b11 b12 b15 b17 b35 b40 b41) _ hops hcalls) (by kernel_rfl) _ _ _ _ h1 rfl h2 _ hG).mono fun e w' h => ⟨h.1.trans h3, h.2⟩
  clear hops hcalls
  cases b11 with
  | true =>
    have h11 : addE p (hz ((2 * c) - a) (y - 1)) = 0 := i11.1 rfl
    cases b41 with
    | true =>
      exact absurd (i41.1 rfl) (fun k => hn1 ⟨h11, k⟩)
    | false =>
      have h41 : ¬ (addE q (hz ((b - (2 * r)) - 2) (y - 1)) = 0) := fun c => Bool.false_ne_true (i41.2 c)
      cases b12 with
      | true =>
        have h12 : y - 1 ≥ -4096 := i12.1 rfl
        cases b15 with
        | true =>
          have h15 : 2 * a ≤ 65536 := i15.1 rfl
          cases b17 with
          | true =>
            have h17 : 2 * b ≤ 65536 := i17.1 rfl
            cases b35 with
            | true =>
              have h35 : addE (addD p (hz (((2 * c) + s) - a) (y - 1))) (hz ((2 * u) - s) (y - 1)) = 0 := i35.1 rfl
              cases b40 with
              | true =>
                have h40 : addE (addD q (hz ((b - (2 * r)) - t) (y - 1))) (hz ((t - (2 * z)) - 2) (y - 1)) = 0 := i40.1 rfl
                exact fin _ (Zm_C3N_r1) rfl rfl
              | false =>
                have h40 : ¬ (addE (addD q (hz ((b - (2 * r)) - t) (y - 1))) (hz ((t - (2 * z)) - 2) (y - 1)) = 0) := fun c => Bool.false_ne_true (i40.2 c)
                exact fin _ (Zm_C3N_r2) rfl rfl
            | false =>
              have h35 : ¬ (addE (addD p (hz (((2 * c) + s) - a) (y - 1))) (hz ((2 * u) - s) (y - 1)) = 0) := fun c => Bool.false_ne_true (i35.2 c)
              exact fin _ (Zm_C3N_r3 b40) rfl rfl
          | false =>
            have h17 : ¬ (2 * b ≤ 65536) := fun c => Bool.false_ne_true (i17.2 c)
            cases b35 with
            | true =>
              have h35 : addE (addD p (hz (((2 * c) + s) - a) (y - 1))) (hz ((2 * u) - s) (y - 1)) = 0 := i35.1 rfl
              cases b40 with
              | true =>
                have h40 : addE (addD q (hz ((b - (2 * r)) - t) (y - 1))) (hz ((t - (2 * z)) - 2) (y - 1)) = 0 := i40.1 rfl
                exact fin _ (Zm_C3N_r4) rfl rfl
              | false =>
                have h40 : ¬ (addE (addD q (hz ((b - (2 * r)) - t) (y - 1))) (hz ((t - (2 * z)) - 2) (y - 1)) = 0) := fun c => Bool.false_ne_true (i40.2 c)
                exact fin _ (Zm_C3N_r5) rfl rfl
            | false =>
              have h35 : ¬ (addE (addD p (hz (((2 * c) + s) - a) (y - 1))) (hz ((2 * u) - s) (y - 1)) = 0) := fun c => Bool.false_ne_true (i35.2 c)
              exact fin _ (Zm_C3N_r6 b40) rfl rfl
        | false =>
          have h15 : ¬ (2 * a ≤ 65536) := fun c => Bool.false_ne_true (i15.2 c)
          cases b35 with
          | true =>
            have h35 : addE (addD p (hz (((2 * c) + s) - a) (y - 1))) (hz ((2 * u) - s) (y - 1)) = 0 := i35.1 rfl
            cases b40 with
            | true =>
              have h40 : addE (addD q (hz ((b - (2 * r)) - t) (y - 1))) (hz ((t - (2 * z)) - 2) (y - 1)) = 0 := i40.1 rfl
              exact fin _ (Zm_C3N_r7 b17) rfl rfl
            | false =>
              have h40 : ¬ (addE (addD q (hz ((b - (2 * r)) - t) (y - 1))) (hz ((t - (2 * z)) - 2) (y - 1)) = 0) := fun c => Bool.false_ne_true (i40.2 c)
              exact fin _ (Zm_C3N_r8 b17) rfl rfl
          | false =>
            have h35 : ¬ (addE (addD p (hz (((2 * c) + s) - a) (y - 1))) (hz ((2 * u) - s) (y - 1)) = 0) := fun c => Bool.false_ne_true (i35.2 c)
            exact fin _ (Zm_C3N_r9 b17 b40) rfl rfl
      | false =>
        have h12 : ¬ (y - 1 ≥ -4096) := fun c => Bool.false_ne_true (i12.2 c)
        cases b35 with
        | true =>
          have h35 : addE (addD p (hz (((2 * c) + s) - a) (y - 1))) (hz ((2 * u) - s) (y - 1)) = 0 := i35.1 rfl
          cases b40 with
          | true =>
            have h40 : addE (addD q (hz ((b - (2 * r)) - t) (y - 1))) (hz ((t - (2 * z)) - 2) (y - 1)) = 0 := i40.1 rfl
            exact fin _ (Zm_C3N_r10 b15 b17) rfl rfl
          | false =>
            have h40 : ¬ (addE (addD q (hz ((b - (2 * r)) - t) (y - 1))) (hz ((t - (2 * z)) - 2) (y - 1)) = 0) := fun c => Bool.false_ne_true (i40.2 c)
            exact fin _ (Zm_C3N_r11 b15 b17) rfl rfl
        | false =>
          have h35 : ¬ (addE (addD p (hz (((2 * c) + s) - a) (y - 1))) (hz ((2 * u) - s) (y - 1)) = 0) := fun c => Bool.false_ne_true (i35.2 c)
          exact fin _ (Zm_C3N_r12 b15 b17 b40) rfl rfl
  | false =>
    have h11 : ¬ (addE p (hz ((2 * c) - a) (y - 1)) = 0) := fun c => Bool.false_ne_true (i11.2 c)
    cases b12 with
    | true =>
      have h12 : y - 1 ≥ -4096 := i12.1 rfl
      cases b15 with
      | true =>
        have h15 : 2 * a ≤ 65536 := i15.1 rfl
        cases b17 with
        | true =>
          have h17 : 2 * b ≤ 65536 := i17.1 rfl
          cases b35 with
          | true =>
            have h35 : addE (addD p (hz (((2 * c) + s) - a) (y - 1))) (hz ((2 * u) - s) (y - 1)) = 0 := i35.1 rfl
            cases b40 with
            | true =>
              have h40 : addE (addD q (hz ((b - (2 * r)) - t) (y - 1))) (hz ((t - (2 * z)) - 2) (y - 1)) = 0 := i40.1 rfl
              exact fin _ (Zm_C3N_r13 b41) rfl rfl
            | false =>
              have h40 : ¬ (addE (addD q (hz ((b - (2 * r)) - t) (y - 1))) (hz ((t - (2 * z)) - 2) (y - 1)) = 0) := fun c => Bool.false_ne_true (i40.2 c)
              exact fin _ (Zm_C3N_r14 b41) rfl rfl
          | false =>
            have h35 : ¬ (addE (addD p (hz (((2 * c) + s) - a) (y - 1))) (hz ((2 * u) - s) (y - 1)) = 0) := fun c => Bool.false_ne_true (i35.2 c)
            exact fin _ (Zm_C3N_r15 b40 b41) rfl rfl
        | false =>
          have h17 : ¬ (2 * b ≤ 65536) := fun c => Bool.false_ne_true (i17.2 c)
          cases b35 with
          | true =>
            have h35 : addE (addD p (hz (((2 * c) + s) - a) (y - 1))) (hz ((2 * u) - s) (y - 1)) = 0 := i35.1 rfl
            cases b40 with
            | true =>
              have h40 : addE (addD q (hz ((b - (2 * r)) - t) (y - 1))) (hz ((t - (2 * z)) - 2) (y - 1)) = 0 := i40.1 rfl
              exact fin _ (Zm_C3N_r16 b41) rfl rfl
            | false =>
              have h40 : ¬ (addE (addD q (hz ((b - (2 * r)) - t) (y - 1))) (hz ((t - (2 * z)) - 2) (y - 1)) = 0) := fun c => Bool.false_ne_true (i40.2 c)
              exact fin _ (Zm_C3N_r17 b41) rfl rfl
          | false =>
            have h35 : ¬ (addE (addD p (hz (((2 * c) + s) - a) (y - 1))) (hz ((2 * u) - s) (y - 1)) = 0) := fun c => Bool.false_ne_true (i35.2 c)
            exact fin _ (Zm_C3N_r18 b40 b41) rfl rfl
      | false =>
        have h15 : ¬ (2 * a ≤ 65536) := fun c => Bool.false_ne_true (i15.2 c)
        cases b35 with
        | true =>
          have h35 : addE (addD p (hz (((2 * c) + s) - a) (y - 1))) (hz ((2 * u) - s) (y - 1)) = 0 := i35.1 rfl
          cases b40 with
          | true =>
            have h40 : addE (addD q (hz ((b - (2 * r)) - t) (y - 1))) (hz ((t - (2 * z)) - 2) (y - 1)) = 0 := i40.1 rfl
            exact fin _ (Zm_C3N_r19 b17 b41) rfl rfl
          | false =>
            have h40 : ¬ (addE (addD q (hz ((b - (2 * r)) - t) (y - 1))) (hz ((t - (2 * z)) - 2) (y - 1)) = 0) := fun c => Bool.false_ne_true (i40.2 c)
            exact fin _ (Zm_C3N_r20 b17 b41) rfl rfl
        | false =>
          have h35 : ¬ (addE (addD p (hz (((2 * c) + s) - a) (y - 1))) (hz ((2 * u) - s) (y - 1)) = 0) := fun c => Bool.false_ne_true (i35.2 c)
          exact fin _ (Zm_C3N_r21 b17 b40 b41) rfl rfl
    | false =>
      have h12 : ¬ (y - 1 ≥ -4096) := fun c => Bool.false_ne_true (i12.2 c)
      cases b35 with
      | true =>
        have h35 : addE (addD p (hz (((2 * c) + s) - a) (y - 1))) (hz ((2 * u) - s) (y - 1)) = 0 := i35.1 rfl
        cases b40 with
        | true =>
          have h40 : addE (addD q (hz ((b - (2 * r)) - t) (y - 1))) (hz ((t - (2 * z)) - 2) (y - 1)) = 0 := i40.1 rfl
          exact fin _ (Zm_C3N_r22 b15 b17 b41) rfl rfl
        | false =>
          have h40 : ¬ (addE (addD q (hz ((b - (2 * r)) - t) (y - 1))) (hz ((t - (2 * z)) - 2) (y - 1)) = 0) := fun c => Bool.false_ne_true (i40.2 c)
          exact fin _ (Zm_C3N_r23 b15 b17 b41) rfl rfl
      | false =>
        have h35 : ¬ (addE (addD p (hz (((2 * c) + s) - a) (y - 1))) (hz ((2 * u) - s) (y - 1)) = 0) := fun c => Bool.false_ne_true (i35.2 c)
        exact fin _ (Zm_C3N_r24 b15 b17 b40 b41) rfl rfl

@[reducible] def Zm_C4N_f : FuncId := 5
@[reducible] def Zm_C4N_a : List AV := [.agg [.sym 0, .sym 1, .sym 2, .sym 3, .sym 4, .sym 5, .sym 6, .sym 7, .sym 8], .lit (.int .i64 0), .lit (.int .i64 0), .sym 9, .sym 10, .sym 11, .sym 12]
@[reducible] noncomputable def Zm_C4N_k (b9 b10 b13 b15 b26 b31 b32 : Bool) : Know := ⟨[([0, 16, 3], [.sym 6, .lit (.int .i64 (-4096))], .lit (.bool true)),
  ([0, 14, 3], [.sym 6, .lit (.int .i64 4096)], .lit (.bool true)),
  ([0, 16, 3], [.sym 7, .lit (.int .i64 1)], .lit (.bool true)),
  ([0, 14, 3], [.sym 7, .lit (.int .i64 65536)], .lit (.bool true)),
  ([0, 16, 3], [.sym 8, .lit (.int .i64 1)], .lit (.bool true)),
  ([0, 14, 3], [.sym 8, .lit (.int .i64 65536)], .lit (.bool true)),
  ([0, 1, 3], [.sym 7, .lit (.int .i64 1)], .sym 13),
  ([0, 14, 3], [.lit (.int .i64 0), .sym 13], .lit (.bool true)),
  ([0, 1, 3], [.sym 8, .lit (.int .i64 1)], .sym 14),
  ([0, 14, 3], [.lit (.int .i64 0), .sym 14], .lit (.bool true)),
  ([0, 1, 3], [.lit (.int .i64 0), .sym 7], .sym 15),
  ([0, 1, 3], [.sym 8, .lit (.int .i64 0)], .sym 23),
  ([0, 1, 3], [.sym 23, .lit (.int .i64 2)], .sym 24),
  ([0, 12, 30], [.sym 22, .lit (.int .i64 0)], .lit (.bool (!b9))),
  ([0, 1, 3], [.sym 6, .lit (.int .i64 1)], .sym 32),
  ([0, 8, 3], [.sym 7, .lit (.int .i64 1)], .sym 33),
  ([0, 8, 3], [.sym 8, .lit (.int .i64 1)], .sym 34),
  ([0, 16, 3], [.sym 32, .lit (.int .i64 (-4096))], .lit (.bool b10)),
  ([0, 14, 3], [.sym 32, .lit (.int .i64 4096)], .lit (.bool true)),
  ([0, 16, 3], [.sym 33, .lit (.int .i64 1)], .lit (.bool true)),
  ([0, 14, 3], [.sym 33, .lit (.int .i64 65536)], .lit (.bool b13)),
  ([0, 16, 3], [.sym 34, .lit (.int .i64 1)], .lit (.bool true)),
  ([0, 14, 3], [.sym 34, .lit (.int .i64 65536)], .lit (.bool b15)),
  ([0, 1, 3], [.sym 7, .lit (.int .i64 0)], .sym 35),
  ([0, 16, 3], [.sym 9, .lit (.int .i64 1)], .lit (.bool true)),
  ([0, 14, 3], [.sym 9, .sym 35], .lit (.bool true)),
  ([0, 16, 3], [.sym 10, .lit (.int .i64 1)], .lit (.bool true)),
  ([0, 14, 3], [.sym 10, .sym 23], .lit (.bool true)),
  ([0, 11, 100], [.agg [.sym 9, .sym 10], .agg [.sym 7, .sym 8]], .lit (.bool true)),
  ([0, 13, 3], [.sym 11, .lit (.int .i64 0)], .lit (.bool false)),
  ([0, 13, 3], [.sym 12, .lit (.int .i64 0)], .lit (.bool false)),
  ([0, 16, 3], [.sym 11, .sym 9], .lit (.bool false)),
  ([0, 16, 3], [.sym 12, .sym 10], .lit (.bool false)),
  ([0, 16, 3], [.sym 11, .lit (.int .i64 0)], .lit (.bool true)),
  ([0, 14, 3], [.sym 11, .sym 13], .lit (.bool true)),
  ([0, 16, 3], [.sym 12, .lit (.int .i64 0)], .lit (.bool true)),
  ([0, 14, 3], [.sym 12, .sym 14], .lit (.bool true)),
  ([0, 2, 3], [.lit (.int .i64 2), .sym 11], .sym 36),
  ([0, 1, 3], [.sym 36, .sym 7], .sym 37),
  ([0, 2, 3], [.lit (.int .i64 2), .sym 12], .sym 45),
  ([0, 1, 3], [.sym 8, .sym 45], .sym 46),
  ([0, 1, 3], [.sym 46, .lit (.int .i64 2)], .sym 47),
  ([0, 12, 30], [.sym 44, .lit (.int .i64 0)], .lit (.bool (!b26))),
  ([0, 0, 3], [.lit (.int .i64 0), .sym 11], .sym 55),
  ([0, 0, 3], [.lit (.int .i64 0), .sym 12], .sym 56),
  ([0, 16, 3], [.sym 55, .lit (.int .i64 0)], .lit (.bool true)),
  ([0, 14, 3], [.sym 55, .sym 13], .lit (.bool true)),
  ([0, 16, 3], [.sym 56, .lit (.int .i64 0)], .lit (.bool true)),
  ([0, 14, 3], [.sym 56, .sym 14], .lit (.bool true)),
  ([0, 2, 3], [.lit (.int .i64 2), .sym 55], .sym 57),
  ([0, 1, 3], [.sym 57, .sym 7], .sym 58),
  ([0, 2, 3], [.lit (.int .i64 2), .sym 56], .sym 59),
  ([0, 1, 3], [.sym 8, .sym 59], .sym 60),
  ([0, 1, 3], [.sym 60, .lit (.int .i64 2)], .sym 61),
  ([0, 12, 30], [.sym 54, .lit (.int .i64 0)], .lit (.bool (!b31))),
  ([0, 11, 26], [.agg [.sym 41, .sym 42, .sym 43, .sym 51, .sym 52, .sym 53, .sym 6], .agg [.sym 41, .sym 42, .sym 43, .sym 51, .sym 52, .sym 53, .sym 6]], .lit (.bool true)),
  ([0, 12, 30], [.sym 31, .lit (.int .i64 0)], .lit (.bool (!b32)))],
  [(13, [], .lit (.bool true)),
  (25, [.agg [.sym 0, .sym 1, .sym 2, .sym 3, .sym 4, .sym 5]], .lit (.int .i64 0)),
  (50, [.sym 15, .sym 6], .agg [.sym 16, .sym 17, .sym 18]),
  (20, [.agg [.sym 0, .sym 1, .sym 2], .agg [.sym 16, .sym 17, .sym 18]], .tup [.agg [.sym 19, .sym 20, .sym 21], .sym 22]),
  (50, [.sym 24, .sym 6], .agg [.sym 25, .sym 26, .sym 27]),
  (20, [.agg [.sym 3, .sym 4, .sym 5], .agg [.sym 25, .sym 26, .sym 27]], .tup [.agg [.sym 28, .sym 29, .sym 30], .sym 31]),
  (50, [.sym 37, .sym 6], .agg [.sym 38, .sym 39, .sym 40]),
  (20, [.agg [.sym 0, .sym 1, .sym 2], .agg [.sym 38, .sym 39, .sym 40]], .tup [.agg [.sym 41, .sym 42, .sym 43], .sym 44]),
  (50, [.sym 47, .sym 6], .agg [.sym 48, .sym 49, .sym 50]),
  (20, [.agg [.sym 3, .sym 4, .sym 5], .agg [.sym 48, .sym 49, .sym 50]], .tup [.agg [.sym 51, .sym 52, .sym 53], .sym 54]),
  (50, [.sym 58, .sym 6], .agg [.sym 38, .sym 39, .sym 40]),
  (50, [.sym 61, .sym 6], .agg [.sym 48, .sym 49, .sym 50])]⟩
theorem Zm_C4N_r1 : @comes (Zm_C4N_k true true true true true true false) Tryz.prog glT 3000 Zm_C4N_f Zm_C4N_a = some (.lit (.bool true)) := by kernel_rfl
theorem Zm_C4N_r2 : @comes (Zm_C4N_k true true true true true false false) Tryz.prog glT 3000 Zm_C4N_f Zm_C4N_a = some (.lit (.bool true)) := by kernel_rfl
theorem Zm_C4N_r3 (b31 : Bool) : @comes (Zm_C4N_k true true true true false b31 false) Tryz.prog glT 3000 Zm_C4N_f Zm_C4N_a = some (.lit (.bool true)) := by kernel_rfl
theorem Zm_C4N_r4 : @comes (Zm_C4N_k true true true false true true false) Tryz.prog glT 3000 Zm_C4N_f Zm_C4N_a = some (.lit (.bool true)) := by kernel_rfl
theorem Zm_C4N_r5 : @comes (Zm_C4N_k true true true false true false false) Tryz.prog glT 3000 Zm_C4N_f Zm_C4N_a = some (.lit (.bool true)) := by kernel_rfl
theorem Zm_C4N_r6 (b31 : Bool) : @comes (Zm_C4N_k true true true false false b31 false) Tryz.prog glT 3000 Zm_C4N_f Zm_C4N_a = some (.lit (.bool true)) := by kernel_rfl
theorem Zm_C4N_r7 (b15 : Bool) : @comes (Zm_C4N_k true true false b15 true true false) Tryz.prog glT 3000 Zm_C4N_f Zm_C4N_a = some (.lit (.bool true)) := by kernel_rfl
theorem Zm_C4N_r8 (b15 : Bool) : @comes (Zm_C4N_k true true false b15 true false false) Tryz.prog glT 3000 Zm_C4N_f Zm_C4N_a = some (.lit (.bool true)) := by kernel_rfl
theorem Zm_C4N_r9 (b15 b31 : Bool) : @comes (Zm_C4N_k true true false b15 false b31 false) Tryz.prog glT 3000 Zm_C4N_f Zm_C4N_a = some (.lit (.bool true)) := by kernel_rfl
theorem Zm_C4N_r10 (b13 b15 : Bool) : @comes (Zm_C4N_k true false b13 b15 true true false) Tryz.prog glT 3000 Zm_C4N_f Zm_C4N_a = some (.lit (.bool true)) := by kernel_rfl
theorem Zm_C4N_r11 (b13 b15 : Bool) : @comes (Zm_C4N_k true false b13 b15 true false false) Tryz.prog glT 3000 Zm_C4N_f Zm_C4N_a = some (.lit (.bool true)) := by kernel_rfl
theorem Zm_C4N_r12 (b13 b15 b31 : Bool) : @comes (Zm_C4N_k true false b13 b15 false b31 false) Tryz.prog glT 3000 Zm_C4N_f Zm_C4N_a = some (.lit (.bool true)) := by kernel_rfl
theorem Zm_C4N_r13 (b32 : Bool) : @comes (Zm_C4N_k false true true true true true b32) Tryz.prog glT 3000 Zm_C4N_f Zm_C4N_a = some (.lit (.bool true)) := by kernel_rfl
theorem Zm_C4N_r14 (b32 : Bool) : @comes (Zm_C4N_k false true true true true false b32) Tryz.prog glT 3000 Zm_C4N_f Zm_C4N_a = some (.lit (.bool true)) := by kernel_rfl
theorem Zm_C4N_r15 (b31 b32 : Bool) : @comes (Zm_C4N_k false true true true false b31 b32) Tryz.prog glT 3000 Zm_C4N_f Zm_C4N_a = some (.lit (.bool true)) := by kernel_rfl
theorem Zm_C4N_r16 (b32 : Bool) : @comes (Zm_C4N_k false true true false true true b32) Tryz.prog glT 3000 Zm_C4N_f Zm_C4N_a = some (.lit (.bool true)) := by kernel_rfl
theorem Zm_C4N_r17 (b32 : Bool) : @comes (Zm_C4N_k false true true false true false b32) Tryz.prog glT 3000 Zm_C4N_f Zm_C4N_a = some (.lit (.bool true)) := by kernel_rfl
theorem Zm_C4N_r18 (b31 b32 : Bool) : @comes (Zm_C4N_k false true true false false b31 b32) Tryz.prog glT 3000 Zm_C4N_f Zm_C4N_a = some (.lit (.bool true)) := by kernel_rfl
theorem Zm_C4N_r19 (b15 b32 : Bool) : @comes (Zm_C4N_k false true false b15 true true b32) Tryz.prog glT 3000 Zm_C4N_f Zm_C4N_a = some (.lit (.bool true)) := by kernel_rfl
theorem Zm_C4N_r20 (b15 b32 : Bool) : @comes (Zm_C4N_k false true false b15 true false b32) Tryz.prog glT 3000 Zm_C4N_f Zm_C4N_a = some (.lit (.bool true)) := by kernel_rfl
theorem Zm_C4N_r21 (b15 b31 b32 : Bool) : @comes (Zm_C4N_k false true false b15 false b31 b32) Tryz.prog glT 3000 Zm_C4N_f Zm_C4N_a = some (.lit (.bool true)) := by kernel_rfl
theorem Zm_C4N_r22 (b13 b15 b32 : Bool) : @comes (Zm_C4N_k false false b13 b15 true true b32) Tryz.prog glT 3000 Zm_C4N_f Zm_C4N_a = some (.lit (.bool true)) := by kernel_rfl
theorem Zm_C4N_r23 (b13 b15 b32 : Bool) : @comes (Zm_C4N_k false false b13 b15 true false b32) Tryz.prog glT 3000 Zm_C4N_f Zm_C4N_a = some (.lit (.bool true)) := by kernel_rfl
theorem Zm_C4N_r24 (b13 b15 b31 b32 : Bool) : @comes (Zm_C4N_k false false b13 b15 false b31 b32) Tryz.prog glT 3000 Zm_C4N_f Zm_C4N_a = some (.lit (.bool true)) := by kernel_rfl

set_option maxRecDepth 100000 in
set_option maxHeartbeats 4000000 in
theorem Zm_C4N (p q : Dy) (y a b u z : Int) (w : World) (hp : p.Ok) (hq : q.Ok) (e1 : -4096 ≤ y) (e2 : y ≤ 4096) (a1 : 1 ≤ a) (a2 : a ≤ 65536) (b1 : 1 ≤ b) (b2 : b ≤ 65536) (hn1 : ¬ (addE p (hz (0 - a) (y - 1)) = 0 ∧ addE q (hz ((b - 0) - 2) (y - 1)) = 0)) (u1 : 0 ≤ u) (u2 : u < a) (v1 : 0 ≤ z) (v2 : z < b) (hG : Globs glT w) : Calls Tryz.prog 5 #[.agg #[.bool p.g, .string (natS p.n), .int .i64 p.x, .bool q.g, .string (natS q.n), .int .i64 q.x, .int .i64 y, .int .i64 a, .int .i64 b], .int .i64 0, .int .i64 0, .int .i64 a, .int .i64 b, .int .i64 u, .int .i64 z] w fun e w' => e = .returned (.bool true) ∧ Below w.heap.size w w' := by
  have h1 : y ≥ -4096 := (by omega)
  have i1 : true = true ↔ (y ≥ -4096) := ⟨fun _ => h1, fun _ => rfl⟩
  have h2 : y ≤ 4096 := (by omega)
  have i2 : true = true ↔ (y ≤ 4096) := ⟨fun _ => h2, fun _ => rfl⟩
  have h3 : a ≥ 1 := (by omega)
  have i3 : true = true ↔ (a ≥ 1) := ⟨fun _ => h3, fun _ => rfl⟩
  have h4 : a ≤ 65536 := (by omega)
  have i4 : true = true ↔ (a ≤ 65536) := ⟨fun _ => h4, fun _ => rfl⟩
  have h5 : b ≥ 1 := (by omega)
  have i5 : true = true ↔ (b ≥ 1) := ⟨fun _ => h5, fun _ => rfl⟩
  have h6 : b ≤ 65536 := (by omega)
  have i6 : true = true ↔ (b ≤ 65536) := ⟨fun _ => h6, fun _ => rfl⟩
  have h7 : 0 ≤ a - 1 := (by omega)
  have i7 : true = true ↔ (0 ≤ a - 1) := ⟨fun _ => h7, fun _ => rfl⟩
  have h8 : 0 ≤ b - 1 := (by omega)
  have i8 : true = true ↔ (0 ≤ b - 1) := ⟨fun _ => h8, fun _ => rfl⟩
  obtain ⟨b9, i9⟩ := bex (addE p (hz (0 - a) (y - 1)) = 0)
  obtain ⟨b10, i10⟩ := bex (y - 1 ≥ -4096)
  have h11 : y - 1 ≤ 4096 := (by omega)
  have i11 : true = true ↔ (y - 1 ≤ 4096) := ⟨fun _ => h11, fun _ => rfl⟩
  have h12 : 2 * a ≥ 1 := (by omega)
  have i12 : true = true ↔ (2 * a ≥ 1) := ⟨fun _ => h12, fun _ => rfl⟩
  obtain ⟨b13, i13⟩ := bex (2 * a ≤ 65536)
  have h14 : 2 * b ≥ 1 := (by omega)
  have i14 : true = true ↔ (2 * b ≥ 1) := ⟨fun _ => h14, fun _ => rfl⟩
  obtain ⟨b15, i15⟩ := bex (2 * b ≤ 65536)
  have h16 : a ≤ a - 0 := (by omega)
  have i16 : true = true ↔ (a ≤ a - 0) := ⟨fun _ => h16, fun _ => rfl⟩
  have h17 : b ≤ b - 0 := (by omega)
  have i17 : true = true ↔ (b ≤ b - 0) := ⟨fun _ => h17, fun _ => rfl⟩
  have h18 : ¬ (u < 0) := (by omega)
  have i18 : false = true ↔ (u < 0) := ⟨fun k => absurd k Bool.false_ne_true, fun k => absurd k h18⟩
  have h19 : ¬ (z < 0) := (by omega)
  have i19 : false = true ↔ (z < 0) := ⟨fun k => absurd k Bool.false_ne_true, fun k => absurd k h19⟩
  have h20 : ¬ (u ≥ a) := (by omega)
  have i20 : false = true ↔ (u ≥ a) := ⟨fun k => absurd k Bool.false_ne_true, fun k => absurd k h20⟩
  have h21 : ¬ (z ≥ b) := (by omega)
  have i21 : false = true ↔ (z ≥ b) := ⟨fun k => absurd k Bool.false_ne_true, fun k => absurd k h21⟩
  have h22 : u ≥ 0 := (by omega)
  have i22 : true = true ↔ (u ≥ 0) := ⟨fun _ => h22, fun _ => rfl⟩
  have h23 : u ≤ a - 1 := (by omega)
  have i23 : true = true ↔ (u ≤ a - 1) := ⟨fun _ => h23, fun _ => rfl⟩
  have h24 : z ≥ 0 := (by omega)
  have i24 : true = true ↔ (z ≥ 0) := ⟨fun _ => h24, fun _ => rfl⟩
  have h25 : z ≤ b - 1 := (by omega)
  have i25 : true = true ↔ (z ≤ b - 1) := ⟨fun _ => h25, fun _ => rfl⟩
  obtain ⟨b26, i26⟩ := bex (addE p (hz ((2 * u) - a) (y - 1)) = 0)
  have h27 : 0 + u ≥ 0 := (by omega)
  have i27 : true = true ↔ (0 + u ≥ 0) := ⟨fun _ => h27, fun _ => rfl⟩
  have h28 : 0 + u ≤ a - 1 := (by omega)
  have i28 : true = true ↔ (0 + u ≤ a - 1) := ⟨fun _ => h28, fun _ => rfl⟩
  have h29 : 0 + z ≥ 0 := (by omega)
  have i29 : true = true ↔ (0 + z ≥ 0) := ⟨fun _ => h29, fun _ => rfl⟩
  have h30 : 0 + z ≤ b - 1 := (by omega)
  have i30 : true = true ↔ (0 + z ≤ b - 1) := ⟨fun _ => h30, fun _ => rfl⟩
  obtain ⟨b31, i31⟩ := bex (addE q (hz ((b - (2 * z)) - 2) (y - 1)) = 0)
  obtain ⟨b32, i32⟩ := bex (addE q (hz ((b - 0) - 2) (y - 1)) = 0)
  letI : Env := mkEnv glT [.bool p.g, .string (natS p.n), .int .i64 p.x, .bool q.g, .string (natS q.n), .int .i64 q.x, .int .i64 y, .int .i64 a, .int .i64 b, .int .i64 a, .int .i64 b, .int .i64 u, .int .i64 z, .int .i64 (a - 1), .int .i64 (b - 1), .int .i64 (0 - a), .bool (hz (0 - a) (y - 1)).g, .string (natS (hz (0 - a) (y - 1)).n), .int .i64 (hz (0 - a) (y - 1)).x, .bool (addD p (hz (0 - a) (y - 1))).g, .string (natS (addD p (hz (0 - a) (y - 1))).n), .int .i64 (addD p (hz (0 - a) (y - 1))).x, .int .i64 (addE p (hz (0 - a) (y - 1))), .int .i64 (b - 0), .int .i64 ((b - 0) - 2), .bool (hz ((b - 0) - 2) (y - 1)).g, .string (natS (hz ((b - 0) - 2) (y - 1)).n), .int .i64 (hz ((b - 0) - 2) (y - 1)).x, .bool (addD q (hz ((b - 0) - 2) (y - 1))).g, .string (natS (addD q (hz ((b - 0) - 2) (y - 1))).n), .int .i64 (addD q (hz ((b - 0) - 2) (y - 1))).x, .int .i64 (addE q (hz ((b - 0) - 2) (y - 1))), .int .i64 (y - 1), .int .i64 (2 * a), .int .i64 (2 * b), .int .i64 (a - 0), .int .i64 (2 * u), .int .i64 ((2 * u) - a), .bool (hz ((2 * u) - a) (y - 1)).g, .string (natS (hz ((2 * u) - a) (y - 1)).n), .int .i64 (hz ((2 * u) - a) (y - 1)).x, .bool (addD p (hz ((2 * u) - a) (y - 1))).g, .string (natS (addD p (hz ((2 * u) - a) (y - 1))).n), .int .i64 (addD p (hz ((2 * u) - a) (y - 1))).x, .int .i64 (addE p (hz ((2 * u) - a) (y - 1))), .int .i64 (2 * z), .int .i64 (b - (2 * z)), .int .i64 ((b - (2 * z)) - 2), .bool (hz ((b - (2 * z)) - 2) (y - 1)).g, .string (natS (hz ((b - (2 * z)) - 2) (y - 1)).n), .int .i64 (hz ((b - (2 * z)) - 2) (y - 1)).x, .bool (addD q (hz ((b - (2 * z)) - 2) (y - 1))).g, .string (natS (addD q (hz ((b - (2 * z)) - 2) (y - 1))).n), .int .i64 (addD q (hz ((b - (2 * z)) - 2) (y - 1))).x, .int .i64 (addE q (hz ((b - (2 * z)) - 2) (y - 1))), .int .i64 (0 + u), .int .i64 (0 + z), .int .i64 (2 * (0 + u)), .int .i64 ((2 * (0 + u)) - a), .int .i64 (2 * (0 + z)), .int .i64 (b - (2 * (0 + z))), .int .i64 ((b - (2 * (0 + z))) - 2)] rfl
  have hops : OpsT Tryz.prog (@Know.ops (Zm_C4N_k b9 b10 b13 b15 b26 b31 b32)) := ⟨opt_geq_i rfl rfl i1,
    opt_leq_i rfl rfl i2,
    opt_geq_i rfl rfl i3,
    opt_leq_i rfl rfl i4,
    opt_geq_i rfl rfl i5,
    opt_leq_i rfl rfl i6,
    vopt_sub rfl rfl rfl rfl (by omega) ⟨by omega, by omega⟩,
    opt_leq_i rfl rfl i7,
    vopt_sub rfl rfl rfl rfl (by omega) ⟨by omega, by omega⟩,
    opt_leq_i rfl rfl i8,
    vopt_sub rfl rfl rfl rfl (by omega) ⟨by omega, by omega⟩,
    vopt_sub rfl rfl rfl rfl (by omega) ⟨by omega, by omega⟩,
    vopt_sub rfl rfl rfl rfl (by omega) ⟨by omega, by omega⟩,
    opt_neq_i rfl rfl i9,
    vopt_sub rfl rfl rfl rfl (by omega) ⟨by omega, by omega⟩,
    vopt_shl rfl rfl rfl rfl (by omega) ⟨by omega, by omega⟩,
    vopt_shl rfl rfl rfl rfl (by omega) ⟨by omega, by omega⟩,
    opt_geq_i rfl rfl i10,
    opt_leq_i rfl rfl i11,
    opt_geq_i rfl rfl i12,
    opt_leq_i rfl rfl i13,
    opt_geq_i rfl rfl i14,
    opt_leq_i rfl rfl i15,
    vopt_sub rfl rfl rfl rfl (by omega) ⟨by omega, by omega⟩,
    opt_geq_i rfl rfl i3,
    opt_leq_i rfl rfl i16,
    opt_geq_i rfl rfl i5,
    opt_leq_i rfl rfl i17,
    optI2_eql_i rfl rfl ⟨fun _ => rfl, fun _ => rfl⟩,
    opt_lss_i rfl rfl i18,
    opt_lss_i rfl rfl i19,
    opt_geq_i rfl rfl i20,
    opt_geq_i rfl rfl i21,
    opt_geq_i rfl rfl i22,
    opt_leq_i rfl rfl i23,
    opt_geq_i rfl rfl i24,
    opt_leq_i rfl rfl i25,
    vopt_mul rfl rfl rfl rfl (by omega) ⟨by omega, by omega⟩,
    vopt_sub rfl rfl rfl rfl (by omega) ⟨by omega, by omega⟩,
    vopt_mul rfl rfl rfl rfl (by omega) ⟨by omega, by omega⟩,
    vopt_sub rfl rfl rfl rfl (by omega) ⟨by omega, by omega⟩,
    vopt_sub rfl rfl rfl rfl (by omega) ⟨by omega, by omega⟩,
    opt_neq_i rfl rfl i26,
    vopt_add rfl rfl rfl rfl (by omega) ⟨by omega, by omega⟩,
    vopt_add rfl rfl rfl rfl (by omega) ⟨by omega, by omega⟩,
    opt_geq_i rfl rfl i27,
    opt_leq_i rfl rfl i28,
    opt_geq_i rfl rfl i29,
    opt_leq_i rfl rfl i30,
    vopt_mul rfl rfl rfl rfl (by omega) ⟨by omega, by omega⟩,
    vopt_sub rfl rfl rfl rfl (by omega) ⟨by omega, by omega⟩,
    vopt_mul rfl rfl rfl rfl (by omega) ⟨by omega, by omega⟩,
    vopt_sub rfl rfl rfl rfl (by omega) ⟨by omega, by omega⟩,
    vopt_sub rfl rfl rfl rfl (by omega) ⟨by omega, by omega⟩,
    opt_neq_i rfl rfl i31,
    opt_self_eql fun p q w => selfe_7 p q w,
    opt_neq_i rfl rfl i32,
    trivial⟩
  have hcalls : CallsT Tryz.prog (@Know.calls (Zm_C4N_k b9 b10 b13 b15 b26 b31 b32)) := ⟨callt rfl rfl fun w hG => awake24_c w hG,
    callt rfl rfl fun w hG => GCheck_gs ⟨p, q⟩ ⟨hp, hq⟩ w hG,
    callt rfl rfl fun w hG => halves_z (0 - a) y w ⟨by omega, by omega⟩ ⟨by omega, by omega⟩ hG,
    callt rfl rfl fun w hG => DAdd_c p (hz (0 - a) (y - 1)) w hp (hz_Ok _ _) hG,
    callt rfl rfl fun w hG => halves_z ((b - 0) - 2) y w ⟨by omega, by omega⟩ ⟨by omega, by omega⟩ hG,
    callt rfl rfl fun w hG => DAdd_c q (hz ((b - 0) - 2) (y - 1)) w hq (hz_Ok _ _) hG,
    callt rfl rfl fun w hG => halves_z ((2 * u) - a) y w ⟨by omega, by omega⟩ ⟨by omega, by omega⟩ hG,
    callt rfl rfl fun w hG => DAdd_c p (hz ((2 * u) - a) (y - 1)) w hp (hz_Ok _ _) hG,
    callt rfl rfl fun w hG => halves_z ((b - (2 * z)) - 2) y w ⟨by omega, by omega⟩ ⟨by omega, by omega⟩ hG,
    callt rfl rfl fun w hG => DAdd_c q (hz ((b - (2 * z)) - 2) (y - 1)) w hq (hz_Ok _ _) hG,
    callt rfl rfl fun w hG => (by have h := halves_z ((2 * (0 + u)) - a) y w ⟨by omega, by omega⟩ ⟨by omega, by omega⟩ hG; rw [(by rw [show (2 * (0 + u)) - a = (2 * u) - a from by omega, show y - 1 = y - 1 from by omega] : hz ((2 * (0 + u)) - a) (y - 1) = hz ((2 * u) - a) (y - 1))] at h; exact h),
    callt rfl rfl fun w hG => (by have h := halves_z ((b - (2 * (0 + z))) - 2) y w ⟨by omega, by omega⟩ ⟨by omega, by omega⟩ hG; rw [(by rw [show (b - (2 * (0 + z))) - 2 = (b - (2 * z)) - 2 from by omega, show y - 1 = y - 1 from by omega] : hz ((b - (2 * (0 + z))) - 2) (y - 1) = hz ((b - (2 * z)) - 2) (y - 1))] at h; exact h),
    trivial⟩
  have fin : ∀ v, @comes (Zm_C4N_k b9 b10 b13 b15 b26 b31 b32) Tryz.prog glT 3000 Zm_C4N_f Zm_C4N_a = some v → ground v = true → Ending.returned (gval v) = .returned (.bool true) → Calls Tryz.prog 5 #[.agg #[.bool p.g, .string (natS p.n), .int .i64 p.x, .bool q.g, .string (natS q.n), .int .i64 q.x, .int .i64 y, .int .i64 a, .int .i64 b], .int .i64 0, .int .i64 0, .int .i64 a, .int .i64 b, .int .i64 u, .int .i64 z] w fun e w' => e = .returned (.bool true) ∧ Below w.heap.size w w' := fun v h1 h2 h3 => (@sym_ok _ (Zm_C4N_k b9 b10 b13 b15 b26 b31 b32) _ (@KnowOk.of _ (Zm_C4N_k b9 b10 b13 b15 b26 b31 b32) _ hops hcalls) (by kernel_rfl) _ _ _ _ h1 rfl h2 _ hG).mono fun e w' h => ⟨h.1.trans h3, h.2⟩
  clear hops hcalls
  cases b9 with
  | true =>
    have h9 : addE p (hz (0 - a) (y - 1)) = 0 := i9.1 rfl
    cases b32 with
    | true =>
      exact absurd (i32.1 rfl) (fun k => hn1 ⟨h9, k⟩)
    | false =>
      have h32 : ¬ (addE q (hz ((b - 0) - 2) (y - 1)) = 0) := fun c => Bool.false_ne_true (i32.2 c)
      cases b10 with
      | true =>
        have h10 : y - 1 ≥ -4096 := i10.1 rfl
        cases b13 with
        | true =>
          have h13 : 2 * a ≤ 65536 := i13.1 rfl
          cases b15 with
          | true =>
            have h15 : 2 * b ≤ 65536 := i15.1 rfl
            cases b26 with
            | true =>
              have h26 : addE p (hz ((2 * u) - a) (y - 1)) = 0 := i26.1 rfl
              cases b31 with
              | true =>
                have h31 : addE q (hz ((b - (2 * z)) - 2) (y - 1)) = 0 := i31.1 rfl
                exact fin _ (Zm_C4N_r1) rfl rfl
              | false =>
                have h31 : ¬ (addE q (hz ((b - (2 * z)) - 2) (y - 1)) = 0) := fun c => Bool.false_ne_true (i31.2 c)
                exact fin _ (Zm_C4N_r2) rfl rfl
            | false =>
              have h26 : ¬ (addE p (hz ((2 * u) - a) (y - 1)) = 0) := fun c => Bool.false_ne_true (i26.2 c)
              exact fin _ (Zm_C4N_r3 b31) rfl rfl
          | false =>
            have h15 : ¬ (2 * b ≤ 65536) := fun c => Bool.false_ne_true (i15.2 c)
            cases b26 with
            | true =>
              have h26 : addE p (hz ((2 * u) - a) (y - 1)) = 0 := i26.1 rfl
              cases b31 with
              | true =>
                have h31 : addE q (hz ((b - (2 * z)) - 2) (y - 1)) = 0 := i31.1 rfl
                exact fin _ (Zm_C4N_r4) rfl rfl
              | false =>
                have h31 : ¬ (addE q (hz ((b - (2 * z)) - 2) (y - 1)) = 0) := fun c => Bool.false_ne_true (i31.2 c)
                exact fin _ (Zm_C4N_r5) rfl rfl
            | false =>
              have h26 : ¬ (addE p (hz ((2 * u) - a) (y - 1)) = 0) := fun c => Bool.false_ne_true (i26.2 c)
              exact fin _ (Zm_C4N_r6 b31) rfl rfl
        | false =>
          have h13 : ¬ (2 * a ≤ 65536) := fun c => Bool.false_ne_true (i13.2 c)
          cases b26 with
          | true =>
            have h26 : addE p (hz ((2 * u) - a) (y - 1)) = 0 := i26.1 rfl
            cases b31 with
            | true =>
              have h31 : addE q (hz ((b - (2 * z)) - 2) (y - 1)) = 0 := i31.1 rfl
              exact fin _ (Zm_C4N_r7 b15) rfl rfl
            | false =>
              have h31 : ¬ (addE q (hz ((b - (2 * z)) - 2) (y - 1)) = 0) := fun c => Bool.false_ne_true (i31.2 c)
              exact fin _ (Zm_C4N_r8 b15) rfl rfl
          | false =>
            have h26 : ¬ (addE p (hz ((2 * u) - a) (y - 1)) = 0) := fun c => Bool.false_ne_true (i26.2 c)
            exact fin _ (Zm_C4N_r9 b15 b31) rfl rfl
      | false =>
        have h10 : ¬ (y - 1 ≥ -4096) := fun c => Bool.false_ne_true (i10.2 c)
        cases b26 with
        | true =>
          have h26 : addE p (hz ((2 * u) - a) (y - 1)) = 0 := i26.1 rfl
          cases b31 with
          | true =>
            have h31 : addE q (hz ((b - (2 * z)) - 2) (y - 1)) = 0 := i31.1 rfl
            exact fin _ (Zm_C4N_r10 b13 b15) rfl rfl
          | false =>
            have h31 : ¬ (addE q (hz ((b - (2 * z)) - 2) (y - 1)) = 0) := fun c => Bool.false_ne_true (i31.2 c)
            exact fin _ (Zm_C4N_r11 b13 b15) rfl rfl
        | false =>
          have h26 : ¬ (addE p (hz ((2 * u) - a) (y - 1)) = 0) := fun c => Bool.false_ne_true (i26.2 c)
          exact fin _ (Zm_C4N_r12 b13 b15 b31) rfl rfl
  | false =>
    have h9 : ¬ (addE p (hz (0 - a) (y - 1)) = 0) := fun c => Bool.false_ne_true (i9.2 c)
    cases b10 with
    | true =>
      have h10 : y - 1 ≥ -4096 := i10.1 rfl
      cases b13 with
      | true =>
        have h13 : 2 * a ≤ 65536 := i13.1 rfl
        cases b15 with
        | true =>
          have h15 : 2 * b ≤ 65536 := i15.1 rfl
          cases b26 with
          | true =>
            have h26 : addE p (hz ((2 * u) - a) (y - 1)) = 0 := i26.1 rfl
            cases b31 with
            | true =>
              have h31 : addE q (hz ((b - (2 * z)) - 2) (y - 1)) = 0 := i31.1 rfl
              exact fin _ (Zm_C4N_r13 b32) rfl rfl
            | false =>
              have h31 : ¬ (addE q (hz ((b - (2 * z)) - 2) (y - 1)) = 0) := fun c => Bool.false_ne_true (i31.2 c)
              exact fin _ (Zm_C4N_r14 b32) rfl rfl
          | false =>
            have h26 : ¬ (addE p (hz ((2 * u) - a) (y - 1)) = 0) := fun c => Bool.false_ne_true (i26.2 c)
            exact fin _ (Zm_C4N_r15 b31 b32) rfl rfl
        | false =>
          have h15 : ¬ (2 * b ≤ 65536) := fun c => Bool.false_ne_true (i15.2 c)
          cases b26 with
          | true =>
            have h26 : addE p (hz ((2 * u) - a) (y - 1)) = 0 := i26.1 rfl
            cases b31 with
            | true =>
              have h31 : addE q (hz ((b - (2 * z)) - 2) (y - 1)) = 0 := i31.1 rfl
              exact fin _ (Zm_C4N_r16 b32) rfl rfl
            | false =>
              have h31 : ¬ (addE q (hz ((b - (2 * z)) - 2) (y - 1)) = 0) := fun c => Bool.false_ne_true (i31.2 c)
              exact fin _ (Zm_C4N_r17 b32) rfl rfl
          | false =>
            have h26 : ¬ (addE p (hz ((2 * u) - a) (y - 1)) = 0) := fun c => Bool.false_ne_true (i26.2 c)
            exact fin _ (Zm_C4N_r18 b31 b32) rfl rfl
      | false =>
        have h13 : ¬ (2 * a ≤ 65536) := fun c => Bool.false_ne_true (i13.2 c)
        cases b26 with
        | true =>
          have h26 : addE p (hz ((2 * u) - a) (y - 1)) = 0 := i26.1 rfl
          cases b31 with
          | true =>
            have h31 : addE q (hz ((b - (2 * z)) - 2) (y - 1)) = 0 := i31.1 rfl
            exact fin _ (Zm_C4N_r19 b15 b32) rfl rfl
          | false =>
            have h31 : ¬ (addE q (hz ((b - (2 * z)) - 2) (y - 1)) = 0) := fun c => Bool.false_ne_true (i31.2 c)
            exact fin _ (Zm_C4N_r20 b15 b32) rfl rfl
        | false =>
          have h26 : ¬ (addE p (hz ((2 * u) - a) (y - 1)) = 0) := fun c => Bool.false_ne_true (i26.2 c)
          exact fin _ (Zm_C4N_r21 b15 b31 b32) rfl rfl
    | false =>
      have h10 : ¬ (y - 1 ≥ -4096) := fun c => Bool.false_ne_true (i10.2 c)
      cases b26 with
      | true =>
        have h26 : addE p (hz ((2 * u) - a) (y - 1)) = 0 := i26.1 rfl
        cases b31 with
        | true =>
          have h31 : addE q (hz ((b - (2 * z)) - 2) (y - 1)) = 0 := i31.1 rfl
          exact fin _ (Zm_C4N_r22 b13 b15 b32) rfl rfl
        | false =>
          have h31 : ¬ (addE q (hz ((b - (2 * z)) - 2) (y - 1)) = 0) := fun c => Bool.false_ne_true (i31.2 c)
          exact fin _ (Zm_C4N_r23 b13 b15 b32) rfl rfl
      | false =>
        have h26 : ¬ (addE p (hz ((2 * u) - a) (y - 1)) = 0) := fun c => Bool.false_ne_true (i26.2 c)
        exact fin _ (Zm_C4N_r24 b13 b15 b31 b32) rfl rfl

end Go.Proofs.YtjalpocjgpgcfaaGreatDoor
