/- Texts put together: VA3 VAG VR4 VR8a VR8 VRC VRE. -/
import Derived.Test.YtmjjodficjjehabGreatDoorU6
import Derived.Deep.WholeRow
set_option linter.unusedVariables false
set_option linter.unusedSimpArgs false
namespace Go.Proofs.YtmjjodficjjehabGreatDoor
open Go Go.RowKit Nt
@[reducible] def VAround_ok_f : FuncId := 3
@[reducible] def VAround_ok_a : List AV := [.agg [.sym 0, .sym 1, .sym 2, .sym 3, .sym 4, .sym 5, .sym 6]]
@[reducible] noncomputable def VAround_ok_k (b1 b2 b3 b4 : Bool) : Know := ⟨[([0, 14, 29], [.sym 8, .lit (.float .f64 0)], .lit (.bool false))],
  [(4, [], .lit (.bool true)),
  (5, [.agg [.sym 0, .sym 1, .sym 2, .sym 3, .sym 4, .sym 5, .sym 6]], .tup [.agg [.sym 7, .sym 8], .lit (.int .i64 0)]),
  (7, [.agg [.sym 0, .sym 1, .sym 2, .sym 3, .sym 4, .sym 5, .sym 6]], .tup [.agg [.sym 9, .sym 10, .sym 11, .sym 12, .sym 13, .sym 14, .sym 15, .sym 16, .sym 17, .sym 18, .sym 19, .sym 20, .sym 21, .sym 22, .sym 23, .sym 24, .sym 25, .sym 26, .sym 27, .sym 28, .sym 29, .sym 30, .sym 31, .sym 32], .lit (.int .i64 0)]),
  (8, [.sym 7], .tup [.agg [.sym 33, .sym 34, .sym 35, .sym 36, .sym 37, .sym 38], .lit (.int .i64 0)]),
  (9, [.sym 8], .tup [.agg [.sym 39, .sym 40, .sym 41], .lit (.int .i64 0)]),
  (10, [.sym 8, .lit (.float .f64 0)], .sym 42),
  (9, [.sym 42], .tup [.agg [.sym 43, .sym 44, .sym 45], .lit (.int .i64 0)]),
  (11, [.agg [.sym 9, .sym 10, .sym 11, .sym 12, .sym 13, .sym 14], .agg [.sym 33, .sym 34, .sym 35, .sym 36, .sym 37, .sym 38], .agg [.sym 39, .sym 40, .sym 41]], .lit (.tuple #[.bool true, .int .i64 0])),
  (11, [.agg [.sym 9, .sym 10, .sym 11, .sym 12, .sym 13, .sym 14], .agg [.sym 33, .sym 34, .sym 35, .sym 36, .sym 37, .sym 38], .agg [.sym 43, .sym 44, .sym 45]], .tup [.lit (.bool b1), .lit (.int .i64 0)]),
  (11, [.agg [.sym 15, .sym 16, .sym 17, .sym 18, .sym 19, .sym 20], .agg [.sym 33, .sym 34, .sym 35, .sym 36, .sym 37, .sym 38], .agg [.sym 39, .sym 40, .sym 41]], .lit (.tuple #[.bool true, .int .i64 0])),
  (11, [.agg [.sym 15, .sym 16, .sym 17, .sym 18, .sym 19, .sym 20], .agg [.sym 33, .sym 34, .sym 35, .sym 36, .sym 37, .sym 38], .agg [.sym 43, .sym 44, .sym 45]], .tup [.lit (.bool b2), .lit (.int .i64 0)]),
  (11, [.agg [.sym 21, .sym 22, .sym 23, .sym 24, .sym 25, .sym 26], .agg [.sym 33, .sym 34, .sym 35, .sym 36, .sym 37, .sym 38], .agg [.sym 39, .sym 40, .sym 41]], .lit (.tuple #[.bool true, .int .i64 0])),
  (11, [.agg [.sym 21, .sym 22, .sym 23, .sym 24, .sym 25, .sym 26], .agg [.sym 33, .sym 34, .sym 35, .sym 36, .sym 37, .sym 38], .agg [.sym 43, .sym 44, .sym 45]], .tup [.lit (.bool b3), .lit (.int .i64 0)]),
  (11, [.agg [.sym 27, .sym 28, .sym 29, .sym 30, .sym 31, .sym 32], .agg [.sym 33, .sym 34, .sym 35, .sym 36, .sym 37, .sym 38], .agg [.sym 39, .sym 40, .sym 41]], .lit (.tuple #[.bool true, .int .i64 0])),
  (11, [.agg [.sym 27, .sym 28, .sym 29, .sym 30, .sym 31, .sym 32], .agg [.sym 33, .sym 34, .sym 35, .sym 36, .sym 37, .sym 38], .agg [.sym 43, .sym 44, .sym 45]], .tup [.lit (.bool b4), .lit (.int .i64 0)])]⟩
theorem VAround_ok_r1 : @comes (VAround_ok_k true true true false) Tryz.prog glT 3000 VAround_ok_f VAround_ok_a = some (.lit (.bool true)) := by kernel_rfl
theorem VAround_ok_r2 (b4 : Bool) : @comes (VAround_ok_k true true false b4) Tryz.prog glT 3000 VAround_ok_f VAround_ok_a = some (.lit (.bool true)) := by kernel_rfl
theorem VAround_ok_r3 (b3 b4 : Bool) : @comes (VAround_ok_k true false b3 b4) Tryz.prog glT 3000 VAround_ok_f VAround_ok_a = some (.lit (.bool true)) := by kernel_rfl
theorem VAround_ok_r4 (b2 b3 b4 : Bool) : @comes (VAround_ok_k false b2 b3 b4) Tryz.prog glT 3000 VAround_ok_f VAround_ok_a = some (.lit (.bool true)) := by kernel_rfl
set_option maxRecDepth 100000 in
set_option maxHeartbeats 4000000 in
theorem VAround_ok (l m : Dy) (y : Int) (a b r r1 : Nat) (C q0 q1 q2 q3 : Gs) (F f : Dy) (n0 n1 n2 n3 : Bool) (w : World) (HA : ∀ w, Globs glT w → Calls Tryz.prog 4 #[] w fun e w' => e = .returned (.bool true) ∧ Below w.heap.size w w') (HC : ∀ w, Globs glT w → Calls Tryz.prog 5 #[.agg #[.bool l.g, .string (natS l.n), .int .i64 l.x, .bool m.g, .string (natS m.n), .int .i64 m.x, .int .i64 y]] w fun e w' => e = .returned (.tuple #[.agg #[.complex .f64 a b, .float .f64 r], .int .i64 0]) ∧ Below w.heap.size w w') (HK : ∀ w, Globs glT w → Calls Tryz.prog 7 #[.agg #[.bool l.g, .string (natS l.n), .int .i64 l.x, .bool m.g, .string (natS m.n), .int .i64 m.x, .int .i64 y]] w fun e w' => e = .returned (.tuple #[.agg #[.bool q0.re.g, .string (natS q0.re.n), .int .i64 q0.re.x, .bool q0.im.g, .string (natS q0.im.n), .int .i64 q0.im.x, .bool q1.re.g, .string (natS q1.re.n), .int .i64 q1.re.x, .bool q1.im.g, .string (natS q1.im.n), .int .i64 q1.im.x, .bool q2.re.g, .string (natS q2.re.n), .int .i64 q2.re.x, .bool q2.im.g, .string (natS q2.im.n), .int .i64 q2.im.x, .bool q3.re.g, .string (natS q3.re.n), .int .i64 q3.re.x, .bool q3.im.g, .string (natS q3.im.n), .int .i64 q3.im.x], .int .i64 0]) ∧ Below w.heap.size w w') (HX : ∀ w, Globs glT w → Calls Tryz.prog 8 #[.complex .f64 a b] w fun e w' => e = .returned (.tuple #[.agg #[.bool C.re.g, .string (natS C.re.n), .int .i64 C.re.x, .bool C.im.g, .string (natS C.im.n), .int .i64 C.im.x], .int .i64 0]) ∧ Below w.heap.size w w') (HF : ∀ w, Globs glT w → Calls Tryz.prog 9 #[.float .f64 r] w fun e w' => e = .returned (.tuple #[.agg #[.bool F.g, .string (natS F.n), .int .i64 F.x], .int .i64 0]) ∧ Below w.heap.size w w') (HN : ∀ w, Globs glT w → Calls Tryz.prog 10 #[.float .f64 r, .float .f64 0] w fun e w' => e = .returned (.float .f64 r1) ∧ Below w.heap.size w w') (HL : ∀ w, Globs glT w → Calls Tryz.prog 9 #[.float .f64 r1] w fun e w' => e = .returned (.tuple #[.agg #[.bool f.g, .string (natS f.n), .int .i64 f.x], .int .i64 0]) ∧ Below w.heap.size w w') (I0 : ∀ w, Globs glT w → Calls Tryz.prog 11 #[.agg #[.bool q0.re.g, .string (natS q0.re.n), .int .i64 q0.re.x, .bool q0.im.g, .string (natS q0.im.n), .int .i64 q0.im.x], .agg #[.bool C.re.g, .string (natS C.re.n), .int .i64 C.re.x, .bool C.im.g, .string (natS C.im.n), .int .i64 C.im.x], .agg #[.bool F.g, .string (natS F.n), .int .i64 F.x]] w fun e w' => e = .returned (.tuple #[.bool true, .int .i64 0]) ∧ Below w.heap.size w w') (N0 : ∀ w, Globs glT w → Calls Tryz.prog 11 #[.agg #[.bool q0.re.g, .string (natS q0.re.n), .int .i64 q0.re.x, .bool q0.im.g, .string (natS q0.im.n), .int .i64 q0.im.x], .agg #[.bool C.re.g, .string (natS C.re.n), .int .i64 C.re.x, .bool C.im.g, .string (natS C.im.n), .int .i64 C.im.x], .agg #[.bool f.g, .string (natS f.n), .int .i64 f.x]] w fun e w' => e = .returned (.tuple #[.bool n0, .int .i64 0]) ∧ Below w.heap.size w w') (I1 : ∀ w, Globs glT w → Calls Tryz.prog 11 #[.agg #[.bool q1.re.g, .string (natS q1.re.n), .int .i64 q1.re.x, .bool q1.im.g, .string (natS q1.im.n), .int .i64 q1.im.x], .agg #[.bool C.re.g, .string (natS C.re.n), .int .i64 C.re.x, .bool C.im.g, .string (natS C.im.n), .int .i64 C.im.x], .agg #[.bool F.g, .string (natS F.n), .int .i64 F.x]] w fun e w' => e = .returned (.tuple #[.bool true, .int .i64 0]) ∧ Below w.heap.size w w') (N1 : ∀ w, Globs glT w → Calls Tryz.prog 11 #[.agg #[.bool q1.re.g, .string (natS q1.re.n), .int .i64 q1.re.x, .bool q1.im.g, .string (natS q1.im.n), .int .i64 q1.im.x], .agg #[.bool C.re.g, .string (natS C.re.n), .int .i64 C.re.x, .bool C.im.g, .string (natS C.im.n), .int .i64 C.im.x], .agg #[.bool f.g, .string (natS f.n), .int .i64 f.x]] w fun e w' => e = .returned (.tuple #[.bool n1, .int .i64 0]) ∧ Below w.heap.size w w') (I2 : ∀ w, Globs glT w → Calls Tryz.prog 11 #[.agg #[.bool q2.re.g, .string (natS q2.re.n), .int .i64 q2.re.x, .bool q2.im.g, .string (natS q2.im.n), .int .i64 q2.im.x], .agg #[.bool C.re.g, .string (natS C.re.n), .int .i64 C.re.x, .bool C.im.g, .string (natS C.im.n), .int .i64 C.im.x], .agg #[.bool F.g, .string (natS F.n), .int .i64 F.x]] w fun e w' => e = .returned (.tuple #[.bool true, .int .i64 0]) ∧ Below w.heap.size w w') (N2 : ∀ w, Globs glT w → Calls Tryz.prog 11 #[.agg #[.bool q2.re.g, .string (natS q2.re.n), .int .i64 q2.re.x, .bool q2.im.g, .string (natS q2.im.n), .int .i64 q2.im.x], .agg #[.bool C.re.g, .string (natS C.re.n), .int .i64 C.re.x, .bool C.im.g, .string (natS C.im.n), .int .i64 C.im.x], .agg #[.bool f.g, .string (natS f.n), .int .i64 f.x]] w fun e w' => e = .returned (.tuple #[.bool n2, .int .i64 0]) ∧ Below w.heap.size w w') (I3 : ∀ w, Globs glT w → Calls Tryz.prog 11 #[.agg #[.bool q3.re.g, .string (natS q3.re.n), .int .i64 q3.re.x, .bool q3.im.g, .string (natS q3.im.n), .int .i64 q3.im.x], .agg #[.bool C.re.g, .string (natS C.re.n), .int .i64 C.re.x, .bool C.im.g, .string (natS C.im.n), .int .i64 C.im.x], .agg #[.bool F.g, .string (natS F.n), .int .i64 F.x]] w fun e w' => e = .returned (.tuple #[.bool true, .int .i64 0]) ∧ Below w.heap.size w w') (N3 : ∀ w, Globs glT w → Calls Tryz.prog 11 #[.agg #[.bool q3.re.g, .string (natS q3.re.n), .int .i64 q3.re.x, .bool q3.im.g, .string (natS q3.im.n), .int .i64 q3.im.x], .agg #[.bool C.re.g, .string (natS C.re.n), .int .i64 C.re.x, .bool C.im.g, .string (natS C.im.n), .int .i64 C.im.x], .agg #[.bool f.g, .string (natS f.n), .int .i64 f.x]] w fun e w' => e = .returned (.tuple #[.bool n3, .int .i64 0]) ∧ Below w.heap.size w w') (hr : ¬ fleB r 0 = true) (hn : ¬ (n0 = true ∧ n1 = true ∧ n2 = true ∧ n3 = true)) (hG : Globs glT w) : Calls Tryz.prog 3 #[.agg #[.bool l.g, .string (natS l.n), .int .i64 l.x, .bool m.g, .string (natS m.n), .int .i64 m.x, .int .i64 y]] w fun e w' => e = .returned (.bool true) ∧ Below w.heap.size w w' := by
  obtain ⟨b1, i1⟩ := bex (n0 = true)
  obtain ⟨b2, i2⟩ := bex (n1 = true)
  obtain ⟨b3, i3⟩ := bex (n2 = true)
  obtain ⟨b4, i4⟩ := bex (n3 = true)
  have h5 : ¬ (fleB (r) (0) = true) := hr
  have i5 : false = true ↔ (fleB (r) (0) = true) := ⟨fun k => absurd k Bool.false_ne_true, fun k => absurd k h5⟩
  letI : Env := mkEnv glT [.bool l.g, .string (natS l.n), .int .i64 l.x, .bool m.g, .string (natS m.n), .int .i64 m.x, .int .i64 y, .complex .f64 a b, .float .f64 r, .bool q0.re.g, .string (natS q0.re.n), .int .i64 q0.re.x, .bool q0.im.g, .string (natS q0.im.n), .int .i64 q0.im.x, .bool q1.re.g, .string (natS q1.re.n), .int .i64 q1.re.x, .bool q1.im.g, .string (natS q1.im.n), .int .i64 q1.im.x, .bool q2.re.g, .string (natS q2.re.n), .int .i64 q2.re.x, .bool q2.im.g, .string (natS q2.im.n), .int .i64 q2.im.x, .bool q3.re.g, .string (natS q3.re.n), .int .i64 q3.re.x, .bool q3.im.g, .string (natS q3.im.n), .int .i64 q3.im.x, .bool C.re.g, .string (natS C.re.n), .int .i64 C.re.x, .bool C.im.g, .string (natS C.im.n), .int .i64 C.im.x, .bool F.g, .string (natS F.n), .int .i64 F.x, .float .f64 r1, .bool f.g, .string (natS f.n), .int .i64 f.x] rfl
  have hops : OpsT Tryz.prog (@Know.ops (VAround_ok_k b1 b2 b3 b4)) := ⟨optQ_leq_i rfl rfl i5,
    trivial⟩
  have hcalls : CallsT Tryz.prog (@Know.calls (VAround_ok_k b1 b2 b3 b4)) := ⟨callt rfl rfl fun w hG => HA w hG,
    callt rfl rfl fun w hG => HC w hG,
    callt rfl rfl fun w hG => HK w hG,
    callt rfl rfl fun w hG => HX w hG,
    callt rfl rfl fun w hG => HF w hG,
    callt rfl rfl fun w hG => HN w hG,
    callt rfl rfl fun w hG => HL w hG,
    callt rfl rfl fun w hG => I0 w hG,
    callt rfl rfl fun w hG => (by rw [Bool.eq_iff_iff.2 i1]; exact N0 w hG),
    callt rfl rfl fun w hG => I1 w hG,
    callt rfl rfl fun w hG => (by rw [Bool.eq_iff_iff.2 i2]; exact N1 w hG),
    callt rfl rfl fun w hG => I2 w hG,
    callt rfl rfl fun w hG => (by rw [Bool.eq_iff_iff.2 i3]; exact N2 w hG),
    callt rfl rfl fun w hG => I3 w hG,
    callt rfl rfl fun w hG => (by rw [Bool.eq_iff_iff.2 i4]; exact N3 w hG),
    trivial⟩
  have fin : ∀ v, @comes (VAround_ok_k b1 b2 b3 b4) Tryz.prog glT 3000 VAround_ok_f VAround_ok_a = some v → ground v = true → Ending.returned (gval v) = .returned (.bool true) → Calls Tryz.prog 3 #[.agg #[.bool l.g, .string (natS l.n), .int .i64 l.x, .bool m.g, .string (natS m.n), .int .i64 m.x, .int .i64 y]] w fun e w' => e = .returned (.bool true) ∧ Below w.heap.size w w' := fun v h1 h2 h3 => (@sym_ok _ (VAround_ok_k b1 b2 b3 b4) _ (@KnowOk.of _ (VAround_ok_k b1 b2 b3 b4) _ hops hcalls) (by kernel_rfl) _ _ _ _ h1 rfl h2 _ hG).mono fun e w' h => ⟨h.1.trans h3, h.2⟩
  clear hops hcalls
  cases b1 with
  | true =>
    have h1 : n0 = true := i1.1 rfl
    cases b2 with
    | true =>
      have h2 : n1 = true := i2.1 rfl
      cases b3 with
      | true =>
        have h3 : n2 = true := i3.1 rfl
        cases b4 with
        | true =>
          exact absurd (i4.1 rfl) (fun c => hn ⟨h1, h2, h3, c⟩)
        | false =>
          have h4 : ¬ (n3 = true) := fun c => Bool.false_ne_true (i4.2 c)
          exact fin _ (VAround_ok_r1) rfl rfl
      | false =>
        have h3 : ¬ (n2 = true) := fun c => Bool.false_ne_true (i3.2 c)
        exact fin _ (VAround_ok_r2 b4) rfl rfl
    | false =>
      have h2 : ¬ (n1 = true) := fun c => Bool.false_ne_true (i2.2 c)
      exact fin _ (VAround_ok_r3 b3 b4) rfl rfl
  | false =>
    have h1 : ¬ (n0 = true) := fun c => Bool.false_ne_true (i1.2 c)
    exact fin _ (VAround_ok_r4 b2 b3 b4) rfl rfl
@[reducible] def VAround_no_f : FuncId := 3
@[reducible] def VAround_no_a : List AV := [.agg [.sym 0, .sym 1, .sym 2, .sym 3, .sym 4, .sym 5, .sym 6]]
@[reducible] noncomputable def VAround_no_k : Know := ⟨[([0, 12, 32], [.sym 9, .lit (.int .i64 0)], .lit (.bool true))],
  [(4, [], .lit (.bool true)),
  (5, [.agg [.sym 0, .sym 1, .sym 2, .sym 3, .sym 4, .sym 5, .sym 6]], .tup [.agg [.sym 7, .sym 8], .sym 9]),
  (6, [.agg [.sym 7, .sym 8], .lit (.agg #[.complex .f64 0 0, .float .f64 0])], .lit (.bool true))]⟩
theorem VAround_no_r1 : @comes VAround_no_k Tryz.prog glT 3000 VAround_no_f VAround_no_a = some (.lit (.bool true)) := by kernel_rfl
set_option maxRecDepth 100000 in
set_option maxHeartbeats 4000000 in
theorem VAround_no (p q : Dt) (y ee : Int) (w : World) (HA : ∀ w, Globs glT w → Calls Tryz.prog 4 #[] w fun e w' => e = .returned (.bool true) ∧ Below w.heap.size w w') (HC : ∀ w, Globs glT w → Calls Tryz.prog 5 #[.agg #[.bool p.g, .string p.s, .int .i64 p.x, .bool q.g, .string q.s, .int .i64 q.x, .int .i64 y]] w fun e w' => e = .returned (.tuple #[.agg #[.complex .f64 0 0, .float .f64 0], .int .i64 ee]) ∧ Below w.heap.size w w') (HB : ∀ w, Globs glT w → Calls Tryz.prog 6 #[.agg #[.complex .f64 0 0, .float .f64 0], .agg #[.complex .f64 0 0, .float .f64 0]] w fun e w' => e = .returned (.bool true) ∧ Below w.heap.size w w') (he : ¬ ee = 0) (hG : Globs glT w) : Calls Tryz.prog 3 #[.agg #[.bool p.g, .string p.s, .int .i64 p.x, .bool q.g, .string q.s, .int .i64 q.x, .int .i64 y]] w fun e w' => e = .returned (.bool true) ∧ Below w.heap.size w w' := by
  have h1 : ¬ (ee = 0) := he
  have i1 : false = true ↔ (ee = 0) := ⟨fun k => absurd k Bool.false_ne_true, fun k => absurd k h1⟩
  letI : Env := mkEnv glT [.bool p.g, .string p.s, .int .i64 p.x, .bool q.g, .string q.s, .int .i64 q.x, .int .i64 y, .complex .f64 0 0, .float .f64 0, .int .i64 ee] rfl
  have hops : OpsT Tryz.prog (@Know.ops VAround_no_k) := ⟨opt_neq_i rfl rfl i1,
    trivial⟩
  have hcalls : CallsT Tryz.prog (@Know.calls VAround_no_k) := ⟨callt rfl rfl fun w hG => HA w hG,
    callt rfl rfl fun w hG => HC w hG,
    callt rfl rfl fun w hG => HB w hG,
    trivial⟩
  have fin : ∀ v, @comes VAround_no_k Tryz.prog glT 3000 VAround_no_f VAround_no_a = some v → ground v = true → Ending.returned (gval v) = .returned (.bool true) → Calls Tryz.prog 3 #[.agg #[.bool p.g, .string p.s, .int .i64 p.x, .bool q.g, .string q.s, .int .i64 q.x, .int .i64 y]] w fun e w' => e = .returned (.bool true) ∧ Below w.heap.size w w' := fun v h1 h2 h3 => (@sym_ok _ VAround_no_k _ (@KnowOk.of _ VAround_no_k _ hops hcalls) (by kernel_rfl) _ _ _ _ h1 rfl h2 _ hG).mono fun e w' h => ⟨h.1.trans h3, h.2⟩
  clear hops hcalls
  exact fin _ (VAround_no_r1) rfl rfl
end Go.Proofs.YtmjjodficjjehabGreatDoor
namespace Go.Proofs.YtmjjodficjjehabGreatDoor
open Go Go.RowKit Nt
@[reducible] def GIn_p_f : FuncId := 11
@[reducible] def GIn_p_a : List AV := [.agg [.sym 0, .sym 1, .sym 2, .sym 3, .sym 4, .sym 5], .agg [.sym 6, .sym 7, .sym 8, .sym 9, .sym 10, .sym 11], .agg [.lit (.bool false), .sym 12, .sym 13]]
@[reducible] noncomputable def GIn_p_k (b1 b2 b3 b4 b5 b6 b7 : Bool) : Know := ⟨[([0, 12, 32], [.sym 17, .lit (.int .i64 0)], .lit (.bool (!b1))),
  ([0, 12, 32], [.sym 21, .lit (.int .i64 0)], .lit (.bool (!b2))),
  ([0, 12, 32], [.sym 25, .lit (.int .i64 0)], .lit (.bool (!b3))),
  ([0, 12, 32], [.sym 29, .lit (.int .i64 0)], .lit (.bool (!b4))),
  ([0, 12, 32], [.sym 33, .lit (.int .i64 0)], .lit (.bool (!b5))),
  ([0, 12, 32], [.sym 37, .lit (.int .i64 0)], .lit (.bool (!b6))),
  ([0, 14, 3], [.sym 38, .lit (.int .i64 0)], .lit (.bool b7))],
  [(41, [.agg [.sym 0, .sym 1, .sym 2, .sym 3, .sym 4, .sym 5]], .lit (.int .i64 0)),
  (41, [.agg [.sym 6, .sym 7, .sym 8, .sym 9, .sym 10, .sym 11]], .lit (.int .i64 0)),
  (53, [.agg [.lit (.bool false), .sym 12, .sym 13]], .lit (.int .i64 0)),
  (60, [.agg [.sym 0, .sym 1, .sym 2], .agg [.sym 6, .sym 7, .sym 8]], .tup [.agg [.sym 14, .sym 15, .sym 16], .sym 17]),
  (60, [.agg [.sym 3, .sym 4, .sym 5], .agg [.sym 9, .sym 10, .sym 11]], .tup [.agg [.sym 18, .sym 19, .sym 20], .sym 21]),
  (61, [.agg [.sym 14, .sym 15, .sym 16], .agg [.sym 14, .sym 15, .sym 16]], .tup [.agg [.sym 22, .sym 23, .sym 24], .sym 25]),
  (61, [.agg [.sym 18, .sym 19, .sym 20], .agg [.sym 18, .sym 19, .sym 20]], .tup [.agg [.sym 26, .sym 27, .sym 28], .sym 29]),
  (54, [.agg [.sym 22, .sym 23, .sym 24], .agg [.sym 26, .sym 27, .sym 28]], .tup [.agg [.sym 30, .sym 31, .sym 32], .sym 33]),
  (61, [.agg [.lit (.bool false), .sym 12, .sym 13], .agg [.lit (.bool false), .sym 12, .sym 13]], .tup [.agg [.sym 34, .sym 35, .sym 36], .sym 37]),
  (47, [.agg [.sym 30, .sym 31, .sym 32], .agg [.sym 34, .sym 35, .sym 36]], .tup [.sym 38, .lit (.int .i64 0)])]⟩
theorem GIn_p_r1 : @comes (GIn_p_k true true true true true true true) Tryz.prog glT 3000 GIn_p_f GIn_p_a = some (.lit (.tuple #[.bool true, .int .i64 0])) := by kernel_rfl
theorem GIn_p_r2 : @comes (GIn_p_k true true true true true true false) Tryz.prog glT 3000 GIn_p_f GIn_p_a = some (.lit (.tuple #[.bool false, .int .i64 0])) := by kernel_rfl
theorem GIn_p_r3 (b7 : Bool) : @comes (GIn_p_k true true true true true false b7) Tryz.prog glT 3000 GIn_p_f GIn_p_a = some (.tup [.lit (.bool false), .sym 37]) := by kernel_rfl
theorem GIn_p_r4 (b6 b7 : Bool) : @comes (GIn_p_k true true true true false b6 b7) Tryz.prog glT 3000 GIn_p_f GIn_p_a = some (.tup [.lit (.bool false), .sym 33]) := by kernel_rfl
theorem GIn_p_r5 (b5 b6 b7 : Bool) : @comes (GIn_p_k true true true false b5 b6 b7) Tryz.prog glT 3000 GIn_p_f GIn_p_a = some (.tup [.lit (.bool false), .sym 29]) := by kernel_rfl
theorem GIn_p_r6 (b4 b5 b6 b7 : Bool) : @comes (GIn_p_k true true false b4 b5 b6 b7) Tryz.prog glT 3000 GIn_p_f GIn_p_a = some (.tup [.lit (.bool false), .sym 25]) := by kernel_rfl
theorem GIn_p_r7 (b3 b4 b5 b6 b7 : Bool) : @comes (GIn_p_k true false b3 b4 b5 b6 b7) Tryz.prog glT 3000 GIn_p_f GIn_p_a = some (.tup [.lit (.bool false), .sym 21]) := by kernel_rfl
theorem GIn_p_r8 (b2 b3 b4 b5 b6 b7 : Bool) : @comes (GIn_p_k false b2 b3 b4 b5 b6 b7) Tryz.prog glT 3000 GIn_p_f GIn_p_a = some (.tup [.lit (.bool false), .sym 17]) := by kernel_rfl
set_option maxRecDepth 100000 in
set_option maxHeartbeats 4000000 in
theorem GIn_p (g c : Gs) (rn : Nat) (rx : Int) (w : World) (hg : g.Ok) (hc : c.Ok) (hr : (Dy.mk false rn rx).Ok) (hG : Globs glT w) : Calls Tryz.prog 11 #[.agg #[.bool g.re.g, .string (natS g.re.n), .int .i64 g.re.x, .bool g.im.g, .string (natS g.im.n), .int .i64 g.im.x], .agg #[.bool c.re.g, .string (natS c.re.n), .int .i64 c.re.x, .bool c.im.g, .string (natS c.im.n), .int .i64 c.im.x], .agg #[.bool false, .string (natS (Dy.mk false rn rx).n), .int .i64 (Dy.mk false rn rx).x]] w fun e w' => e = .returned (.tuple #[.bool (inB g c (Dy.mk false rn rx)), .int .i64 (inE g c (Dy.mk false rn rx))]) ∧ Below w.heap.size w w' := by
  obtain ⟨b1, i1⟩ := bex (addE g.re (negD c.re) = 0)
  obtain ⟨b2, i2⟩ := bex (addE g.im (negD c.im) = 0)
  obtain ⟨b3, i3⟩ := bex (mulE (addD g.re (negD c.re)) (addD g.re (negD c.re)) = 0)
  obtain ⟨b4, i4⟩ := bex (mulE (addD g.im (negD c.im)) (addD g.im (negD c.im)) = 0)
  obtain ⟨b5, i5⟩ := bex (addE (mulD (addD g.re (negD c.re)) (addD g.re (negD c.re))) (mulD (addD g.im (negD c.im)) (addD g.im (negD c.im))) = 0)
  obtain ⟨b6, i6⟩ := bex (mulE (Dy.mk false rn rx) (Dy.mk false rn rx) = 0)
  obtain ⟨b7, i7⟩ := bex (cmpD (addD (mulD (addD g.re (negD c.re)) (addD g.re (negD c.re))) (mulD (addD g.im (negD c.im)) (addD g.im (negD c.im)))) (mulD (Dy.mk false rn rx) (Dy.mk false rn rx)) ≤ 0)
  letI : Env := mkEnv glT [.bool g.re.g, .string (natS g.re.n), .int .i64 g.re.x, .bool g.im.g, .string (natS g.im.n), .int .i64 g.im.x, .bool c.re.g, .string (natS c.re.n), .int .i64 c.re.x, .bool c.im.g, .string (natS c.im.n), .int .i64 c.im.x, .string (natS (Dy.mk false rn rx).n), .int .i64 (Dy.mk false rn rx).x, .bool (addD g.re (negD c.re)).g, .string (natS (addD g.re (negD c.re)).n), .int .i64 (addD g.re (negD c.re)).x, .int .i64 (addE g.re (negD c.re)), .bool (addD g.im (negD c.im)).g, .string (natS (addD g.im (negD c.im)).n), .int .i64 (addD g.im (negD c.im)).x, .int .i64 (addE g.im (negD c.im)), .bool (mulD (addD g.re (negD c.re)) (addD g.re (negD c.re))).g, .string (natS (mulD (addD g.re (negD c.re)) (addD g.re (negD c.re))).n), .int .i64 (mulD (addD g.re (negD c.re)) (addD g.re (negD c.re))).x, .int .i64 (mulE (addD g.re (negD c.re)) (addD g.re (negD c.re))), .bool (mulD (addD g.im (negD c.im)) (addD g.im (negD c.im))).g, .string (natS (mulD (addD g.im (negD c.im)) (addD g.im (negD c.im))).n), .int .i64 (mulD (addD g.im (negD c.im)) (addD g.im (negD c.im))).x, .int .i64 (mulE (addD g.im (negD c.im)) (addD g.im (negD c.im))), .bool (addD (mulD (addD g.re (negD c.re)) (addD g.re (negD c.re))) (mulD (addD g.im (negD c.im)) (addD g.im (negD c.im)))).g, .string (natS (addD (mulD (addD g.re (negD c.re)) (addD g.re (negD c.re))) (mulD (addD g.im (negD c.im)) (addD g.im (negD c.im)))).n), .int .i64 (addD (mulD (addD g.re (negD c.re)) (addD g.re (negD c.re))) (mulD (addD g.im (negD c.im)) (addD g.im (negD c.im)))).x, .int .i64 (addE (mulD (addD g.re (negD c.re)) (addD g.re (negD c.re))) (mulD (addD g.im (negD c.im)) (addD g.im (negD c.im)))), .bool (mulD (Dy.mk false rn rx) (Dy.mk false rn rx)).g, .string (natS (mulD (Dy.mk false rn rx) (Dy.mk false rn rx)).n), .int .i64 (mulD (Dy.mk false rn rx) (Dy.mk false rn rx)).x, .int .i64 (mulE (Dy.mk false rn rx) (Dy.mk false rn rx)), .int .i64 (cmpD (addD (mulD (addD g.re (negD c.re)) (addD g.re (negD c.re))) (mulD (addD g.im (negD c.im)) (addD g.im (negD c.im)))) (mulD (Dy.mk false rn rx) (Dy.mk false rn rx)))] rfl
  have hops : OpsT Tryz.prog (@Know.ops (GIn_p_k b1 b2 b3 b4 b5 b6 b7)) := ⟨opt_neq_i rfl rfl i1,
    opt_neq_i rfl rfl i2,
    opt_neq_i rfl rfl i3,
    opt_neq_i rfl rfl i4,
    opt_neq_i rfl rfl i5,
    opt_neq_i rfl rfl i6,
    opt_leq_i rfl rfl i7,
    trivial⟩
  have hcalls : CallsT Tryz.prog (@Know.calls (GIn_p_k b1 b2 b3 b4 b5 b6 b7)) := ⟨callt rfl rfl fun w hG => GCheck_gs g hg w hG,
    callt rfl rfl fun w hG => GCheck_gs c hc w hG,
    callt rfl rfl fun w hG => DCheck_dy (Dy.mk false rn rx) hr w,
    callt rfl rfl fun w hG => DSub_c g.re c.re w hg.1 hc.1 hG,
    callt rfl rfl fun w hG => DSub_c g.im c.im w hg.2 hc.2 hG,
    callt rfl rfl fun w hG => DMul_c (addD g.re (negD c.re)) (addD g.re (negD c.re)) w (add_Ok hg.1 (negD_Ok hc.1)) (add_Ok hg.1 (negD_Ok hc.1)),
    callt rfl rfl fun w hG => DMul_c (addD g.im (negD c.im)) (addD g.im (negD c.im)) w (add_Ok hg.2 (negD_Ok hc.2)) (add_Ok hg.2 (negD_Ok hc.2)),
    callt rfl rfl fun w hG => DAdd_c (mulD (addD g.re (negD c.re)) (addD g.re (negD c.re))) (mulD (addD g.im (negD c.im)) (addD g.im (negD c.im))) w (mulD_Ok (addD g.re (negD c.re)) (addD g.re (negD c.re))) (mulD_Ok (addD g.im (negD c.im)) (addD g.im (negD c.im))) hG,
    callt rfl rfl fun w hG => DMul_c (Dy.mk false rn rx) (Dy.mk false rn rx) w hr hr,
    callt rfl rfl fun w hG => DCmp_c (addD (mulD (addD g.re (negD c.re)) (addD g.re (negD c.re))) (mulD (addD g.im (negD c.im)) (addD g.im (negD c.im)))) (mulD (Dy.mk false rn rx) (Dy.mk false rn rx)) w (add_Ok (mulD_Ok (addD g.re (negD c.re)) (addD g.re (negD c.re))) (mulD_Ok (addD g.im (negD c.im)) (addD g.im (negD c.im)))) (mulD_Ok (Dy.mk false rn rx) (Dy.mk false rn rx)),
    trivial⟩
  have fin : ∀ v, @comes (GIn_p_k b1 b2 b3 b4 b5 b6 b7) Tryz.prog glT 3000 GIn_p_f GIn_p_a = some v → ground v = true → Ending.returned (gval v) = .returned (.tuple #[.bool (inB g c (Dy.mk false rn rx)), .int .i64 (inE g c (Dy.mk false rn rx))]) → Calls Tryz.prog 11 #[.agg #[.bool g.re.g, .string (natS g.re.n), .int .i64 g.re.x, .bool g.im.g, .string (natS g.im.n), .int .i64 g.im.x], .agg #[.bool c.re.g, .string (natS c.re.n), .int .i64 c.re.x, .bool c.im.g, .string (natS c.im.n), .int .i64 c.im.x], .agg #[.bool false, .string (natS (Dy.mk false rn rx).n), .int .i64 (Dy.mk false rn rx).x]] w fun e w' => e = .returned (.tuple #[.bool (inB g c (Dy.mk false rn rx)), .int .i64 (inE g c (Dy.mk false rn rx))]) ∧ Below w.heap.size w w' := fun v h1 h2 h3 => (@sym_ok _ (GIn_p_k b1 b2 b3 b4 b5 b6 b7) _ (@KnowOk.of _ (GIn_p_k b1 b2 b3 b4 b5 b6 b7) _ hops hcalls) (by kernel_rfl) _ _ _ _ h1 rfl h2 _ hG).mono fun e w' h => ⟨h.1.trans h3, h.2⟩
  clear hops hcalls
  cases b1 with
  | true =>
    have h1 : addE g.re (negD c.re) = 0 := i1.1 rfl
    cases b2 with
    | true =>
      have h2 : addE g.im (negD c.im) = 0 := i2.1 rfl
      cases b3 with
      | true =>
        have h3 : mulE (addD g.re (negD c.re)) (addD g.re (negD c.re)) = 0 := i3.1 rfl
        cases b4 with
        | true =>
          have h4 : mulE (addD g.im (negD c.im)) (addD g.im (negD c.im)) = 0 := i4.1 rfl
          cases b5 with
          | true =>
            have h5 : addE (mulD (addD g.re (negD c.re)) (addD g.re (negD c.re))) (mulD (addD g.im (negD c.im)) (addD g.im (negD c.im))) = 0 := i5.1 rfl
            cases b6 with
            | true =>
              have h6 : mulE (Dy.mk false rn rx) (Dy.mk false rn rx) = 0 := i6.1 rfl
              cases b7 with
              | true =>
                have h7 : cmpD (addD (mulD (addD g.re (negD c.re)) (addD g.re (negD c.re))) (mulD (addD g.im (negD c.im)) (addD g.im (negD c.im)))) (mulD (Dy.mk false rn rx) (Dy.mk false rn rx)) ≤ 0 := i7.1 rfl
                exact fin _ (GIn_p_r1) rfl (show Ending.returned (.tuple #[.bool true, .int .i64 0]) = .returned (.tuple #[.bool (inB g c (Dy.mk false rn rx)), .int .i64 (inE g c (Dy.mk false rn rx))]) from by rw [show inB g c (Dy.mk false rn rx) = true from by unfold inB; exact dec_t ⟨(show All0 (inL g c (Dy.mk false rn rx)) from ⟨h1, h2, h3, h4, h5, h6, trivial⟩), h7⟩, show inE g c (Dy.mk false rn rx) = 0 from erI_ok (show All0 (inL g c (Dy.mk false rn rx)) from ⟨h1, h2, h3, h4, h5, h6, trivial⟩)])
              | false =>
                have h7 : ¬ (cmpD (addD (mulD (addD g.re (negD c.re)) (addD g.re (negD c.re))) (mulD (addD g.im (negD c.im)) (addD g.im (negD c.im)))) (mulD (Dy.mk false rn rx) (Dy.mk false rn rx)) ≤ 0) := fun c => Bool.false_ne_true (i7.2 c)
                exact fin _ (GIn_p_r2) rfl (show Ending.returned (.tuple #[.bool false, .int .i64 0]) = .returned (.tuple #[.bool (inB g c (Dy.mk false rn rx)), .int .i64 (inE g c (Dy.mk false rn rx))]) from by rw [show inB g c (Dy.mk false rn rx) = false from by unfold inB; exact dec_f (fun cc => h7 cc.2), show inE g c (Dy.mk false rn rx) = 0 from erI_ok (show All0 (inL g c (Dy.mk false rn rx)) from ⟨h1, h2, h3, h4, h5, h6, trivial⟩)])
            | false =>
              have h6 : ¬ (mulE (Dy.mk false rn rx) (Dy.mk false rn rx) = 0) := fun c => Bool.false_ne_true (i6.2 c)
              exact fin _ (GIn_p_r3 b7) rfl (show Ending.returned (.tuple #[.bool false, .int .i64 (mulE (Dy.mk false rn rx) (Dy.mk false rn rx))]) = .returned (.tuple #[.bool (inB g c (Dy.mk false rn rx)), .int .i64 (inE g c (Dy.mk false rn rx))]) from by rw [show inB g c (Dy.mk false rn rx) = false from by unfold inB; exact dec_f (fun cc => (show ¬ All0 (inL g c (Dy.mk false rn rx)) from fun cc => h6 cc.2.2.2.2.2.1) cc.1), show inE g c (Dy.mk false rn rx) = 4 from erI_no (show ¬ All0 (inL g c (Dy.mk false rn rx)) from fun cc => h6 cc.2.2.2.2.2.1), mulE4 h6])
          | false =>
            have h5 : ¬ (addE (mulD (addD g.re (negD c.re)) (addD g.re (negD c.re))) (mulD (addD g.im (negD c.im)) (addD g.im (negD c.im))) = 0) := fun c => Bool.false_ne_true (i5.2 c)
            exact fin _ (GIn_p_r4 b6 b7) rfl (show Ending.returned (.tuple #[.bool false, .int .i64 (addE (mulD (addD g.re (negD c.re)) (addD g.re (negD c.re))) (mulD (addD g.im (negD c.im)) (addD g.im (negD c.im))))]) = .returned (.tuple #[.bool (inB g c (Dy.mk false rn rx)), .int .i64 (inE g c (Dy.mk false rn rx))]) from by rw [show inB g c (Dy.mk false rn rx) = false from by unfold inB; exact dec_f (fun cc => (show ¬ All0 (inL g c (Dy.mk false rn rx)) from fun cc => h5 cc.2.2.2.2.1) cc.1), show inE g c (Dy.mk false rn rx) = 4 from erI_no (show ¬ All0 (inL g c (Dy.mk false rn rx)) from fun cc => h5 cc.2.2.2.2.1), addE4 h5])
        | false =>
          have h4 : ¬ (mulE (addD g.im (negD c.im)) (addD g.im (negD c.im)) = 0) := fun c => Bool.false_ne_true (i4.2 c)
          exact fin _ (GIn_p_r5 b5 b6 b7) rfl (show Ending.returned (.tuple #[.bool false, .int .i64 (mulE (addD g.im (negD c.im)) (addD g.im (negD c.im)))]) = .returned (.tuple #[.bool (inB g c (Dy.mk false rn rx)), .int .i64 (inE g c (Dy.mk false rn rx))]) from by rw [show inB g c (Dy.mk false rn rx) = false from by unfold inB; exact dec_f (fun cc => (show ¬ All0 (inL g c (Dy.mk false rn rx)) from fun cc => h4 cc.2.2.2.1) cc.1), show inE g c (Dy.mk false rn rx) = 4 from erI_no (show ¬ All0 (inL g c (Dy.mk false rn rx)) from fun cc => h4 cc.2.2.2.1), mulE4 h4])
      | false =>
        have h3 : ¬ (mulE (addD g.re (negD c.re)) (addD g.re (negD c.re)) = 0) := fun c => Bool.false_ne_true (i3.2 c)
        exact fin _ (GIn_p_r6 b4 b5 b6 b7) rfl (show Ending.returned (.tuple #[.bool false, .int .i64 (mulE (addD g.re (negD c.re)) (addD g.re (negD c.re)))]) = .returned (.tuple #[.bool (inB g c (Dy.mk false rn rx)), .int .i64 (inE g c (Dy.mk false rn rx))]) from by rw [show inB g c (Dy.mk false rn rx) = false from by unfold inB; exact dec_f (fun cc => (show ¬ All0 (inL g c (Dy.mk false rn rx)) from fun cc => h3 cc.2.2.1) cc.1), show inE g c (Dy.mk false rn rx) = 4 from erI_no (show ¬ All0 (inL g c (Dy.mk false rn rx)) from fun cc => h3 cc.2.2.1), mulE4 h3])
    | false =>
      have h2 : ¬ (addE g.im (negD c.im) = 0) := fun c => Bool.false_ne_true (i2.2 c)
      exact fin _ (GIn_p_r7 b3 b4 b5 b6 b7) rfl (show Ending.returned (.tuple #[.bool false, .int .i64 (addE g.im (negD c.im))]) = .returned (.tuple #[.bool (inB g c (Dy.mk false rn rx)), .int .i64 (inE g c (Dy.mk false rn rx))]) from by rw [show inB g c (Dy.mk false rn rx) = false from by unfold inB; exact dec_f (fun cc => (show ¬ All0 (inL g c (Dy.mk false rn rx)) from fun cc => h2 cc.2.1) cc.1), show inE g c (Dy.mk false rn rx) = 4 from erI_no (show ¬ All0 (inL g c (Dy.mk false rn rx)) from fun cc => h2 cc.2.1), addE4 h2])
  | false =>
    have h1 : ¬ (addE g.re (negD c.re) = 0) := fun c => Bool.false_ne_true (i1.2 c)
    exact fin _ (GIn_p_r8 b2 b3 b4 b5 b6 b7) rfl (show Ending.returned (.tuple #[.bool false, .int .i64 (addE g.re (negD c.re))]) = .returned (.tuple #[.bool (inB g c (Dy.mk false rn rx)), .int .i64 (inE g c (Dy.mk false rn rx))]) from by rw [show inB g c (Dy.mk false rn rx) = false from by unfold inB; exact dec_f (fun cc => (show ¬ All0 (inL g c (Dy.mk false rn rx)) from fun cc => h1 cc.1) cc.1), show inE g c (Dy.mk false rn rx) = 4 from erI_no (show ¬ All0 (inL g c (Dy.mk false rn rx)) from fun cc => h1 cc.1), addE4 h1])
end Go.Proofs.YtmjjodficjjehabGreatDoor
namespace Go.Proofs.YtmjjodficjjehabGreatDoor
open Go Go.RowKit Nt
attribute [local go_sem] Bt.f_lt Bt.f_gt Bt.f_eq Bt.f_ne
theorem flt_iff3 {x y : Nat} : Bt.fltB x y = true ↔ ¬ Bt.Ff.isn x ∧ ¬ Bt.Ff.isn y ∧ Bt.Ff.srung x < Bt.Ff.srung y := by unfold Bt.fltB; exact decide_eq_true_iff
set_option maxRecDepth 100000 in
theorem Inf_c (w : World) : Calls Tryz.prog 48 #[.int .i64 1] w fun e w' => e = .returned (.float .f64 9218868437227405312) ∧ w = w' := by
  have h35 : ∀ w, (callFunc 30 #[.int .u64 9218868437227405312]).run Tryz.prog w = .ok (.value (.float .f64 9218868437227405312)) w := Bt.ext_from 9218868437227405312
  go_enter Tryz.func48, Tryz.ntmps48
  go_wp2_with fail
  go_ret
  exact ⟨rfl, rfl⟩
set_option maxRecDepth 100000 in
set_option maxHeartbeats 4000000 in
theorem VRoot_c (d : Dy) (w : World) (hd : d.Ok) (hG : Globs glT w) : Calls Tryz.prog 20 #[.agg #[.bool d.g, .string (natS d.n), .int .i64 d.x]] w fun e w' => e = .returned (.float .f64 (rtU d)) ∧ Below w.heap.size w w' := by
  have h31 := Bt.ext_bits
  have HI := Lib.hid Inf_c
  have KA := Lib.hid (fun W (hW : Below w.heap.size w W) => DAbove_any d W hd (hG.below hW (Nat.le_refl _)))
  have KR := Lib.hid (fun u r W (hu : u < 18446744073709551616) (hr : r = true ↔ rch d u) (hW : Below w.heap.size w W) => VReach_c u d r W hu hd hr (hG.below hW (Nat.le_refl _)))
  have HDO := Lib.hid hd
  have HRT := Lib.hid (rtU_le d)
  have B0 := Lib.hid (Box3.new w (.bool d.g) (.string (natS d.n)) (.int .i64 d.x))
  have HB : Hid (Below w.heap.size w (w.alloc (.cells #[.bool d.g, .string (natS d.n), .int .i64 d.x] 24))) := Lib.hid ((Below.refl _ _).alloc (Nat.le_refl _) _)
  have HLO : Hid ((0 : Nat) ≤ rtU d) := Lib.hid (Nat.zero_le _)
  have HHI : Hid (rtU d ≤ 9218868437227405312) := Lib.hid (rtU_le d)
  have hA64 := (bw_of hd).lh
  clear hd hG
  generalize highW d = A at *
  go_enter Tryz.func20, Tryz.ntmps20
  go_wp2_with fail
  refine (HI.out _).mono ?_
  rintro e w1 ⟨rfl, rfl⟩
  go_wp2_with fail
  refine (KA.out _ HB.out).mono ?_
  rintro e w1 ⟨rfl, hb1⟩
  have HB1 := Lib.hid (below_chain HB.out hb1)
  have BD := Lib.hid (B0.out.step hb1)
  clear hb1 HB B0
  by_cases h1 : Bt.fltB 103582791429521408 A = true
  · by_cases h2 : Bt.fltB A 9110782046170513408 = true
    · obtain ⟨hn1, hn2, hs⟩ := flt_iff3.1 h1
      have hA : A ≤ 9218868437227405312 := by
        have e1 : Bt.Ff.srung 103582791429521408 = 103582791429521408 := by decide
        rw [e1] at hs
        cases s : Bt.Ff.sgn A with
        | true => unfold Bt.Ff.srung at hs; rw [s, if_pos rfl] at hs; omega
        | false =>
          have e2 := Bt.sgn_rung hA64 s
          unfold Bt.Ff.isn at hn2
          omega
      obtain ⟨near, hn, KS⟩ := Sqrt_f hA
      have KQ := Lib.hid KS
      clear KS hn1 hn2 hs hA hA64
      obtain ⟨p0, p1, p2, p3, p4, p5, p6⟩ := BD.out.facts
      have hw0 := HB1.out
      rcases Nat.lt_or_ge near 3 with hn3 | hn3
      · rcases (show near = 0 ∨ near = 1 ∨ near = 2 by omega) with rfl | rfl | rfl
        · by_cases t1 : rch d (0 + 2)
          · have K1 := Lib.hid (KR.out (0 + 2) true _ (by omega) ⟨fun _ => t1, fun _ => rfl⟩ hw0)
            have K2 := Lib.hid (fun W (hW : Below w.heap.size w W) => KR.out 18446744073709551613 true W (by omega) ⟨fun _ => Or.inl ((Bt.finB_false _).2 (by decide)), fun _ => rfl⟩ hW)
            clear t1
            go_wp2_with fail
            refine (KQ.out _).mono ?_
            rintro e w2 ⟨rfl, rfl⟩
            go_wp2_with fail
            refine K1.out.mono ?_
            rintro e w2 ⟨rfl, hb2⟩
            have BD2 := Lib.hid (BD.out.step hb2)
            have HB2 := Lib.hid (below_chain hw0 hb2)
            clear hb2 K1 p0 p1 p2 p3 p4 p5 p6 hw0
            obtain ⟨p0, p1, p2, p3, p4, p5, p6⟩ := BD2.out.facts
            go_wp2_with fail
            refine (K2.out _ HB2.out).mono ?_
            rintro e w3 ⟨rfl, hb3⟩
            have BD3 := Lib.hid (BD2.out.step hb3)
            have HB3 := Lib.hid (below_chain HB2.out hb3)
            clear hb3 K2 p0 p1 p2 p3 p4 p5 p6
            go_wp2_with fail
            have HL : Hid ((0 : Nat) ≤ rtU d ∧ rtU d ≤ (9218868437227405312 : Nat) ∧ (9218868437227405312 : Nat) < 9223372036854775808) := Lib.hid (by
              have h1 := HRT.out
              refine ⟨?_, ?_, ?_⟩ <;> (try have h2 := HLO.out) <;> (try have h3 := HHI.out) <;> omega)
            go_loopw [3, 4] (fun vl vh wr => ∃ a b : Nat, vl = .int .u64 (a : Nat) ∧ vh = .int .u64 (b : Nat) ∧ Hid (a ≤ rtU d ∧ rtU d ≤ b) ∧ a ≤ b ∧ b < 9223372036854775808 ∧ Hid (Box3 wr w.heap.size (.bool d.g) (.string (natS d.n)) (.int .i64 d.x)) ∧ Below w.heap.size w wr) (fun vl vh _ => (intOf vh - intOf vl).toNat)
            case atStart => exact ⟨0, 9218868437227405312, by first | rfl | go_num, by first | rfl | go_num, Lib.hid ⟨HL.out.1, HL.out.2.1⟩, Nat.le_trans HL.out.1 HL.out.2.1, HL.out.2.2, BD3, HB3.out⟩
            case round =>
              clear HL
              obtain ⟨x, y, rfl, rfl, hxy, hle, hy, bd, hb⟩ := hrel
              obtain ⟨p0, p1, p2, p3, p4, p5, p6⟩ := bd.out.facts
              by_cases hlt : x < y
              · obtain ⟨v, hv⟩ : ∃ v, v = (y - x) / 2 := ⟨_, rfl⟩
                obtain ⟨z, hz⟩ : ∃ z, z = x + v := ⟨_, rfl⟩
                have hz1 : x ≤ z := by omega
                have hz2 : z < y := by omega
                have hq : ((y : Int) - (x : Int)) / 2 = (v : Int) := by omega
                have hzz : (x : Int) + (v : Int) = (z : Int) := by omega
                have hdz : v ≤ 9223372036854775807 := by omega
                have hx9 : x < 9223372036854775808 := by omega
                clear hv
                have hz3 : z < 9223372036854775808 := by omega
                by_cases hr : rch d z
                · have K := Lib.hid (KR.out z true wr (by omega) ⟨fun _ => hr, fun _ => rfl⟩ hb)
                  have HZ := Lib.hid ((rtU_iff HDO.out hz3).1 hr)
                  have HZ2 := Lib.hid hz2
                  clear hr hz
                  go_wp2_with fail
                  refine K.out.mono ?_
                  rintro e w5 ⟨rfl, hb5⟩
                  have bd5 := Lib.hid (bd.out.step hb5)
                  have hb6 := below_chain hb hb5
                  clear hb5 p0 p1 p2 p3 p4 p5 p6
                  go_wp2_with fail
                  go_roundw
                  case rel => exact ⟨x, z, rfl, by first | rfl | go_num, Lib.hid ⟨hxy.out.1, HZ.out⟩, hz1, hz3, bd5, hb6⟩
                  case measure => have := HZ2.out; simp [intOf]; omega
                · have K := Lib.hid (KR.out z false wr (by omega) ⟨fun h => absurd h (by decide), fun h => absurd h hr⟩ hb)
                  have HZ : Hid (z + 1 ≤ rtU d) := Lib.hid (Nat.lt_of_not_le fun c => hr ((rtU_iff HDO.out hz3).2 c))
                  have HZ2 := Lib.hid hz2
                  clear hr hz
                  go_wp2_with fail
                  refine K.out.mono ?_
                  rintro e w5 ⟨rfl, hb5⟩
                  have bd5 := Lib.hid (bd.out.step hb5)
                  have hb6 := below_chain hb hb5
                  clear hb5 p0 p1 p2 p3 p4 p5 p6
                  go_wp2_with fail
                  go_roundw
                  case rel => exact ⟨z + 1, y, by first | rfl | go_num, rfl, Lib.hid ⟨HZ.out, hxy.out.2⟩, by have := HZ2.out; omega, hy, bd5, hb6⟩
                  case measure => have := HZ2.out; simp [intOf]; omega
              · have HV : Hid (x = rtU d) := Lib.hid (by have := hxy.out; omega)
                have h35 := Bt.ext_from
                go_wp2_with fail
                exact bodyPost_ret (v := .float .f64 x) (by simp [results, Tryz.results20, go_sem]) rfl ⟨by rw [HV.out], hb⟩
          · have K1 := Lib.hid (KR.out (0 + 2) false _ (by omega) ⟨fun h => absurd h (by decide), fun h => absurd h t1⟩ hw0)
            clear t1
            go_wp2_with fail
            refine (KQ.out _).mono ?_
            rintro e w2 ⟨rfl, rfl⟩
            go_wp2_with fail
            refine K1.out.mono ?_
            rintro e w2 ⟨rfl, hb2⟩
            have BD2 := Lib.hid (BD.out.step hb2)
            have HB2 := Lib.hid (below_chain hw0 hb2)
            clear hb2 K1 p0 p1 p2 p3 p4 p5 p6 hw0
            go_wp2_with fail
            have HL : Hid ((0 : Nat) ≤ rtU d ∧ rtU d ≤ (9218868437227405312 : Nat) ∧ (9218868437227405312 : Nat) < 9223372036854775808) := Lib.hid (by
              have h1 := HRT.out
              refine ⟨?_, ?_, ?_⟩ <;> (try have h2 := HLO.out) <;> (try have h3 := HHI.out) <;> omega)
            go_loopw [3, 4] (fun vl vh wr => ∃ a b : Nat, vl = .int .u64 (a : Nat) ∧ vh = .int .u64 (b : Nat) ∧ Hid (a ≤ rtU d ∧ rtU d ≤ b) ∧ a ≤ b ∧ b < 9223372036854775808 ∧ Hid (Box3 wr w.heap.size (.bool d.g) (.string (natS d.n)) (.int .i64 d.x)) ∧ Below w.heap.size w wr) (fun vl vh _ => (intOf vh - intOf vl).toNat)
            case atStart => exact ⟨0, 9218868437227405312, by first | rfl | go_num, by first | rfl | go_num, Lib.hid ⟨HL.out.1, HL.out.2.1⟩, Nat.le_trans HL.out.1 HL.out.2.1, HL.out.2.2, BD2, HB2.out⟩
            case round =>
              clear HL
              obtain ⟨x, y, rfl, rfl, hxy, hle, hy, bd, hb⟩ := hrel
              obtain ⟨p0, p1, p2, p3, p4, p5, p6⟩ := bd.out.facts
              by_cases hlt : x < y
              · obtain ⟨v, hv⟩ : ∃ v, v = (y - x) / 2 := ⟨_, rfl⟩
                obtain ⟨z, hz⟩ : ∃ z, z = x + v := ⟨_, rfl⟩
                have hz1 : x ≤ z := by omega
                have hz2 : z < y := by omega
                have hq : ((y : Int) - (x : Int)) / 2 = (v : Int) := by omega
                have hzz : (x : Int) + (v : Int) = (z : Int) := by omega
                have hdz : v ≤ 9223372036854775807 := by omega
                have hx9 : x < 9223372036854775808 := by omega
                clear hv
                have hz3 : z < 9223372036854775808 := by omega
                by_cases hr : rch d z
                · have K := Lib.hid (KR.out z true wr (by omega) ⟨fun _ => hr, fun _ => rfl⟩ hb)
                  have HZ := Lib.hid ((rtU_iff HDO.out hz3).1 hr)
                  have HZ2 := Lib.hid hz2
                  clear hr hz
                  go_wp2_with fail
                  refine K.out.mono ?_
                  rintro e w5 ⟨rfl, hb5⟩
                  have bd5 := Lib.hid (bd.out.step hb5)
                  have hb6 := below_chain hb hb5
                  clear hb5 p0 p1 p2 p3 p4 p5 p6
                  go_wp2_with fail
                  go_roundw
                  case rel => exact ⟨x, z, rfl, by first | rfl | go_num, Lib.hid ⟨hxy.out.1, HZ.out⟩, hz1, hz3, bd5, hb6⟩
                  case measure => have := HZ2.out; simp [intOf]; omega
                · have K := Lib.hid (KR.out z false wr (by omega) ⟨fun h => absurd h (by decide), fun h => absurd h hr⟩ hb)
                  have HZ : Hid (z + 1 ≤ rtU d) := Lib.hid (Nat.lt_of_not_le fun c => hr ((rtU_iff HDO.out hz3).2 c))
                  have HZ2 := Lib.hid hz2
                  clear hr hz
                  go_wp2_with fail
                  refine K.out.mono ?_
                  rintro e w5 ⟨rfl, hb5⟩
                  have bd5 := Lib.hid (bd.out.step hb5)
                  have hb6 := below_chain hb hb5
                  clear hb5 p0 p1 p2 p3 p4 p5 p6
                  go_wp2_with fail
                  go_roundw
                  case rel => exact ⟨z + 1, y, by first | rfl | go_num, rfl, Lib.hid ⟨HZ.out, hxy.out.2⟩, by have := HZ2.out; omega, hy, bd5, hb6⟩
                  case measure => have := HZ2.out; simp [intOf]; omega
              · have HV : Hid (x = rtU d) := Lib.hid (by have := hxy.out; omega)
                have h35 := Bt.ext_from
                go_wp2_with fail
                exact bodyPost_ret (v := .float .f64 x) (by simp [results, Tryz.results20, go_sem]) rfl ⟨by rw [HV.out], hb⟩
        · by_cases t1 : rch d (1 + 2)
          · have K1 := Lib.hid (KR.out (1 + 2) true _ (by omega) ⟨fun _ => t1, fun _ => rfl⟩ hw0)
            have K2 := Lib.hid (fun W (hW : Below w.heap.size w W) => KR.out 18446744073709551614 true W (by omega) ⟨fun _ => Or.inl ((Bt.finB_false _).2 (by decide)), fun _ => rfl⟩ hW)
            clear t1
            go_wp2_with fail
            refine (KQ.out _).mono ?_
            rintro e w2 ⟨rfl, rfl⟩
            go_wp2_with fail
            refine K1.out.mono ?_
            rintro e w2 ⟨rfl, hb2⟩
            have BD2 := Lib.hid (BD.out.step hb2)
            have HB2 := Lib.hid (below_chain hw0 hb2)
            clear hb2 K1 p0 p1 p2 p3 p4 p5 p6 hw0
            obtain ⟨p0, p1, p2, p3, p4, p5, p6⟩ := BD2.out.facts
            go_wp2_with fail
            refine (K2.out _ HB2.out).mono ?_
            rintro e w3 ⟨rfl, hb3⟩
            have BD3 := Lib.hid (BD2.out.step hb3)
            have HB3 := Lib.hid (below_chain HB2.out hb3)
            clear hb3 K2 p0 p1 p2 p3 p4 p5 p6
            go_wp2_with fail
            have HL : Hid ((0 : Nat) ≤ rtU d ∧ rtU d ≤ (9218868437227405312 : Nat) ∧ (9218868437227405312 : Nat) < 9223372036854775808) := Lib.hid (by
              have h1 := HRT.out
              refine ⟨?_, ?_, ?_⟩ <;> (try have h2 := HLO.out) <;> (try have h3 := HHI.out) <;> omega)
            go_loopw [3, 4] (fun vl vh wr => ∃ a b : Nat, vl = .int .u64 (a : Nat) ∧ vh = .int .u64 (b : Nat) ∧ Hid (a ≤ rtU d ∧ rtU d ≤ b) ∧ a ≤ b ∧ b < 9223372036854775808 ∧ Hid (Box3 wr w.heap.size (.bool d.g) (.string (natS d.n)) (.int .i64 d.x)) ∧ Below w.heap.size w wr) (fun vl vh _ => (intOf vh - intOf vl).toNat)
            case atStart => exact ⟨0, 9218868437227405312, by first | rfl | go_num, by first | rfl | go_num, Lib.hid ⟨HL.out.1, HL.out.2.1⟩, Nat.le_trans HL.out.1 HL.out.2.1, HL.out.2.2, BD3, HB3.out⟩
            case round =>
              clear HL
              obtain ⟨x, y, rfl, rfl, hxy, hle, hy, bd, hb⟩ := hrel
              obtain ⟨p0, p1, p2, p3, p4, p5, p6⟩ := bd.out.facts
              by_cases hlt : x < y
              · obtain ⟨v, hv⟩ : ∃ v, v = (y - x) / 2 := ⟨_, rfl⟩
                obtain ⟨z, hz⟩ : ∃ z, z = x + v := ⟨_, rfl⟩
                have hz1 : x ≤ z := by omega
                have hz2 : z < y := by omega
                have hq : ((y : Int) - (x : Int)) / 2 = (v : Int) := by omega
                have hzz : (x : Int) + (v : Int) = (z : Int) := by omega
                have hdz : v ≤ 9223372036854775807 := by omega
                have hx9 : x < 9223372036854775808 := by omega
                clear hv
                have hz3 : z < 9223372036854775808 := by omega
                by_cases hr : rch d z
                · have K := Lib.hid (KR.out z true wr (by omega) ⟨fun _ => hr, fun _ => rfl⟩ hb)
                  have HZ := Lib.hid ((rtU_iff HDO.out hz3).1 hr)
                  have HZ2 := Lib.hid hz2
                  clear hr hz
                  go_wp2_with fail
                  refine K.out.mono ?_
                  rintro e w5 ⟨rfl, hb5⟩
                  have bd5 := Lib.hid (bd.out.step hb5)
                  have hb6 := below_chain hb hb5
                  clear hb5 p0 p1 p2 p3 p4 p5 p6
                  go_wp2_with fail
                  go_roundw
                  case rel => exact ⟨x, z, rfl, by first | rfl | go_num, Lib.hid ⟨hxy.out.1, HZ.out⟩, hz1, hz3, bd5, hb6⟩
                  case measure => have := HZ2.out; simp [intOf]; omega
                · have K := Lib.hid (KR.out z false wr (by omega) ⟨fun h => absurd h (by decide), fun h => absurd h hr⟩ hb)
                  have HZ : Hid (z + 1 ≤ rtU d) := Lib.hid (Nat.lt_of_not_le fun c => hr ((rtU_iff HDO.out hz3).2 c))
                  have HZ2 := Lib.hid hz2
                  clear hr hz
                  go_wp2_with fail
                  refine K.out.mono ?_
                  rintro e w5 ⟨rfl, hb5⟩
                  have bd5 := Lib.hid (bd.out.step hb5)
                  have hb6 := below_chain hb hb5
                  clear hb5 p0 p1 p2 p3 p4 p5 p6
                  go_wp2_with fail
                  go_roundw
                  case rel => exact ⟨z + 1, y, by first | rfl | go_num, rfl, Lib.hid ⟨HZ.out, hxy.out.2⟩, by have := HZ2.out; omega, hy, bd5, hb6⟩
                  case measure => have := HZ2.out; simp [intOf]; omega
              · have HV : Hid (x = rtU d) := Lib.hid (by have := hxy.out; omega)
                have h35 := Bt.ext_from
                go_wp2_with fail
                exact bodyPost_ret (v := .float .f64 x) (by simp [results, Tryz.results20, go_sem]) rfl ⟨by rw [HV.out], hb⟩
          · have K1 := Lib.hid (KR.out (1 + 2) false _ (by omega) ⟨fun h => absurd h (by decide), fun h => absurd h t1⟩ hw0)
            clear t1
            go_wp2_with fail
            refine (KQ.out _).mono ?_
            rintro e w2 ⟨rfl, rfl⟩
            go_wp2_with fail
            refine K1.out.mono ?_
            rintro e w2 ⟨rfl, hb2⟩
            have BD2 := Lib.hid (BD.out.step hb2)
            have HB2 := Lib.hid (below_chain hw0 hb2)
            clear hb2 K1 p0 p1 p2 p3 p4 p5 p6 hw0
            go_wp2_with fail
            have HL : Hid ((0 : Nat) ≤ rtU d ∧ rtU d ≤ (9218868437227405312 : Nat) ∧ (9218868437227405312 : Nat) < 9223372036854775808) := Lib.hid (by
              have h1 := HRT.out
              refine ⟨?_, ?_, ?_⟩ <;> (try have h2 := HLO.out) <;> (try have h3 := HHI.out) <;> omega)
            go_loopw [3, 4] (fun vl vh wr => ∃ a b : Nat, vl = .int .u64 (a : Nat) ∧ vh = .int .u64 (b : Nat) ∧ Hid (a ≤ rtU d ∧ rtU d ≤ b) ∧ a ≤ b ∧ b < 9223372036854775808 ∧ Hid (Box3 wr w.heap.size (.bool d.g) (.string (natS d.n)) (.int .i64 d.x)) ∧ Below w.heap.size w wr) (fun vl vh _ => (intOf vh - intOf vl).toNat)
            case atStart => exact ⟨0, 9218868437227405312, by first | rfl | go_num, by first | rfl | go_num, Lib.hid ⟨HL.out.1, HL.out.2.1⟩, Nat.le_trans HL.out.1 HL.out.2.1, HL.out.2.2, BD2, HB2.out⟩
            case round =>
              clear HL
              obtain ⟨x, y, rfl, rfl, hxy, hle, hy, bd, hb⟩ := hrel
              obtain ⟨p0, p1, p2, p3, p4, p5, p6⟩ := bd.out.facts
              by_cases hlt : x < y
              · obtain ⟨v, hv⟩ : ∃ v, v = (y - x) / 2 := ⟨_, rfl⟩
                obtain ⟨z, hz⟩ : ∃ z, z = x + v := ⟨_, rfl⟩
                have hz1 : x ≤ z := by omega
                have hz2 : z < y := by omega
                have hq : ((y : Int) - (x : Int)) / 2 = (v : Int) := by omega
                have hzz : (x : Int) + (v : Int) = (z : Int) := by omega
                have hdz : v ≤ 9223372036854775807 := by omega
                have hx9 : x < 9223372036854775808 := by omega
                clear hv
                have hz3 : z < 9223372036854775808 := by omega
                by_cases hr : rch d z
                · have K := Lib.hid (KR.out z true wr (by omega) ⟨fun _ => hr, fun _ => rfl⟩ hb)
                  have HZ := Lib.hid ((rtU_iff HDO.out hz3).1 hr)
                  have HZ2 := Lib.hid hz2
                  clear hr hz
                  go_wp2_with fail
                  refine K.out.mono ?_
                  rintro e w5 ⟨rfl, hb5⟩
                  have bd5 := Lib.hid (bd.out.step hb5)
                  have hb6 := below_chain hb hb5
                  clear hb5 p0 p1 p2 p3 p4 p5 p6
                  go_wp2_with fail
                  go_roundw
                  case rel => exact ⟨x, z, rfl, by first | rfl | go_num, Lib.hid ⟨hxy.out.1, HZ.out⟩, hz1, hz3, bd5, hb6⟩
                  case measure => have := HZ2.out; simp [intOf]; omega
                · have K := Lib.hid (KR.out z false wr (by omega) ⟨fun h => absurd h (by decide), fun h => absurd h hr⟩ hb)
                  have HZ : Hid (z + 1 ≤ rtU d) := Lib.hid (Nat.lt_of_not_le fun c => hr ((rtU_iff HDO.out hz3).2 c))
                  have HZ2 := Lib.hid hz2
                  clear hr hz
                  go_wp2_with fail
                  refine K.out.mono ?_
                  rintro e w5 ⟨rfl, hb5⟩
                  have bd5 := Lib.hid (bd.out.step hb5)
                  have hb6 := below_chain hb hb5
                  clear hb5 p0 p1 p2 p3 p4 p5 p6
                  go_wp2_with fail
                  go_roundw
                  case rel => exact ⟨z + 1, y, by first | rfl | go_num, rfl, Lib.hid ⟨HZ.out, hxy.out.2⟩, by have := HZ2.out; omega, hy, bd5, hb6⟩
                  case measure => have := HZ2.out; simp [intOf]; omega
              · have HV : Hid (x = rtU d) := Lib.hid (by have := hxy.out; omega)
                have h35 := Bt.ext_from
                go_wp2_with fail
                exact bodyPost_ret (v := .float .f64 x) (by simp [results, Tryz.results20, go_sem]) rfl ⟨by rw [HV.out], hb⟩
        · by_cases t1 : rch d (2 + 2)
          · have K1 := Lib.hid (KR.out (2 + 2) true _ (by omega) ⟨fun _ => t1, fun _ => rfl⟩ hw0)
            have K2 := Lib.hid (fun W (hW : Below w.heap.size w W) => KR.out 18446744073709551615 true W (by omega) ⟨fun _ => Or.inl ((Bt.finB_false _).2 (by decide)), fun _ => rfl⟩ hW)
            clear t1
            go_wp2_with fail
            refine (KQ.out _).mono ?_
            rintro e w2 ⟨rfl, rfl⟩
            go_wp2_with fail
            refine K1.out.mono ?_
            rintro e w2 ⟨rfl, hb2⟩
            have BD2 := Lib.hid (BD.out.step hb2)
            have HB2 := Lib.hid (below_chain hw0 hb2)
            clear hb2 K1 p0 p1 p2 p3 p4 p5 p6 hw0
            obtain ⟨p0, p1, p2, p3, p4, p5, p6⟩ := BD2.out.facts
            go_wp2_with fail
            refine (K2.out _ HB2.out).mono ?_
            rintro e w3 ⟨rfl, hb3⟩
            have BD3 := Lib.hid (BD2.out.step hb3)
            have HB3 := Lib.hid (below_chain HB2.out hb3)
            clear hb3 K2 p0 p1 p2 p3 p4 p5 p6
            go_wp2_with fail
            have HL : Hid ((0 : Nat) ≤ rtU d ∧ rtU d ≤ (9218868437227405312 : Nat) ∧ (9218868437227405312 : Nat) < 9223372036854775808) := Lib.hid (by
              have h1 := HRT.out
              refine ⟨?_, ?_, ?_⟩ <;> (try have h2 := HLO.out) <;> (try have h3 := HHI.out) <;> omega)
            go_loopw [3, 4] (fun vl vh wr => ∃ a b : Nat, vl = .int .u64 (a : Nat) ∧ vh = .int .u64 (b : Nat) ∧ Hid (a ≤ rtU d ∧ rtU d ≤ b) ∧ a ≤ b ∧ b < 9223372036854775808 ∧ Hid (Box3 wr w.heap.size (.bool d.g) (.string (natS d.n)) (.int .i64 d.x)) ∧ Below w.heap.size w wr) (fun vl vh _ => (intOf vh - intOf vl).toNat)
            case atStart => exact ⟨0, 9218868437227405312, by first | rfl | go_num, by first | rfl | go_num, Lib.hid ⟨HL.out.1, HL.out.2.1⟩, Nat.le_trans HL.out.1 HL.out.2.1, HL.out.2.2, BD3, HB3.out⟩
            case round =>
              clear HL
              obtain ⟨x, y, rfl, rfl, hxy, hle, hy, bd, hb⟩ := hrel
              obtain ⟨p0, p1, p2, p3, p4, p5, p6⟩ := bd.out.facts
              by_cases hlt : x < y
              · obtain ⟨v, hv⟩ : ∃ v, v = (y - x) / 2 := ⟨_, rfl⟩
                obtain ⟨z, hz⟩ : ∃ z, z = x + v := ⟨_, rfl⟩
                have hz1 : x ≤ z := by omega
                have hz2 : z < y := by omega
                have hq : ((y : Int) - (x : Int)) / 2 = (v : Int) := by omega
                have hzz : (x : Int) + (v : Int) = (z : Int) := by omega
                have hdz : v ≤ 9223372036854775807 := by omega
                have hx9 : x < 9223372036854775808 := by omega
                clear hv
                have hz3 : z < 9223372036854775808 := by omega
                by_cases hr : rch d z
                · have K := Lib.hid (KR.out z true wr (by omega) ⟨fun _ => hr, fun _ => rfl⟩ hb)
                  have HZ := Lib.hid ((rtU_iff HDO.out hz3).1 hr)
                  have HZ2 := Lib.hid hz2
                  clear hr hz
                  go_wp2_with fail
                  refine K.out.mono ?_
                  rintro e w5 ⟨rfl, hb5⟩
                  have bd5 := Lib.hid (bd.out.step hb5)
                  have hb6 := below_chain hb hb5
                  clear hb5 p0 p1 p2 p3 p4 p5 p6
                  go_wp2_with fail
                  go_roundw
                  case rel => exact ⟨x, z, rfl, by first | rfl | go_num, Lib.hid ⟨hxy.out.1, HZ.out⟩, hz1, hz3, bd5, hb6⟩
                  case measure => have := HZ2.out; simp [intOf]; omega
                · have K := Lib.hid (KR.out z false wr (by omega) ⟨fun h => absurd h (by decide), fun h => absurd h hr⟩ hb)
                  have HZ : Hid (z + 1 ≤ rtU d) := Lib.hid (Nat.lt_of_not_le fun c => hr ((rtU_iff HDO.out hz3).2 c))
                  have HZ2 := Lib.hid hz2
                  clear hr hz
                  go_wp2_with fail
                  refine K.out.mono ?_
                  rintro e w5 ⟨rfl, hb5⟩
                  have bd5 := Lib.hid (bd.out.step hb5)
                  have hb6 := below_chain hb hb5
                  clear hb5 p0 p1 p2 p3 p4 p5 p6
                  go_wp2_with fail
                  go_roundw
                  case rel => exact ⟨z + 1, y, by first | rfl | go_num, rfl, Lib.hid ⟨HZ.out, hxy.out.2⟩, by have := HZ2.out; omega, hy, bd5, hb6⟩
                  case measure => have := HZ2.out; simp [intOf]; omega
              · have HV : Hid (x = rtU d) := Lib.hid (by have := hxy.out; omega)
                have h35 := Bt.ext_from
                go_wp2_with fail
                exact bodyPost_ret (v := .float .f64 x) (by simp [results, Tryz.results20, go_sem]) rfl ⟨by rw [HV.out], hb⟩
          · have K1 := Lib.hid (KR.out (2 + 2) false _ (by omega) ⟨fun h => absurd h (by decide), fun h => absurd h t1⟩ hw0)
            clear t1
            go_wp2_with fail
            refine (KQ.out _).mono ?_
            rintro e w2 ⟨rfl, rfl⟩
            go_wp2_with fail
            refine K1.out.mono ?_
            rintro e w2 ⟨rfl, hb2⟩
            have BD2 := Lib.hid (BD.out.step hb2)
            have HB2 := Lib.hid (below_chain hw0 hb2)
            clear hb2 K1 p0 p1 p2 p3 p4 p5 p6 hw0
            go_wp2_with fail
            have HL : Hid ((0 : Nat) ≤ rtU d ∧ rtU d ≤ (9218868437227405312 : Nat) ∧ (9218868437227405312 : Nat) < 9223372036854775808) := Lib.hid (by
              have h1 := HRT.out
              refine ⟨?_, ?_, ?_⟩ <;> (try have h2 := HLO.out) <;> (try have h3 := HHI.out) <;> omega)
            go_loopw [3, 4] (fun vl vh wr => ∃ a b : Nat, vl = .int .u64 (a : Nat) ∧ vh = .int .u64 (b : Nat) ∧ Hid (a ≤ rtU d ∧ rtU d ≤ b) ∧ a ≤ b ∧ b < 9223372036854775808 ∧ Hid (Box3 wr w.heap.size (.bool d.g) (.string (natS d.n)) (.int .i64 d.x)) ∧ Below w.heap.size w wr) (fun vl vh _ => (intOf vh - intOf vl).toNat)
            case atStart => exact ⟨0, 9218868437227405312, by first | rfl | go_num, by first | rfl | go_num, Lib.hid ⟨HL.out.1, HL.out.2.1⟩, Nat.le_trans HL.out.1 HL.out.2.1, HL.out.2.2, BD2, HB2.out⟩
            case round =>
              clear HL
              obtain ⟨x, y, rfl, rfl, hxy, hle, hy, bd, hb⟩ := hrel
              obtain ⟨p0, p1, p2, p3, p4, p5, p6⟩ := bd.out.facts
              by_cases hlt : x < y
              · obtain ⟨v, hv⟩ : ∃ v, v = (y - x) / 2 := ⟨_, rfl⟩
                obtain ⟨z, hz⟩ : ∃ z, z = x + v := ⟨_, rfl⟩
                have hz1 : x ≤ z := by omega
                have hz2 : z < y := by omega
                have hq : ((y : Int) - (x : Int)) / 2 = (v : Int) := by omega
                have hzz : (x : Int) + (v : Int) = (z : Int) := by omega
                have hdz : v ≤ 9223372036854775807 := by omega
                have hx9 : x < 9223372036854775808 := by omega
                clear hv
                have hz3 : z < 9223372036854775808 := by omega
                by_cases hr : rch d z
                · have K := Lib.hid (KR.out z true wr (by omega) ⟨fun _ => hr, fun _ => rfl⟩ hb)
                  have HZ := Lib.hid ((rtU_iff HDO.out hz3).1 hr)
                  have HZ2 := Lib.hid hz2
                  clear hr hz
                  go_wp2_with fail
                  refine K.out.mono ?_
                  rintro e w5 ⟨rfl, hb5⟩
                  have bd5 := Lib.hid (bd.out.step hb5)
                  have hb6 := below_chain hb hb5
                  clear hb5 p0 p1 p2 p3 p4 p5 p6
                  go_wp2_with fail
                  go_roundw
                  case rel => exact ⟨x, z, rfl, by first | rfl | go_num, Lib.hid ⟨hxy.out.1, HZ.out⟩, hz1, hz3, bd5, hb6⟩
                  case measure => have := HZ2.out; simp [intOf]; omega
                · have K := Lib.hid (KR.out z false wr (by omega) ⟨fun h => absurd h (by decide), fun h => absurd h hr⟩ hb)
                  have HZ : Hid (z + 1 ≤ rtU d) := Lib.hid (Nat.lt_of_not_le fun c => hr ((rtU_iff HDO.out hz3).2 c))
                  have HZ2 := Lib.hid hz2
                  clear hr hz
                  go_wp2_with fail
                  refine K.out.mono ?_
                  rintro e w5 ⟨rfl, hb5⟩
                  have bd5 := Lib.hid (bd.out.step hb5)
                  have hb6 := below_chain hb hb5
                  clear hb5 p0 p1 p2 p3 p4 p5 p6
                  go_wp2_with fail
                  go_roundw
                  case rel => exact ⟨z + 1, y, by first | rfl | go_num, rfl, Lib.hid ⟨HZ.out, hxy.out.2⟩, by have := HZ2.out; omega, hy, bd5, hb6⟩
                  case measure => have := HZ2.out; simp [intOf]; omega
              · have HV : Hid (x = rtU d) := Lib.hid (by have := hxy.out; omega)
                have h35 := Bt.ext_from
                go_wp2_with fail
                exact bodyPost_ret (v := .float .f64 x) (by simp [results, Tryz.results20, go_sem]) rfl ⟨by rw [HV.out], hb⟩
      · have e2 : ((near + 2 : Nat) : Int) = (near : Int) + 2 := by omega
        have e3 : ((near - 3 : Nat) : Int) = (near : Int) - 3 := by omega
        have HN := Lib.hid hn
        have HN3 := Lib.hid hn3
        by_cases t1 : rch d (near + 2)
        · have K1 := Lib.hid (KR.out (near + 2) true _ (by omega) ⟨fun _ => t1, fun _ => rfl⟩ hw0)
          have HT1 := Lib.hid t1
          rw [e2] at K1
          by_cases t2 : rch d (near - 3)
          · have K2 := Lib.hid (fun W (hW : Below w.heap.size w W) => KR.out (near - 3) true W (by omega) ⟨fun _ => t2, fun _ => rfl⟩ hW)
            rw [e3] at K2
            clear t1 t2 e2 e3 HT1
            go_wp2_with fail
            refine (KQ.out _).mono ?_
            rintro e w2 ⟨rfl, rfl⟩
            go_wp2_with fail
            refine K1.out.mono ?_
            rintro e w2 ⟨rfl, hb2⟩
            have BD2 := Lib.hid (BD.out.step hb2)
            have HB2 := Lib.hid (below_chain hw0 hb2)
            clear hb2 K1 p0 p1 p2 p3 p4 p5 p6 hw0
            obtain ⟨p0, p1, p2, p3, p4, p5, p6⟩ := BD2.out.facts
            go_wp2_with fail
            refine (K2.out _ HB2.out).mono ?_
            rintro e w3 ⟨rfl, hb3⟩
            have BD3 := Lib.hid (BD2.out.step hb3)
            have HB3 := Lib.hid (below_chain HB2.out hb3)
            clear hb3 K2 p0 p1 p2 p3 p4 p5 p6
            go_wp2_with fail
            have HL : Hid ((0 : Nat) ≤ rtU d ∧ rtU d ≤ (9218868437227405312 : Nat) ∧ (9218868437227405312 : Nat) < 9223372036854775808) := Lib.hid (by
              have h1 := HRT.out
              refine ⟨?_, ?_, ?_⟩ <;> (try have h2 := HLO.out) <;> (try have h3 := HHI.out) <;> omega)
            go_loopw [3, 4] (fun vl vh wr => ∃ a b : Nat, vl = .int .u64 (a : Nat) ∧ vh = .int .u64 (b : Nat) ∧ Hid (a ≤ rtU d ∧ rtU d ≤ b) ∧ a ≤ b ∧ b < 9223372036854775808 ∧ Hid (Box3 wr w.heap.size (.bool d.g) (.string (natS d.n)) (.int .i64 d.x)) ∧ Below w.heap.size w wr) (fun vl vh _ => (intOf vh - intOf vl).toNat)
            case atStart => exact ⟨0, 9218868437227405312, by first | rfl | go_num, by first | rfl | go_num, Lib.hid ⟨HL.out.1, HL.out.2.1⟩, Nat.le_trans HL.out.1 HL.out.2.1, HL.out.2.2, BD3, HB3.out⟩
            case round =>
              clear HL
              obtain ⟨x, y, rfl, rfl, hxy, hle, hy, bd, hb⟩ := hrel
              obtain ⟨p0, p1, p2, p3, p4, p5, p6⟩ := bd.out.facts
              by_cases hlt : x < y
              · obtain ⟨v, hv⟩ : ∃ v, v = (y - x) / 2 := ⟨_, rfl⟩
                obtain ⟨z, hz⟩ : ∃ z, z = x + v := ⟨_, rfl⟩
                have hz1 : x ≤ z := by omega
                have hz2 : z < y := by omega
                have hq : ((y : Int) - (x : Int)) / 2 = (v : Int) := by omega
                have hzz : (x : Int) + (v : Int) = (z : Int) := by omega
                have hdz : v ≤ 9223372036854775807 := by omega
                have hx9 : x < 9223372036854775808 := by omega
                clear hv
                have hz3 : z < 9223372036854775808 := by omega
                by_cases hr : rch d z
                · have K := Lib.hid (KR.out z true wr (by omega) ⟨fun _ => hr, fun _ => rfl⟩ hb)
                  have HZ := Lib.hid ((rtU_iff HDO.out hz3).1 hr)
                  have HZ2 := Lib.hid hz2
                  clear hr hz
                  go_wp2_with fail
                  refine K.out.mono ?_
                  rintro e w5 ⟨rfl, hb5⟩
                  have bd5 := Lib.hid (bd.out.step hb5)
                  have hb6 := below_chain hb hb5
                  clear hb5 p0 p1 p2 p3 p4 p5 p6
                  go_wp2_with fail
                  go_roundw
                  case rel => exact ⟨x, z, rfl, by first | rfl | go_num, Lib.hid ⟨hxy.out.1, HZ.out⟩, hz1, hz3, bd5, hb6⟩
                  case measure => have := HZ2.out; simp [intOf]; omega
                · have K := Lib.hid (KR.out z false wr (by omega) ⟨fun h => absurd h (by decide), fun h => absurd h hr⟩ hb)
                  have HZ : Hid (z + 1 ≤ rtU d) := Lib.hid (Nat.lt_of_not_le fun c => hr ((rtU_iff HDO.out hz3).2 c))
                  have HZ2 := Lib.hid hz2
                  clear hr hz
                  go_wp2_with fail
                  refine K.out.mono ?_
                  rintro e w5 ⟨rfl, hb5⟩
                  have bd5 := Lib.hid (bd.out.step hb5)
                  have hb6 := below_chain hb hb5
                  clear hb5 p0 p1 p2 p3 p4 p5 p6
                  go_wp2_with fail
                  go_roundw
                  case rel => exact ⟨z + 1, y, by first | rfl | go_num, rfl, Lib.hid ⟨HZ.out, hxy.out.2⟩, by have := HZ2.out; omega, hy, bd5, hb6⟩
                  case measure => have := HZ2.out; simp [intOf]; omega
              · have HV : Hid (x = rtU d) := Lib.hid (by have := hxy.out; omega)
                have h35 := Bt.ext_from
                go_wp2_with fail
                exact bodyPost_ret (v := .float .f64 x) (by simp [results, Tryz.results20, go_sem]) rfl ⟨by rw [HV.out], hb⟩
          · have K2 := Lib.hid (fun W (hW : Below w.heap.size w W) => KR.out (near - 3) false W (by omega) ⟨fun h => absurd h (by decide), fun h => absurd h t2⟩ hW)
            rw [e3] at K2
            have hlow : near - 3 < 9218868437227405312 := Nat.lt_of_not_le fun c => t2 (rch_far c (by omega))
            have HLO2 : Hid (near - 2 ≤ rtU d) := Lib.hid (by
              have := Nat.lt_of_not_le fun c => t2 ((rtU_iff HDO.out (by omega)).2 c)
              omega)
            have HHI2 : Hid (rtU d ≤ near + 2) := Lib.hid ((rtU_iff HDO.out (by omega)).1 t1)
            have hn9 : near < 9218868437227405315 := by omega
            clear t1 t2 e2 e3 HT1 hlow
            go_wp2_with fail
            refine (KQ.out _).mono ?_
            rintro e w2 ⟨rfl, rfl⟩
            go_wp2_with fail
            refine K1.out.mono ?_
            rintro e w2 ⟨rfl, hb2⟩
            have BD2 := Lib.hid (BD.out.step hb2)
            have HB2 := Lib.hid (below_chain hw0 hb2)
            clear hb2 K1 p0 p1 p2 p3 p4 p5 p6 hw0
            obtain ⟨p0, p1, p2, p3, p4, p5, p6⟩ := BD2.out.facts
            go_wp2_with fail
            refine (K2.out _ HB2.out).mono ?_
            rintro e w3 ⟨rfl, hb3⟩
            have BD3 := Lib.hid (BD2.out.step hb3)
            have HB3 := Lib.hid (below_chain HB2.out hb3)
            clear hb3 K2 p0 p1 p2 p3 p4 p5 p6
            go_wp2_with fail
            have HL : Hid ((near - 2 : Nat) ≤ rtU d ∧ rtU d ≤ (near + 2 : Nat) ∧ (near + 2 : Nat) < 9223372036854775808) := Lib.hid (by
              have h1 := HRT.out
              refine ⟨?_, ?_, ?_⟩ <;> (try have h2 := HLO2.out) <;> (try have h3 := HHI2.out) <;> omega)
            go_loopw [3, 4] (fun vl vh wr => ∃ a b : Nat, vl = .int .u64 (a : Nat) ∧ vh = .int .u64 (b : Nat) ∧ Hid (a ≤ rtU d ∧ rtU d ≤ b) ∧ a ≤ b ∧ b < 9223372036854775808 ∧ Hid (Box3 wr w.heap.size (.bool d.g) (.string (natS d.n)) (.int .i64 d.x)) ∧ Below w.heap.size w wr) (fun vl vh _ => (intOf vh - intOf vl).toNat)
            case atStart => exact ⟨near - 2, near + 2, by first | rfl | go_num, by first | rfl | go_num, Lib.hid ⟨HL.out.1, HL.out.2.1⟩, Nat.le_trans HL.out.1 HL.out.2.1, HL.out.2.2, BD3, HB3.out⟩
            case round =>
              clear HL
              obtain ⟨x, y, rfl, rfl, hxy, hle, hy, bd, hb⟩ := hrel
              obtain ⟨p0, p1, p2, p3, p4, p5, p6⟩ := bd.out.facts
              by_cases hlt : x < y
              · obtain ⟨v, hv⟩ : ∃ v, v = (y - x) / 2 := ⟨_, rfl⟩
                obtain ⟨z, hz⟩ : ∃ z, z = x + v := ⟨_, rfl⟩
                have hz1 : x ≤ z := by omega
                have hz2 : z < y := by omega
                have hq : ((y : Int) - (x : Int)) / 2 = (v : Int) := by omega
                have hzz : (x : Int) + (v : Int) = (z : Int) := by omega
                have hdz : v ≤ 9223372036854775807 := by omega
                have hx9 : x < 9223372036854775808 := by omega
                clear hv
                have hz3 : z < 9223372036854775808 := by omega
                by_cases hr : rch d z
                · have K := Lib.hid (KR.out z true wr (by omega) ⟨fun _ => hr, fun _ => rfl⟩ hb)
                  have HZ := Lib.hid ((rtU_iff HDO.out hz3).1 hr)
                  have HZ2 := Lib.hid hz2
                  clear hr hz
                  go_wp2_with fail
                  refine K.out.mono ?_
                  rintro e w5 ⟨rfl, hb5⟩
                  have bd5 := Lib.hid (bd.out.step hb5)
                  have hb6 := below_chain hb hb5
                  clear hb5 p0 p1 p2 p3 p4 p5 p6
                  go_wp2_with fail
                  go_roundw
                  case rel => exact ⟨x, z, rfl, by first | rfl | go_num, Lib.hid ⟨hxy.out.1, HZ.out⟩, hz1, hz3, bd5, hb6⟩
                  case measure => have := HZ2.out; simp [intOf]; omega
                · have K := Lib.hid (KR.out z false wr (by omega) ⟨fun h => absurd h (by decide), fun h => absurd h hr⟩ hb)
                  have HZ : Hid (z + 1 ≤ rtU d) := Lib.hid (Nat.lt_of_not_le fun c => hr ((rtU_iff HDO.out hz3).2 c))
                  have HZ2 := Lib.hid hz2
                  clear hr hz
                  go_wp2_with fail
                  refine K.out.mono ?_
                  rintro e w5 ⟨rfl, hb5⟩
                  have bd5 := Lib.hid (bd.out.step hb5)
                  have hb6 := below_chain hb hb5
                  clear hb5 p0 p1 p2 p3 p4 p5 p6
                  go_wp2_with fail
                  go_roundw
                  case rel => exact ⟨z + 1, y, by first | rfl | go_num, rfl, Lib.hid ⟨HZ.out, hxy.out.2⟩, by have := HZ2.out; omega, hy, bd5, hb6⟩
                  case measure => have := HZ2.out; simp [intOf]; omega
              · have HV : Hid (x = rtU d) := Lib.hid (by have := hxy.out; omega)
                have h35 := Bt.ext_from
                go_wp2_with fail
                exact bodyPost_ret (v := .float .f64 x) (by simp [results, Tryz.results20, go_sem]) rfl ⟨by rw [HV.out], hb⟩
        · have K1 := Lib.hid (KR.out (near + 2) false _ (by omega) ⟨fun h => absurd h (by decide), fun h => absurd h t1⟩ hw0)
          rw [e2] at K1
          clear t1 e2 e3
          go_wp2_with fail
          refine (KQ.out _).mono ?_
          rintro e w2 ⟨rfl, rfl⟩
          go_wp2_with fail
          refine K1.out.mono ?_
          rintro e w2 ⟨rfl, hb2⟩
          have BD2 := Lib.hid (BD.out.step hb2)
          have HB2 := Lib.hid (below_chain hw0 hb2)
          clear hb2 K1 p0 p1 p2 p3 p4 p5 p6 hw0
          go_wp2_with fail
          have HL : Hid ((0 : Nat) ≤ rtU d ∧ rtU d ≤ (9218868437227405312 : Nat) ∧ (9218868437227405312 : Nat) < 9223372036854775808) := Lib.hid (by
            have h1 := HRT.out
            refine ⟨?_, ?_, ?_⟩ <;> (try have h2 := HLO.out) <;> (try have h3 := HHI.out) <;> omega)
          go_loopw [3, 4] (fun vl vh wr => ∃ a b : Nat, vl = .int .u64 (a : Nat) ∧ vh = .int .u64 (b : Nat) ∧ Hid (a ≤ rtU d ∧ rtU d ≤ b) ∧ a ≤ b ∧ b < 9223372036854775808 ∧ Hid (Box3 wr w.heap.size (.bool d.g) (.string (natS d.n)) (.int .i64 d.x)) ∧ Below w.heap.size w wr) (fun vl vh _ => (intOf vh - intOf vl).toNat)
          case atStart => exact ⟨0, 9218868437227405312, by first | rfl | go_num, by first | rfl | go_num, Lib.hid ⟨HL.out.1, HL.out.2.1⟩, Nat.le_trans HL.out.1 HL.out.2.1, HL.out.2.2, BD2, HB2.out⟩
          case round =>
            clear HL
            obtain ⟨x, y, rfl, rfl, hxy, hle, hy, bd, hb⟩ := hrel
            obtain ⟨p0, p1, p2, p3, p4, p5, p6⟩ := bd.out.facts
            by_cases hlt : x < y
            · obtain ⟨v, hv⟩ : ∃ v, v = (y - x) / 2 := ⟨_, rfl⟩
              obtain ⟨z, hz⟩ : ∃ z, z = x + v := ⟨_, rfl⟩
              have hz1 : x ≤ z := by omega
              have hz2 : z < y := by omega
              have hq : ((y : Int) - (x : Int)) / 2 = (v : Int) := by omega
              have hzz : (x : Int) + (v : Int) = (z : Int) := by omega
              have hdz : v ≤ 9223372036854775807 := by omega
              have hx9 : x < 9223372036854775808 := by omega
              clear hv
              have hz3 : z < 9223372036854775808 := by omega
              by_cases hr : rch d z
              · have K := Lib.hid (KR.out z true wr (by omega) ⟨fun _ => hr, fun _ => rfl⟩ hb)
                have HZ := Lib.hid ((rtU_iff HDO.out hz3).1 hr)
                have HZ2 := Lib.hid hz2
                clear hr hz
                go_wp2_with fail
                refine K.out.mono ?_
                rintro e w5 ⟨rfl, hb5⟩
                have bd5 := Lib.hid (bd.out.step hb5)
                have hb6 := below_chain hb hb5
                clear hb5 p0 p1 p2 p3 p4 p5 p6
                go_wp2_with fail
                go_roundw
                case rel => exact ⟨x, z, rfl, by first | rfl | go_num, Lib.hid ⟨hxy.out.1, HZ.out⟩, hz1, hz3, bd5, hb6⟩
                case measure => have := HZ2.out; simp [intOf]; omega
              · have K := Lib.hid (KR.out z false wr (by omega) ⟨fun h => absurd h (by decide), fun h => absurd h hr⟩ hb)
                have HZ : Hid (z + 1 ≤ rtU d) := Lib.hid (Nat.lt_of_not_le fun c => hr ((rtU_iff HDO.out hz3).2 c))
                have HZ2 := Lib.hid hz2
                clear hr hz
                go_wp2_with fail
                refine K.out.mono ?_
                rintro e w5 ⟨rfl, hb5⟩
                have bd5 := Lib.hid (bd.out.step hb5)
                have hb6 := below_chain hb hb5
                clear hb5 p0 p1 p2 p3 p4 p5 p6
                go_wp2_with fail
                go_roundw
                case rel => exact ⟨z + 1, y, by first | rfl | go_num, rfl, Lib.hid ⟨HZ.out, hxy.out.2⟩, by have := HZ2.out; omega, hy, bd5, hb6⟩
                case measure => have := HZ2.out; simp [intOf]; omega
            · have HV : Hid (x = rtU d) := Lib.hid (by have := hxy.out; omega)
              have h35 := Bt.ext_from
              go_wp2_with fail
              exact bodyPost_ret (v := .float .f64 x) (by simp [results, Tryz.results20, go_sem]) rfl ⟨by rw [HV.out], hb⟩
    · have h2f : Bt.fltB A 9110782046170513408 = false := Bool.eq_false_iff.2 h2
      clear h2
      go_wp2_with fail
      have HL : Hid ((0 : Nat) ≤ rtU d ∧ rtU d ≤ (9218868437227405312 : Nat) ∧ (9218868437227405312 : Nat) < 9223372036854775808) := Lib.hid (by
        have h1 := HRT.out
        refine ⟨?_, ?_, ?_⟩ <;> (try have h2 := HLO.out) <;> (try have h3 := HHI.out) <;> omega)
      go_loopw [3, 4] (fun vl vh wr => ∃ a b : Nat, vl = .int .u64 (a : Nat) ∧ vh = .int .u64 (b : Nat) ∧ Hid (a ≤ rtU d ∧ rtU d ≤ b) ∧ a ≤ b ∧ b < 9223372036854775808 ∧ Hid (Box3 wr w.heap.size (.bool d.g) (.string (natS d.n)) (.int .i64 d.x)) ∧ Below w.heap.size w wr) (fun vl vh _ => (intOf vh - intOf vl).toNat)
      case atStart => exact ⟨0, 9218868437227405312, by first | rfl | go_num, by first | rfl | go_num, Lib.hid ⟨HL.out.1, HL.out.2.1⟩, Nat.le_trans HL.out.1 HL.out.2.1, HL.out.2.2, BD, HB1.out⟩
      case round =>
        clear HL
        obtain ⟨x, y, rfl, rfl, hxy, hle, hy, bd, hb⟩ := hrel
        obtain ⟨p0, p1, p2, p3, p4, p5, p6⟩ := bd.out.facts
        by_cases hlt : x < y
        · obtain ⟨v, hv⟩ : ∃ v, v = (y - x) / 2 := ⟨_, rfl⟩
          obtain ⟨z, hz⟩ : ∃ z, z = x + v := ⟨_, rfl⟩
          have hz1 : x ≤ z := by omega
          have hz2 : z < y := by omega
          have hq : ((y : Int) - (x : Int)) / 2 = (v : Int) := by omega
          have hzz : (x : Int) + (v : Int) = (z : Int) := by omega
          have hdz : v ≤ 9223372036854775807 := by omega
          have hx9 : x < 9223372036854775808 := by omega
          clear hv
          have hz3 : z < 9223372036854775808 := by omega
          by_cases hr : rch d z
          · have K := Lib.hid (KR.out z true wr (by omega) ⟨fun _ => hr, fun _ => rfl⟩ hb)
            have HZ := Lib.hid ((rtU_iff HDO.out hz3).1 hr)
            have HZ2 := Lib.hid hz2
            clear hr hz
            go_wp2_with fail
            refine K.out.mono ?_
            rintro e w5 ⟨rfl, hb5⟩
            have bd5 := Lib.hid (bd.out.step hb5)
            have hb6 := below_chain hb hb5
            clear hb5 p0 p1 p2 p3 p4 p5 p6
            go_wp2_with fail
            go_roundw
            case rel => exact ⟨x, z, rfl, by first | rfl | go_num, Lib.hid ⟨hxy.out.1, HZ.out⟩, hz1, hz3, bd5, hb6⟩
            case measure => have := HZ2.out; simp [intOf]; omega
          · have K := Lib.hid (KR.out z false wr (by omega) ⟨fun h => absurd h (by decide), fun h => absurd h hr⟩ hb)
            have HZ : Hid (z + 1 ≤ rtU d) := Lib.hid (Nat.lt_of_not_le fun c => hr ((rtU_iff HDO.out hz3).2 c))
            have HZ2 := Lib.hid hz2
            clear hr hz
            go_wp2_with fail
            refine K.out.mono ?_
            rintro e w5 ⟨rfl, hb5⟩
            have bd5 := Lib.hid (bd.out.step hb5)
            have hb6 := below_chain hb hb5
            clear hb5 p0 p1 p2 p3 p4 p5 p6
            go_wp2_with fail
            go_roundw
            case rel => exact ⟨z + 1, y, by first | rfl | go_num, rfl, Lib.hid ⟨HZ.out, hxy.out.2⟩, by have := HZ2.out; omega, hy, bd5, hb6⟩
            case measure => have := HZ2.out; simp [intOf]; omega
        · have HV : Hid (x = rtU d) := Lib.hid (by have := hxy.out; omega)
          have h35 := Bt.ext_from
          go_wp2_with fail
          exact bodyPost_ret (v := .float .f64 x) (by simp [results, Tryz.results20, go_sem]) rfl ⟨by rw [HV.out], hb⟩
  · have h1f : Bt.fltB 103582791429521408 A = false := Bool.eq_false_iff.2 h1
    clear h1
    go_wp2_with fail
    have HL : Hid ((0 : Nat) ≤ rtU d ∧ rtU d ≤ (9218868437227405312 : Nat) ∧ (9218868437227405312 : Nat) < 9223372036854775808) := Lib.hid (by
      have h1 := HRT.out
      refine ⟨?_, ?_, ?_⟩ <;> (try have h2 := HLO.out) <;> (try have h3 := HHI.out) <;> omega)
    go_loopw [3, 4] (fun vl vh wr => ∃ a b : Nat, vl = .int .u64 (a : Nat) ∧ vh = .int .u64 (b : Nat) ∧ Hid (a ≤ rtU d ∧ rtU d ≤ b) ∧ a ≤ b ∧ b < 9223372036854775808 ∧ Hid (Box3 wr w.heap.size (.bool d.g) (.string (natS d.n)) (.int .i64 d.x)) ∧ Below w.heap.size w wr) (fun vl vh _ => (intOf vh - intOf vl).toNat)
    case atStart => exact ⟨0, 9218868437227405312, by first | rfl | go_num, by first | rfl | go_num, Lib.hid ⟨HL.out.1, HL.out.2.1⟩, Nat.le_trans HL.out.1 HL.out.2.1, HL.out.2.2, BD, HB1.out⟩
    case round =>
      clear HL
      obtain ⟨x, y, rfl, rfl, hxy, hle, hy, bd, hb⟩ := hrel
      obtain ⟨p0, p1, p2, p3, p4, p5, p6⟩ := bd.out.facts
      by_cases hlt : x < y
      · obtain ⟨v, hv⟩ : ∃ v, v = (y - x) / 2 := ⟨_, rfl⟩
        obtain ⟨z, hz⟩ : ∃ z, z = x + v := ⟨_, rfl⟩
        have hz1 : x ≤ z := by omega
        have hz2 : z < y := by omega
        have hq : ((y : Int) - (x : Int)) / 2 = (v : Int) := by omega
        have hzz : (x : Int) + (v : Int) = (z : Int) := by omega
        have hdz : v ≤ 9223372036854775807 := by omega
        have hx9 : x < 9223372036854775808 := by omega
        clear hv
        have hz3 : z < 9223372036854775808 := by omega
        by_cases hr : rch d z
        · have K := Lib.hid (KR.out z true wr (by omega) ⟨fun _ => hr, fun _ => rfl⟩ hb)
          have HZ := Lib.hid ((rtU_iff HDO.out hz3).1 hr)
          have HZ2 := Lib.hid hz2
          clear hr hz
          go_wp2_with fail
          refine K.out.mono ?_
          rintro e w5 ⟨rfl, hb5⟩
          have bd5 := Lib.hid (bd.out.step hb5)
          have hb6 := below_chain hb hb5
          clear hb5 p0 p1 p2 p3 p4 p5 p6
          go_wp2_with fail
          go_roundw
          case rel => exact ⟨x, z, rfl, by first | rfl | go_num, Lib.hid ⟨hxy.out.1, HZ.out⟩, hz1, hz3, bd5, hb6⟩
          case measure => have := HZ2.out; simp [intOf]; omega
        · have K := Lib.hid (KR.out z false wr (by omega) ⟨fun h => absurd h (by decide), fun h => absurd h hr⟩ hb)
          have HZ : Hid (z + 1 ≤ rtU d) := Lib.hid (Nat.lt_of_not_le fun c => hr ((rtU_iff HDO.out hz3).2 c))
          have HZ2 := Lib.hid hz2
          clear hr hz
          go_wp2_with fail
          refine K.out.mono ?_
          rintro e w5 ⟨rfl, hb5⟩
          have bd5 := Lib.hid (bd.out.step hb5)
          have hb6 := below_chain hb hb5
          clear hb5 p0 p1 p2 p3 p4 p5 p6
          go_wp2_with fail
          go_roundw
          case rel => exact ⟨z + 1, y, by first | rfl | go_num, rfl, Lib.hid ⟨HZ.out, hxy.out.2⟩, by have := HZ2.out; omega, hy, bd5, hb6⟩
          case measure => have := HZ2.out; simp [intOf]; omega
      · have HV : Hid (x = rtU d) := Lib.hid (by have := hxy.out; omega)
        have h35 := Bt.ext_from
        go_wp2_with fail
        exact bodyPost_ret (v := .float .f64 x) (by simp [results, Tryz.results20, go_sem]) rfl ⟨by rw [HV.out], hb⟩
end Go.Proofs.YtmjjodficjjehabGreatDoor
namespace Go.Proofs.YtmjjodficjjehabGreatDoor
open Go Go.RowKit Nt
attribute [local go_sem] Bt.f_lt Bt.f_gt Bt.f_eq Bt.f_ne
theorem store_cplx (P : Program) (w : World) (a : Addr) (m : Mode) (k : FloatKind) (x y : Nat) : (store a (.complex k x y) m).run P w = stored P w a (.complex k x y) m := run_store P w a _ m rfl
theorem store_flt (P : Program) (w : World) (a : Addr) (m : Mode) (k : FloatKind) (x : Nat) : (store a (.float k x) m).run P w = stored P w a (.float k x) m := run_store P w a _ m rfl
theorem Blk.put2 {w : World} {B : Nat} {t : TypeId} {a b : Value} (h : Blk w B t #[a, b]) (a' b' : Value) : Blk ((w.setCell ⟨B, 0, none⟩ a').setCell ⟨B, 1, none⟩ b') B t #[a', b'] := by
  have := (Blk.set_ h 0 a').set_ 1 b'
  simpa using this
theorem below_put2 {n : Nat} {w W : World} {C : Nat} (hb : Below n w W) (hC : n ≤ C) (a' b' : Value) : Below n w ((W.setCell ⟨C, 0, none⟩ a').setCell ⟨C, 1, none⟩ b') := (hb.setCell (p := ⟨C, 0, none⟩) hC a').setCell (p := ⟨C, 1, none⟩) hC b'
theorem wpList_allocZ {P : Program} {ops : Array Oper} {rest : List Oper} {op : Oper} {a : Act} {w : World} {Q : Exit → Act → World → Prop} (hgd : op.guard = none) (ty : TypeId) (ho : op.op = .alloc ty)
    (z : Array Value) (hz : ∀ w, (zeroValue ty).run P w = .ok (.agg z) w)
    (h : wpList P ops Q rest (a.put op.dst (.pointer (some ⟨w.heap.size, 0, none⟩))) (w.alloc (.cells z ty))) : wpList P ops Q (op :: rest) a w := by
  refine wpList_plain hgd fun K hK => ?_
  have hr : (Instr.alloc ty true (.tuple #[])).run P w = .ok (.pointer (some ⟨w.heap.size, 0, none⟩)) (w.alloc (.cells z ty)) := by
    simp only [Instr.alloc, Sem.run_bind, hz w, Result.andThen_ok]
    rfl
  unfold Oper.wp
  simp only [execOp, ho, Sem.run_bind, Sem.run_pure, hr, Result.andThen_ok]
  exact hK _ _ h
theorem one24 (g0 : Bool) (s0 : ByteArray) (x0 : Int) (g1 : Bool) (s1 : ByteArray) (x1 : Int) (g2 : Bool) (s2 : ByteArray) (x2 : Int) (g3 : Bool) (s3 : ByteArray) (x3 : Int) (g4 : Bool) (s4 : ByteArray) (x4 : Int) (g5 : Bool) (s5 : ByteArray) (x5 : Int) (g6 : Bool) (s6 : ByteArray) (x6 : Int) (g7 : Bool) (s7 : ByteArray) (x7 : Int) : (#[.bool g0, .string s0, .int .i64 x0, .bool g1, .string s1, .int .i64 x1, .bool g2, .string s2, .int .i64 x2, .bool g3, .string s3, .int .i64 x3, .bool g4, .string s4, .int .i64 x4, .bool g5, .string s5, .int .i64 x5, .bool g6, .string s6, .int .i64 x6, .bool g7, .string s7, .int .i64 x7] : Array Value).all (·.oneCell') = true := by
  simp
  repeat' apply And.intro
  all_goals rfl
theorem wpList_indexArr {P : Program} {ops : Array Oper} {rest : List Oper} {op : Oper} {a : Act} {w : World} {Q : Exit → Act → World → Prop} (hgd : op.guard = none) (ty : TypeId) (x y : Operand) (ho : op.op = .index ty x y)
    (v : Value) (hr : ∀ w, (Instr.index ty (a.eval x) (a.eval y)).run P w = .ok v w)
    (h : wpList P ops Q rest (a.put op.dst v) w) : wpList P ops Q (op :: rest) a w := by
  refine wpList_plain hgd fun K hK => ?_
  unfold Oper.wp
  simp only [execOp, ho, Sem.run_bind, Sem.run_pure, hr, Result.andThen]
  exact hK _ _ h
theorem idx24_0 (g0 : Bool) (s0 : ByteArray) (x0 : Int) (g1 : Bool) (s1 : ByteArray) (x1 : Int) (g2 : Bool) (s2 : ByteArray) (x2 : Int) (g3 : Bool) (s3 : ByteArray) (x3 : Int) (g4 : Bool) (s4 : ByteArray) (x4 : Int) (g5 : Bool) (s5 : ByteArray) (x5 : Int) (g6 : Bool) (s6 : ByteArray) (x6 : Int) (g7 : Bool) (s7 : ByteArray) (x7 : Int) (w : World) : (Instr.index 38 (.agg #[.bool g0, .string s0, .int .i64 x0, .bool g1, .string s1, .int .i64 x1, .bool g2, .string s2, .int .i64 x2, .bool g3, .string s3, .int .i64 x3, .bool g4, .string s4, .int .i64 x4, .bool g5, .string s5, .int .i64 x5, .bool g6, .string s6, .int .i64 x6, .bool g7, .string s7, .int .i64 x7]) (.int .i64 0)).run Tryz.prog w = .ok (.agg #[.bool g0, .string s0, .int .i64 x0, .bool g1, .string s1, .int .i64 x1]) w := by kernel_rfl
theorem idx24_1 (g0 : Bool) (s0 : ByteArray) (x0 : Int) (g1 : Bool) (s1 : ByteArray) (x1 : Int) (g2 : Bool) (s2 : ByteArray) (x2 : Int) (g3 : Bool) (s3 : ByteArray) (x3 : Int) (g4 : Bool) (s4 : ByteArray) (x4 : Int) (g5 : Bool) (s5 : ByteArray) (x5 : Int) (g6 : Bool) (s6 : ByteArray) (x6 : Int) (g7 : Bool) (s7 : ByteArray) (x7 : Int) (w : World) : (Instr.index 38 (.agg #[.bool g0, .string s0, .int .i64 x0, .bool g1, .string s1, .int .i64 x1, .bool g2, .string s2, .int .i64 x2, .bool g3, .string s3, .int .i64 x3, .bool g4, .string s4, .int .i64 x4, .bool g5, .string s5, .int .i64 x5, .bool g6, .string s6, .int .i64 x6, .bool g7, .string s7, .int .i64 x7]) (.int .i64 1)).run Tryz.prog w = .ok (.agg #[.bool g2, .string s2, .int .i64 x2, .bool g3, .string s3, .int .i64 x3]) w := by kernel_rfl
theorem idx24_2 (g0 : Bool) (s0 : ByteArray) (x0 : Int) (g1 : Bool) (s1 : ByteArray) (x1 : Int) (g2 : Bool) (s2 : ByteArray) (x2 : Int) (g3 : Bool) (s3 : ByteArray) (x3 : Int) (g4 : Bool) (s4 : ByteArray) (x4 : Int) (g5 : Bool) (s5 : ByteArray) (x5 : Int) (g6 : Bool) (s6 : ByteArray) (x6 : Int) (g7 : Bool) (s7 : ByteArray) (x7 : Int) (w : World) : (Instr.index 38 (.agg #[.bool g0, .string s0, .int .i64 x0, .bool g1, .string s1, .int .i64 x1, .bool g2, .string s2, .int .i64 x2, .bool g3, .string s3, .int .i64 x3, .bool g4, .string s4, .int .i64 x4, .bool g5, .string s5, .int .i64 x5, .bool g6, .string s6, .int .i64 x6, .bool g7, .string s7, .int .i64 x7]) (.int .i64 2)).run Tryz.prog w = .ok (.agg #[.bool g4, .string s4, .int .i64 x4, .bool g5, .string s5, .int .i64 x5]) w := by kernel_rfl
theorem idx24_3 (g0 : Bool) (s0 : ByteArray) (x0 : Int) (g1 : Bool) (s1 : ByteArray) (x1 : Int) (g2 : Bool) (s2 : ByteArray) (x2 : Int) (g3 : Bool) (s3 : ByteArray) (x3 : Int) (g4 : Bool) (s4 : ByteArray) (x4 : Int) (g5 : Bool) (s5 : ByteArray) (x5 : Int) (g6 : Bool) (s6 : ByteArray) (x6 : Int) (g7 : Bool) (s7 : ByteArray) (x7 : Int) (w : World) : (Instr.index 38 (.agg #[.bool g0, .string s0, .int .i64 x0, .bool g1, .string s1, .int .i64 x1, .bool g2, .string s2, .int .i64 x2, .bool g3, .string s3, .int .i64 x3, .bool g4, .string s4, .int .i64 x4, .bool g5, .string s5, .int .i64 x5, .bool g6, .string s6, .int .i64 x6, .bool g7, .string s7, .int .i64 x7]) (.int .i64 3)).run Tryz.prog w = .ok (.agg #[.bool g6, .string s6, .int .i64 x6, .bool g7, .string s7, .int .i64 x7]) w := by kernel_rfl
theorem wpList_loadRow {P : Program} {ops : Array Oper} {rest : List Oper} {op : Oper} {a : Act} {w : World} {Q : Exit → Act → World → Prop} (hgd : op.guard = none) (ty : TypeId) (x : Operand) (ho : op.op = .load ty x)
    (B n : Nat) (e : TypeId) (c : Array Value) (hx : a.eval x = .pointer (some ⟨B, 0, none⟩)) (hu : P.underlying ty = some (.array n e)) (hi : (P.info? ty).map (·.size) = some c.size) (hb : Blk w B ty c)
    (h : wpList P ops Q rest (a.put op.dst (.agg c)) w) : wpList P ops Q (op :: rest) a w := by
  refine wpList_plain hgd fun K hK => ?_
  have hr := run_loadVar_row (P := P) w B ty ty c (0, 0) (.array n e) hb hu rfl hi
  unfold Oper.wp
  simp only [execOp, ho, hx, Instr.loadAt, Instr.sureAddr, Sem.run_bind, Sem.run_pure, Result.andThen, hr]
  exact hK _ _ h
theorem wpList_storeNew {P : Program} {ops : Array Oper} {rest : List Oper} {op : Oper} {a : Act} {w : World} {Q : Exit → Act → World → Prop} (hgd : op.guard = none) (ty : TypeId) (x y : Operand) (ho : op.op = .store ty x y)
    (w0 : World) (c c' : Array Value) (hw : w = w0.alloc (.cells c ty)) (hx : a.eval x = .pointer (some ⟨w0.heap.size, 0, none⟩)) (hy : a.eval y = .agg c') (hi : (P.info? ty).map (·.size) = some c'.size) (hs : c.size = c'.size) (h1 : c'.all (·.oneCell') = true)
    (h : wpList P ops Q rest (a.put op.dst undef) (w0.alloc (.cells c' ty))) : wpList P ops Q (op :: rest) a w := by
  subst hw
  refine wpList_plain hgd fun K hK => ?_
  have hr := run_storeAt_new (P := P) w0 ty c c' hi hs h1
  unfold Oper.wp
  simp only [execOp, ho, hx, hy, Sem.run_bind, Sem.run_pure, hr, Result.andThen_ok]
  exact hK _ _ h
theorem Blk.new_at2 {w : World} {n : Nat} {t : TypeId} {cs : Array Value} (h : w.heap.size = n) : Blk (w.alloc (.cells cs t)) n t cs := by
  subst h
  exact Blk.new w t cs
structure CW (w : World) (R : Nat) (sv : Array Value) (W : World) : Prop where
  low : Below w.heap.size w W
  bS : Blk W w.heap.size 26 sv
  bR : Blk W R 31 #[.complex .f64 0 0, .float .f64 0]
theorem CW.step {w W W' : World} {R : Nat} {sv : Array Value} (h : CW w R sv W) (hb : Below W.heap.size W W') : CW w R sv W' := ⟨below_chain h.low hb, h.bS.below hb h.bS.lt, h.bR.below hb h.bR.lt⟩
theorem CW.more {w W : World} {R : Nat} {sv : Array Value} (h : CW w R sv W) (o : Obj) : CW w R sv (W.alloc o) := h.step ((Below.refl _ _).alloc (Nat.le_refl _) _)
theorem CW.r {w W : World} {R : Nat} {sv : Array Value} (h : CW w R sv W) : R < W.heap.size ∧ W.cell? ⟨R, 0, none⟩ = some (.complex .f64 0 0) ∧ W.cell? ⟨R, 1, none⟩ = some (.float .f64 0) ∧ W.frozen? ⟨R, 0, none⟩ = false ∧ W.frozen? ⟨R, 1, none⟩ = false := ⟨h.bR.lt, (h.bR.cell 0).trans rfl, (h.bR.cell 1).trans rfl, h.bR.frozen 0, h.bR.frozen 1⟩
theorem CW.s {w W : World} {R : Nat} {l m : Dy} {y : Int} (h : CW w R #[.bool l.g, .string (natS l.n), .int .i64 l.x, .bool m.g, .string (natS m.n), .int .i64 m.x, .int .i64 y] W) : w.heap.size < W.heap.size ∧ W.cell? ⟨w.heap.size, 0, none⟩ = some (.bool l.g) ∧ W.cell? ⟨w.heap.size, 1, none⟩ = some (.string (natS l.n)) ∧ W.cell? ⟨w.heap.size, 2, none⟩ = some (.int .i64 l.x) ∧ W.cell? ⟨w.heap.size, 3, none⟩ = some (.bool m.g) ∧ W.cell? ⟨w.heap.size, 4, none⟩ = some (.string (natS m.n)) ∧ W.cell? ⟨w.heap.size, 5, none⟩ = some (.int .i64 m.x) ∧ W.cell? ⟨w.heap.size, 6, none⟩ = some (.int .i64 y) := ⟨h.bS.lt, (h.bS.cell 0).trans rfl, (h.bS.cell 1).trans rfl, (h.bS.cell 2).trans rfl, (h.bS.cell 3).trans rfl, (h.bS.cell 4).trans rfl, (h.bS.cell 5).trans rfl, (h.bS.cell 6).trans rfl⟩
structure CX (w : World) (R : Nat) (sv : Array Value) (CB NB : Nat) (C : Gs) (n : Dy) (W : World) : Prop where
  cw : CW w R sv W
  bC : Box6 W CB (.bool C.re.g) (.string (natS C.re.n)) (.int .i64 C.re.x) (.bool C.im.g) (.string (natS C.im.n)) (.int .i64 C.im.x)
  bN : Box3 W NB (.bool n.g) (.string (natS n.n)) (.int .i64 n.x)
theorem CX.step {w W W' : World} {R CB NB : Nat} {sv : Array Value} {C : Gs} {n : Dy} (h : CX w R sv CB NB C n W) (hb : Below W.heap.size W W') : CX w R sv CB NB C n W' := ⟨h.cw.step hb, h.bC.step hb, h.bN.step hb⟩
theorem CX.more {w W : World} {R CB NB : Nat} {sv : Array Value} {C : Gs} {n : Dy} (h : CX w R sv CB NB C n W) (o : Obj) : CX w R sv CB NB C n (W.alloc o) := h.step ((Below.refl _ _).alloc (Nat.le_refl _) _)
theorem CX.put {w W : World} {R CB NB : Nat} {sv : Array Value} {C : Gs} {n : Dy} (h : CX w R sv CB NB C n W) (h1 : w.heap.size < R) (h2 : R < CB) (h3 : CB < NB) (m : Dy) : CX w R sv CB NB C m (((W.setCell ⟨NB, 0, none⟩ (.bool m.g)).setCell ⟨NB, 1, none⟩ (.string (natS m.n))).setCell ⟨NB, 2, none⟩ (.int .i64 m.x)) :=
  ⟨⟨below_put h.cw.low (by omega) _ _ _, Blk.far (Blk.far (Blk.far h.cw.bS (p := ⟨NB, 0, none⟩) (by show w.heap.size ≠ NB; omega) _) (p := ⟨NB, 1, none⟩) (by show w.heap.size ≠ NB; omega) _) (p := ⟨NB, 2, none⟩) (by show w.heap.size ≠ NB; omega) _,
    Blk.far (Blk.far (Blk.far h.cw.bR (p := ⟨NB, 0, none⟩) (by show R ≠ NB; omega) _) (p := ⟨NB, 1, none⟩) (by show R ≠ NB; omega) _) (p := ⟨NB, 2, none⟩) (by show R ≠ NB; omega) _⟩,
    Blk.far (Blk.far (Blk.far h.bC (p := ⟨NB, 0, none⟩) (by show CB ≠ NB; omega) _) (p := ⟨NB, 1, none⟩) (by show CB ≠ NB; omega) _) (p := ⟨NB, 2, none⟩) (by show CB ≠ NB; omega) _, h.bN.put _ _ _⟩
theorem rdN_64 {d : Dy} (h : d.Ok) : rdN d < 18446744073709551616 := by
  have := (bw_of h).ln
  unfold nearW at this
  unfold rdN
  exact this
set_option maxRecDepth 100000 in
theorem IsInf_c (x : Nat) (hx : x ≤ 9218868437227405312) (r : Bool) (hr : r = true ↔ ¬ x < 9218868437227405312) (w : World) : Calls Tryz.prog 21 #[.float .f64 x, .int .i64 1] w fun e w' => e = .returned (.bool r) ∧ w = w' := by
  have h1 : Bt.fltB 9218868437227405311 x = r := by
    rw [Bool.eq_iff_iff, hr, flt_iff3]
    have e1 : Bt.Ff.srung 9218868437227405311 = 9218868437227405311 := by decide
    have e3 : ¬ Bt.Ff.isn 9218868437227405311 := by unfold Bt.Ff.isn Bt.Ff.rung; omega
    have e4 : Bt.Ff.rung x = x := Nat.mod_eq_of_lt (by omega)
    have e5 : Bt.Ff.sgn x = false := by unfold Bt.Ff.sgn; rw [Nat.div_eq_of_lt (by omega)]; rfl
    have e6 : Bt.Ff.srung x = x := by unfold Bt.Ff.srung; rw [e5, e4]; rfl
    rw [e1, e6]
    have e7 : ¬ Bt.Ff.isn x := by unfold Bt.Ff.isn; rw [e4]; omega
    constructor
    · rintro ⟨_, _, h⟩; omega
    · intro h; exact ⟨e3, e7, by omega⟩
  clear hr hx
  go_enter Tryz.func21, Tryz.ntmps21
  go_wp2_with fail
  go_ret
  exact ⟨rfl, rfl⟩
end Go.Proofs.YtmjjodficjjehabGreatDoor
namespace Go.Proofs.YtmjjodficjjehabGreatDoor
open Go Go.RowKit Nt
attribute [local go_sem] store_cplx store_flt
set_option maxRecDepth 100000 in
set_option maxHeartbeats 4000000 in
theorem VCover_c (l m : Dy) (y : Int) (w : World) (hl : l.Ok) (hm : m.Ok) (he : -4096 ≤ y ∧ y ≤ 4096) (hG : Globs glT w) : Calls Tryz.prog 5 #[.agg #[.bool l.g, .string (natS l.n), .int .i64 l.x, .bool m.g, .string (natS m.n), .int .i64 m.x, .int .i64 y]] w (CvPost l m y w) := by
  unfold CvPost
  have HG := Lib.hid (fun W (hW : Below w.heap.size w W) => hG.below hW (Nat.le_refl _))
  obtain ⟨R, hR⟩ : ∃ R, R = w.heap.size + 1 := ⟨_, rfl⟩
  have HR := Lib.hid hR
  have C0 : Hid (CW w R #[.bool l.g, .string (natS l.n), .int .i64 l.x, .bool m.g, .string (natS m.n), .int .i64 m.x, .int .i64 y] ((w.alloc (.cells #[.bool l.g, .string (natS l.n), .int .i64 l.x, .bool m.g, .string (natS m.n), .int .i64 m.x, .int .i64 y] 26)).alloc (.cells #[.complex .f64 0 0, .float .f64 0] 31))) := Lib.hid ⟨((Below.refl _ _).alloc (Nat.le_refl _) _).alloc (by simp) _, (Blk.new w _ _).alloc _, Blk.new_at2 (by rw [hR]; simp)⟩
  have HL := Lib.hid hl
  have HM := Lib.hid hm
  have HE := Lib.hid he
  obtain ⟨s0, s1, s2, s3, s4, s5, s6, s7⟩ := C0.out.s
  have hz41 := (zero_of_info (P := Tryz.prog) (t := 38) (v := .agg #[.bool false, .string ⟨#[]⟩, .int .i64 0, .bool false, .string ⟨#[]⟩, .int .i64 0, .bool false, .string ⟨#[]⟩, .int .i64 0, .bool false, .string ⟨#[]⟩, .int .i64 0, .bool false, .string ⟨#[]⟩, .int .i64 0, .bool false, .string ⟨#[]⟩, .int .i64 0, .bool false, .string ⟨#[]⟩, .int .i64 0, .bool false, .string ⟨#[]⟩, .int .i64 0]) (n := 24) (by kernel_rfl)).1
  have HZI : Hid ((Tryz.prog.info? 38).map (·.size) = some 24) := Lib.hid (by kernel_rfl)
  clear hG hR
  by_cases k1 : addE l (pw y) = 0 ∧ addE m (pw y) = 0
  · by_cases k2 : addE l (pw (y - 1)) = 0 ∧ addE m (pw (y - 1)) = 0
    · have HF : Hid (cvFit l m y) := Lib.hid ⟨k1, k2⟩
      obtain ⟨M, hM⟩ : ∃ M, M = midG l m y := ⟨_, rfl⟩
      obtain ⟨C, hC⟩ : ∃ C, C = cvC l m y := ⟨_, rfl⟩
      obtain ⟨cs, hcs⟩ : ∃ cs, cs = cnr l m y := ⟨_, rfl⟩
      obtain ⟨U, hU⟩ : ∃ U, U = addD l (pw y) := ⟨_, rfl⟩
      obtain ⟨V, hV⟩ : ∃ V, V = addD m (pw y) := ⟨_, rfl⟩
      have HMO : Hid M.Ok := Lib.hid (by rw [hM]; exact midG_Ok hl hm)
      have KM : Hid (∀ W, Below w.heap.size w W → Calls Tryz.prog 14 #[.agg #[.bool l.g, .string (natS l.n), .int .i64 l.x, .bool m.g, .string (natS m.n), .int .i64 m.x, .int .i64 y]] W fun e w' => e = .returned (.tuple #[.agg #[.bool M.re.g, .string (natS M.re.n), .int .i64 M.re.x, .bool M.im.g, .string (natS M.im.n), .int .i64 M.im.x], .int .i64 0]) ∧ Below W.heap.size W w') := Lib.hid (fun W hW => by rw [hM]; exact VMid_ok l m y W hl hm he k2.1 k2.2 (HG.out W hW))
      have KC : Hid (∀ W, Below w.heap.size w W → Calls Tryz.prog 7 #[.agg #[.bool l.g, .string (natS l.n), .int .i64 l.x, .bool m.g, .string (natS m.n), .int .i64 m.x, .int .i64 y]] W fun e w' => e = .returned (.tuple #[.agg #[.bool l.g, .string (natS l.n), .int .i64 l.x, .bool m.g, .string (natS m.n), .int .i64 m.x, .bool U.g, .string (natS U.n), .int .i64 U.x, .bool m.g, .string (natS m.n), .int .i64 m.x, .bool l.g, .string (natS l.n), .int .i64 l.x, .bool V.g, .string (natS V.n), .int .i64 V.x, .bool U.g, .string (natS U.n), .int .i64 U.x, .bool V.g, .string (natS V.n), .int .i64 V.x], .int .i64 0]) ∧ Below W.heap.size W w') := Lib.hid (fun W hW => by rw [hU, hV]; exact VCorn_ok l m y W hl hm he k1.1 k1.2 (HG.out W hW))
      have HCO : Hid (∀ q ∈ [(⟨l, m⟩ : Gs), ⟨U, m⟩, ⟨l, V⟩, ⟨U, V⟩], q.Ok) := Lib.hid (by rw [hU, hV]; exact cnr_Ok hl hm)
      have HCS : Hid (cs = [(⟨l, m⟩ : Gs), ⟨U, m⟩, ⟨l, V⟩, ⟨U, V⟩]) := Lib.hid (by rw [hcs, hU, hV]; rfl)
      have HCQ : Hid (C = ⟨flt (rdN M.re), flt (rdN M.im)⟩) := Lib.hid (by rw [hC, hM]; rfl)
      have HCC : Hid C.Ok := Lib.hid (by rw [hC]; exact cvC_Ok _ _ _)
      have HX64 : Hid (rdN M.re < 18446744073709551616 ∧ rdN M.im < 18446744073709551616) := Lib.hid ⟨rdN_64 HMO.out.1, rdN_64 HMO.out.2⟩
      have HINF : Hid (¬ (Bt.finB (rdN M.re) = true ∧ Bt.finB (rdN M.im) = true) → cvA l m y = ((0, 0, 0), 5)) := Lib.hid (by rw [hM]; exact cvA_inf HF.out)
      have HNV0 : Hid ((Bt.finB (rdN M.re) = true ∧ Bt.finB (rdN M.im) = true) → frS C cs Dy.zero = none → cvA l m y = ((0, 0, 0), 4)) := Lib.hid (by rw [hM, hC, hcs]; exact cvA_none HF.out)
      have HFA0 : Hid ((Bt.finB (rdN M.re) = true ∧ Bt.finB (rdN M.im) = true) → ∀ n, frS C cs Dy.zero = some n → ¬ rtU n < 9218868437227405312 → cvA l m y = ((0, 0, 0), 5)) := Lib.hid (by rw [hM, hC, hcs]; exact fun h n => cvA_far HF.out h)
      have HOA0 : Hid ((Bt.finB (rdN M.re) = true ∧ Bt.finB (rdN M.im) = true) → ∀ n, frS C cs Dy.zero = some n → rtU n < 9218868437227405312 → cvA l m y = ((rdN M.re, rdN M.im, rtU n), 0)) := Lib.hid (by rw [hM, hC, hcs]; exact fun h n => cvA_ok HF.out h)
      have KNR := Lib.hid (fun W (hW : Below w.heap.size w W) => GNear_c M W HMO.out (HG.out W hW))
      clear hM hC hcs hU hV k1 k2 HF hl hm he HL HM HE
      go_enter Tryz.func5, Tryz.ntmps5
      go_wp2_with fail
      rw [← HR.out]
      refine (KC.out _ C0.out.low).mono ?_
      rintro e w1 ⟨rfl, hb⟩
      have C1 := Lib.hid ((C0.out.step hb).more (.cells #[.bool l.g, .string (natS l.n), .int .i64 l.x, .bool m.g, .string (natS m.n), .int .i64 m.x, .bool U.g, .string (natS U.n), .int .i64 U.x, .bool m.g, .string (natS m.n), .int .i64 m.x, .bool l.g, .string (natS l.n), .int .i64 l.x, .bool V.g, .string (natS V.n), .int .i64 V.x, .bool U.g, .string (natS U.n), .int .i64 U.x, .bool V.g, .string (natS V.n), .int .i64 V.x] 38))
      have L1 := Lib.hid (Blk.new w1 38 #[.bool l.g, .string (natS l.n), .int .i64 l.x, .bool m.g, .string (natS m.n), .int .i64 m.x, .bool U.g, .string (natS U.n), .int .i64 U.x, .bool m.g, .string (natS m.n), .int .i64 m.x, .bool l.g, .string (natS l.n), .int .i64 l.x, .bool V.g, .string (natS V.n), .int .i64 V.x, .bool U.g, .string (natS U.n), .int .i64 U.x, .bool V.g, .string (natS V.n), .int .i64 V.x])
      have hLB : R < w1.heap.size := (C0.out.step hb).r.1
      clear hb C0 s0 s1 s2 s3 s4 s5 s6 s7
      obtain ⟨s0, s1, s2, s3, s4, s5, s6, s7⟩ := C1.out.s
      go_wp2_with (first | (refine wpList_allocZ rfl 38 rfl #[.bool false, .string ⟨#[]⟩, .int .i64 0, .bool false, .string ⟨#[]⟩, .int .i64 0, .bool false, .string ⟨#[]⟩, .int .i64 0, .bool false, .string ⟨#[]⟩, .int .i64 0, .bool false, .string ⟨#[]⟩, .int .i64 0, .bool false, .string ⟨#[]⟩, .int .i64 0, .bool false, .string ⟨#[]⟩, .int .i64 0, .bool false, .string ⟨#[]⟩, .int .i64 0] hz41 ?_) | (refine wpList_storeNew rfl 38 (Operand.tmp 4) (Operand.tmp 21) rfl w1 #[.bool false, .string ⟨#[]⟩, .int .i64 0, .bool false, .string ⟨#[]⟩, .int .i64 0, .bool false, .string ⟨#[]⟩, .int .i64 0, .bool false, .string ⟨#[]⟩, .int .i64 0, .bool false, .string ⟨#[]⟩, .int .i64 0, .bool false, .string ⟨#[]⟩, .int .i64 0, .bool false, .string ⟨#[]⟩, .int .i64 0, .bool false, .string ⟨#[]⟩, .int .i64 0] #[.bool l.g, .string (natS l.n), .int .i64 l.x, .bool m.g, .string (natS m.n), .int .i64 m.x, .bool U.g, .string (natS U.n), .int .i64 U.x, .bool m.g, .string (natS m.n), .int .i64 m.x, .bool l.g, .string (natS l.n), .int .i64 l.x, .bool V.g, .string (natS V.n), .int .i64 V.x, .bool U.g, .string (natS U.n), .int .i64 U.x, .bool V.g, .string (natS V.n), .int .i64 V.x] ?_ ?_ ?_ ?_ ?_ ?_ ?_; exact rfl; exact rfl; exact rfl; exact HZI.out; exact rfl; exact one24 _ _ _ _ _ _ _ _ _ _ _ _ _ _ _ _ _ _ _ _ _ _ _ _))
      obtain ⟨LB, hLE⟩ : ∃ LB, LB = w1.heap.size := ⟨_, rfl⟩
      rw [← hLE]
      rw [← hLE] at L1 hLB
      clear hLE
      refine (KM.out _ C1.out.low).mono ?_
      rintro e w2 ⟨rfl, hb⟩
      have C2 := Lib.hid ((C1.out.step hb).more (.cells #[.bool M.re.g, .string (natS M.re.n), .int .i64 M.re.x, .bool M.im.g, .string (natS M.im.n), .int .i64 M.im.x] 37))
      have L2 := Lib.hid ((Blk.below L1.out hb (Blk.lt L1.out)).alloc (.cells #[.bool M.re.g, .string (natS M.re.n), .int .i64 M.re.x, .bool M.im.g, .string (natS M.im.n), .int .i64 M.im.x] 37))
      have BM := Lib.hid (Box6.new w2 (.bool M.re.g) (.string (natS M.re.n)) (.int .i64 M.re.x) (.bool M.im.g) (.string (natS M.im.n)) (.int .i64 M.im.x))
      clear hb C1 L1 s0 s1 s2 s3 s4 s5 s6 s7 KC KM
      obtain ⟨x0, x1, x2, x3, x4, x5, x6, x7, x8, x9, x10, x11, x12⟩ := BM.out.facts
      go_wp2_with fail
      refine (KNR.out _ C2.out.low).mono ?_
      rintro e w3 ⟨rfl, hb⟩
      have C3 := Lib.hid (C2.out.step hb)
      have L3 := Lib.hid (Blk.below L2.out hb (Blk.lt L2.out))
      clear hb C2 L2 BM KNR x0 x1 x2 x3 x4 x5 x6 x7 x8 x9 x10 x11 x12 HMO
      generalize rdN M.re = a at *
      generalize rdN M.im = b at *
      go_wp2_with fail
      by_cases hfin : Bt.finB a = true ∧ Bt.finB b = true
      · have KX : Hid (∀ W, Below w.heap.size w W → Calls Tryz.prog 8 #[.complex .f64 a b] W fun e w' => e = .returned (.tuple #[.agg #[.bool C.re.g, .string (natS C.re.n), .int .i64 C.re.x, .bool C.im.g, .string (natS C.im.n), .int .i64 C.im.x], .int .i64 0]) ∧ Below W.heap.size W w') := Lib.hid (fun W hW => by rw [HCQ.out]; exact GCplx_ok a b W HX64.out.1 HX64.out.2 hfin.1 hfin.2 (HG.out W hW))
        have HNV := Lib.hid (HNV0.out hfin)
        have HFA := Lib.hid (HFA0.out hfin)
        have HOA := Lib.hid (HOA0.out hfin)
        clear HINF HNV0 HFA0 HOA0 hfin HCQ HX64
        refine (KX.out _ C3.out.low).mono ?_
        rintro e w4 ⟨rfl, hb⟩
        obtain ⟨CB, hCB⟩ : ∃ CB, CB = w4.heap.size := ⟨_, rfl⟩
        obtain ⟨NB, hNB⟩ : ∃ NB, NB = w4.heap.size + 1 := ⟨_, rfl⟩
        have hRC : R < CB := by rw [hCB]; exact (C3.out.step hb).r.1
        have hCN : CB < NB := by omega
        have T0 : CX w R #[.bool l.g, .string (natS l.n), .int .i64 l.x, .bool m.g, .string (natS m.n), .int .i64 m.x, .int .i64 y] CB NB C Dy.zero ((w4.alloc (.cells #[.bool C.re.g, .string (natS C.re.n), .int .i64 C.re.x, .bool C.im.g, .string (natS C.im.n), .int .i64 C.im.x] 37)).alloc (.cells #[.bool false, .string ⟨#[]⟩, .int .i64 0] 24)) := by
          refine ⟨((C3.out.step hb).more _).more _, ?_, ?_⟩
          · rw [hCB]; exact (Box6.new w4 _ _ _ _ _ _).more _
          · show Blk _ NB _ #[.bool false, .string (natS 0), .int .i64 0]
            rw [natS_zero]
            exact Blk.new_at2 (by rw [hNB]; simp)
        have L4 : Hid (Blk ((w4.alloc (.cells #[.bool C.re.g, .string (natS C.re.n), .int .i64 C.re.x, .bool C.im.g, .string (natS C.im.n), .int .i64 C.im.x] 37)).alloc (.cells #[.bool false, .string ⟨#[]⟩, .int .i64 0] 24)) LB 38 #[.bool l.g, .string (natS l.n), .int .i64 l.x, .bool m.g, .string (natS m.n), .int .i64 m.x, .bool U.g, .string (natS U.n), .int .i64 U.x, .bool m.g, .string (natS m.n), .int .i64 m.x, .bool l.g, .string (natS l.n), .int .i64 l.x, .bool V.g, .string (natS V.n), .int .i64 V.x, .bool U.g, .string (natS U.n), .int .i64 U.x, .bool V.g, .string (natS V.n), .int .i64 V.x]) := Lib.hid (((Blk.below L3.out hb (Blk.lt L3.out)).alloc _).alloc _)
        have HT0 := Lib.hid T0
        have HNBE := Lib.hid hNB
        have HCBE := Lib.hid hCB
        clear T0 hb C3 L3 hCB hNB KX
        go_wp2_with (refine wpList_loadRow rfl 38 (Operand.tmp 4) rfl LB 4 37 #[.bool l.g, .string (natS l.n), .int .i64 l.x, .bool m.g, .string (natS m.n), .int .i64 m.x, .bool U.g, .string (natS U.n), .int .i64 U.x, .bool m.g, .string (natS m.n), .int .i64 m.x, .bool l.g, .string (natS l.n), .int .i64 l.x, .bool V.g, .string (natS V.n), .int .i64 V.x, .bool U.g, .string (natS U.n), .int .i64 U.x, .bool V.g, .string (natS V.n), .int .i64 V.x] ?_ ?_ ?_ ?_ ?_; exact rfl; exact Tryz.underlying38; exact HZI.out; exact L4.out)
        rw [← HNBE.out, ← HCBE.out]
        clear L4 HCBE HNBE
        generalize ((w4.alloc (.cells #[.bool C.re.g, .string (natS C.re.n), .int .i64 C.re.x, .bool C.im.g, .string (natS C.im.n), .int .i64 C.im.x] 37)).alloc (.cells #[.bool false, .string ⟨#[]⟩, .int .i64 0] 24)) = w8 at *
        go_loopw [52] (fun i wr => ∃ (k : Nat) (n : Dy), k ≤ 4 ∧ i = .int .i64 k ∧ Hid n.Ok ∧ Hid (frS C cs Dy.zero = frS C (cs.drop k) n) ∧ Hid (CX w R #[.bool l.g, .string (natS l.n), .int .i64 l.x, .bool m.g, .string (natS m.n), .int .i64 m.x, .int .i64 y] CB NB C n wr)) (fun i _ => 4 - (intOf i).toNat)
        case atStart => exact ⟨0, Dy.zero, by omega, rfl, Lib.hid (Or.inl rfl), Lib.hid rfl, HT0⟩
        case round =>
          clear HT0
          obtain ⟨k, n, hk, rfl, hno, hfr, hx⟩ := hrel
          rcases (show k = 0 ∨ k = 1 ∨ k = 2 ∨ k = 3 ∨ k = 4 by omega) with rfl | rfl | rfl | rfl | rfl
          · have HQ : Hid ((⟨l, m⟩ : Gs).Ok) := Lib.hid (HCO.out _ (by simp))
            obtain ⟨D1, hD1⟩ : ∃ D, D = wayD C (⟨l, m⟩ : Gs) := ⟨_, rfl⟩
            obtain ⟨E1, hE1⟩ : ∃ E, E = wayE C (⟨l, m⟩ : Gs) := ⟨_, rfl⟩
            obtain ⟨N, hN⟩ : ∃ N, N = dotD D1 D1 := ⟨_, rfl⟩
            obtain ⟨F, hF⟩ : ∃ F, F = dotE D1 D1 := ⟨_, rfl⟩
            have hD1o : D1.Ok := by rw [hD1]; exact wayD_Ok HCC.out HQ.out
            have hNo : N.Ok := by rw [hN]; exact dotD_Ok _ _
            have KS : Hid (∀ W, Below w.heap.size w W → Calls Tryz.prog 17 #[.agg #[.bool l.g, .string (natS l.n), .int .i64 l.x, .bool m.g, .string (natS m.n), .int .i64 m.x], .agg #[.bool C.re.g, .string (natS C.re.n), .int .i64 C.re.x, .bool C.im.g, .string (natS C.im.n), .int .i64 C.im.x]] W fun e w' => e = .returned (.tuple #[.agg #[.bool D1.re.g, .string (natS D1.re.n), .int .i64 D1.re.x, .bool D1.im.g, .string (natS D1.im.n), .int .i64 D1.im.x], .int .i64 E1]) ∧ Below W.heap.size W w') := Lib.hid (fun W hW => by rw [hD1, hE1]; exact GSub_c (⟨l, m⟩ : Gs) C W HQ.out HCC.out (HG.out W hW))
            have KN : Hid (∀ W, Below w.heap.size w W → Calls Tryz.prog 18 #[.agg #[.bool D1.re.g, .string (natS D1.re.n), .int .i64 D1.re.x, .bool D1.im.g, .string (natS D1.im.n), .int .i64 D1.im.x]] W fun e w' => e = .returned (.tuple #[.agg #[.bool N.g, .string (natS N.n), .int .i64 N.x], .int .i64 F]) ∧ Below W.heap.size W w') := Lib.hid (fun W hW => by rw [hN, hF]; exact GNorm_c D1 W hD1o (HG.out W hW))
            have HFR : Hid (frS C cs Dy.zero = frS C ((⟨l, m⟩ : Gs) :: cs.drop 1) n) := Lib.hid (hfr.out.trans (by rw [HCS.out]; rfl))
            have HLE : Hid (E1 = 0 → F = 0 → cmpD n N ≤ 0 → frS C cs Dy.zero = frS C (cs.drop 1) N) := Lib.hid (fun h1 h2 h3 => by subst hE1 hF hN hD1; rw [HFR.out, frS_le ⟨h1, h2⟩ h3])
            have HGT : Hid (E1 = 0 → F = 0 → ¬ cmpD n N ≤ 0 → frS C cs Dy.zero = frS C (cs.drop 1) n) := Lib.hid (fun h1 h2 h3 => by subst hE1 hF hN hD1; rw [HFR.out, frS_gt ⟨h1, h2⟩ h3])
            have HOF : Hid (¬ (E1 = 0 ∧ F = 0) → frS C cs Dy.zero = none) := Lib.hid (fun h => by subst hE1 hF hN hD1; rw [HFR.out, frS_off h])
            have HNO := Lib.hid hNo
            have X0 := Lib.hid (hx.out.more (.cells #[.bool l.g, .string (natS l.n), .int .i64 l.x, .bool m.g, .string (natS m.n), .int .i64 m.x] 37))
            obtain ⟨c0, c1, c2, c3, c4, c5, c6, c7, c8, c9, c10, c11, c12⟩ := X0.out.bC.facts
            clear hD1 hE1 hN hF hD1o hNo HQ HFR hfr
            by_cases e1 : E1 = 0
            · subst e1
              by_cases f1 : F = 0
              · subst f1
                by_cases cc : cmpD n N ≤ 0
                · have KU := Lib.hid (fun w => VUpTo_c n N true w hno.out HNO.out ⟨fun _ => cc, fun _ => rfl⟩)
                  have HZ := Lib.hid (HLE.out rfl rfl cc)
                  clear cc HLE HGT HOF
                  go_wp2_with (refine wpList_indexArr rfl 38 (Operand.tmp 51) (Operand.tmp 52) rfl (.agg #[.bool l.g, .string (natS l.n), .int .i64 l.x, .bool m.g, .string (natS m.n), .int .i64 m.x]) ?_ ?_; exact fun w => idx24_0 _ _ _ _ _ _ _ _ _ _ _ _ _ _ _ _ _ _ _ _ _ _ _ _ w)
                  refine (KS.out _ X0.out.cw.low).mono ?_
                  rintro e w5 ⟨rfl, hb⟩
                  have X1 := Lib.hid ((X0.out.step hb).more (.cells #[.bool D1.re.g, .string (natS D1.re.n), .int .i64 D1.re.x, .bool D1.im.g, .string (natS D1.im.n), .int .i64 D1.im.x] 37))
                  clear hb c0 c1 c2 c3 c4 c5 c6 c7 c8 c9 c10 c11 c12
                  go_wp2_with fail
                  refine (KN.out _ X1.out.cw.low).mono ?_
                  rintro e w6 ⟨rfl, hb⟩
                  have X2 := Lib.hid (X1.out.step hb)
                  have X3 := Lib.hid (X2.out.more (.cells #[.bool N.g, .string (natS N.n), .int .i64 N.x] 24))
                  clear hb KS KN X1 X0
                  obtain ⟨p0, p1, p2, p3, p4, p5, p6⟩ := X3.out.bN.facts
                  go_wp2_with fail
                  refine (KU.out _).mono ?_
                  rintro e w7 ⟨rfl, hb⟩
                  have X4 := Lib.hid (X3.out.step hb)
                  have BN := Lib.hid ((Box3.new w6 (.bool N.g) (.string (natS N.n)) (.int .i64 N.x)).step hb)
                  clear hb KU X2 X3 p0 p1 p2 p3 p4 p5 p6
                  obtain ⟨p0, p1, p2, p3, p4, p5, p6⟩ := X4.out.bN.facts
                  obtain ⟨v0, v1, v2, v3, v4, v5, v6⟩ := BN.out.facts
                  go_wp2_with fail
                  go_roundw
                  case rel => exact ⟨1, N, by omega, by first | rfl | go_num, HNO, HZ, Lib.hid (X4.out.put (by have := HR.out; omega) hRC hCN N)⟩
                  case measure => simp [intOf]
                · have KU := Lib.hid (fun w => VUpTo_c n N false w hno.out HNO.out ⟨fun h => absurd h (by decide), fun h => absurd h cc⟩)
                  have HZ := Lib.hid (HGT.out rfl rfl cc)
                  clear cc HLE HGT HOF
                  go_wp2_with (refine wpList_indexArr rfl 38 (Operand.tmp 51) (Operand.tmp 52) rfl (.agg #[.bool l.g, .string (natS l.n), .int .i64 l.x, .bool m.g, .string (natS m.n), .int .i64 m.x]) ?_ ?_; exact fun w => idx24_0 _ _ _ _ _ _ _ _ _ _ _ _ _ _ _ _ _ _ _ _ _ _ _ _ w)
                  refine (KS.out _ X0.out.cw.low).mono ?_
                  rintro e w5 ⟨rfl, hb⟩
                  have X1 := Lib.hid ((X0.out.step hb).more (.cells #[.bool D1.re.g, .string (natS D1.re.n), .int .i64 D1.re.x, .bool D1.im.g, .string (natS D1.im.n), .int .i64 D1.im.x] 37))
                  clear hb c0 c1 c2 c3 c4 c5 c6 c7 c8 c9 c10 c11 c12
                  go_wp2_with fail
                  refine (KN.out _ X1.out.cw.low).mono ?_
                  rintro e w6 ⟨rfl, hb⟩
                  have X2 := Lib.hid (X1.out.step hb)
                  have X3 := Lib.hid (X2.out.more (.cells #[.bool N.g, .string (natS N.n), .int .i64 N.x] 24))
                  clear hb KS KN X1 X0
                  obtain ⟨p0, p1, p2, p3, p4, p5, p6⟩ := X3.out.bN.facts
                  go_wp2_with fail
                  refine (KU.out _).mono ?_
                  rintro e w7 ⟨rfl, hb⟩
                  have X4 := Lib.hid (X3.out.step hb)
                  have BN := Lib.hid ((Box3.new w6 (.bool N.g) (.string (natS N.n)) (.int .i64 N.x)).step hb)
                  clear hb KU X2 X3 p0 p1 p2 p3 p4 p5 p6
                  obtain ⟨p0, p1, p2, p3, p4, p5, p6⟩ := X4.out.bN.facts
                  obtain ⟨v0, v1, v2, v3, v4, v5, v6⟩ := BN.out.facts
                  go_wp2_with fail
                  go_roundw
                  case rel => exact ⟨1, n, by omega, by first | rfl | go_num, hno, HZ, X4⟩
                  case measure => simp [intOf]
              · have hz : (F != 0) = true := by simpa using f1
                have HV : Hid (cvA l m y = ((0, 0, 0), 4)) := Lib.hid (HNV.out (HOF.out (fun c => f1 c.2)))
                clear f1 HLE HGT HOF
                go_wp2_with (refine wpList_indexArr rfl 38 (Operand.tmp 51) (Operand.tmp 52) rfl (.agg #[.bool l.g, .string (natS l.n), .int .i64 l.x, .bool m.g, .string (natS m.n), .int .i64 m.x]) ?_ ?_; exact fun w => idx24_0 _ _ _ _ _ _ _ _ _ _ _ _ _ _ _ _ _ _ _ _ _ _ _ _ w)
                refine (KS.out _ X0.out.cw.low).mono ?_
                rintro e w5 ⟨rfl, hb⟩
                have X1 := Lib.hid ((X0.out.step hb).more (.cells #[.bool D1.re.g, .string (natS D1.re.n), .int .i64 D1.re.x, .bool D1.im.g, .string (natS D1.im.n), .int .i64 D1.im.x] 37))
                clear hb c0 c1 c2 c3 c4 c5 c6 c7 c8 c9 c10 c11 c12
                go_wp2_with fail
                refine (KN.out _ X1.out.cw.low).mono ?_
                rintro e w6 ⟨rfl, hb⟩
                have X2 := Lib.hid (X1.out.step hb)
                have X3 := Lib.hid (X2.out.more (.cells #[.bool N.g, .string (natS N.n), .int .i64 N.x] 24))
                clear hb KS KN X1 X0
                have CW2 := Lib.hid X2.out.cw
                have HY := Lib.hid ((Blk.put2 CW2.out.bR (.complex .f64 0 0) (.float .f64 0)).alloc (.cells #[.bool N.g, .string (natS N.n), .int .i64 N.x] 24))
                obtain ⟨qlt, q0, q1, f0, f1⟩ := CW2.out.r
                have HLW := Lib.hid CW2.out.low
                go_wp2_with fail
                have y0 := (Blk.cell HY.out 0).trans (show _ = some (.complex .f64 0 0 : Value) from rfl)
                have y1 := (Blk.cell HY.out 1).trans (show _ = some (.float .f64 0 : Value) from rfl)
                refine bodyPost_ret (v := .tuple #[.agg #[.complex .f64 0 0, .float .f64 0], .int .i64 4]) (by simp [results, Tryz.results5, go_sem, y0, y1]) rfl ⟨by rw [HV.out], ?_⟩
                have hp := below_put2 HLW.out (show w.heap.size ≤ R by have := HR.out; omega) (.complex .f64 0 0) (.float .f64 0)
                exact hp.alloc (by first | exact hp.size | (have := hp.size; simp at this ⊢; omega)) _
            · have hz : (E1 != 0) = true := by simpa using e1
              have HV : Hid (cvA l m y = ((0, 0, 0), 4)) := Lib.hid (HNV.out (HOF.out (fun c => e1 c.1)))
              clear e1 HLE HGT HOF
              go_wp2_with (refine wpList_indexArr rfl 38 (Operand.tmp 51) (Operand.tmp 52) rfl (.agg #[.bool l.g, .string (natS l.n), .int .i64 l.x, .bool m.g, .string (natS m.n), .int .i64 m.x]) ?_ ?_; exact fun w => idx24_0 _ _ _ _ _ _ _ _ _ _ _ _ _ _ _ _ _ _ _ _ _ _ _ _ w)
              refine (KS.out _ X0.out.cw.low).mono ?_
              rintro e w5 ⟨rfl, hb⟩
              have X1 := Lib.hid ((X0.out.step hb).more (.cells #[.bool D1.re.g, .string (natS D1.re.n), .int .i64 D1.re.x, .bool D1.im.g, .string (natS D1.im.n), .int .i64 D1.im.x] 37))
              clear hb c0 c1 c2 c3 c4 c5 c6 c7 c8 c9 c10 c11 c12
              go_wp2_with fail
              refine (KN.out _ X1.out.cw.low).mono ?_
              rintro e w6 ⟨rfl, hb⟩
              have X2 := Lib.hid (X1.out.step hb)
              have X3 := Lib.hid (X2.out.more (.cells #[.bool N.g, .string (natS N.n), .int .i64 N.x] 24))
              clear hb KS KN X1 X0
              have CW2 := Lib.hid X2.out.cw
              have HY := Lib.hid ((Blk.put2 CW2.out.bR (.complex .f64 0 0) (.float .f64 0)).alloc (.cells #[.bool N.g, .string (natS N.n), .int .i64 N.x] 24))
              obtain ⟨qlt, q0, q1, f0, f1⟩ := CW2.out.r
              have HLW := Lib.hid CW2.out.low
              go_wp2_with fail
              have y0 := (Blk.cell HY.out 0).trans (show _ = some (.complex .f64 0 0 : Value) from rfl)
              have y1 := (Blk.cell HY.out 1).trans (show _ = some (.float .f64 0 : Value) from rfl)
              refine bodyPost_ret (v := .tuple #[.agg #[.complex .f64 0 0, .float .f64 0], .int .i64 4]) (by simp [results, Tryz.results5, go_sem, y0, y1]) rfl ⟨by rw [HV.out], ?_⟩
              have hp := below_put2 HLW.out (show w.heap.size ≤ R by have := HR.out; omega) (.complex .f64 0 0) (.float .f64 0)
              exact hp.alloc (by first | exact hp.size | (have := hp.size; simp at this ⊢; omega)) _
          · have HQ : Hid ((⟨U, m⟩ : Gs).Ok) := Lib.hid (HCO.out _ (by simp))
            obtain ⟨D1, hD1⟩ : ∃ D, D = wayD C (⟨U, m⟩ : Gs) := ⟨_, rfl⟩
            obtain ⟨E1, hE1⟩ : ∃ E, E = wayE C (⟨U, m⟩ : Gs) := ⟨_, rfl⟩
            obtain ⟨N, hN⟩ : ∃ N, N = dotD D1 D1 := ⟨_, rfl⟩
            obtain ⟨F, hF⟩ : ∃ F, F = dotE D1 D1 := ⟨_, rfl⟩
            have hD1o : D1.Ok := by rw [hD1]; exact wayD_Ok HCC.out HQ.out
            have hNo : N.Ok := by rw [hN]; exact dotD_Ok _ _
            have KS : Hid (∀ W, Below w.heap.size w W → Calls Tryz.prog 17 #[.agg #[.bool U.g, .string (natS U.n), .int .i64 U.x, .bool m.g, .string (natS m.n), .int .i64 m.x], .agg #[.bool C.re.g, .string (natS C.re.n), .int .i64 C.re.x, .bool C.im.g, .string (natS C.im.n), .int .i64 C.im.x]] W fun e w' => e = .returned (.tuple #[.agg #[.bool D1.re.g, .string (natS D1.re.n), .int .i64 D1.re.x, .bool D1.im.g, .string (natS D1.im.n), .int .i64 D1.im.x], .int .i64 E1]) ∧ Below W.heap.size W w') := Lib.hid (fun W hW => by rw [hD1, hE1]; exact GSub_c (⟨U, m⟩ : Gs) C W HQ.out HCC.out (HG.out W hW))
            have KN : Hid (∀ W, Below w.heap.size w W → Calls Tryz.prog 18 #[.agg #[.bool D1.re.g, .string (natS D1.re.n), .int .i64 D1.re.x, .bool D1.im.g, .string (natS D1.im.n), .int .i64 D1.im.x]] W fun e w' => e = .returned (.tuple #[.agg #[.bool N.g, .string (natS N.n), .int .i64 N.x], .int .i64 F]) ∧ Below W.heap.size W w') := Lib.hid (fun W hW => by rw [hN, hF]; exact GNorm_c D1 W hD1o (HG.out W hW))
            have HFR : Hid (frS C cs Dy.zero = frS C ((⟨U, m⟩ : Gs) :: cs.drop 2) n) := Lib.hid (hfr.out.trans (by rw [HCS.out]; rfl))
            have HLE : Hid (E1 = 0 → F = 0 → cmpD n N ≤ 0 → frS C cs Dy.zero = frS C (cs.drop 2) N) := Lib.hid (fun h1 h2 h3 => by subst hE1 hF hN hD1; rw [HFR.out, frS_le ⟨h1, h2⟩ h3])
            have HGT : Hid (E1 = 0 → F = 0 → ¬ cmpD n N ≤ 0 → frS C cs Dy.zero = frS C (cs.drop 2) n) := Lib.hid (fun h1 h2 h3 => by subst hE1 hF hN hD1; rw [HFR.out, frS_gt ⟨h1, h2⟩ h3])
            have HOF : Hid (¬ (E1 = 0 ∧ F = 0) → frS C cs Dy.zero = none) := Lib.hid (fun h => by subst hE1 hF hN hD1; rw [HFR.out, frS_off h])
            have HNO := Lib.hid hNo
            have X0 := Lib.hid (hx.out.more (.cells #[.bool U.g, .string (natS U.n), .int .i64 U.x, .bool m.g, .string (natS m.n), .int .i64 m.x] 37))
            obtain ⟨c0, c1, c2, c3, c4, c5, c6, c7, c8, c9, c10, c11, c12⟩ := X0.out.bC.facts
            clear hD1 hE1 hN hF hD1o hNo HQ HFR hfr
            by_cases e1 : E1 = 0
            · subst e1
              by_cases f1 : F = 0
              · subst f1
                by_cases cc : cmpD n N ≤ 0
                · have KU := Lib.hid (fun w => VUpTo_c n N true w hno.out HNO.out ⟨fun _ => cc, fun _ => rfl⟩)
                  have HZ := Lib.hid (HLE.out rfl rfl cc)
                  clear cc HLE HGT HOF
                  go_wp2_with (refine wpList_indexArr rfl 38 (Operand.tmp 51) (Operand.tmp 52) rfl (.agg #[.bool U.g, .string (natS U.n), .int .i64 U.x, .bool m.g, .string (natS m.n), .int .i64 m.x]) ?_ ?_; exact fun w => idx24_1 _ _ _ _ _ _ _ _ _ _ _ _ _ _ _ _ _ _ _ _ _ _ _ _ w)
                  refine (KS.out _ X0.out.cw.low).mono ?_
                  rintro e w5 ⟨rfl, hb⟩
                  have X1 := Lib.hid ((X0.out.step hb).more (.cells #[.bool D1.re.g, .string (natS D1.re.n), .int .i64 D1.re.x, .bool D1.im.g, .string (natS D1.im.n), .int .i64 D1.im.x] 37))
                  clear hb c0 c1 c2 c3 c4 c5 c6 c7 c8 c9 c10 c11 c12
                  go_wp2_with fail
                  refine (KN.out _ X1.out.cw.low).mono ?_
                  rintro e w6 ⟨rfl, hb⟩
                  have X2 := Lib.hid (X1.out.step hb)
                  have X3 := Lib.hid (X2.out.more (.cells #[.bool N.g, .string (natS N.n), .int .i64 N.x] 24))
                  clear hb KS KN X1 X0
                  obtain ⟨p0, p1, p2, p3, p4, p5, p6⟩ := X3.out.bN.facts
                  go_wp2_with fail
                  refine (KU.out _).mono ?_
                  rintro e w7 ⟨rfl, hb⟩
                  have X4 := Lib.hid (X3.out.step hb)
                  have BN := Lib.hid ((Box3.new w6 (.bool N.g) (.string (natS N.n)) (.int .i64 N.x)).step hb)
                  clear hb KU X2 X3 p0 p1 p2 p3 p4 p5 p6
                  obtain ⟨p0, p1, p2, p3, p4, p5, p6⟩ := X4.out.bN.facts
                  obtain ⟨v0, v1, v2, v3, v4, v5, v6⟩ := BN.out.facts
                  go_wp2_with fail
                  go_roundw
                  case rel => exact ⟨2, N, by omega, by first | rfl | go_num, HNO, HZ, Lib.hid (X4.out.put (by have := HR.out; omega) hRC hCN N)⟩
                  case measure => simp [intOf]
                · have KU := Lib.hid (fun w => VUpTo_c n N false w hno.out HNO.out ⟨fun h => absurd h (by decide), fun h => absurd h cc⟩)
                  have HZ := Lib.hid (HGT.out rfl rfl cc)
                  clear cc HLE HGT HOF
                  go_wp2_with (refine wpList_indexArr rfl 38 (Operand.tmp 51) (Operand.tmp 52) rfl (.agg #[.bool U.g, .string (natS U.n), .int .i64 U.x, .bool m.g, .string (natS m.n), .int .i64 m.x]) ?_ ?_; exact fun w => idx24_1 _ _ _ _ _ _ _ _ _ _ _ _ _ _ _ _ _ _ _ _ _ _ _ _ w)
                  refine (KS.out _ X0.out.cw.low).mono ?_
                  rintro e w5 ⟨rfl, hb⟩
                  have X1 := Lib.hid ((X0.out.step hb).more (.cells #[.bool D1.re.g, .string (natS D1.re.n), .int .i64 D1.re.x, .bool D1.im.g, .string (natS D1.im.n), .int .i64 D1.im.x] 37))
                  clear hb c0 c1 c2 c3 c4 c5 c6 c7 c8 c9 c10 c11 c12
                  go_wp2_with fail
                  refine (KN.out _ X1.out.cw.low).mono ?_
                  rintro e w6 ⟨rfl, hb⟩
                  have X2 := Lib.hid (X1.out.step hb)
                  have X3 := Lib.hid (X2.out.more (.cells #[.bool N.g, .string (natS N.n), .int .i64 N.x] 24))
                  clear hb KS KN X1 X0
                  obtain ⟨p0, p1, p2, p3, p4, p5, p6⟩ := X3.out.bN.facts
                  go_wp2_with fail
                  refine (KU.out _).mono ?_
                  rintro e w7 ⟨rfl, hb⟩
                  have X4 := Lib.hid (X3.out.step hb)
                  have BN := Lib.hid ((Box3.new w6 (.bool N.g) (.string (natS N.n)) (.int .i64 N.x)).step hb)
                  clear hb KU X2 X3 p0 p1 p2 p3 p4 p5 p6
                  obtain ⟨p0, p1, p2, p3, p4, p5, p6⟩ := X4.out.bN.facts
                  obtain ⟨v0, v1, v2, v3, v4, v5, v6⟩ := BN.out.facts
                  go_wp2_with fail
                  go_roundw
                  case rel => exact ⟨2, n, by omega, by first | rfl | go_num, hno, HZ, X4⟩
                  case measure => simp [intOf]
              · have hz : (F != 0) = true := by simpa using f1
                have HV : Hid (cvA l m y = ((0, 0, 0), 4)) := Lib.hid (HNV.out (HOF.out (fun c => f1 c.2)))
                clear f1 HLE HGT HOF
                go_wp2_with (refine wpList_indexArr rfl 38 (Operand.tmp 51) (Operand.tmp 52) rfl (.agg #[.bool U.g, .string (natS U.n), .int .i64 U.x, .bool m.g, .string (natS m.n), .int .i64 m.x]) ?_ ?_; exact fun w => idx24_1 _ _ _ _ _ _ _ _ _ _ _ _ _ _ _ _ _ _ _ _ _ _ _ _ w)
                refine (KS.out _ X0.out.cw.low).mono ?_
                rintro e w5 ⟨rfl, hb⟩
                have X1 := Lib.hid ((X0.out.step hb).more (.cells #[.bool D1.re.g, .string (natS D1.re.n), .int .i64 D1.re.x, .bool D1.im.g, .string (natS D1.im.n), .int .i64 D1.im.x] 37))
                clear hb c0 c1 c2 c3 c4 c5 c6 c7 c8 c9 c10 c11 c12
                go_wp2_with fail
                refine (KN.out _ X1.out.cw.low).mono ?_
                rintro e w6 ⟨rfl, hb⟩
                have X2 := Lib.hid (X1.out.step hb)
                have X3 := Lib.hid (X2.out.more (.cells #[.bool N.g, .string (natS N.n), .int .i64 N.x] 24))
                clear hb KS KN X1 X0
                have CW2 := Lib.hid X2.out.cw
                have HY := Lib.hid ((Blk.put2 CW2.out.bR (.complex .f64 0 0) (.float .f64 0)).alloc (.cells #[.bool N.g, .string (natS N.n), .int .i64 N.x] 24))
                obtain ⟨qlt, q0, q1, f0, f1⟩ := CW2.out.r
                have HLW := Lib.hid CW2.out.low
                go_wp2_with fail
                have y0 := (Blk.cell HY.out 0).trans (show _ = some (.complex .f64 0 0 : Value) from rfl)
                have y1 := (Blk.cell HY.out 1).trans (show _ = some (.float .f64 0 : Value) from rfl)
                refine bodyPost_ret (v := .tuple #[.agg #[.complex .f64 0 0, .float .f64 0], .int .i64 4]) (by simp [results, Tryz.results5, go_sem, y0, y1]) rfl ⟨by rw [HV.out], ?_⟩
                have hp := below_put2 HLW.out (show w.heap.size ≤ R by have := HR.out; omega) (.complex .f64 0 0) (.float .f64 0)
                exact hp.alloc (by first | exact hp.size | (have := hp.size; simp at this ⊢; omega)) _
            · have hz : (E1 != 0) = true := by simpa using e1
              have HV : Hid (cvA l m y = ((0, 0, 0), 4)) := Lib.hid (HNV.out (HOF.out (fun c => e1 c.1)))
              clear e1 HLE HGT HOF
              go_wp2_with (refine wpList_indexArr rfl 38 (Operand.tmp 51) (Operand.tmp 52) rfl (.agg #[.bool U.g, .string (natS U.n), .int .i64 U.x, .bool m.g, .string (natS m.n), .int .i64 m.x]) ?_ ?_; exact fun w => idx24_1 _ _ _ _ _ _ _ _ _ _ _ _ _ _ _ _ _ _ _ _ _ _ _ _ w)
              refine (KS.out _ X0.out.cw.low).mono ?_
              rintro e w5 ⟨rfl, hb⟩
              have X1 := Lib.hid ((X0.out.step hb).more (.cells #[.bool D1.re.g, .string (natS D1.re.n), .int .i64 D1.re.x, .bool D1.im.g, .string (natS D1.im.n), .int .i64 D1.im.x] 37))
              clear hb c0 c1 c2 c3 c4 c5 c6 c7 c8 c9 c10 c11 c12
              go_wp2_with fail
              refine (KN.out _ X1.out.cw.low).mono ?_
              rintro e w6 ⟨rfl, hb⟩
              have X2 := Lib.hid (X1.out.step hb)
              have X3 := Lib.hid (X2.out.more (.cells #[.bool N.g, .string (natS N.n), .int .i64 N.x] 24))
              clear hb KS KN X1 X0
              have CW2 := Lib.hid X2.out.cw
              have HY := Lib.hid ((Blk.put2 CW2.out.bR (.complex .f64 0 0) (.float .f64 0)).alloc (.cells #[.bool N.g, .string (natS N.n), .int .i64 N.x] 24))
              obtain ⟨qlt, q0, q1, f0, f1⟩ := CW2.out.r
              have HLW := Lib.hid CW2.out.low
              go_wp2_with fail
              have y0 := (Blk.cell HY.out 0).trans (show _ = some (.complex .f64 0 0 : Value) from rfl)
              have y1 := (Blk.cell HY.out 1).trans (show _ = some (.float .f64 0 : Value) from rfl)
              refine bodyPost_ret (v := .tuple #[.agg #[.complex .f64 0 0, .float .f64 0], .int .i64 4]) (by simp [results, Tryz.results5, go_sem, y0, y1]) rfl ⟨by rw [HV.out], ?_⟩
              have hp := below_put2 HLW.out (show w.heap.size ≤ R by have := HR.out; omega) (.complex .f64 0 0) (.float .f64 0)
              exact hp.alloc (by first | exact hp.size | (have := hp.size; simp at this ⊢; omega)) _
          · have HQ : Hid ((⟨l, V⟩ : Gs).Ok) := Lib.hid (HCO.out _ (by simp))
            obtain ⟨D1, hD1⟩ : ∃ D, D = wayD C (⟨l, V⟩ : Gs) := ⟨_, rfl⟩
            obtain ⟨E1, hE1⟩ : ∃ E, E = wayE C (⟨l, V⟩ : Gs) := ⟨_, rfl⟩
            obtain ⟨N, hN⟩ : ∃ N, N = dotD D1 D1 := ⟨_, rfl⟩
            obtain ⟨F, hF⟩ : ∃ F, F = dotE D1 D1 := ⟨_, rfl⟩
            have hD1o : D1.Ok := by rw [hD1]; exact wayD_Ok HCC.out HQ.out
            have hNo : N.Ok := by rw [hN]; exact dotD_Ok _ _
            have KS : Hid (∀ W, Below w.heap.size w W → Calls Tryz.prog 17 #[.agg #[.bool l.g, .string (natS l.n), .int .i64 l.x, .bool V.g, .string (natS V.n), .int .i64 V.x], .agg #[.bool C.re.g, .string (natS C.re.n), .int .i64 C.re.x, .bool C.im.g, .string (natS C.im.n), .int .i64 C.im.x]] W fun e w' => e = .returned (.tuple #[.agg #[.bool D1.re.g, .string (natS D1.re.n), .int .i64 D1.re.x, .bool D1.im.g, .string (natS D1.im.n), .int .i64 D1.im.x], .int .i64 E1]) ∧ Below W.heap.size W w') := Lib.hid (fun W hW => by rw [hD1, hE1]; exact GSub_c (⟨l, V⟩ : Gs) C W HQ.out HCC.out (HG.out W hW))
            have KN : Hid (∀ W, Below w.heap.size w W → Calls Tryz.prog 18 #[.agg #[.bool D1.re.g, .string (natS D1.re.n), .int .i64 D1.re.x, .bool D1.im.g, .string (natS D1.im.n), .int .i64 D1.im.x]] W fun e w' => e = .returned (.tuple #[.agg #[.bool N.g, .string (natS N.n), .int .i64 N.x], .int .i64 F]) ∧ Below W.heap.size W w') := Lib.hid (fun W hW => by rw [hN, hF]; exact GNorm_c D1 W hD1o (HG.out W hW))
            have HFR : Hid (frS C cs Dy.zero = frS C ((⟨l, V⟩ : Gs) :: cs.drop 3) n) := Lib.hid (hfr.out.trans (by rw [HCS.out]; rfl))
            have HLE : Hid (E1 = 0 → F = 0 → cmpD n N ≤ 0 → frS C cs Dy.zero = frS C (cs.drop 3) N) := Lib.hid (fun h1 h2 h3 => by subst hE1 hF hN hD1; rw [HFR.out, frS_le ⟨h1, h2⟩ h3])
            have HGT : Hid (E1 = 0 → F = 0 → ¬ cmpD n N ≤ 0 → frS C cs Dy.zero = frS C (cs.drop 3) n) := Lib.hid (fun h1 h2 h3 => by subst hE1 hF hN hD1; rw [HFR.out, frS_gt ⟨h1, h2⟩ h3])
            have HOF : Hid (¬ (E1 = 0 ∧ F = 0) → frS C cs Dy.zero = none) := Lib.hid (fun h => by subst hE1 hF hN hD1; rw [HFR.out, frS_off h])
            have HNO := Lib.hid hNo
            have X0 := Lib.hid (hx.out.more (.cells #[.bool l.g, .string (natS l.n), .int .i64 l.x, .bool V.g, .string (natS V.n), .int .i64 V.x] 37))
            obtain ⟨c0, c1, c2, c3, c4, c5, c6, c7, c8, c9, c10, c11, c12⟩ := X0.out.bC.facts
            clear hD1 hE1 hN hF hD1o hNo HQ HFR hfr
            by_cases e1 : E1 = 0
            · subst e1
              by_cases f1 : F = 0
              · subst f1
                by_cases cc : cmpD n N ≤ 0
                · have KU := Lib.hid (fun w => VUpTo_c n N true w hno.out HNO.out ⟨fun _ => cc, fun _ => rfl⟩)
                  have HZ := Lib.hid (HLE.out rfl rfl cc)
                  clear cc HLE HGT HOF
                  go_wp2_with (refine wpList_indexArr rfl 38 (Operand.tmp 51) (Operand.tmp 52) rfl (.agg #[.bool l.g, .string (natS l.n), .int .i64 l.x, .bool V.g, .string (natS V.n), .int .i64 V.x]) ?_ ?_; exact fun w => idx24_2 _ _ _ _ _ _ _ _ _ _ _ _ _ _ _ _ _ _ _ _ _ _ _ _ w)
                  refine (KS.out _ X0.out.cw.low).mono ?_
                  rintro e w5 ⟨rfl, hb⟩
                  have X1 := Lib.hid ((X0.out.step hb).more (.cells #[.bool D1.re.g, .string (natS D1.re.n), .int .i64 D1.re.x, .bool D1.im.g, .string (natS D1.im.n), .int .i64 D1.im.x] 37))
                  clear hb c0 c1 c2 c3 c4 c5 c6 c7 c8 c9 c10 c11 c12
                  go_wp2_with fail
                  refine (KN.out _ X1.out.cw.low).mono ?_
                  rintro e w6 ⟨rfl, hb⟩
                  have X2 := Lib.hid (X1.out.step hb)
                  have X3 := Lib.hid (X2.out.more (.cells #[.bool N.g, .string (natS N.n), .int .i64 N.x] 24))
                  clear hb KS KN X1 X0
                  obtain ⟨p0, p1, p2, p3, p4, p5, p6⟩ := X3.out.bN.facts
                  go_wp2_with fail
                  refine (KU.out _).mono ?_
                  rintro e w7 ⟨rfl, hb⟩
                  have X4 := Lib.hid (X3.out.step hb)
                  have BN := Lib.hid ((Box3.new w6 (.bool N.g) (.string (natS N.n)) (.int .i64 N.x)).step hb)
                  clear hb KU X2 X3 p0 p1 p2 p3 p4 p5 p6
                  obtain ⟨p0, p1, p2, p3, p4, p5, p6⟩ := X4.out.bN.facts
                  obtain ⟨v0, v1, v2, v3, v4, v5, v6⟩ := BN.out.facts
                  go_wp2_with fail
                  go_roundw
                  case rel => exact ⟨3, N, by omega, by first | rfl | go_num, HNO, HZ, Lib.hid (X4.out.put (by have := HR.out; omega) hRC hCN N)⟩
                  case measure => simp [intOf]
                · have KU := Lib.hid (fun w => VUpTo_c n N false w hno.out HNO.out ⟨fun h => absurd h (by decide), fun h => absurd h cc⟩)
                  have HZ := Lib.hid (HGT.out rfl rfl cc)
                  clear cc HLE HGT HOF
                  go_wp2_with (refine wpList_indexArr rfl 38 (Operand.tmp 51) (Operand.tmp 52) rfl (.agg #[.bool l.g, .string (natS l.n), .int .i64 l.x, .bool V.g, .string (natS V.n), .int .i64 V.x]) ?_ ?_; exact fun w => idx24_2 _ _ _ _ _ _ _ _ _ _ _ _ _ _ _ _ _ _ _ _ _ _ _ _ w)
                  refine (KS.out _ X0.out.cw.low).mono ?_
                  rintro e w5 ⟨rfl, hb⟩
                  have X1 := Lib.hid ((X0.out.step hb).more (.cells #[.bool D1.re.g, .string (natS D1.re.n), .int .i64 D1.re.x, .bool D1.im.g, .string (natS D1.im.n), .int .i64 D1.im.x] 37))
                  clear hb c0 c1 c2 c3 c4 c5 c6 c7 c8 c9 c10 c11 c12
                  go_wp2_with fail
                  refine (KN.out _ X1.out.cw.low).mono ?_
                  rintro e w6 ⟨rfl, hb⟩
                  have X2 := Lib.hid (X1.out.step hb)
                  have X3 := Lib.hid (X2.out.more (.cells #[.bool N.g, .string (natS N.n), .int .i64 N.x] 24))
                  clear hb KS KN X1 X0
                  obtain ⟨p0, p1, p2, p3, p4, p5, p6⟩ := X3.out.bN.facts
                  go_wp2_with fail
                  refine (KU.out _).mono ?_
                  rintro e w7 ⟨rfl, hb⟩
                  have X4 := Lib.hid (X3.out.step hb)
                  have BN := Lib.hid ((Box3.new w6 (.bool N.g) (.string (natS N.n)) (.int .i64 N.x)).step hb)
                  clear hb KU X2 X3 p0 p1 p2 p3 p4 p5 p6
                  obtain ⟨p0, p1, p2, p3, p4, p5, p6⟩ := X4.out.bN.facts
                  obtain ⟨v0, v1, v2, v3, v4, v5, v6⟩ := BN.out.facts
                  go_wp2_with fail
                  go_roundw
                  case rel => exact ⟨3, n, by omega, by first | rfl | go_num, hno, HZ, X4⟩
                  case measure => simp [intOf]
              · have hz : (F != 0) = true := by simpa using f1
                have HV : Hid (cvA l m y = ((0, 0, 0), 4)) := Lib.hid (HNV.out (HOF.out (fun c => f1 c.2)))
                clear f1 HLE HGT HOF
                go_wp2_with (refine wpList_indexArr rfl 38 (Operand.tmp 51) (Operand.tmp 52) rfl (.agg #[.bool l.g, .string (natS l.n), .int .i64 l.x, .bool V.g, .string (natS V.n), .int .i64 V.x]) ?_ ?_; exact fun w => idx24_2 _ _ _ _ _ _ _ _ _ _ _ _ _ _ _ _ _ _ _ _ _ _ _ _ w)
                refine (KS.out _ X0.out.cw.low).mono ?_
                rintro e w5 ⟨rfl, hb⟩
                have X1 := Lib.hid ((X0.out.step hb).more (.cells #[.bool D1.re.g, .string (natS D1.re.n), .int .i64 D1.re.x, .bool D1.im.g, .string (natS D1.im.n), .int .i64 D1.im.x] 37))
                clear hb c0 c1 c2 c3 c4 c5 c6 c7 c8 c9 c10 c11 c12
                go_wp2_with fail
                refine (KN.out _ X1.out.cw.low).mono ?_
                rintro e w6 ⟨rfl, hb⟩
                have X2 := Lib.hid (X1.out.step hb)
                have X3 := Lib.hid (X2.out.more (.cells #[.bool N.g, .string (natS N.n), .int .i64 N.x] 24))
                clear hb KS KN X1 X0
                have CW2 := Lib.hid X2.out.cw
                have HY := Lib.hid ((Blk.put2 CW2.out.bR (.complex .f64 0 0) (.float .f64 0)).alloc (.cells #[.bool N.g, .string (natS N.n), .int .i64 N.x] 24))
                obtain ⟨qlt, q0, q1, f0, f1⟩ := CW2.out.r
                have HLW := Lib.hid CW2.out.low
                go_wp2_with fail
                have y0 := (Blk.cell HY.out 0).trans (show _ = some (.complex .f64 0 0 : Value) from rfl)
                have y1 := (Blk.cell HY.out 1).trans (show _ = some (.float .f64 0 : Value) from rfl)
                refine bodyPost_ret (v := .tuple #[.agg #[.complex .f64 0 0, .float .f64 0], .int .i64 4]) (by simp [results, Tryz.results5, go_sem, y0, y1]) rfl ⟨by rw [HV.out], ?_⟩
                have hp := below_put2 HLW.out (show w.heap.size ≤ R by have := HR.out; omega) (.complex .f64 0 0) (.float .f64 0)
                exact hp.alloc (by first | exact hp.size | (have := hp.size; simp at this ⊢; omega)) _
            · have hz : (E1 != 0) = true := by simpa using e1
              have HV : Hid (cvA l m y = ((0, 0, 0), 4)) := Lib.hid (HNV.out (HOF.out (fun c => e1 c.1)))
              clear e1 HLE HGT HOF
              go_wp2_with (refine wpList_indexArr rfl 38 (Operand.tmp 51) (Operand.tmp 52) rfl (.agg #[.bool l.g, .string (natS l.n), .int .i64 l.x, .bool V.g, .string (natS V.n), .int .i64 V.x]) ?_ ?_; exact fun w => idx24_2 _ _ _ _ _ _ _ _ _ _ _ _ _ _ _ _ _ _ _ _ _ _ _ _ w)
              refine (KS.out _ X0.out.cw.low).mono ?_
              rintro e w5 ⟨rfl, hb⟩
              have X1 := Lib.hid ((X0.out.step hb).more (.cells #[.bool D1.re.g, .string (natS D1.re.n), .int .i64 D1.re.x, .bool D1.im.g, .string (natS D1.im.n), .int .i64 D1.im.x] 37))
              clear hb c0 c1 c2 c3 c4 c5 c6 c7 c8 c9 c10 c11 c12
              go_wp2_with fail
              refine (KN.out _ X1.out.cw.low).mono ?_
              rintro e w6 ⟨rfl, hb⟩
              have X2 := Lib.hid (X1.out.step hb)
              have X3 := Lib.hid (X2.out.more (.cells #[.bool N.g, .string (natS N.n), .int .i64 N.x] 24))
              clear hb KS KN X1 X0
              have CW2 := Lib.hid X2.out.cw
              have HY := Lib.hid ((Blk.put2 CW2.out.bR (.complex .f64 0 0) (.float .f64 0)).alloc (.cells #[.bool N.g, .string (natS N.n), .int .i64 N.x] 24))
              obtain ⟨qlt, q0, q1, f0, f1⟩ := CW2.out.r
              have HLW := Lib.hid CW2.out.low
              go_wp2_with fail
              have y0 := (Blk.cell HY.out 0).trans (show _ = some (.complex .f64 0 0 : Value) from rfl)
              have y1 := (Blk.cell HY.out 1).trans (show _ = some (.float .f64 0 : Value) from rfl)
              refine bodyPost_ret (v := .tuple #[.agg #[.complex .f64 0 0, .float .f64 0], .int .i64 4]) (by simp [results, Tryz.results5, go_sem, y0, y1]) rfl ⟨by rw [HV.out], ?_⟩
              have hp := below_put2 HLW.out (show w.heap.size ≤ R by have := HR.out; omega) (.complex .f64 0 0) (.float .f64 0)
              exact hp.alloc (by first | exact hp.size | (have := hp.size; simp at this ⊢; omega)) _
          · have HQ : Hid ((⟨U, V⟩ : Gs).Ok) := Lib.hid (HCO.out _ (by simp))
            obtain ⟨D1, hD1⟩ : ∃ D, D = wayD C (⟨U, V⟩ : Gs) := ⟨_, rfl⟩
            obtain ⟨E1, hE1⟩ : ∃ E, E = wayE C (⟨U, V⟩ : Gs) := ⟨_, rfl⟩
            obtain ⟨N, hN⟩ : ∃ N, N = dotD D1 D1 := ⟨_, rfl⟩
            obtain ⟨F, hF⟩ : ∃ F, F = dotE D1 D1 := ⟨_, rfl⟩
            have hD1o : D1.Ok := by rw [hD1]; exact wayD_Ok HCC.out HQ.out
            have hNo : N.Ok := by rw [hN]; exact dotD_Ok _ _
            have KS : Hid (∀ W, Below w.heap.size w W → Calls Tryz.prog 17 #[.agg #[.bool U.g, .string (natS U.n), .int .i64 U.x, .bool V.g, .string (natS V.n), .int .i64 V.x], .agg #[.bool C.re.g, .string (natS C.re.n), .int .i64 C.re.x, .bool C.im.g, .string (natS C.im.n), .int .i64 C.im.x]] W fun e w' => e = .returned (.tuple #[.agg #[.bool D1.re.g, .string (natS D1.re.n), .int .i64 D1.re.x, .bool D1.im.g, .string (natS D1.im.n), .int .i64 D1.im.x], .int .i64 E1]) ∧ Below W.heap.size W w') := Lib.hid (fun W hW => by rw [hD1, hE1]; exact GSub_c (⟨U, V⟩ : Gs) C W HQ.out HCC.out (HG.out W hW))
            have KN : Hid (∀ W, Below w.heap.size w W → Calls Tryz.prog 18 #[.agg #[.bool D1.re.g, .string (natS D1.re.n), .int .i64 D1.re.x, .bool D1.im.g, .string (natS D1.im.n), .int .i64 D1.im.x]] W fun e w' => e = .returned (.tuple #[.agg #[.bool N.g, .string (natS N.n), .int .i64 N.x], .int .i64 F]) ∧ Below W.heap.size W w') := Lib.hid (fun W hW => by rw [hN, hF]; exact GNorm_c D1 W hD1o (HG.out W hW))
            have HFR : Hid (frS C cs Dy.zero = frS C ((⟨U, V⟩ : Gs) :: cs.drop 4) n) := Lib.hid (hfr.out.trans (by rw [HCS.out]; rfl))
            have HLE : Hid (E1 = 0 → F = 0 → cmpD n N ≤ 0 → frS C cs Dy.zero = frS C (cs.drop 4) N) := Lib.hid (fun h1 h2 h3 => by subst hE1 hF hN hD1; rw [HFR.out, frS_le ⟨h1, h2⟩ h3])
            have HGT : Hid (E1 = 0 → F = 0 → ¬ cmpD n N ≤ 0 → frS C cs Dy.zero = frS C (cs.drop 4) n) := Lib.hid (fun h1 h2 h3 => by subst hE1 hF hN hD1; rw [HFR.out, frS_gt ⟨h1, h2⟩ h3])
            have HOF : Hid (¬ (E1 = 0 ∧ F = 0) → frS C cs Dy.zero = none) := Lib.hid (fun h => by subst hE1 hF hN hD1; rw [HFR.out, frS_off h])
            have HNO := Lib.hid hNo
            have X0 := Lib.hid (hx.out.more (.cells #[.bool U.g, .string (natS U.n), .int .i64 U.x, .bool V.g, .string (natS V.n), .int .i64 V.x] 37))
            obtain ⟨c0, c1, c2, c3, c4, c5, c6, c7, c8, c9, c10, c11, c12⟩ := X0.out.bC.facts
            clear hD1 hE1 hN hF hD1o hNo HQ HFR hfr
            by_cases e1 : E1 = 0
            · subst e1
              by_cases f1 : F = 0
              · subst f1
                by_cases cc : cmpD n N ≤ 0
                · have KU := Lib.hid (fun w => VUpTo_c n N true w hno.out HNO.out ⟨fun _ => cc, fun _ => rfl⟩)
                  have HZ := Lib.hid (HLE.out rfl rfl cc)
                  clear cc HLE HGT HOF
                  go_wp2_with (refine wpList_indexArr rfl 38 (Operand.tmp 51) (Operand.tmp 52) rfl (.agg #[.bool U.g, .string (natS U.n), .int .i64 U.x, .bool V.g, .string (natS V.n), .int .i64 V.x]) ?_ ?_; exact fun w => idx24_3 _ _ _ _ _ _ _ _ _ _ _ _ _ _ _ _ _ _ _ _ _ _ _ _ w)
                  refine (KS.out _ X0.out.cw.low).mono ?_
                  rintro e w5 ⟨rfl, hb⟩
                  have X1 := Lib.hid ((X0.out.step hb).more (.cells #[.bool D1.re.g, .string (natS D1.re.n), .int .i64 D1.re.x, .bool D1.im.g, .string (natS D1.im.n), .int .i64 D1.im.x] 37))
                  clear hb c0 c1 c2 c3 c4 c5 c6 c7 c8 c9 c10 c11 c12
                  go_wp2_with fail
                  refine (KN.out _ X1.out.cw.low).mono ?_
                  rintro e w6 ⟨rfl, hb⟩
                  have X2 := Lib.hid (X1.out.step hb)
                  have X3 := Lib.hid (X2.out.more (.cells #[.bool N.g, .string (natS N.n), .int .i64 N.x] 24))
                  clear hb KS KN X1 X0
                  obtain ⟨p0, p1, p2, p3, p4, p5, p6⟩ := X3.out.bN.facts
                  go_wp2_with fail
                  refine (KU.out _).mono ?_
                  rintro e w7 ⟨rfl, hb⟩
                  have X4 := Lib.hid (X3.out.step hb)
                  have BN := Lib.hid ((Box3.new w6 (.bool N.g) (.string (natS N.n)) (.int .i64 N.x)).step hb)
                  clear hb KU X2 X3 p0 p1 p2 p3 p4 p5 p6
                  obtain ⟨p0, p1, p2, p3, p4, p5, p6⟩ := X4.out.bN.facts
                  obtain ⟨v0, v1, v2, v3, v4, v5, v6⟩ := BN.out.facts
                  go_wp2_with fail
                  go_roundw
                  case rel => exact ⟨4, N, by omega, by first | rfl | go_num, HNO, HZ, Lib.hid (X4.out.put (by have := HR.out; omega) hRC hCN N)⟩
                  case measure => simp [intOf]
                · have KU := Lib.hid (fun w => VUpTo_c n N false w hno.out HNO.out ⟨fun h => absurd h (by decide), fun h => absurd h cc⟩)
                  have HZ := Lib.hid (HGT.out rfl rfl cc)
                  clear cc HLE HGT HOF
                  go_wp2_with (refine wpList_indexArr rfl 38 (Operand.tmp 51) (Operand.tmp 52) rfl (.agg #[.bool U.g, .string (natS U.n), .int .i64 U.x, .bool V.g, .string (natS V.n), .int .i64 V.x]) ?_ ?_; exact fun w => idx24_3 _ _ _ _ _ _ _ _ _ _ _ _ _ _ _ _ _ _ _ _ _ _ _ _ w)
                  refine (KS.out _ X0.out.cw.low).mono ?_
                  rintro e w5 ⟨rfl, hb⟩
                  have X1 := Lib.hid ((X0.out.step hb).more (.cells #[.bool D1.re.g, .string (natS D1.re.n), .int .i64 D1.re.x, .bool D1.im.g, .string (natS D1.im.n), .int .i64 D1.im.x] 37))
                  clear hb c0 c1 c2 c3 c4 c5 c6 c7 c8 c9 c10 c11 c12
                  go_wp2_with fail
                  refine (KN.out _ X1.out.cw.low).mono ?_
                  rintro e w6 ⟨rfl, hb⟩
                  have X2 := Lib.hid (X1.out.step hb)
                  have X3 := Lib.hid (X2.out.more (.cells #[.bool N.g, .string (natS N.n), .int .i64 N.x] 24))
                  clear hb KS KN X1 X0
                  obtain ⟨p0, p1, p2, p3, p4, p5, p6⟩ := X3.out.bN.facts
                  go_wp2_with fail
                  refine (KU.out _).mono ?_
                  rintro e w7 ⟨rfl, hb⟩
                  have X4 := Lib.hid (X3.out.step hb)
                  have BN := Lib.hid ((Box3.new w6 (.bool N.g) (.string (natS N.n)) (.int .i64 N.x)).step hb)
                  clear hb KU X2 X3 p0 p1 p2 p3 p4 p5 p6
                  obtain ⟨p0, p1, p2, p3, p4, p5, p6⟩ := X4.out.bN.facts
                  obtain ⟨v0, v1, v2, v3, v4, v5, v6⟩ := BN.out.facts
                  go_wp2_with fail
                  go_roundw
                  case rel => exact ⟨4, n, by omega, by first | rfl | go_num, hno, HZ, X4⟩
                  case measure => simp [intOf]
              · have hz : (F != 0) = true := by simpa using f1
                have HV : Hid (cvA l m y = ((0, 0, 0), 4)) := Lib.hid (HNV.out (HOF.out (fun c => f1 c.2)))
                clear f1 HLE HGT HOF
                go_wp2_with (refine wpList_indexArr rfl 38 (Operand.tmp 51) (Operand.tmp 52) rfl (.agg #[.bool U.g, .string (natS U.n), .int .i64 U.x, .bool V.g, .string (natS V.n), .int .i64 V.x]) ?_ ?_; exact fun w => idx24_3 _ _ _ _ _ _ _ _ _ _ _ _ _ _ _ _ _ _ _ _ _ _ _ _ w)
                refine (KS.out _ X0.out.cw.low).mono ?_
                rintro e w5 ⟨rfl, hb⟩
                have X1 := Lib.hid ((X0.out.step hb).more (.cells #[.bool D1.re.g, .string (natS D1.re.n), .int .i64 D1.re.x, .bool D1.im.g, .string (natS D1.im.n), .int .i64 D1.im.x] 37))
                clear hb c0 c1 c2 c3 c4 c5 c6 c7 c8 c9 c10 c11 c12
                go_wp2_with fail
                refine (KN.out _ X1.out.cw.low).mono ?_
                rintro e w6 ⟨rfl, hb⟩
                have X2 := Lib.hid (X1.out.step hb)
                have X3 := Lib.hid (X2.out.more (.cells #[.bool N.g, .string (natS N.n), .int .i64 N.x] 24))
                clear hb KS KN X1 X0
                have CW2 := Lib.hid X2.out.cw
                have HY := Lib.hid ((Blk.put2 CW2.out.bR (.complex .f64 0 0) (.float .f64 0)).alloc (.cells #[.bool N.g, .string (natS N.n), .int .i64 N.x] 24))
                obtain ⟨qlt, q0, q1, f0, f1⟩ := CW2.out.r
                have HLW := Lib.hid CW2.out.low
                go_wp2_with fail
                have y0 := (Blk.cell HY.out 0).trans (show _ = some (.complex .f64 0 0 : Value) from rfl)
                have y1 := (Blk.cell HY.out 1).trans (show _ = some (.float .f64 0 : Value) from rfl)
                refine bodyPost_ret (v := .tuple #[.agg #[.complex .f64 0 0, .float .f64 0], .int .i64 4]) (by simp [results, Tryz.results5, go_sem, y0, y1]) rfl ⟨by rw [HV.out], ?_⟩
                have hp := below_put2 HLW.out (show w.heap.size ≤ R by have := HR.out; omega) (.complex .f64 0 0) (.float .f64 0)
                exact hp.alloc (by first | exact hp.size | (have := hp.size; simp at this ⊢; omega)) _
            · have hz : (E1 != 0) = true := by simpa using e1
              have HV : Hid (cvA l m y = ((0, 0, 0), 4)) := Lib.hid (HNV.out (HOF.out (fun c => e1 c.1)))
              clear e1 HLE HGT HOF
              go_wp2_with (refine wpList_indexArr rfl 38 (Operand.tmp 51) (Operand.tmp 52) rfl (.agg #[.bool U.g, .string (natS U.n), .int .i64 U.x, .bool V.g, .string (natS V.n), .int .i64 V.x]) ?_ ?_; exact fun w => idx24_3 _ _ _ _ _ _ _ _ _ _ _ _ _ _ _ _ _ _ _ _ _ _ _ _ w)
              refine (KS.out _ X0.out.cw.low).mono ?_
              rintro e w5 ⟨rfl, hb⟩
              have X1 := Lib.hid ((X0.out.step hb).more (.cells #[.bool D1.re.g, .string (natS D1.re.n), .int .i64 D1.re.x, .bool D1.im.g, .string (natS D1.im.n), .int .i64 D1.im.x] 37))
              clear hb c0 c1 c2 c3 c4 c5 c6 c7 c8 c9 c10 c11 c12
              go_wp2_with fail
              refine (KN.out _ X1.out.cw.low).mono ?_
              rintro e w6 ⟨rfl, hb⟩
              have X2 := Lib.hid (X1.out.step hb)
              have X3 := Lib.hid (X2.out.more (.cells #[.bool N.g, .string (natS N.n), .int .i64 N.x] 24))
              clear hb KS KN X1 X0
              have CW2 := Lib.hid X2.out.cw
              have HY := Lib.hid ((Blk.put2 CW2.out.bR (.complex .f64 0 0) (.float .f64 0)).alloc (.cells #[.bool N.g, .string (natS N.n), .int .i64 N.x] 24))
              obtain ⟨qlt, q0, q1, f0, f1⟩ := CW2.out.r
              have HLW := Lib.hid CW2.out.low
              go_wp2_with fail
              have y0 := (Blk.cell HY.out 0).trans (show _ = some (.complex .f64 0 0 : Value) from rfl)
              have y1 := (Blk.cell HY.out 1).trans (show _ = some (.float .f64 0 : Value) from rfl)
              refine bodyPost_ret (v := .tuple #[.agg #[.complex .f64 0 0, .float .f64 0], .int .i64 4]) (by simp [results, Tryz.results5, go_sem, y0, y1]) rfl ⟨by rw [HV.out], ?_⟩
              have hp := below_put2 HLW.out (show w.heap.size ≤ R by have := HR.out; omega) (.complex .f64 0 0) (.float .f64 0)
              exact hp.alloc (by first | exact hp.size | (have := hp.size; simp at this ⊢; omega)) _
          · have HS : Hid (frS C cs Dy.zero = some n) := Lib.hid (hfr.out.trans (by rw [HCS.out]; rfl))
            have KR := Lib.hid (fun W (hW : Below w.heap.size w W) => VRoot_c n W hno.out (HG.out W hW))
            obtain ⟨p0, p1, p2, p3, p4, p5, p6⟩ := hx.out.bN.facts
            by_cases hr : rtU n < 9218868437227405312
            · have KI := Lib.hid (IsInf_c (rtU n) (rtU_le n) false ⟨fun h => absurd h (by decide), fun h => absurd hr h⟩)
              have HV := Lib.hid (HOA.out n HS.out hr)
              clear hr HS hfr
              generalize rtU n = r at *
              go_wp2_with fail
              refine (KR.out _ hx.out.cw.low).mono ?_
              rintro e w5 ⟨rfl, hb⟩
              have X5 := Lib.hid (hx.out.cw.step hb)
              clear hb KR p0 p1 p2 p3 p4 p5 p6
              go_wp2_with fail
              refine (KI.out _).mono ?_
              rintro e w6 ⟨rfl, rfl⟩
              have HY := Lib.hid ((Blk.put2 X5.out.bR (.complex .f64 a b) (.float .f64 r)))
              obtain ⟨qlt, q0, q1, f0, f1⟩ := X5.out.r
              have HLW := Lib.hid X5.out.low
              go_wp2_with fail
              have y0 := (Blk.cell HY.out 0).trans (show _ = some (.complex .f64 a b : Value) from rfl)
              have y1 := (Blk.cell HY.out 1).trans (show _ = some (.float .f64 r : Value) from rfl)
              refine bodyPost_ret (v := .tuple #[.agg #[.complex .f64 a b, .float .f64 r], .int .i64 0]) (by simp [results, Tryz.results5, go_sem, y0, y1]) rfl ⟨by rw [HV.out], ?_⟩
              have hp := below_put2 HLW.out (show w.heap.size ≤ R by have := HR.out; omega) (.complex .f64 a b) (.float .f64 r)
              exact hp
            · have KI := Lib.hid (IsInf_c (rtU n) (rtU_le n) true ⟨fun _ => hr, fun _ => rfl⟩)
              have HV := Lib.hid (HFA.out n HS.out hr)
              clear hr HS hfr
              generalize rtU n = r at *
              go_wp2_with fail
              refine (KR.out _ hx.out.cw.low).mono ?_
              rintro e w5 ⟨rfl, hb⟩
              have X5 := Lib.hid (hx.out.cw.step hb)
              clear hb KR p0 p1 p2 p3 p4 p5 p6
              go_wp2_with fail
              refine (KI.out _).mono ?_
              rintro e w6 ⟨rfl, rfl⟩
              have HY := Lib.hid ((Blk.put2 X5.out.bR (.complex .f64 0 0) (.float .f64 0)))
              obtain ⟨qlt, q0, q1, f0, f1⟩ := X5.out.r
              have HLW := Lib.hid X5.out.low
              go_wp2_with fail
              have y0 := (Blk.cell HY.out 0).trans (show _ = some (.complex .f64 0 0 : Value) from rfl)
              have y1 := (Blk.cell HY.out 1).trans (show _ = some (.float .f64 0 : Value) from rfl)
              refine bodyPost_ret (v := .tuple #[.agg #[.complex .f64 0 0, .float .f64 0], .int .i64 5]) (by simp [results, Tryz.results5, go_sem, y0, y1]) rfl ⟨by rw [HV.out], ?_⟩
              have hp := below_put2 HLW.out (show w.heap.size ≤ R by have := HR.out; omega) (.complex .f64 0 0) (.float .f64 0)
              exact hp
      · have HV : Hid (cvA l m y = ((0, 0, 0), 5)) := Lib.hid (HINF.out hfin)
        refine (GCplx_no a b _ HX64.out.1 HX64.out.2 hfin (HG.out _ C3.out.low)).mono ?_
        rintro e w4 ⟨rfl, hb⟩
        have C4 := Lib.hid (C3.out.step hb)
        clear hb C3 L3 HINF HNV0 HFA0 HOA0 hfin HCQ HX64
        have HY := Lib.hid ((Blk.put2 C4.out.bR (.complex .f64 0 0) (.float .f64 0)).alloc (.cells #[.bool false, .string ⟨#[]⟩, .int .i64 0, .bool false, .string ⟨#[]⟩, .int .i64 0] 37))
        obtain ⟨qlt, q0, q1, f0, f1⟩ := C4.out.r
        have HLW := Lib.hid C4.out.low
        go_wp2_with fail
        have y0 := (Blk.cell HY.out 0).trans (show _ = some (.complex .f64 0 0 : Value) from rfl)
        have y1 := (Blk.cell HY.out 1).trans (show _ = some (.float .f64 0 : Value) from rfl)
        refine bodyPost_ret (v := .tuple #[.agg #[.complex .f64 0 0, .float .f64 0], .int .i64 5]) (by simp [results, Tryz.results5, go_sem, y0, y1]) rfl ⟨by rw [HV.out], ?_⟩
        have hp := below_put2 HLW.out (show w.heap.size ≤ R by have := HR.out; omega) (.complex .f64 0 0) (.float .f64 0)
        exact hp.alloc (by first | exact hp.size | (have := hp.size; simp at this ⊢; omega)) _
    · have KC := Lib.hid (fun W (hW : Below w.heap.size w W) => VCorn_ok l m y W HL.out HM.out HE.out k1.1 k1.2 (HG.out W hW))
      have KM := Lib.hid (fun W (hW : Below w.heap.size w W) => VMid_no l m y W HL.out HM.out HE.out k2 (HG.out W hW))
      have HV : Hid (cvA l m y = ((0, 0, 0), 4)) := Lib.hid (cvA_long fun c => k2 c.2)
      clear k1 k2
      generalize addD l (pw y) = U at *
      generalize addD m (pw y) = V at *
      go_enter Tryz.func5, Tryz.ntmps5
      go_wp2_with fail
      rw [← HR.out]
      refine (KC.out _ C0.out.low).mono ?_
      rintro e w1 ⟨rfl, hb⟩
      have C1 := Lib.hid ((C0.out.step hb).more (.cells #[.bool l.g, .string (natS l.n), .int .i64 l.x, .bool m.g, .string (natS m.n), .int .i64 m.x, .bool U.g, .string (natS U.n), .int .i64 U.x, .bool m.g, .string (natS m.n), .int .i64 m.x, .bool l.g, .string (natS l.n), .int .i64 l.x, .bool V.g, .string (natS V.n), .int .i64 V.x, .bool U.g, .string (natS U.n), .int .i64 U.x, .bool V.g, .string (natS V.n), .int .i64 V.x] 38))
      clear hb C0 s0 s1 s2 s3 s4 s5 s6 s7
      obtain ⟨s0, s1, s2, s3, s4, s5, s6, s7⟩ := C1.out.s
      go_wp2_with (first | (refine wpList_allocZ rfl 38 rfl #[.bool false, .string ⟨#[]⟩, .int .i64 0, .bool false, .string ⟨#[]⟩, .int .i64 0, .bool false, .string ⟨#[]⟩, .int .i64 0, .bool false, .string ⟨#[]⟩, .int .i64 0, .bool false, .string ⟨#[]⟩, .int .i64 0, .bool false, .string ⟨#[]⟩, .int .i64 0, .bool false, .string ⟨#[]⟩, .int .i64 0, .bool false, .string ⟨#[]⟩, .int .i64 0] hz41 ?_) | (refine wpList_storeNew rfl 38 (Operand.tmp 4) (Operand.tmp 21) rfl w1 #[.bool false, .string ⟨#[]⟩, .int .i64 0, .bool false, .string ⟨#[]⟩, .int .i64 0, .bool false, .string ⟨#[]⟩, .int .i64 0, .bool false, .string ⟨#[]⟩, .int .i64 0, .bool false, .string ⟨#[]⟩, .int .i64 0, .bool false, .string ⟨#[]⟩, .int .i64 0, .bool false, .string ⟨#[]⟩, .int .i64 0, .bool false, .string ⟨#[]⟩, .int .i64 0] #[.bool l.g, .string (natS l.n), .int .i64 l.x, .bool m.g, .string (natS m.n), .int .i64 m.x, .bool U.g, .string (natS U.n), .int .i64 U.x, .bool m.g, .string (natS m.n), .int .i64 m.x, .bool l.g, .string (natS l.n), .int .i64 l.x, .bool V.g, .string (natS V.n), .int .i64 V.x, .bool U.g, .string (natS U.n), .int .i64 U.x, .bool V.g, .string (natS V.n), .int .i64 V.x] ?_ ?_ ?_ ?_ ?_ ?_ ?_; exact rfl; exact rfl; exact rfl; exact HZI.out; exact rfl; exact one24 _ _ _ _ _ _ _ _ _ _ _ _ _ _ _ _ _ _ _ _ _ _ _ _))
      refine (KM.out _ C1.out.low).mono ?_
      rintro e w2 ⟨rfl, hb⟩
      have C2 := Lib.hid (C1.out.step hb)
      clear hb C1 s0 s1 s2 s3 s4 s5 s6 s7
      have HY := Lib.hid ((Blk.put2 C2.out.bR (.complex .f64 0 0) (.float .f64 0)).alloc (.cells #[.bool false, .string ⟨#[]⟩, .int .i64 0, .bool false, .string ⟨#[]⟩, .int .i64 0] 37))
      obtain ⟨qlt, q0, q1, f0, f1⟩ := C2.out.r
      have HLW := Lib.hid C2.out.low
      go_wp2_with fail
      have y0 := (Blk.cell HY.out 0).trans (show _ = some (.complex .f64 0 0 : Value) from rfl)
      have y1 := (Blk.cell HY.out 1).trans (show _ = some (.float .f64 0 : Value) from rfl)
      refine bodyPost_ret (v := .tuple #[.agg #[.complex .f64 0 0, .float .f64 0], .int .i64 4]) (by simp [results, Tryz.results5, go_sem, y0, y1]) rfl ⟨by rw [HV.out], ?_⟩
      have hp := below_put2 HLW.out (show w.heap.size ≤ R by have := HR.out; omega) (.complex .f64 0 0) (.float .f64 0)
      exact hp.alloc (by first | exact hp.size | (have := hp.size; simp at this ⊢; omega)) _
  · have KC := Lib.hid (fun W (hW : Below w.heap.size w W) => VCorn_no l m y W HL.out HM.out HE.out k1 (HG.out W hW))
    have HV : Hid (cvA l m y = ((0, 0, 0), 4)) := Lib.hid (cvA_long fun c => k1 c.1)
    clear k1
    go_enter Tryz.func5, Tryz.ntmps5
    go_wp2_with fail
    rw [← HR.out]
    refine (KC.out _ C0.out.low).mono ?_
    rintro e w1 ⟨rfl, hb⟩
    have C1 := Lib.hid (C0.out.step hb)
    clear hb C0 s0 s1 s2 s3 s4 s5 s6 s7
    have HY := Lib.hid ((Blk.put2 C1.out.bR (.complex .f64 0 0) (.float .f64 0)).alloc (.cells #[.bool false, .string ⟨#[]⟩, .int .i64 0, .bool false, .string ⟨#[]⟩, .int .i64 0, .bool false, .string ⟨#[]⟩, .int .i64 0, .bool false, .string ⟨#[]⟩, .int .i64 0, .bool false, .string ⟨#[]⟩, .int .i64 0, .bool false, .string ⟨#[]⟩, .int .i64 0, .bool false, .string ⟨#[]⟩, .int .i64 0, .bool false, .string ⟨#[]⟩, .int .i64 0] 38))
    obtain ⟨qlt, q0, q1, f0, f1⟩ := C1.out.r
    have HLW := Lib.hid C1.out.low
    go_wp2_with (first | (refine wpList_allocZ rfl 38 rfl #[.bool false, .string ⟨#[]⟩, .int .i64 0, .bool false, .string ⟨#[]⟩, .int .i64 0, .bool false, .string ⟨#[]⟩, .int .i64 0, .bool false, .string ⟨#[]⟩, .int .i64 0, .bool false, .string ⟨#[]⟩, .int .i64 0, .bool false, .string ⟨#[]⟩, .int .i64 0, .bool false, .string ⟨#[]⟩, .int .i64 0, .bool false, .string ⟨#[]⟩, .int .i64 0] hz41 ?_) | (refine wpList_storeNew rfl 38 (Operand.tmp 4) (Operand.tmp 21) rfl w1 #[.bool false, .string ⟨#[]⟩, .int .i64 0, .bool false, .string ⟨#[]⟩, .int .i64 0, .bool false, .string ⟨#[]⟩, .int .i64 0, .bool false, .string ⟨#[]⟩, .int .i64 0, .bool false, .string ⟨#[]⟩, .int .i64 0, .bool false, .string ⟨#[]⟩, .int .i64 0, .bool false, .string ⟨#[]⟩, .int .i64 0, .bool false, .string ⟨#[]⟩, .int .i64 0] #[.bool false, .string ⟨#[]⟩, .int .i64 0, .bool false, .string ⟨#[]⟩, .int .i64 0, .bool false, .string ⟨#[]⟩, .int .i64 0, .bool false, .string ⟨#[]⟩, .int .i64 0, .bool false, .string ⟨#[]⟩, .int .i64 0, .bool false, .string ⟨#[]⟩, .int .i64 0, .bool false, .string ⟨#[]⟩, .int .i64 0, .bool false, .string ⟨#[]⟩, .int .i64 0] ?_ ?_ ?_ ?_ ?_ ?_ ?_; exact rfl; exact rfl; exact rfl; exact HZI.out; exact rfl; exact one24 _ _ _ _ _ _ _ _ _ _ _ _ _ _ _ _ _ _ _ _ _ _ _ _))
    have y0 := (Blk.cell HY.out 0).trans (show _ = some (.complex .f64 0 0 : Value) from rfl)
    have y1 := (Blk.cell HY.out 1).trans (show _ = some (.float .f64 0 : Value) from rfl)
    refine bodyPost_ret (v := .tuple #[.agg #[.complex .f64 0 0, .float .f64 0], .int .i64 4]) (by simp [results, Tryz.results5, go_sem, y0, y1]) rfl ⟨by rw [HV.out], ?_⟩
    have hp := below_put2 HLW.out (show w.heap.size ≤ R by have := HR.out; omega) (.complex .f64 0 0) (.float .f64 0)
    exact hp.alloc (by first | exact hp.size | (have := hp.size; simp at this ⊢; omega)) _
end Go.Proofs.YtmjjodficjjehabGreatDoor
namespace Go.Proofs.YtmjjodficjjehabGreatDoor
open Go Go.RowKit Nt
attribute [local go_sem] store_cplx store_flt
set_option maxRecDepth 100000 in
theorem same24_c (x : Nat) (w : World) : Calls Tryz.prog 22 #[.float .f64 x, .float .f64 x] w fun e w' => e = .returned (.bool true) ∧ Below w.heap.size w w' := by
  have h31 := Bt.ext_bits
  go_enter Tryz.func22, Tryz.ntmps22
  go_wp2_with fail
  go_ret
  exact ⟨rfl, Below.refl _ _⟩
set_option maxRecDepth 100000 in
theorem bits24_c (a b r : Nat) (w : World) : Calls Tryz.prog 6 #[.agg #[.complex .f64 a b, .float .f64 r], .agg #[.complex .f64 a b, .float .f64 r]] w fun e w' => e = .returned (.bool true) ∧ Below w.heap.size w w' := by
  have K := Lib.hid same24_c
  have hb0 := ((Below.refl w.heap.size w).alloc (Nat.le_refl _) (.cells #[.complex .f64 a b, .float .f64 r] 31)).alloc (by simp) (.cells #[.complex .f64 a b, .float .f64 r] 31)
  have B0 := (Blk.new w 31 #[.complex .f64 a b, .float .f64 r]).alloc (.cells #[.complex .f64 a b, .float .f64 r] 31)
  have B1 := Blk.new (w.alloc (.cells #[.complex .f64 a b, .float .f64 r] 31)) 31 #[.complex .f64 a b, .float .f64 r]
  rw [World.size_alloc] at B1
  have H0 := Lib.hid hb0
  have HB0 := Lib.hid B0
  have HB1 := Lib.hid B1
  clear hb0 B0 B1
  have u0 := Blk.lt HB0.out
  have u1 := (Blk.cell HB0.out 0).trans (show _ = some (.complex .f64 a b : Value) from rfl)
  have u2 := (Blk.cell HB0.out 1).trans (show _ = some (.float .f64 r : Value) from rfl)
  have v0 := Blk.lt HB1.out
  have v1 := (Blk.cell HB1.out 0).trans (show _ = some (.complex .f64 a b : Value) from rfl)
  have v2 := (Blk.cell HB1.out 1).trans (show _ = some (.float .f64 r : Value) from rfl)
  go_enter Tryz.func6, Tryz.ntmps6
  go_wp2_with fail
  generalize ((w.alloc (.cells #[.complex .f64 a b, .float .f64 r] 31)).alloc (.cells #[.complex .f64 a b, .float .f64 r] 31)) = W0 at *
  refine (K.out _ _).mono ?_
  rintro e w1 ⟨rfl, hb⟩
  have H1 := Lib.hid (below_chain H0.out hb)
  have HC1 := Lib.hid (Blk.below HB0.out hb (Blk.lt HB0.out))
  have HD1 := Lib.hid (Blk.below HB1.out hb (Blk.lt HB1.out))
  clear hb u0 u1 u2 v0 v1 v2
  have u0 := Blk.lt HC1.out
  have u1 := (Blk.cell HC1.out 0).trans (show _ = some (.complex .f64 a b : Value) from rfl)
  have u2 := (Blk.cell HC1.out 1).trans (show _ = some (.float .f64 r : Value) from rfl)
  have v0 := Blk.lt HD1.out
  have v1 := (Blk.cell HD1.out 0).trans (show _ = some (.complex .f64 a b : Value) from rfl)
  have v2 := (Blk.cell HD1.out 1).trans (show _ = some (.float .f64 r : Value) from rfl)
  go_wp2_with fail
  refine (K.out _ _).mono ?_
  rintro e w2 ⟨rfl, hb⟩
  have H2 := Lib.hid (below_chain H1.out hb)
  have HC2 := Lib.hid (Blk.below HC1.out hb (Blk.lt HC1.out))
  have HD2 := Lib.hid (Blk.below HD1.out hb (Blk.lt HD1.out))
  clear hb u0 u1 u2 v0 v1 v2
  have u0 := Blk.lt HC2.out
  have u1 := (Blk.cell HC2.out 0).trans (show _ = some (.complex .f64 a b : Value) from rfl)
  have u2 := (Blk.cell HC2.out 1).trans (show _ = some (.float .f64 r : Value) from rfl)
  have v0 := Blk.lt HD2.out
  have v1 := (Blk.cell HD2.out 0).trans (show _ = some (.complex .f64 a b : Value) from rfl)
  have v2 := (Blk.cell HD2.out 1).trans (show _ = some (.float .f64 r : Value) from rfl)
  go_wp2_with fail
  refine (K.out _ _).mono ?_
  rintro e w3 ⟨rfl, hb⟩
  have H3 := Lib.hid (below_chain H2.out hb)
  have HC3 := Lib.hid (Blk.below HC2.out hb (Blk.lt HC2.out))
  have HD3 := Lib.hid (Blk.below HD2.out hb (Blk.lt HD2.out))
  clear hb u0 u1 u2 v0 v1 v2
  have u0 := Blk.lt HC3.out
  have u1 := (Blk.cell HC3.out 0).trans (show _ = some (.complex .f64 a b : Value) from rfl)
  have u2 := (Blk.cell HC3.out 1).trans (show _ = some (.float .f64 r : Value) from rfl)
  have v0 := Blk.lt HD3.out
  have v1 := (Blk.cell HD3.out 0).trans (show _ = some (.complex .f64 a b : Value) from rfl)
  have v2 := (Blk.cell HD3.out 1).trans (show _ = some (.float .f64 r : Value) from rfl)
  go_wp2_with fail
  go_ret
  exact ⟨rfl, H3.out⟩
end Go.Proofs.YtmjjodficjjehabGreatDoor
namespace Go.Proofs.YtmjjodficjjehabGreatDoor
open Go Go.RowKit Nt
@[reducible] def VCover_w_f : FuncId := 5
@[reducible] def VCover_w_a : List AV := [.agg [.sym 0, .sym 1, .sym 2, .sym 3, .sym 4, .sym 5, .sym 6]]
@[reducible] noncomputable def VCover_w_k : Know := ⟨[],
  [(23, [.agg [.sym 0, .sym 1, .sym 2, .sym 3, .sym 4, .sym 5, .sym 6]], .lit (.int .i64 240))]⟩
theorem VCover_w_r1 : @comes VCover_w_k Tryz.prog glT 3000 VCover_w_f VCover_w_a = some (.lit (.tuple #[.agg #[.complex .f64 0 0, .float .f64 0], .int .i64 240])) := by kernel_rfl
set_option maxRecDepth 100000 in
set_option maxHeartbeats 4000000 in
theorem VCover_w (p q : Dt) (y : Int) (w : World) (hn : True) (HC : ∀ w, Globs glT w → Calls Tryz.prog 23 #[.agg #[.bool p.g, .string p.s, .int .i64 p.x, .bool q.g, .string q.s, .int .i64 q.x, .int .i64 y]] w fun e w' => e = .returned (.int .i64 240) ∧ Below w.heap.size w w') (hG : Globs glT w) : Calls Tryz.prog 5 #[.agg #[.bool p.g, .string p.s, .int .i64 p.x, .bool q.g, .string q.s, .int .i64 q.x, .int .i64 y]] w fun e w' => e = .returned (.tuple #[.agg #[.complex .f64 0 0, .float .f64 0], .int .i64 240]) ∧ Below w.heap.size w w' := by
  letI : Env := mkEnv glT [.bool p.g, .string p.s, .int .i64 p.x, .bool q.g, .string q.s, .int .i64 q.x, .int .i64 y] rfl
  have hops : OpsT Tryz.prog (@Know.ops VCover_w_k) := trivial
  have hcalls : CallsT Tryz.prog (@Know.calls VCover_w_k) := ⟨callt rfl rfl fun w hG => HC w hG,
    trivial⟩
  have fin : ∀ v, @comes VCover_w_k Tryz.prog glT 3000 VCover_w_f VCover_w_a = some v → ground v = true → Ending.returned (gval v) = .returned (.tuple #[.agg #[.complex .f64 0 0, .float .f64 0], .int .i64 240]) → Calls Tryz.prog 5 #[.agg #[.bool p.g, .string p.s, .int .i64 p.x, .bool q.g, .string q.s, .int .i64 q.x, .int .i64 y]] w fun e w' => e = .returned (.tuple #[.agg #[.complex .f64 0 0, .float .f64 0], .int .i64 240]) ∧ Below w.heap.size w w' := fun v h1 h2 h3 => (@sym_ok _ VCover_w_k _ (@KnowOk.of _ VCover_w_k _ hops hcalls) (by kernel_rfl) _ _ _ _ h1 rfl h2 _ hG).mono fun e w' h => ⟨h.1.trans h3, h.2⟩
  clear hops hcalls
  exact fin _ (VCover_w_r1) rfl rfl
end Go.Proofs.YtmjjodficjjehabGreatDoor
