/- Texts put together: D65 D66 D69 D70 Post DP. -/
import Derived.Test.YtjkonfopajihdaaDoorQ7
import Derived.Test.YtjkonfopajihdaaDoorQ4
import Derived.Below
import Derived.ChangeSame
import Derived.Test.YtjkonfopajihdaaDoorRows
import Derived.ProofKit
import Derived.Lib.SmallJoins
import Derived.OpenShut
import Derived.ShutString
set_option linter.unusedVariables false
set_option linter.unusedSimpArgs false
namespace Go.Proofs.YtjkonfopajihdaaDoor
open Go Go.RowKit Nt


theorem natS_not {n : Nat} (h : n ≠ 0) : ¬ natS n = ⟨#[]⟩ := fun c => by
  have := congrArg ByteArray.size c
  rw [natS_size] at this
  exact h ((nd_eq_zero (by omega)).1 this)
theorem pk_small (m : Nat) (n : Nat) (x : Int) (h : m ≤ 9007199254740992) : pk m (rQ n x) < 9223372036854775808 := by
  have := pk_lt h (rQ_b n x).2; omega
theorem rAround_i (g : Bool) (n : Nat) (x : Int) (w : World) (hn : (Dy.mk g n x).Num) {b : Bool} (hb : b = true ↔ (rM n x % 2 == 0) = true) :
    Calls Tryd.prog 73 #[.agg #[.bool g, .string (natS n), .int .i64 x]] w fun e w' => e = .returned (.tuple #[.float .f64 (pk (rM n x) (rQ n x)), .float .f64 (pk (rM n x + 1) (rQ n x)), .int .i64 (rW n x), .bool b]) ∧ Below w.heap.size w w' := by
  have := rAround_c g n x w hn
  unfold ArPost at this
  rw [Bool.eq_iff_iff.2 hb]; exact this
theorem rSigned_r (g : Bool) (x : Nat) (w : World) (h : x < 9223372036854775808) :
    Calls Tryd.prog 74 #[.bool g, .float .f64 x] w fun e w' => e = .returned (.float .f64 (Bt.wf g x)) ∧ Below w.heap.size w w' := by
  refine (rSigned3_c g x w h).mono ?_
  rintro e w' ⟨h1, rfl⟩
  exact ⟨h1, Below.refl _ _⟩

@[reducible] def rNear_f_f : FuncId := 33
@[reducible] def rNear_f_a : List AV := [.agg [.lit (.bool false), .sym 0, .sym 1]]
@[reducible] noncomputable def rNear_f_k (b1 b2 b3 b4 b5 : Bool) : Know := ⟨[([0, 11, 22], [.sym 0, .lit (.string ⟨#[]⟩)], .lit (.bool b1)),
  ([0, 16, 3], [.sym 5, .lit (.int .i64 1024)], .lit (.bool b3)),
  ([0, 13, 3], [.sym 4, .lit (.int .i64 2)], .lit (.bool b4)),
  ([0, 11, 3], [.sym 4, .lit (.int .i64 2)], .lit (.bool b5))],
  [(73, [.agg [.lit (.bool false), .sym 0, .sym 1]], .tup [.sym 2, .sym 3, .sym 4, .lit (.bool b2)]),
  (20, [.agg [.lit (.bool false), .sym 0, .sym 1]], .tup [.sym 5, .lit (.bool true)]),
  (74, [.lit (.bool false), .sym 3], .sym 6),
  (74, [.lit (.bool false), .sym 2], .sym 7)]⟩
theorem rNear_f_r1 (b2 b4 b5 : Bool) : @comes (rNear_f_k false b2 true b4 b5) Tryd.prog glT 3000 rNear_f_f rNear_f_a = some (.sym 6) := by kernel_rfl
theorem rNear_f_r2 (b2 b5 : Bool) : @comes (rNear_f_k false b2 false true b5) Tryd.prog glT 3000 rNear_f_f rNear_f_a = some (.sym 7) := by kernel_rfl
theorem rNear_f_r3 : @comes (rNear_f_k false true false false true) Tryd.prog glT 3000 rNear_f_f rNear_f_a = some (.sym 7) := by kernel_rfl
theorem rNear_f_r4 : @comes (rNear_f_k false false false false true) Tryd.prog glT 3000 rNear_f_f rNear_f_a = some (.sym 6) := by kernel_rfl
theorem rNear_f_r5 (b2 : Bool) : @comes (rNear_f_k false b2 false false false) Tryd.prog glT 3000 rNear_f_f rNear_f_a = some (.sym 6) := by kernel_rfl

set_option maxRecDepth 100000 in
set_option maxHeartbeats 4000000 in
theorem rNear_f (n : Nat) (x : Int) (w : World) (hn : (Dy.mk false n x).Num) (hG : Globs glT w) : Calls Tryd.prog 33 #[.agg #[.bool false, .string (natS n), .int .i64 x]] w fun e w' => e = .returned (.float .f64 (rnd false n x (upNear n x))) ∧ Below w.heap.size w w' := by
  obtain ⟨b1, i1⟩ := bex (natS n = ⟨#[]⟩)
  obtain ⟨b2, i2⟩ := bex ((rM n x % 2 == 0) = true)
  obtain ⟨b3, i3⟩ := bex (rT n x ≥ 1024)
  obtain ⟨b4, i4⟩ := bex (rW n x < 2)
  obtain ⟨b5, i5⟩ := bex (rW n x = 2)
  letI : Env := mkEnv glT [.string (natS n), .int .i64 x, .float .f64 (pk (rM n x) (rQ n x)), .float .f64 (pk (rM n x + 1) (rQ n x)), .int .i64 (rW n x), .int .i64 (rT n x), .float .f64 (Bt.wf false (pk (rM n x + 1) (rQ n x))), .float .f64 (Bt.wf false (pk (rM n x) (rQ n x)))] rfl
  have hops : OpsT Tryd.prog (@Know.ops (rNear_f_k b1 b2 b3 b4 b5)) := ⟨optS_eql_i rfl rfl i1,
    opt_geq_i rfl rfl i3,
    opt_lss_i rfl rfl i4,
    opt_eql_i rfl rfl i5,
    trivial⟩
  have hcalls : CallsT Tryd.prog (@Know.calls (rNear_f_k b1 b2 b3 b4 b5)) := ⟨callt rfl rfl fun w hG => rAround_i false n x w hn i2,
    callt rfl rfl fun w hG => rTop_r false n x w hn,
    callt rfl rfl fun w hG => rSigned_r false (pk (rM n x + 1) (rQ n x)) w (pk_small _ n x (by have : rM n x < 9007199254740992 := (rM_b (x := x) (odd_ne hn.2.1)).1; omega)),
    callt rfl rfl fun w hG => rSigned_r false (pk (rM n x) (rQ n x)) w (pk_small _ n x (by have : rM n x < 9007199254740992 := (rM_b (x := x) (odd_ne hn.2.1)).1; omega)),
    trivial⟩
  have fin : ∀ v, @comes (rNear_f_k b1 b2 b3 b4 b5) Tryd.prog glT 3000 rNear_f_f rNear_f_a = some v → ground v = true → Ending.returned (gval v) = .returned (.float .f64 (rnd false n x (upNear n x))) → Calls Tryd.prog 33 #[.agg #[.bool false, .string (natS n), .int .i64 x]] w fun e w' => e = .returned (.float .f64 (rnd false n x (upNear n x))) ∧ Below w.heap.size w w' := fun v h1 h2 h3 => (@sym_ok _ (rNear_f_k b1 b2 b3 b4 b5) _ (@KnowOk.of _ (rNear_f_k b1 b2 b3 b4 b5) _ hops hcalls) (by kernel_rfl) _ _ _ _ h1 rfl h2 _ hG).mono fun e w' h => ⟨h.1.trans h3, h.2⟩
  clear hops hcalls
  cases b1 with
  | true =>
    exact absurd (i1.1 rfl) (natS_not (odd_ne hn.2.1))
  | false =>
    have h1 : ¬ (natS n = ⟨#[]⟩) := fun c => Bool.false_ne_true (i1.2 c)
    cases b3 with
    | true =>
      have h3 : rT n x ≥ 1024 := i3.1 rfl
      exact fin _ (rNear_f_r1 b2 b4 b5) rfl (show Ending.returned (.float .f64 (Bt.wf false (pk (rM n x + 1) (rQ n x)))) = .returned (.float .f64 (rnd false n x (upNear n x))) from by rw [upNear_t (Or.inl (rQ_far (show 1024 ≤ rT n x from h3)).2.2), rnd_t])
    | false =>
      have h3 : ¬ (rT n x ≥ 1024) := fun c => Bool.false_ne_true (i3.2 c)
      cases b4 with
      | true =>
        have h4 : rW n x < 2 := i4.1 rfl
        exact fin _ (rNear_f_r2 b2 b5) rfl (show Ending.returned (.float .f64 (Bt.wf false (pk (rM n x) (rQ n x)))) = .returned (.float .f64 (rnd false n x (upNear n x))) from by rw [upNear_f (by have := h4; omega), rnd_f])
      | false =>
        have h4 : ¬ (rW n x < 2) := fun c => Bool.false_ne_true (i4.2 c)
        cases b5 with
        | true =>
          have h5 : rW n x = 2 := i5.1 rfl
          cases b2 with
          | true =>
            have h2 : (rM n x % 2 == 0) = true := i2.1 rfl
            exact fin _ (rNear_f_r3) rfl (show Ending.returned (.float .f64 (Bt.wf false (pk (rM n x) (rQ n x)))) = .returned (.float .f64 (rnd false n x (upNear n x))) from by rw [upNear_f (by have := h5; have := beq_iff_eq.1 h2; omega), rnd_f])
          | false =>
            have h2 : ¬ ((rM n x % 2 == 0) = true) := fun c => Bool.false_ne_true (i2.2 c)
            exact fin _ (rNear_f_r4) rfl (show Ending.returned (.float .f64 (Bt.wf false (pk (rM n x + 1) (rQ n x)))) = .returned (.float .f64 (rnd false n x (upNear n x))) from by rw [upNear_t (by have := h5; have := mt beq_iff_eq.2 h2; omega), rnd_t])
        | false =>
          have h5 : ¬ (rW n x = 2) := fun c => Bool.false_ne_true (i5.2 c)
          exact fin _ (rNear_f_r5 b2) rfl (show Ending.returned (.float .f64 (Bt.wf false (pk (rM n x + 1) (rQ n x)))) = .returned (.float .f64 (rnd false n x (upNear n x))) from by rw [upNear_t (by have := rW_b (n := n) (x := x); have := h4; have := h5; omega), rnd_t])

@[reducible] def rNear_t_f : FuncId := 33
@[reducible] def rNear_t_a : List AV := [.agg [.lit (.bool true), .sym 0, .sym 1]]
@[reducible] noncomputable def rNear_t_k (b1 b2 b3 b4 b5 : Bool) : Know := ⟨[([0, 11, 22], [.sym 0, .lit (.string ⟨#[]⟩)], .lit (.bool b1)),
  ([0, 16, 3], [.sym 5, .lit (.int .i64 1024)], .lit (.bool b3)),
  ([0, 13, 3], [.sym 4, .lit (.int .i64 2)], .lit (.bool b4)),
  ([0, 11, 3], [.sym 4, .lit (.int .i64 2)], .lit (.bool b5))],
  [(73, [.agg [.lit (.bool true), .sym 0, .sym 1]], .tup [.sym 2, .sym 3, .sym 4, .lit (.bool b2)]),
  (20, [.agg [.lit (.bool true), .sym 0, .sym 1]], .tup [.sym 5, .lit (.bool true)]),
  (74, [.lit (.bool true), .sym 3], .sym 6),
  (74, [.lit (.bool true), .sym 2], .sym 7)]⟩
theorem rNear_t_r1 (b2 b4 b5 : Bool) : @comes (rNear_t_k false b2 true b4 b5) Tryd.prog glT 3000 rNear_t_f rNear_t_a = some (.sym 6) := by kernel_rfl
theorem rNear_t_r2 (b2 b5 : Bool) : @comes (rNear_t_k false b2 false true b5) Tryd.prog glT 3000 rNear_t_f rNear_t_a = some (.sym 7) := by kernel_rfl
theorem rNear_t_r3 : @comes (rNear_t_k false true false false true) Tryd.prog glT 3000 rNear_t_f rNear_t_a = some (.sym 7) := by kernel_rfl
theorem rNear_t_r4 : @comes (rNear_t_k false false false false true) Tryd.prog glT 3000 rNear_t_f rNear_t_a = some (.sym 6) := by kernel_rfl
theorem rNear_t_r5 (b2 : Bool) : @comes (rNear_t_k false b2 false false false) Tryd.prog glT 3000 rNear_t_f rNear_t_a = some (.sym 6) := by kernel_rfl

set_option maxRecDepth 100000 in
set_option maxHeartbeats 4000000 in
theorem rNear_t (n : Nat) (x : Int) (w : World) (hn : (Dy.mk true n x).Num) (hG : Globs glT w) : Calls Tryd.prog 33 #[.agg #[.bool true, .string (natS n), .int .i64 x]] w fun e w' => e = .returned (.float .f64 (rnd true n x (upNear n x))) ∧ Below w.heap.size w w' := by
  obtain ⟨b1, i1⟩ := bex (natS n = ⟨#[]⟩)
  obtain ⟨b2, i2⟩ := bex ((rM n x % 2 == 0) = true)
  obtain ⟨b3, i3⟩ := bex (rT n x ≥ 1024)
  obtain ⟨b4, i4⟩ := bex (rW n x < 2)
  obtain ⟨b5, i5⟩ := bex (rW n x = 2)
  letI : Env := mkEnv glT [.string (natS n), .int .i64 x, .float .f64 (pk (rM n x) (rQ n x)), .float .f64 (pk (rM n x + 1) (rQ n x)), .int .i64 (rW n x), .int .i64 (rT n x), .float .f64 (Bt.wf true (pk (rM n x + 1) (rQ n x))), .float .f64 (Bt.wf true (pk (rM n x) (rQ n x)))] rfl
  have hops : OpsT Tryd.prog (@Know.ops (rNear_t_k b1 b2 b3 b4 b5)) := ⟨optS_eql_i rfl rfl i1,
    opt_geq_i rfl rfl i3,
    opt_lss_i rfl rfl i4,
    opt_eql_i rfl rfl i5,
    trivial⟩
  have hcalls : CallsT Tryd.prog (@Know.calls (rNear_t_k b1 b2 b3 b4 b5)) := ⟨callt rfl rfl fun w hG => rAround_i true n x w hn i2,
    callt rfl rfl fun w hG => rTop_r true n x w hn,
    callt rfl rfl fun w hG => rSigned_r true (pk (rM n x + 1) (rQ n x)) w (pk_small _ n x (by have : rM n x < 9007199254740992 := (rM_b (x := x) (odd_ne hn.2.1)).1; omega)),
    callt rfl rfl fun w hG => rSigned_r true (pk (rM n x) (rQ n x)) w (pk_small _ n x (by have : rM n x < 9007199254740992 := (rM_b (x := x) (odd_ne hn.2.1)).1; omega)),
    trivial⟩
  have fin : ∀ v, @comes (rNear_t_k b1 b2 b3 b4 b5) Tryd.prog glT 3000 rNear_t_f rNear_t_a = some v → ground v = true → Ending.returned (gval v) = .returned (.float .f64 (rnd true n x (upNear n x))) → Calls Tryd.prog 33 #[.agg #[.bool true, .string (natS n), .int .i64 x]] w fun e w' => e = .returned (.float .f64 (rnd true n x (upNear n x))) ∧ Below w.heap.size w w' := fun v h1 h2 h3 => (@sym_ok _ (rNear_t_k b1 b2 b3 b4 b5) _ (@KnowOk.of _ (rNear_t_k b1 b2 b3 b4 b5) _ hops hcalls) (by kernel_rfl) _ _ _ _ h1 rfl h2 _ hG).mono fun e w' h => ⟨h.1.trans h3, h.2⟩
  clear hops hcalls
  cases b1 with
  | true =>
    exact absurd (i1.1 rfl) (natS_not (odd_ne hn.2.1))
  | false =>
    have h1 : ¬ (natS n = ⟨#[]⟩) := fun c => Bool.false_ne_true (i1.2 c)
    cases b3 with
    | true =>
      have h3 : rT n x ≥ 1024 := i3.1 rfl
      exact fin _ (rNear_t_r1 b2 b4 b5) rfl (show Ending.returned (.float .f64 (Bt.wf true (pk (rM n x + 1) (rQ n x)))) = .returned (.float .f64 (rnd true n x (upNear n x))) from by rw [upNear_t (Or.inl (rQ_far (show 1024 ≤ rT n x from h3)).2.2), rnd_t])
    | false =>
      have h3 : ¬ (rT n x ≥ 1024) := fun c => Bool.false_ne_true (i3.2 c)
      cases b4 with
      | true =>
        have h4 : rW n x < 2 := i4.1 rfl
        exact fin _ (rNear_t_r2 b2 b5) rfl (show Ending.returned (.float .f64 (Bt.wf true (pk (rM n x) (rQ n x)))) = .returned (.float .f64 (rnd true n x (upNear n x))) from by rw [upNear_f (by have := h4; omega), rnd_f])
      | false =>
        have h4 : ¬ (rW n x < 2) := fun c => Bool.false_ne_true (i4.2 c)
        cases b5 with
        | true =>
          have h5 : rW n x = 2 := i5.1 rfl
          cases b2 with
          | true =>
            have h2 : (rM n x % 2 == 0) = true := i2.1 rfl
            exact fin _ (rNear_t_r3) rfl (show Ending.returned (.float .f64 (Bt.wf true (pk (rM n x) (rQ n x)))) = .returned (.float .f64 (rnd true n x (upNear n x))) from by rw [upNear_f (by have := h5; have := beq_iff_eq.1 h2; omega), rnd_f])
          | false =>
            have h2 : ¬ ((rM n x % 2 == 0) = true) := fun c => Bool.false_ne_true (i2.2 c)
            exact fin _ (rNear_t_r4) rfl (show Ending.returned (.float .f64 (Bt.wf true (pk (rM n x + 1) (rQ n x)))) = .returned (.float .f64 (rnd true n x (upNear n x))) from by rw [upNear_t (by have := h5; have := mt beq_iff_eq.2 h2; omega), rnd_t])
        | false =>
          have h5 : ¬ (rW n x = 2) := fun c => Bool.false_ne_true (i5.2 c)
          exact fin _ (rNear_t_r5 b2) rfl (show Ending.returned (.float .f64 (Bt.wf true (pk (rM n x + 1) (rQ n x)))) = .returned (.float .f64 (rnd true n x (upNear n x))) from by rw [upNear_t (by have := rW_b (n := n) (x := x); have := h4; have := h5; omega), rnd_t])

@[reducible] def rAbove_f_f : FuncId := 35
@[reducible] def rAbove_f_a : List AV := [.agg [.lit (.bool false), .sym 0, .sym 1]]
@[reducible] noncomputable def rAbove_f_k (b1 b2 b3 : Bool) : Know := ⟨[([0, 11, 22], [.sym 0, .lit (.string ⟨#[]⟩)], .lit (.bool b1)),
  ([0, 15, 3], [.sym 4, .lit (.int .i64 0)], .lit (.bool b3))],
  [(73, [.agg [.lit (.bool false), .sym 0, .sym 1]], .tup [.sym 2, .sym 3, .sym 4, .lit (.bool b2)]),
  (74, [.lit (.bool false), .sym 2], .sym 5)]⟩
theorem rAbove_f_r1 (b2 : Bool) : @comes (rAbove_f_k false b2 true) Tryd.prog glT 3000 rAbove_f_f rAbove_f_a = some (.sym 3) := by kernel_rfl
theorem rAbove_f_r2 (b2 : Bool) : @comes (rAbove_f_k false b2 false) Tryd.prog glT 3000 rAbove_f_f rAbove_f_a = some (.sym 5) := by kernel_rfl

set_option maxRecDepth 100000 in
set_option maxHeartbeats 4000000 in
theorem rAbove_f (n : Nat) (x : Int) (w : World) (hn : (Dy.mk false n x).Num) (hG : Globs glT w) : Calls Tryd.prog 35 #[.agg #[.bool false, .string (natS n), .int .i64 x]] w fun e w' => e = .returned (.float .f64 (rnd false n x (upAbove false n x))) ∧ Below w.heap.size w w' := by
  obtain ⟨b1, i1⟩ := bex (natS n = ⟨#[]⟩)
  obtain ⟨b2, i2⟩ := bex ((rM n x % 2 == 0) = true)
  obtain ⟨b3, i3⟩ := bex (rW n x > 0)
  letI : Env := mkEnv glT [.string (natS n), .int .i64 x, .float .f64 (pk (rM n x) (rQ n x)), .float .f64 (pk (rM n x + 1) (rQ n x)), .int .i64 (rW n x), .float .f64 (Bt.wf false (pk (rM n x) (rQ n x)))] rfl
  have hops : OpsT Tryd.prog (@Know.ops (rAbove_f_k b1 b2 b3)) := ⟨optS_eql_i rfl rfl i1,
    opt_gtr_i rfl rfl i3,
    trivial⟩
  have hcalls : CallsT Tryd.prog (@Know.calls (rAbove_f_k b1 b2 b3)) := ⟨callt rfl rfl fun w hG => rAround_i false n x w hn i2,
    callt rfl rfl fun w hG => rSigned_r false (pk (rM n x) (rQ n x)) w (pk_small _ n x (by have : rM n x < 9007199254740992 := (rM_b (x := x) (odd_ne hn.2.1)).1; omega)),
    trivial⟩
  have fin : ∀ v, @comes (rAbove_f_k b1 b2 b3) Tryd.prog glT 3000 rAbove_f_f rAbove_f_a = some v → ground v = true → Ending.returned (gval v) = .returned (.float .f64 (rnd false n x (upAbove false n x))) → Calls Tryd.prog 35 #[.agg #[.bool false, .string (natS n), .int .i64 x]] w fun e w' => e = .returned (.float .f64 (rnd false n x (upAbove false n x))) ∧ Below w.heap.size w w' := fun v h1 h2 h3 => (@sym_ok _ (rAbove_f_k b1 b2 b3) _ (@KnowOk.of _ (rAbove_f_k b1 b2 b3) _ hops hcalls) (by kernel_rfl) _ _ _ _ h1 rfl h2 _ hG).mono fun e w' h => ⟨h.1.trans h3, h.2⟩
  clear hops hcalls
  cases b1 with
  | true =>
    exact absurd (i1.1 rfl) (natS_not (odd_ne hn.2.1))
  | false =>
    have h1 : ¬ (natS n = ⟨#[]⟩) := fun c => Bool.false_ne_true (i1.2 c)
    cases b3 with
    | true =>
      have h3 : rW n x > 0 := i3.1 rfl
      exact fin _ (rAbove_f_r1 b2) rfl (show Ending.returned (.float .f64 (pk (rM n x + 1) (rQ n x))) = .returned (.float .f64 (rnd false n x (upAbove false n x))) from by rw [upAbove_t (by have := h3; omega), rnd_t, wf_f])
    | false =>
      have h3 : ¬ (rW n x > 0) := fun c => Bool.false_ne_true (i3.2 c)
      exact fin _ (rAbove_f_r2 b2) rfl (show Ending.returned (.float .f64 (Bt.wf false (pk (rM n x) (rQ n x)))) = .returned (.float .f64 (rnd false n x (upAbove false n x))) from by rw [upAbove_f (by have := rW_b (n := n) (x := x); have := h3; omega), rnd_f])

@[reducible] def rAbove_t_f : FuncId := 35
@[reducible] def rAbove_t_a : List AV := [.agg [.lit (.bool true), .sym 0, .sym 1]]
@[reducible] noncomputable def rAbove_t_k (b1 b2 : Bool) : Know := ⟨[([0, 11, 22], [.sym 0, .lit (.string ⟨#[]⟩)], .lit (.bool b1))],
  [(73, [.agg [.lit (.bool true), .sym 0, .sym 1]], .tup [.sym 2, .sym 3, .sym 4, .lit (.bool b2)]),
  (74, [.lit (.bool true), .sym 2], .sym 5)]⟩
theorem rAbove_t_r1 (b2 : Bool) : @comes (rAbove_t_k false b2) Tryd.prog glT 3000 rAbove_t_f rAbove_t_a = some (.sym 5) := by kernel_rfl

set_option maxRecDepth 100000 in
set_option maxHeartbeats 4000000 in
theorem rAbove_t (n : Nat) (x : Int) (w : World) (hn : (Dy.mk true n x).Num) (hG : Globs glT w) : Calls Tryd.prog 35 #[.agg #[.bool true, .string (natS n), .int .i64 x]] w fun e w' => e = .returned (.float .f64 (rnd true n x (upAbove true n x))) ∧ Below w.heap.size w w' := by
  obtain ⟨b1, i1⟩ := bex (natS n = ⟨#[]⟩)
  obtain ⟨b2, i2⟩ := bex ((rM n x % 2 == 0) = true)
  letI : Env := mkEnv glT [.string (natS n), .int .i64 x, .float .f64 (pk (rM n x) (rQ n x)), .float .f64 (pk (rM n x + 1) (rQ n x)), .int .i64 (rW n x), .float .f64 (Bt.wf true (pk (rM n x) (rQ n x)))] rfl
  have hops : OpsT Tryd.prog (@Know.ops (rAbove_t_k b1 b2)) := ⟨optS_eql_i rfl rfl i1,
    trivial⟩
  have hcalls : CallsT Tryd.prog (@Know.calls (rAbove_t_k b1 b2)) := ⟨callt rfl rfl fun w hG => rAround_i true n x w hn i2,
    callt rfl rfl fun w hG => rSigned_r true (pk (rM n x) (rQ n x)) w (pk_small _ n x (by have : rM n x < 9007199254740992 := (rM_b (x := x) (odd_ne hn.2.1)).1; omega)),
    trivial⟩
  have fin : ∀ v, @comes (rAbove_t_k b1 b2) Tryd.prog glT 3000 rAbove_t_f rAbove_t_a = some v → ground v = true → Ending.returned (gval v) = .returned (.float .f64 (rnd true n x (upAbove true n x))) → Calls Tryd.prog 35 #[.agg #[.bool true, .string (natS n), .int .i64 x]] w fun e w' => e = .returned (.float .f64 (rnd true n x (upAbove true n x))) ∧ Below w.heap.size w w' := fun v h1 h2 h3 => (@sym_ok _ (rAbove_t_k b1 b2) _ (@KnowOk.of _ (rAbove_t_k b1 b2) _ hops hcalls) (by kernel_rfl) _ _ _ _ h1 rfl h2 _ hG).mono fun e w' h => ⟨h.1.trans h3, h.2⟩
  clear hops hcalls
  cases b1 with
  | true =>
    exact absurd (i1.1 rfl) (natS_not (odd_ne hn.2.1))
  | false =>
    have h1 : ¬ (natS n = ⟨#[]⟩) := fun c => Bool.false_ne_true (i1.2 c)
    exact fin _ (rAbove_t_r1 b2) rfl (show Ending.returned (.float .f64 (Bt.wf true (pk (rM n x) (rQ n x)))) = .returned (.float .f64 (rnd true n x (upAbove true n x))) from by rw [upAbove_n n x, rnd_f])

@[reducible] def rBelow_f_f : FuncId := 34
@[reducible] def rBelow_f_a : List AV := [.agg [.lit (.bool false), .sym 0, .sym 1]]
@[reducible] noncomputable def rBelow_f_k (b1 b2 : Bool) : Know := ⟨[([0, 11, 22], [.sym 0, .lit (.string ⟨#[]⟩)], .lit (.bool b1))],
  [(73, [.agg [.lit (.bool false), .sym 0, .sym 1]], .tup [.sym 2, .sym 3, .sym 4, .lit (.bool b2)]),
  (74, [.lit (.bool false), .sym 2], .sym 5)]⟩
theorem rBelow_f_r1 (b2 : Bool) : @comes (rBelow_f_k false b2) Tryd.prog glT 3000 rBelow_f_f rBelow_f_a = some (.sym 5) := by kernel_rfl

set_option maxRecDepth 100000 in
set_option maxHeartbeats 4000000 in
theorem rBelow_f (n : Nat) (x : Int) (w : World) (hn : (Dy.mk false n x).Num) (hG : Globs glT w) : Calls Tryd.prog 34 #[.agg #[.bool false, .string (natS n), .int .i64 x]] w fun e w' => e = .returned (.float .f64 (rnd false n x (upBelow false n x))) ∧ Below w.heap.size w w' := by
  obtain ⟨b1, i1⟩ := bex (natS n = ⟨#[]⟩)
  obtain ⟨b2, i2⟩ := bex ((rM n x % 2 == 0) = true)
  letI : Env := mkEnv glT [.string (natS n), .int .i64 x, .float .f64 (pk (rM n x) (rQ n x)), .float .f64 (pk (rM n x + 1) (rQ n x)), .int .i64 (rW n x), .float .f64 (Bt.wf false (pk (rM n x) (rQ n x)))] rfl
  have hops : OpsT Tryd.prog (@Know.ops (rBelow_f_k b1 b2)) := ⟨optS_eql_i rfl rfl i1,
    trivial⟩
  have hcalls : CallsT Tryd.prog (@Know.calls (rBelow_f_k b1 b2)) := ⟨callt rfl rfl fun w hG => rAround_i false n x w hn i2,
    callt rfl rfl fun w hG => rSigned_r false (pk (rM n x) (rQ n x)) w (pk_small _ n x (by have : rM n x < 9007199254740992 := (rM_b (x := x) (odd_ne hn.2.1)).1; omega)),
    trivial⟩
  have fin : ∀ v, @comes (rBelow_f_k b1 b2) Tryd.prog glT 3000 rBelow_f_f rBelow_f_a = some v → ground v = true → Ending.returned (gval v) = .returned (.float .f64 (rnd false n x (upBelow false n x))) → Calls Tryd.prog 34 #[.agg #[.bool false, .string (natS n), .int .i64 x]] w fun e w' => e = .returned (.float .f64 (rnd false n x (upBelow false n x))) ∧ Below w.heap.size w w' := fun v h1 h2 h3 => (@sym_ok _ (rBelow_f_k b1 b2) _ (@KnowOk.of _ (rBelow_f_k b1 b2) _ hops hcalls) (by kernel_rfl) _ _ _ _ h1 rfl h2 _ hG).mono fun e w' h => ⟨h.1.trans h3, h.2⟩
  clear hops hcalls
  cases b1 with
  | true =>
    exact absurd (i1.1 rfl) (natS_not (odd_ne hn.2.1))
  | false =>
    have h1 : ¬ (natS n = ⟨#[]⟩) := fun c => Bool.false_ne_true (i1.2 c)
    exact fin _ (rBelow_f_r1 b2) rfl (show Ending.returned (.float .f64 (Bt.wf false (pk (rM n x) (rQ n x)))) = .returned (.float .f64 (rnd false n x (upBelow false n x))) from by rw [upBelow_n n x, rnd_f])

@[reducible] def rBelow_t_f : FuncId := 34
@[reducible] def rBelow_t_a : List AV := [.agg [.lit (.bool true), .sym 0, .sym 1]]
@[reducible] noncomputable def rBelow_t_k (b1 b2 b3 : Bool) : Know := ⟨[([0, 11, 22], [.sym 0, .lit (.string ⟨#[]⟩)], .lit (.bool b1)),
  ([0, 15, 3], [.sym 4, .lit (.int .i64 0)], .lit (.bool b3))],
  [(73, [.agg [.lit (.bool true), .sym 0, .sym 1]], .tup [.sym 2, .sym 3, .sym 4, .lit (.bool b2)]),
  (74, [.lit (.bool true), .sym 3], .sym 5),
  (74, [.lit (.bool true), .sym 2], .sym 6)]⟩
theorem rBelow_t_r1 (b2 : Bool) : @comes (rBelow_t_k false b2 true) Tryd.prog glT 3000 rBelow_t_f rBelow_t_a = some (.sym 5) := by kernel_rfl
theorem rBelow_t_r2 (b2 : Bool) : @comes (rBelow_t_k false b2 false) Tryd.prog glT 3000 rBelow_t_f rBelow_t_a = some (.sym 6) := by kernel_rfl

set_option maxRecDepth 100000 in
set_option maxHeartbeats 4000000 in
theorem rBelow_t (n : Nat) (x : Int) (w : World) (hn : (Dy.mk true n x).Num) (hG : Globs glT w) : Calls Tryd.prog 34 #[.agg #[.bool true, .string (natS n), .int .i64 x]] w fun e w' => e = .returned (.float .f64 (rnd true n x (upBelow true n x))) ∧ Below w.heap.size w w' := by
  obtain ⟨b1, i1⟩ := bex (natS n = ⟨#[]⟩)
  obtain ⟨b2, i2⟩ := bex ((rM n x % 2 == 0) = true)
  obtain ⟨b3, i3⟩ := bex (rW n x > 0)
  letI : Env := mkEnv glT [.string (natS n), .int .i64 x, .float .f64 (pk (rM n x) (rQ n x)), .float .f64 (pk (rM n x + 1) (rQ n x)), .int .i64 (rW n x), .float .f64 (Bt.wf true (pk (rM n x + 1) (rQ n x))), .float .f64 (Bt.wf true (pk (rM n x) (rQ n x)))] rfl
  have hops : OpsT Tryd.prog (@Know.ops (rBelow_t_k b1 b2 b3)) := ⟨optS_eql_i rfl rfl i1,
    opt_gtr_i rfl rfl i3,
    trivial⟩
  have hcalls : CallsT Tryd.prog (@Know.calls (rBelow_t_k b1 b2 b3)) := ⟨callt rfl rfl fun w hG => rAround_i true n x w hn i2,
    callt rfl rfl fun w hG => rSigned_r true (pk (rM n x + 1) (rQ n x)) w (pk_small _ n x (by have : rM n x < 9007199254740992 := (rM_b (x := x) (odd_ne hn.2.1)).1; omega)),
    callt rfl rfl fun w hG => rSigned_r true (pk (rM n x) (rQ n x)) w (pk_small _ n x (by have : rM n x < 9007199254740992 := (rM_b (x := x) (odd_ne hn.2.1)).1; omega)),
    trivial⟩
  have fin : ∀ v, @comes (rBelow_t_k b1 b2 b3) Tryd.prog glT 3000 rBelow_t_f rBelow_t_a = some v → ground v = true → Ending.returned (gval v) = .returned (.float .f64 (rnd true n x (upBelow true n x))) → Calls Tryd.prog 34 #[.agg #[.bool true, .string (natS n), .int .i64 x]] w fun e w' => e = .returned (.float .f64 (rnd true n x (upBelow true n x))) ∧ Below w.heap.size w w' := fun v h1 h2 h3 => (@sym_ok _ (rBelow_t_k b1 b2 b3) _ (@KnowOk.of _ (rBelow_t_k b1 b2 b3) _ hops hcalls) (by kernel_rfl) _ _ _ _ h1 rfl h2 _ hG).mono fun e w' h => ⟨h.1.trans h3, h.2⟩
  clear hops hcalls
  cases b1 with
  | true =>
    exact absurd (i1.1 rfl) (natS_not (odd_ne hn.2.1))
  | false =>
    have h1 : ¬ (natS n = ⟨#[]⟩) := fun c => Bool.false_ne_true (i1.2 c)
    cases b3 with
    | true =>
      have h3 : rW n x > 0 := i3.1 rfl
      exact fin _ (rBelow_t_r1 b2) rfl (show Ending.returned (.float .f64 (Bt.wf true (pk (rM n x + 1) (rQ n x)))) = .returned (.float .f64 (rnd true n x (upBelow true n x))) from by rw [upBelow_t (by have := h3; omega), rnd_t])
    | false =>
      have h3 : ¬ (rW n x > 0) := fun c => Bool.false_ne_true (i3.2 c)
      exact fin _ (rBelow_t_r2 b2) rfl (show Ending.returned (.float .f64 (Bt.wf true (pk (rM n x) (rQ n x)))) = .returned (.float .f64 (rnd true n x (upBelow true n x))) from by rw [upBelow_f (by have := rW_b (n := n) (x := x); have := h3; omega), rnd_f])

end Go.Proofs.YtjkonfopajihdaaDoor
set_option linter.unusedVariables false
set_option linter.unusedSimpArgs false
namespace Go.Proofs.YtjkonfopajihdaaDoor
open Go Go.RowKit Nt


set_option maxRecDepth 100000 in
theorem lBits_c (x : Nat) (w : World) : Calls Tryd.prog 32 #[.float .f64 x, .float .f64 x] w fun e w' => e = .returned (.bool true) ∧ Below w.heap.size w w' := by
  have hx := Bt.ext_bits
  have hy : ((x : Int) == (x : Int)) = true := beq_iff_eq.2 rfl
  go_enter Tryd.func32, Tryd.ntmps32
  go_wp2
  go_ret
  exact ⟨rfl, Below.refl _ _⟩
theorem DCheck_bd (t : Dt) (w : World) (zt : t.s.size ≤ 9223372036854775807) (nt : ¬ t.Ok) : Calls Tryd.prog 15 #[.agg #[.bool t.g, .string t.s, .int .i64 t.x]] w fun e w' => e = .returned (.int .i64 2) ∧ Below w.heap.size w w' := by
  have h := DCheck_c t w zt
  rwa [dE_no (List.mem_singleton.2 rfl) nt] at h

@[reducible] def DNear_bad_f : FuncId := 29
@[reducible] def DNear_bad_a : List AV := [.agg [.sym 0, .sym 1, .sym 2]]
@[reducible] noncomputable def DNear_bad_k : Know := ⟨[],
  [(15, [.agg [.sym 0, .sym 1, .sym 2]], .lit (.int .i64 2))]⟩
theorem DNear_bad_r1 : @comes DNear_bad_k Tryd.prog glT 3000 DNear_bad_f DNear_bad_a = some (.lit (.tuple #[.float .f64 0, .int .i64 2])) := by kernel_rfl

set_option maxRecDepth 100000 in
set_option maxHeartbeats 4000000 in
theorem DNear_bad (t : Dt) (w : World) (zt : t.s.size ≤ 9223372036854775807) (nt : ¬ t.Ok) (hG : Globs glT w) : Calls Tryd.prog 29 #[.agg #[.bool t.g, .string t.s, .int .i64 t.x]] w fun e w' => e = .returned (.tuple #[.float .f64 0, .int .i64 2]) ∧ Below w.heap.size w w' := by
  letI : Env := mkEnv glT [.bool t.g, .string t.s, .int .i64 t.x] rfl
  have hops : OpsT Tryd.prog (@Know.ops DNear_bad_k) := trivial
  have hcalls : CallsT Tryd.prog (@Know.calls DNear_bad_k) := ⟨callt rfl rfl fun w hG => DCheck_bd t w zt nt,
    trivial⟩
  have fin : ∀ v, @comes DNear_bad_k Tryd.prog glT 3000 DNear_bad_f DNear_bad_a = some v → ground v = true → Ending.returned (gval v) = .returned (.tuple #[.float .f64 0, .int .i64 2]) → Calls Tryd.prog 29 #[.agg #[.bool t.g, .string t.s, .int .i64 t.x]] w fun e w' => e = .returned (.tuple #[.float .f64 0, .int .i64 2]) ∧ Below w.heap.size w w' := fun v h1 h2 h3 => (@sym_ok _ DNear_bad_k _ (@KnowOk.of _ DNear_bad_k _ hops hcalls) (by kernel_rfl) _ _ _ _ h1 rfl h2 _ hG).mono fun e w' h => ⟨h.1.trans h3, h.2⟩
  clear hops hcalls
  exact fin _ (DNear_bad_r1) rfl rfl

@[reducible] def DAbove_bad_f : FuncId := 31
@[reducible] def DAbove_bad_a : List AV := [.agg [.sym 0, .sym 1, .sym 2]]
@[reducible] noncomputable def DAbove_bad_k : Know := ⟨[],
  [(15, [.agg [.sym 0, .sym 1, .sym 2]], .lit (.int .i64 2))]⟩
theorem DAbove_bad_r1 : @comes DAbove_bad_k Tryd.prog glT 3000 DAbove_bad_f DAbove_bad_a = some (.lit (.tuple #[.float .f64 0, .int .i64 2])) := by kernel_rfl

set_option maxRecDepth 100000 in
set_option maxHeartbeats 4000000 in
theorem DAbove_bad (t : Dt) (w : World) (zt : t.s.size ≤ 9223372036854775807) (nt : ¬ t.Ok) (hG : Globs glT w) : Calls Tryd.prog 31 #[.agg #[.bool t.g, .string t.s, .int .i64 t.x]] w fun e w' => e = .returned (.tuple #[.float .f64 0, .int .i64 2]) ∧ Below w.heap.size w w' := by
  letI : Env := mkEnv glT [.bool t.g, .string t.s, .int .i64 t.x] rfl
  have hops : OpsT Tryd.prog (@Know.ops DAbove_bad_k) := trivial
  have hcalls : CallsT Tryd.prog (@Know.calls DAbove_bad_k) := ⟨callt rfl rfl fun w hG => DCheck_bd t w zt nt,
    trivial⟩
  have fin : ∀ v, @comes DAbove_bad_k Tryd.prog glT 3000 DAbove_bad_f DAbove_bad_a = some v → ground v = true → Ending.returned (gval v) = .returned (.tuple #[.float .f64 0, .int .i64 2]) → Calls Tryd.prog 31 #[.agg #[.bool t.g, .string t.s, .int .i64 t.x]] w fun e w' => e = .returned (.tuple #[.float .f64 0, .int .i64 2]) ∧ Below w.heap.size w w' := fun v h1 h2 h3 => (@sym_ok _ DAbove_bad_k _ (@KnowOk.of _ DAbove_bad_k _ hops hcalls) (by kernel_rfl) _ _ _ _ h1 rfl h2 _ hG).mono fun e w' h => ⟨h.1.trans h3, h.2⟩
  clear hops hcalls
  exact fin _ (DAbove_bad_r1) rfl rfl

@[reducible] def DBelow_bad_f : FuncId := 30
@[reducible] def DBelow_bad_a : List AV := [.agg [.sym 0, .sym 1, .sym 2]]
@[reducible] noncomputable def DBelow_bad_k : Know := ⟨[],
  [(15, [.agg [.sym 0, .sym 1, .sym 2]], .lit (.int .i64 2))]⟩
theorem DBelow_bad_r1 : @comes DBelow_bad_k Tryd.prog glT 3000 DBelow_bad_f DBelow_bad_a = some (.lit (.tuple #[.float .f64 0, .int .i64 2])) := by kernel_rfl

set_option maxRecDepth 100000 in
set_option maxHeartbeats 4000000 in
theorem DBelow_bad (t : Dt) (w : World) (zt : t.s.size ≤ 9223372036854775807) (nt : ¬ t.Ok) (hG : Globs glT w) : Calls Tryd.prog 30 #[.agg #[.bool t.g, .string t.s, .int .i64 t.x]] w fun e w' => e = .returned (.tuple #[.float .f64 0, .int .i64 2]) ∧ Below w.heap.size w w' := by
  letI : Env := mkEnv glT [.bool t.g, .string t.s, .int .i64 t.x] rfl
  have hops : OpsT Tryd.prog (@Know.ops DBelow_bad_k) := trivial
  have hcalls : CallsT Tryd.prog (@Know.calls DBelow_bad_k) := ⟨callt rfl rfl fun w hG => DCheck_bd t w zt nt,
    trivial⟩
  have fin : ∀ v, @comes DBelow_bad_k Tryd.prog glT 3000 DBelow_bad_f DBelow_bad_a = some v → ground v = true → Ending.returned (gval v) = .returned (.tuple #[.float .f64 0, .int .i64 2]) → Calls Tryd.prog 30 #[.agg #[.bool t.g, .string t.s, .int .i64 t.x]] w fun e w' => e = .returned (.tuple #[.float .f64 0, .int .i64 2]) ∧ Below w.heap.size w w' := fun v h1 h2 h3 => (@sym_ok _ DBelow_bad_k _ (@KnowOk.of _ DBelow_bad_k _ hops hcalls) (by kernel_rfl) _ _ _ _ h1 rfl h2 _ hG).mono fun e w' h => ⟨h.1.trans h3, h.2⟩
  clear hops hcalls
  exact fin _ (DBelow_bad_r1) rfl rfl

@[reducible] def DNear_z_f : FuncId := 29
@[reducible] def DNear_z_a : List AV := [.lit (.agg #[.bool false, .string ⟨#[]⟩, .int .i64 0])]
@[reducible] noncomputable def DNear_z_k : Know := ⟨[],
  []⟩
theorem DNear_z_r1 : @comes DNear_z_k Tryd.prog glT 3000 DNear_z_f DNear_z_a = some (.lit (.tuple #[.float .f64 0, .int .i64 0])) := by kernel_rfl

set_option maxRecDepth 100000 in
set_option maxHeartbeats 4000000 in
theorem DNear_z  (w : World)  (hG : Globs glT w) : Calls Tryd.prog 29 #[.agg #[.bool false, .string ⟨#[]⟩, .int .i64 0]] w fun e w' => e = .returned (.tuple #[.float .f64 0, .int .i64 0]) ∧ Below w.heap.size w w' := by
  letI : Env := mkEnv glT [] rfl
  have hops : OpsT Tryd.prog (@Know.ops DNear_z_k) := trivial
  have hcalls : CallsT Tryd.prog (@Know.calls DNear_z_k) := trivial
  have fin : ∀ v, @comes DNear_z_k Tryd.prog glT 3000 DNear_z_f DNear_z_a = some v → ground v = true → Ending.returned (gval v) = .returned (.tuple #[.float .f64 0, .int .i64 0]) → Calls Tryd.prog 29 #[.agg #[.bool false, .string ⟨#[]⟩, .int .i64 0]] w fun e w' => e = .returned (.tuple #[.float .f64 0, .int .i64 0]) ∧ Below w.heap.size w w' := fun v h1 h2 h3 => (@sym_ok _ DNear_z_k _ (@KnowOk.of _ DNear_z_k _ hops hcalls) (by kernel_rfl) _ _ _ _ h1 rfl h2 _ hG).mono fun e w' h => ⟨h.1.trans h3, h.2⟩
  clear hops hcalls
  exact fin _ (DNear_z_r1) rfl rfl

@[reducible] def DyadRounds_f_f : FuncId := 5
@[reducible] def DyadRounds_f_a : List AV := [.agg [.lit (.bool false), .sym 0, .sym 1]]
@[reducible] noncomputable def DyadRounds_f_k : Know := ⟨[],
  [(29, [.agg [.lit (.bool false), .sym 0, .sym 1]], .tup [.sym 2, .lit (.int .i64 0)]),
  (30, [.agg [.lit (.bool false), .sym 0, .sym 1]], .tup [.sym 3, .lit (.int .i64 0)]),
  (31, [.agg [.lit (.bool false), .sym 0, .sym 1]], .tup [.sym 4, .lit (.int .i64 0)]),
  (14, [.agg [.lit (.bool false), .sym 0, .sym 1]], .lit (.bool true)),
  (33, [.agg [.lit (.bool false), .sym 0, .sym 1]], .sym 5),
  (32, [.sym 2, .sym 5], .lit (.bool true)),
  (34, [.agg [.lit (.bool false), .sym 0, .sym 1]], .sym 6),
  (32, [.sym 3, .sym 6], .lit (.bool true)),
  (35, [.agg [.lit (.bool false), .sym 0, .sym 1]], .sym 7),
  (32, [.sym 4, .sym 7], .lit (.bool true)),
  (19, [], .lit (.bool true))]⟩
theorem DyadRounds_f_r1 : @comes DyadRounds_f_k Tryd.prog glT 3000 DyadRounds_f_f DyadRounds_f_a = some (.lit (.bool true)) := by kernel_rfl

set_option maxRecDepth 100000 in
set_option maxHeartbeats 4000000 in
theorem DyadRounds_f (n : Nat) (x : Int) (w : World) (hn : (Dy.mk false n x).Num) (hG : Globs glT w) : Calls Tryd.prog 5 #[.agg #[.bool false, .string (natS n), .int .i64 x]] w fun e w' => e = .returned (.bool true) ∧ Below w.heap.size w w' := by
  letI : Env := mkEnv glT [.string (natS n), .int .i64 x, .float .f64 (rnd false n x (upNear n x)), .float .f64 (rnd false n x (upBelow false n x)), .float .f64 (rnd false n x (upAbove false n x)), .float .f64 (rnd false n x (upNear n x)), .float .f64 (rnd false n x (upBelow false n x)), .float .f64 (rnd false n x (upAbove false n x))] rfl
  have hops : OpsT Tryd.prog (@Know.ops DyadRounds_f_k) := trivial
  have hcalls : CallsT Tryd.prog (@Know.calls DyadRounds_f_k) := ⟨callt rfl rfl fun w hG => DNear_f n x w hn hG,
    callt rfl rfl fun w hG => DBelow_f n x w hn hG,
    callt rfl rfl fun w hG => DAbove_f n x w hn hG,
    callt rfl rfl fun w hG => rMayT_ok (Dy.mk false n x) w (Or.inr hn),
    callt rfl rfl fun w hG => rNear_f n x w hn hG,
    callt rfl rfl fun w hG => lBits_c (rnd false n x (upNear n x)) w,
    callt rfl rfl fun w hG => rBelow_f n x w hn hG,
    callt rfl rfl fun w hG => lBits_c (rnd false n x (upBelow false n x)) w,
    callt rfl rfl fun w hG => rAbove_f n x w hn hG,
    callt rfl rfl fun w hG => lBits_c (rnd false n x (upAbove false n x)) w,
    callt rfl rfl fun w hG => awake3_c w hG,
    trivial⟩
  have fin : ∀ v, @comes DyadRounds_f_k Tryd.prog glT 3000 DyadRounds_f_f DyadRounds_f_a = some v → ground v = true → Ending.returned (gval v) = .returned (.bool true) → Calls Tryd.prog 5 #[.agg #[.bool false, .string (natS n), .int .i64 x]] w fun e w' => e = .returned (.bool true) ∧ Below w.heap.size w w' := fun v h1 h2 h3 => (@sym_ok _ DyadRounds_f_k _ (@KnowOk.of _ DyadRounds_f_k _ hops hcalls) (by kernel_rfl) _ _ _ _ h1 rfl h2 _ hG).mono fun e w' h => ⟨h.1.trans h3, h.2⟩
  clear hops hcalls
  exact fin _ (DyadRounds_f_r1) rfl rfl

@[reducible] def DyadRounds_t_f : FuncId := 5
@[reducible] def DyadRounds_t_a : List AV := [.agg [.lit (.bool true), .sym 0, .sym 1]]
@[reducible] noncomputable def DyadRounds_t_k : Know := ⟨[],
  [(29, [.agg [.lit (.bool true), .sym 0, .sym 1]], .tup [.sym 2, .lit (.int .i64 0)]),
  (30, [.agg [.lit (.bool true), .sym 0, .sym 1]], .tup [.sym 3, .lit (.int .i64 0)]),
  (31, [.agg [.lit (.bool true), .sym 0, .sym 1]], .tup [.sym 4, .lit (.int .i64 0)]),
  (14, [.agg [.lit (.bool true), .sym 0, .sym 1]], .lit (.bool true)),
  (33, [.agg [.lit (.bool true), .sym 0, .sym 1]], .sym 5),
  (32, [.sym 2, .sym 5], .lit (.bool true)),
  (34, [.agg [.lit (.bool true), .sym 0, .sym 1]], .sym 6),
  (32, [.sym 3, .sym 6], .lit (.bool true)),
  (35, [.agg [.lit (.bool true), .sym 0, .sym 1]], .sym 7),
  (32, [.sym 4, .sym 7], .lit (.bool true)),
  (19, [], .lit (.bool true))]⟩
theorem DyadRounds_t_r1 : @comes DyadRounds_t_k Tryd.prog glT 3000 DyadRounds_t_f DyadRounds_t_a = some (.lit (.bool true)) := by kernel_rfl

set_option maxRecDepth 100000 in
set_option maxHeartbeats 4000000 in
theorem DyadRounds_t (n : Nat) (x : Int) (w : World) (hn : (Dy.mk true n x).Num) (hG : Globs glT w) : Calls Tryd.prog 5 #[.agg #[.bool true, .string (natS n), .int .i64 x]] w fun e w' => e = .returned (.bool true) ∧ Below w.heap.size w w' := by
  letI : Env := mkEnv glT [.string (natS n), .int .i64 x, .float .f64 (rnd true n x (upNear n x)), .float .f64 (rnd true n x (upBelow true n x)), .float .f64 (rnd true n x (upAbove true n x)), .float .f64 (rnd true n x (upNear n x)), .float .f64 (rnd true n x (upBelow true n x)), .float .f64 (rnd true n x (upAbove true n x))] rfl
  have hops : OpsT Tryd.prog (@Know.ops DyadRounds_t_k) := trivial
  have hcalls : CallsT Tryd.prog (@Know.calls DyadRounds_t_k) := ⟨callt rfl rfl fun w hG => DNear_t n x w hn hG,
    callt rfl rfl fun w hG => DBelow_t n x w hn hG,
    callt rfl rfl fun w hG => DAbove_t n x w hn hG,
    callt rfl rfl fun w hG => rMayT_ok (Dy.mk true n x) w (Or.inr hn),
    callt rfl rfl fun w hG => rNear_t n x w hn hG,
    callt rfl rfl fun w hG => lBits_c (rnd true n x (upNear n x)) w,
    callt rfl rfl fun w hG => rBelow_t n x w hn hG,
    callt rfl rfl fun w hG => lBits_c (rnd true n x (upBelow true n x)) w,
    callt rfl rfl fun w hG => rAbove_t n x w hn hG,
    callt rfl rfl fun w hG => lBits_c (rnd true n x (upAbove true n x)) w,
    callt rfl rfl fun w hG => awake3_c w hG,
    trivial⟩
  have fin : ∀ v, @comes DyadRounds_t_k Tryd.prog glT 3000 DyadRounds_t_f DyadRounds_t_a = some v → ground v = true → Ending.returned (gval v) = .returned (.bool true) → Calls Tryd.prog 5 #[.agg #[.bool true, .string (natS n), .int .i64 x]] w fun e w' => e = .returned (.bool true) ∧ Below w.heap.size w w' := fun v h1 h2 h3 => (@sym_ok _ DyadRounds_t_k _ (@KnowOk.of _ DyadRounds_t_k _ hops hcalls) (by kernel_rfl) _ _ _ _ h1 rfl h2 _ hG).mono fun e w' h => ⟨h.1.trans h3, h.2⟩
  clear hops hcalls
  exact fin _ (DyadRounds_t_r1) rfl rfl

@[reducible] def DyadRounds_b_f : FuncId := 5
@[reducible] def DyadRounds_b_a : List AV := [.agg [.sym 0, .sym 1, .sym 2]]
@[reducible] noncomputable def DyadRounds_b_k : Know := ⟨[],
  [(29, [.agg [.sym 0, .sym 1, .sym 2]], .lit (.tuple #[.float .f64 0, .int .i64 2])),
  (30, [.agg [.sym 0, .sym 1, .sym 2]], .lit (.tuple #[.float .f64 0, .int .i64 2])),
  (31, [.agg [.sym 0, .sym 1, .sym 2]], .lit (.tuple #[.float .f64 0, .int .i64 2])),
  (14, [.agg [.sym 0, .sym 1, .sym 2]], .lit (.bool false)),
  (19, [], .lit (.bool true))]⟩
theorem DyadRounds_b_r1 : @comes DyadRounds_b_k Tryd.prog glT 3000 DyadRounds_b_f DyadRounds_b_a = some (.lit (.bool true)) := by kernel_rfl

set_option maxRecDepth 100000 in
set_option maxHeartbeats 4000000 in
theorem DyadRounds_b (t : Dt) (w : World) (zt : t.s.size ≤ 9223372036854775807) (nt : ¬ t.Ok) (hG : Globs glT w) : Calls Tryd.prog 5 #[.agg #[.bool t.g, .string t.s, .int .i64 t.x]] w fun e w' => e = .returned (.bool true) ∧ Below w.heap.size w w' := by
  letI : Env := mkEnv glT [.bool t.g, .string t.s, .int .i64 t.x] rfl
  have hops : OpsT Tryd.prog (@Know.ops DyadRounds_b_k) := trivial
  have hcalls : CallsT Tryd.prog (@Know.calls DyadRounds_b_k) := ⟨callt rfl rfl fun w hG => DNear_bad t w zt nt hG,
    callt rfl rfl fun w hG => DBelow_bad t w zt nt hG,
    callt rfl rfl fun w hG => DAbove_bad t w zt nt hG,
    callt rfl rfl fun w hG => rMayT_no t w zt nt,
    callt rfl rfl fun w hG => awake3_c w hG,
    trivial⟩
  have fin : ∀ v, @comes DyadRounds_b_k Tryd.prog glT 3000 DyadRounds_b_f DyadRounds_b_a = some v → ground v = true → Ending.returned (gval v) = .returned (.bool true) → Calls Tryd.prog 5 #[.agg #[.bool t.g, .string t.s, .int .i64 t.x]] w fun e w' => e = .returned (.bool true) ∧ Below w.heap.size w w' := fun v h1 h2 h3 => (@sym_ok _ DyadRounds_b_k _ (@KnowOk.of _ DyadRounds_b_k _ hops hcalls) (by kernel_rfl) _ _ _ _ h1 rfl h2 _ hG).mono fun e w' h => ⟨h.1.trans h3, h.2⟩
  clear hops hcalls
  exact fin _ (DyadRounds_b_r1) rfl rfl

set_option maxRecDepth 100000 in
theorem DyadRounds_zs : saysG Tryd.prog glT 20000 5 [.agg #[.bool false, .string ⟨#[]⟩, .int .i64 0]] true = true := by kernel_rfl
theorem DyadRounds_law (t : Dt) (w : World) (zt : t.s.size ≤ 9223372036854775807) (hG : Globs glT w) : Calls Tryd.prog 5 #[.agg #[.bool t.g, .string t.s, .int .i64 t.x]] w fun e w' => e = .returned (.bool true) ∧ Below w.heap.size w w' := by
  by_cases h : t.Ok
  · obtain ⟨d, hd, rfl⟩ := Dt.dy h
    rcases hd with rfl | hn
    · have := closed_with (by kernel_rfl) DyadRounds_zs hG
      show Calls Tryd.prog _ #[.agg #[.bool false, .string (natS 0), .int .i64 0]] w _
      rw [natS_zero]
      exact this
    · obtain ⟨g, n, x⟩ := d
      cases g with
      | false => exact DyadRounds_f n x w hn hG
      | true => exact DyadRounds_t n x w hn hG
  · exact DyadRounds_b t w zt h hG
end Go.Proofs.YtjkonfopajihdaaDoor
set_option linter.unusedSimpArgs false
set_option linter.unusedVariables false
namespace Go.Proofs.YtjkonfopajihdaaDoor
open Go Go.RowKit Nt

open Classical in
@[irreducible] noncomputable def flV (x : Nat) : Dy := if Bt.finB x = true then flt x else Dy.zero
@[irreducible] def flX (x : Nat) : Int := if Bt.finB x = true then 0 else 5
theorem flX_iff {x : Nat} : flX x = 0 ↔ Bt.finB x = true := by
  unfold flX
  by_cases h : Bt.finB x = true
  · rw [if_pos h]; simp [h]
  · rw [if_neg h]; simp [h]
theorem DFloat_f (x : Nat) (w : World) (hx : x < 18446744073709551616) (fx : Bt.finB x = true) (hG : Globs glT w) : Calls Tryd.prog 27 #[.float .f64 x] w fun e w' => e = .returned (.tuple #[(flt x).v, .int .i64 0]) ∧ Below w.heap.size w w' := DFloat_c x hx fx w (tabs_of hG)
theorem DFloat_t (x : Nat) (w : World) (hx : x < 18446744073709551616) (hG : Globs glT w) : Calls Tryd.prog 27 #[.float .f64 x] w fun e w' => e = .returned (.tuple #[(flV x).v, .int .i64 (flX x)]) ∧ Below w.heap.size w w' := by
  unfold flV flX
  by_cases h : Bt.finB x = true
  · rw [if_pos h, if_pos h]; exact DFloat_f x w hx h hG
  · rw [if_neg h, if_neg h, Dy.zero_v]; exact DFloat_no x hx (Bool.eq_false_iff.2 h) w
theorem order_self {a : Nat} (ha : ¬ Bt.Ff.isn a) : FloatKind.f64.format.order a a = some Ordering.eq := by
  show Ieee.double.order a a = _
  rw [Bt.Ff.order_eq, if_neg (by rintro (c | c); exact ha c; exact ha c)]
  simp [compare, compareOfLessAndEq]
set_option maxRecDepth 100000 in
theorem lBits_i (a b : Nat) (w : World) (ha : ¬ Bt.Ff.isn a) (hb : ¬ Bt.Ff.isn b) {c : Bool} (h : c = true ↔ a = b) : Calls Tryd.prog 32 #[.float .f64 a, .float .f64 b] w fun e w' => e = .returned (.bool c) ∧ Below w.heap.size w w' := by
  by_cases e : a = b
  · rw [h.2 e, e]; exact lBits_c b w
  · have hc : c = false := by cases c; rfl; exact absurd (h.1 rfl) e
    have hx := Bt.ext_bits
    have hy : ((a : Int) == (b : Int)) = false := by rw [beq_eq_false_iff_ne]; omega
    have o1 : (FloatKind.f64.format.order a a != some Ordering.eq) = false := by rw [order_self ha]; rfl
    have o2 := order_self ha
    rw [hc]
    clear e h
    go_enter Tryd.func32, Tryd.ntmps32
    go_wp2
    go_ret
    exact ⟨rfl, Below.refl _ _⟩
theorem rdN_isn (d : Dy) : ¬ Bt.Ff.isn (rdN d) := by
  by_cases h : d.n = 0
  · unfold rdN; rw [if_pos h]
    have := wf_isn false (r := 0) (by omega)
    rwa [wf_f] at this
  · rw [rdN_num h, ← near_rnd d.g h]
    obtain ⟨r, hr, e⟩ := nearest_wf d.g d.n d.x
    rw [e]; exact wf_isn _ hr
theorem DNear_d (d : Dy) (w : World) (hd : d.Ok) (hG : Globs glT w) : Calls Tryd.prog 29 #[.agg #[.bool d.g, .string (natS d.n), .int .i64 d.x]] w fun e w' => e = .returned (.tuple #[.float .f64 (rdN d), .int .i64 0]) ∧ Below w.heap.size w w' := by
  rcases hd with rfl | hn
  · rw [rdN_zero]
    show Calls Tryd.prog _ #[.agg #[.bool false, .string (natS 0), .int .i64 0]] w _
    rw [natS_zero]
    exact DNear_z w hG
  · rw [rdN_num (odd_ne hn.2.1)]
    obtain ⟨g, n, x⟩ := d
    cases g with
    | false => exact DNear_f n x w hn hG
    | true => exact DNear_t n x w hn hG
theorem fma_run (a b c r : Nat) (h : Ieee.double.fma a b c = some r) (w : World) : (callFunc 57 #[.float .f64 a, .float .f64 b, .float .f64 c]).run Tryd.prog w = .ok (.value (.float .f64 r)) w := by
  have h2 : FloatKind.f64.format.fma a b c = some r := h
  have g : (callFunc 57 #[.float .f64 a, .float .f64 b, .float .f64 c]).run Tryd.prog w = ((match FloatKind.f64.format.fma a b c with
      | some r => pure (Value.float .f64 r)
      | none => (do
        let (p, q) := if Extern.MathFMA.isNaN a then (a, b) else if Extern.MathFMA.isNaN b then (b, c) else (c, c)
        pure (Value.float .f64 (← choose (.nanBits .f64 p q))) : Sem Value)) >>= fun v => pure (Next.value v)).run Tryd.prog w := by kernel_rfl
  rw [g, h2]
  rfl
section
variable [Env]
theorem optF_neq_i {t : TypeId} {A B : AV} {a b : Nat} {c : Bool} (ha : gval A = .float .f64 a) (hb : gval B = .float .f64 b) (h : c = true ↔ feq a b = true) : OpT Tryd.prog [0, 12, t] [A, B] (.lit (.bool (!c))) :=
  opt_bin (op := .neq) rfl fun p q w => by
    have hc : c = feq a b := Bool.eq_iff_iff.2 h
    rw [ha, hb, hc]
    unfold feq
    go_simp
    rfl
theorem optF_add {t : TypeId} {A B r : AV} {a b c : Nat} (ha : gval A = .float .f64 a) (hb : gval B = .float .f64 b) (hr : ground r = true) (hv : gval r = .float .f64 c) (h : Ieee.double.add a b = some c) : OpT Tryd.prog [0, 0, t] [A, B] r :=
  opt_bin (op := .add) hr fun p q w => by
    have h2 : FloatKind.f64.format.add a b = some c := h
    rw [ha, hb, hv]
    simp [binOp, Op.floatArith, h2, eqGuard]
theorem optF_mul {t : TypeId} {A B r : AV} {a b c : Nat} (ha : gval A = .float .f64 a) (hb : gval B = .float .f64 b) (hr : ground r = true) (hv : gval r = .float .f64 c) (h : Ieee.double.mul a b = some c) : OpT Tryd.prog [0, 2, t] [A, B] r :=
  opt_bin (op := .mul) hr fun p q w => by
    have h2 : FloatKind.f64.format.mul a b = some c := h
    rw [ha, hb, hv]
    simp [binOp, Op.floatArith, h2, eqGuard]
theorem optF_fma {A B C r : AV} {a b c d : Nat} (ha : gval A = .float .f64 a) (hb : gval B = .float .f64 b) (hc : gval C = .float .f64 c) (hr : ground r = true) (hv : gval r = .float .f64 d) (h : Ieee.double.fma a b c = some d) : OpT Tryd.prog [7, 57] [A, B, C] r := by
  refine ⟨hr, fun o xs hk ρ hρ hx w => ?_⟩
  unfold keyOf at hk
  obtain ⟨dst, o, type, pos, after, guard⟩ := o
  simp only at hk
  split at hk
  case h_8 g args argTypes =>
    simp only [Option.some.injEq, Prod.mk.injEq, List.cons.injEq, and_true, true_and] at hk
    obtain ⟨h1, h2⟩ := hk
    subst h1
    have hxx : args.map ρ = #[.float .f64 a, .float .f64 b, .float .f64 c] := by
      apply Array.ext'
      rw [Array.toList_map, h2, hx]
      simp [ha, hb, hc]
    simp only [execOp, resolve, hρ, Deferred.ofValue, Sem.run_bind, Sem.run_pure, Result.andThen_ok, invoke, hxx]
    rw [hv, show (#[] ++ #[Value.float FloatKind.f64 a, Value.float FloatKind.f64 b, Value.float FloatKind.f64 c] ++ #[] : Array Value) = #[Value.float FloatKind.f64 a, Value.float FloatKind.f64 b, Value.float FloatKind.f64 c] from rfl]
    exact fma_run _ _ _ _ h w
  all_goals first
    | (simp only [Option.some.injEq, Prod.mk.injEq, List.cons.injEq] at hk; have := hk.1.1; omega)
    | (split at hk <;> first | cases hk | (simp only [Option.some.injEq, Prod.mk.injEq, List.cons.injEq] at hk; have := hk.1.1; omega))
    | cases hk
end
end Go.Proofs.YtjkonfopajihdaaDoor
set_option linter.unusedVariables false
set_option linter.unusedSimpArgs false
namespace Go.Proofs.YtjkonfopajihdaaDoor
open Go Go.RowKit Nt


@[reducible] def DyadGo_f_f : FuncId := 12
@[reducible] def DyadGo_f_a : List AV := [.sym 0, .sym 1, .sym 2]
@[reducible] noncomputable def DyadGo_f_k (b1 b2 b3 b4 b5 b6 b7 b8 b9 b10 b11 b12 : Bool) : Know := ⟨[([0, 12, 28], [.sym 15, .lit (.int .i64 0)], .lit (.bool (!b1))),
  ([0, 12, 28], [.sym 19, .lit (.int .i64 0)], .lit (.bool (!b2))),
  ([0, 12, 28], [.sym 23, .lit (.int .i64 0)], .lit (.bool (!b3))),
  ([0, 0, 33], [.sym 0, .sym 1], .sym 25),
  ([0, 2, 33], [.sym 0, .sym 1], .sym 26),
  ([7, 57], [.sym 0, .sym 1, .sym 2], .sym 27),
  ([0, 12, 33], [.sym 24, .sym 25], .lit (.bool (!b4))),
  ([0, 12, 24], [.agg [.sym 12, .sym 13, .sym 14], .lit (.agg #[.bool false, .string ⟨#[]⟩, .int .i64 0])], .lit (.bool (!b6))),
  ([0, 12, 33], [.sym 28, .sym 26], .lit (.bool (!b7))),
  ([0, 12, 24], [.agg [.sym 16, .sym 17, .sym 18], .lit (.agg #[.bool false, .string ⟨#[]⟩, .int .i64 0])], .lit (.bool (!b9))),
  ([0, 12, 33], [.sym 29, .sym 27], .lit (.bool (!b10))),
  ([0, 12, 24], [.agg [.sym 20, .sym 21, .sym 22], .lit (.agg #[.bool false, .string ⟨#[]⟩, .int .i64 0])], .lit (.bool (!b12)))],
  [(19, [], .lit (.bool true)),
  (27, [.sym 0], .tup [.agg [.sym 3, .sym 4, .sym 5], .lit (.int .i64 0)]),
  (27, [.sym 1], .tup [.agg [.sym 6, .sym 7, .sym 8], .lit (.int .i64 0)]),
  (27, [.sym 2], .tup [.agg [.sym 9, .sym 10, .sym 11], .lit (.int .i64 0)]),
  (40, [.agg [.sym 3, .sym 4, .sym 5], .agg [.sym 6, .sym 7, .sym 8]], .tup [.agg [.sym 12, .sym 13, .sym 14], .sym 15]),
  (42, [.agg [.sym 3, .sym 4, .sym 5], .agg [.sym 6, .sym 7, .sym 8]], .tup [.agg [.sym 16, .sym 17, .sym 18], .sym 19]),
  (40, [.agg [.sym 16, .sym 17, .sym 18], .agg [.sym 9, .sym 10, .sym 11]], .tup [.agg [.sym 20, .sym 21, .sym 22], .sym 23]),
  (29, [.agg [.sym 12, .sym 13, .sym 14]], .tup [.sym 24, .lit (.int .i64 0)]),
  (29, [.agg [.sym 16, .sym 17, .sym 18]], .tup [.sym 28, .lit (.int .i64 0)]),
  (32, [.sym 24, .sym 25], .lit (.bool b5)),
  (29, [.agg [.sym 20, .sym 21, .sym 22]], .tup [.sym 29, .lit (.int .i64 0)]),
  (32, [.sym 28, .sym 26], .lit (.bool b8)),
  (32, [.sym 29, .sym 27], .lit (.bool b11))]⟩
theorem DyadGo_f_r1 (b5 b8 b11 : Bool) : @comes (DyadGo_f_k true true true true b5 true true b8 true true b11 true) Tryd.prog glT 3000 DyadGo_f_f DyadGo_f_a = some (.lit (.bool true)) := by kernel_rfl
theorem DyadGo_f_r2 (b5 b8 : Bool) : @comes (DyadGo_f_k true true true true b5 true true b8 true true true false) Tryd.prog glT 3000 DyadGo_f_f DyadGo_f_a = some (.lit (.bool true)) := by kernel_rfl
theorem DyadGo_f_r3 (b5 b11 : Bool) : @comes (DyadGo_f_k true true true true b5 true true true false true b11 true) Tryd.prog glT 3000 DyadGo_f_f DyadGo_f_a = some (.lit (.bool true)) := by kernel_rfl
theorem DyadGo_f_r4 (b5 : Bool) : @comes (DyadGo_f_k true true true true b5 true true true false true true false) Tryd.prog glT 3000 DyadGo_f_f DyadGo_f_a = some (.lit (.bool true)) := by kernel_rfl
theorem DyadGo_f_r5 (b8 b11 : Bool) : @comes (DyadGo_f_k true true true true true false true b8 true true b11 true) Tryd.prog glT 3000 DyadGo_f_f DyadGo_f_a = some (.lit (.bool true)) := by kernel_rfl
theorem DyadGo_f_r6 (b8 : Bool) : @comes (DyadGo_f_k true true true true true false true b8 true true true false) Tryd.prog glT 3000 DyadGo_f_f DyadGo_f_a = some (.lit (.bool true)) := by kernel_rfl
theorem DyadGo_f_r7 (b11 : Bool) : @comes (DyadGo_f_k true true true true true false true true false true b11 true) Tryd.prog glT 3000 DyadGo_f_f DyadGo_f_a = some (.lit (.bool true)) := by kernel_rfl
theorem DyadGo_f_r8 : @comes (DyadGo_f_k true true true true true false true true false true true false) Tryd.prog glT 3000 DyadGo_f_f DyadGo_f_a = some (.lit (.bool true)) := by kernel_rfl

set_option maxRecDepth 100000 in
set_option maxHeartbeats 4000000 in
theorem DyadGo_f (x y z : Nat) (w : World) (hx : x < 18446744073709551616) (hy : y < 18446744073709551616) (hz : z < 18446744073709551616) (fx : Bt.finB x = true) (fy : Bt.finB y = true) (fz : Bt.finB z = true) (hG : Globs glT w) : Calls Tryd.prog 12 #[.float .f64 x, .float .f64 y, .float .f64 z] w fun e w' => e = .returned (.bool true) ∧ Below w.heap.size w w' := by
  obtain ⟨b1, i1⟩ := bex (addE (flt x) (flt y) = 0)
  obtain ⟨b2, i2⟩ := bex (mulE (flt x) (flt y) = 0)
  obtain ⟨b3, i3⟩ := bex (addE (mulD (flt x) (flt y)) (flt z) = 0)
  obtain ⟨b4, i4⟩ := bex (feq (rdN (addD (flt x) (flt y))) (goS x y) = true)
  obtain ⟨b5, i5⟩ := bex (rdN (addD (flt x) (flt y)) = goS x y)
  obtain ⟨b6, i6⟩ := bex (addD (flt x) (flt y) = Dy.zero)
  obtain ⟨b7, i7⟩ := bex (feq (rdN (mulD (flt x) (flt y))) (goM x y) = true)
  obtain ⟨b8, i8⟩ := bex (rdN (mulD (flt x) (flt y)) = goM x y)
  obtain ⟨b9, i9⟩ := bex (mulD (flt x) (flt y) = Dy.zero)
  obtain ⟨b10, i10⟩ := bex (feq (rdN (addD (mulD (flt x) (flt y)) (flt z))) (goF x y z) = true)
  obtain ⟨b11, i11⟩ := bex (rdN (addD (mulD (flt x) (flt y)) (flt z)) = goF x y z)
  obtain ⟨b12, i12⟩ := bex (addD (mulD (flt x) (flt y)) (flt z) = Dy.zero)
  letI : Env := mkEnv glT [.float .f64 x, .float .f64 y, .float .f64 z, .bool (flt x).g, .string (natS (flt x).n), .int .i64 (flt x).x, .bool (flt y).g, .string (natS (flt y).n), .int .i64 (flt y).x, .bool (flt z).g, .string (natS (flt z).n), .int .i64 (flt z).x, .bool (addD (flt x) (flt y)).g, .string (natS (addD (flt x) (flt y)).n), .int .i64 (addD (flt x) (flt y)).x, .int .i64 (addE (flt x) (flt y)), .bool (mulD (flt x) (flt y)).g, .string (natS (mulD (flt x) (flt y)).n), .int .i64 (mulD (flt x) (flt y)).x, .int .i64 (mulE (flt x) (flt y)), .bool (addD (mulD (flt x) (flt y)) (flt z)).g, .string (natS (addD (mulD (flt x) (flt y)) (flt z)).n), .int .i64 (addD (mulD (flt x) (flt y)) (flt z)).x, .int .i64 (addE (mulD (flt x) (flt y)) (flt z)), .float .f64 (rdN (addD (flt x) (flt y))), .float .f64 (goS x y), .float .f64 (goM x y), .float .f64 (goF x y z), .float .f64 (rdN (mulD (flt x) (flt y))), .float .f64 (rdN (addD (mulD (flt x) (flt y)) (flt z)))] rfl
  have hops : OpsT Tryd.prog (@Know.ops (DyadGo_f_k b1 b2 b3 b4 b5 b6 b7 b8 b9 b10 b11 b12)) := ⟨opt_neq_i rfl rfl i1,
    opt_neq_i rfl rfl i2,
    opt_neq_i rfl rfl i3,
    optF_add rfl rfl rfl rfl (go_sum hx hy fx fy).1,
    optF_mul rfl rfl rfl rfl (go_prod hx hy fx fy).1,
    optF_fma rfl rfl rfl rfl rfl (go_fma hx hy hz fx fy fz).1,
    optF_neq_i rfl rfl i4,
    optD_neq_i (a := addD (flt x) (flt y)) (b := Dy.zero) rfl Dy.zero_v.symm i6,
    optF_neq_i rfl rfl i7,
    optD_neq_i (a := mulD (flt x) (flt y)) (b := Dy.zero) rfl Dy.zero_v.symm i9,
    optF_neq_i rfl rfl i10,
    optD_neq_i (a := addD (mulD (flt x) (flt y)) (flt z)) (b := Dy.zero) rfl Dy.zero_v.symm i12,
    trivial⟩
  have hcalls : CallsT Tryd.prog (@Know.calls (DyadGo_f_k b1 b2 b3 b4 b5 b6 b7 b8 b9 b10 b11 b12)) := ⟨callt rfl rfl fun w hG => awake3_c w hG,
    callt rfl rfl fun w hG => DFloat_f x w hx fx hG,
    callt rfl rfl fun w hG => DFloat_f y w hy fy hG,
    callt rfl rfl fun w hG => DFloat_f z w hz fz hG,
    callt rfl rfl fun w hG => DAdd_c (flt x) (flt y) w (flt_Ok x) (flt_Ok y) hG,
    callt rfl rfl fun w hG => DMul_c (flt x) (flt y) w (flt_Ok x) (flt_Ok y),
    callt rfl rfl fun w hG => DAdd_c (mulD (flt x) (flt y)) (flt z) w (mulD_Ok (flt x) (flt y)) (flt_Ok z) hG,
    callt rfl rfl fun w hG => DNear_d (addD (flt x) (flt y)) w (add_Ok (flt_Ok x) (flt_Ok y)) hG,
    callt rfl rfl fun w hG => DNear_d (mulD (flt x) (flt y)) w (mulD_Ok (flt x) (flt y)) hG,
    callt rfl rfl fun w hG => lBits_i (rdN (addD (flt x) (flt y))) (goS x y) w (rdN_isn _) (goS_isn hx hy fx fy) i5,
    callt rfl rfl fun w hG => DNear_d (addD (mulD (flt x) (flt y)) (flt z)) w (add_Ok (mulD_Ok (flt x) (flt y)) (flt_Ok z)) hG,
    callt rfl rfl fun w hG => lBits_i (rdN (mulD (flt x) (flt y))) (goM x y) w (rdN_isn _) (goM_isn hx hy fx fy) i8,
    callt rfl rfl fun w hG => lBits_i (rdN (addD (mulD (flt x) (flt y)) (flt z))) (goF x y z) w (rdN_isn _) (goF_isn hx hy hz fx fy fz) i11,
    trivial⟩
  have fin : ∀ v, @comes (DyadGo_f_k b1 b2 b3 b4 b5 b6 b7 b8 b9 b10 b11 b12) Tryd.prog glT 3000 DyadGo_f_f DyadGo_f_a = some v → ground v = true → Ending.returned (gval v) = .returned (.bool true) → Calls Tryd.prog 12 #[.float .f64 x, .float .f64 y, .float .f64 z] w fun e w' => e = .returned (.bool true) ∧ Below w.heap.size w w' := fun v h1 h2 h3 => (@sym_ok _ (DyadGo_f_k b1 b2 b3 b4 b5 b6 b7 b8 b9 b10 b11 b12) _ (@KnowOk.of _ (DyadGo_f_k b1 b2 b3 b4 b5 b6 b7 b8 b9 b10 b11 b12) _ hops hcalls) (by kernel_rfl) _ _ _ _ h1 rfl h2 _ hG).mono fun e w' h => ⟨h.1.trans h3, h.2⟩
  clear hops hcalls
  cases b1 with
  | true =>
    have h1 : addE (flt x) (flt y) = 0 := i1.1 rfl
    cases b2 with
    | true =>
      have h2 : mulE (flt x) (flt y) = 0 := i2.1 rfl
      cases b3 with
      | true =>
        have h3 : addE (mulD (flt x) (flt y)) (flt z) = 0 := i3.1 rfl
        cases b4 with
        | true =>
          have h4 : feq (rdN (addD (flt x) (flt y))) (goS x y) = true := i4.1 rfl
          cases b6 with
          | true =>
            have h6 : addD (flt x) (flt y) = Dy.zero := i6.1 rfl
            cases b7 with
            | true =>
              have h7 : feq (rdN (mulD (flt x) (flt y))) (goM x y) = true := i7.1 rfl
              cases b9 with
              | true =>
                have h9 : mulD (flt x) (flt y) = Dy.zero := i9.1 rfl
                cases b10 with
                | true =>
                  have h10 : feq (rdN (addD (mulD (flt x) (flt y)) (flt z))) (goF x y z) = true := i10.1 rfl
                  cases b12 with
                  | true =>
                    have h12 : addD (mulD (flt x) (flt y)) (flt z) = Dy.zero := i12.1 rfl
                    exact fin _ (DyadGo_f_r1 b5 b8 b11) rfl rfl
                  | false =>
                    have h12 : ¬ (addD (mulD (flt x) (flt y)) (flt z) = Dy.zero) := fun c => Bool.false_ne_true (i12.2 c)
                    cases b11 with
                    | true =>
                      have h11 : rdN (addD (mulD (flt x) (flt y)) (flt z)) = goF x y z := i11.1 rfl
                      exact fin _ (DyadGo_f_r2 b5 b8) rfl rfl
                    | false =>
                      exact absurd (i11.2 ((go_fma hx hy hz fx fy fz).2.2.2 h12)) Bool.false_ne_true
                | false =>
                  exact absurd (i10.2 ((go_fma hx hy hz fx fy fz).2.2.1)) Bool.false_ne_true
              | false =>
                have h9 : ¬ (mulD (flt x) (flt y) = Dy.zero) := fun c => Bool.false_ne_true (i9.2 c)
                cases b8 with
                | true =>
                  have h8 : rdN (mulD (flt x) (flt y)) = goM x y := i8.1 rfl
                  cases b10 with
                  | true =>
                    have h10 : feq (rdN (addD (mulD (flt x) (flt y)) (flt z))) (goF x y z) = true := i10.1 rfl
                    cases b12 with
                    | true =>
                      have h12 : addD (mulD (flt x) (flt y)) (flt z) = Dy.zero := i12.1 rfl
                      exact fin _ (DyadGo_f_r3 b5 b11) rfl rfl
                    | false =>
                      have h12 : ¬ (addD (mulD (flt x) (flt y)) (flt z) = Dy.zero) := fun c => Bool.false_ne_true (i12.2 c)
                      cases b11 with
                      | true =>
                        have h11 : rdN (addD (mulD (flt x) (flt y)) (flt z)) = goF x y z := i11.1 rfl
                        exact fin _ (DyadGo_f_r4 b5) rfl rfl
                      | false =>
                        exact absurd (i11.2 ((go_fma hx hy hz fx fy fz).2.2.2 h12)) Bool.false_ne_true
                  | false =>
                    exact absurd (i10.2 ((go_fma hx hy hz fx fy fz).2.2.1)) Bool.false_ne_true
                | false =>
                  exact absurd (i8.2 ((go_prod hx hy fx fy).2.2.2 h9)) Bool.false_ne_true
            | false =>
              exact absurd (i7.2 ((go_prod hx hy fx fy).2.2.1)) Bool.false_ne_true
          | false =>
            have h6 : ¬ (addD (flt x) (flt y) = Dy.zero) := fun c => Bool.false_ne_true (i6.2 c)
            cases b5 with
            | true =>
              have h5 : rdN (addD (flt x) (flt y)) = goS x y := i5.1 rfl
              cases b7 with
              | true =>
                have h7 : feq (rdN (mulD (flt x) (flt y))) (goM x y) = true := i7.1 rfl
                cases b9 with
                | true =>
                  have h9 : mulD (flt x) (flt y) = Dy.zero := i9.1 rfl
                  cases b10 with
                  | true =>
                    have h10 : feq (rdN (addD (mulD (flt x) (flt y)) (flt z))) (goF x y z) = true := i10.1 rfl
                    cases b12 with
                    | true =>
                      have h12 : addD (mulD (flt x) (flt y)) (flt z) = Dy.zero := i12.1 rfl
                      exact fin _ (DyadGo_f_r5 b8 b11) rfl rfl
                    | false =>
                      have h12 : ¬ (addD (mulD (flt x) (flt y)) (flt z) = Dy.zero) := fun c => Bool.false_ne_true (i12.2 c)
                      cases b11 with
                      | true =>
                        have h11 : rdN (addD (mulD (flt x) (flt y)) (flt z)) = goF x y z := i11.1 rfl
                        exact fin _ (DyadGo_f_r6 b8) rfl rfl
                      | false =>
                        exact absurd (i11.2 ((go_fma hx hy hz fx fy fz).2.2.2 h12)) Bool.false_ne_true
                  | false =>
                    exact absurd (i10.2 ((go_fma hx hy hz fx fy fz).2.2.1)) Bool.false_ne_true
                | false =>
                  have h9 : ¬ (mulD (flt x) (flt y) = Dy.zero) := fun c => Bool.false_ne_true (i9.2 c)
                  cases b8 with
                  | true =>
                    have h8 : rdN (mulD (flt x) (flt y)) = goM x y := i8.1 rfl
                    cases b10 with
                    | true =>
                      have h10 : feq (rdN (addD (mulD (flt x) (flt y)) (flt z))) (goF x y z) = true := i10.1 rfl
                      cases b12 with
                      | true =>
                        have h12 : addD (mulD (flt x) (flt y)) (flt z) = Dy.zero := i12.1 rfl
                        exact fin _ (DyadGo_f_r7 b11) rfl rfl
                      | false =>
                        have h12 : ¬ (addD (mulD (flt x) (flt y)) (flt z) = Dy.zero) := fun c => Bool.false_ne_true (i12.2 c)
                        cases b11 with
                        | true =>
                          have h11 : rdN (addD (mulD (flt x) (flt y)) (flt z)) = goF x y z := i11.1 rfl
                          exact fin _ (DyadGo_f_r8) rfl rfl
                        | false =>
                          exact absurd (i11.2 ((go_fma hx hy hz fx fy fz).2.2.2 h12)) Bool.false_ne_true
                    | false =>
                      exact absurd (i10.2 ((go_fma hx hy hz fx fy fz).2.2.1)) Bool.false_ne_true
                  | false =>
                    exact absurd (i8.2 ((go_prod hx hy fx fy).2.2.2 h9)) Bool.false_ne_true
              | false =>
                exact absurd (i7.2 ((go_prod hx hy fx fy).2.2.1)) Bool.false_ne_true
            | false =>
              exact absurd (i5.2 ((go_sum hx hy fx fy).2.2.2 h6)) Bool.false_ne_true
        | false =>
          exact absurd (i4.2 ((go_sum hx hy fx fy).2.2.1)) Bool.false_ne_true
      | false =>
        exact absurd (i3.2 ((go_fma hx hy hz fx fy fz).2.1)) Bool.false_ne_true
    | false =>
      exact absurd (i2.2 ((go_prod hx hy fx fy).2.1)) Bool.false_ne_true
  | false =>
    exact absurd (i1.2 ((go_sum hx hy fx fy).2.1)) Bool.false_ne_true

@[reducible] def DyadGo_b_f : FuncId := 12
@[reducible] def DyadGo_b_a : List AV := [.sym 0, .sym 1, .sym 2]
@[reducible] noncomputable def DyadGo_b_k (b1 b2 b3 : Bool) : Know := ⟨[([0, 12, 28], [.sym 6, .lit (.int .i64 0)], .lit (.bool (!b1))),
  ([0, 12, 28], [.sym 10, .lit (.int .i64 0)], .lit (.bool (!b2))),
  ([0, 12, 28], [.sym 14, .lit (.int .i64 0)], .lit (.bool (!b3)))],
  [(19, [], .lit (.bool true)),
  (27, [.sym 0], .tup [.agg [.sym 3, .sym 4, .sym 5], .sym 6]),
  (27, [.sym 1], .tup [.agg [.sym 7, .sym 8, .sym 9], .sym 10]),
  (27, [.sym 2], .tup [.agg [.sym 11, .sym 12, .sym 13], .sym 14])]⟩
theorem DyadGo_b_r1 : @comes (DyadGo_b_k true true false) Tryd.prog glT 3000 DyadGo_b_f DyadGo_b_a = some (.lit (.bool true)) := by kernel_rfl
theorem DyadGo_b_r2 (b3 : Bool) : @comes (DyadGo_b_k true false b3) Tryd.prog glT 3000 DyadGo_b_f DyadGo_b_a = some (.lit (.bool true)) := by kernel_rfl
theorem DyadGo_b_r3 (b2 b3 : Bool) : @comes (DyadGo_b_k false b2 b3) Tryd.prog glT 3000 DyadGo_b_f DyadGo_b_a = some (.lit (.bool true)) := by kernel_rfl

set_option maxRecDepth 100000 in
set_option maxHeartbeats 4000000 in
theorem DyadGo_b (x y z : Nat) (w : World) (hx : x < 18446744073709551616) (hy : y < 18446744073709551616) (hz : z < 18446744073709551616) (hn : ¬ (Bt.finB x = true ∧ Bt.finB y = true ∧ Bt.finB z = true)) (hG : Globs glT w) : Calls Tryd.prog 12 #[.float .f64 x, .float .f64 y, .float .f64 z] w fun e w' => e = .returned (.bool true) ∧ Below w.heap.size w w' := by
  obtain ⟨b1, i1⟩ := bex (flX x = 0)
  obtain ⟨b2, i2⟩ := bex (flX y = 0)
  obtain ⟨b3, i3⟩ := bex (flX z = 0)
  letI : Env := mkEnv glT [.float .f64 x, .float .f64 y, .float .f64 z, .bool (flV x).g, .string (natS (flV x).n), .int .i64 (flV x).x, .int .i64 (flX x), .bool (flV y).g, .string (natS (flV y).n), .int .i64 (flV y).x, .int .i64 (flX y), .bool (flV z).g, .string (natS (flV z).n), .int .i64 (flV z).x, .int .i64 (flX z)] rfl
  have hops : OpsT Tryd.prog (@Know.ops (DyadGo_b_k b1 b2 b3)) := ⟨opt_neq_i rfl rfl i1,
    opt_neq_i rfl rfl i2,
    opt_neq_i rfl rfl i3,
    trivial⟩
  have hcalls : CallsT Tryd.prog (@Know.calls (DyadGo_b_k b1 b2 b3)) := ⟨callt rfl rfl fun w hG => awake3_c w hG,
    callt rfl rfl fun w hG => DFloat_t x w hx hG,
    callt rfl rfl fun w hG => DFloat_t y w hy hG,
    callt rfl rfl fun w hG => DFloat_t z w hz hG,
    trivial⟩
  have fin : ∀ v, @comes (DyadGo_b_k b1 b2 b3) Tryd.prog glT 3000 DyadGo_b_f DyadGo_b_a = some v → ground v = true → Ending.returned (gval v) = .returned (.bool true) → Calls Tryd.prog 12 #[.float .f64 x, .float .f64 y, .float .f64 z] w fun e w' => e = .returned (.bool true) ∧ Below w.heap.size w w' := fun v h1 h2 h3 => (@sym_ok _ (DyadGo_b_k b1 b2 b3) _ (@KnowOk.of _ (DyadGo_b_k b1 b2 b3) _ hops hcalls) (by kernel_rfl) _ _ _ _ h1 rfl h2 _ hG).mono fun e w' h => ⟨h.1.trans h3, h.2⟩
  clear hops hcalls
  cases b1 with
  | true =>
    have h1 : flX x = 0 := i1.1 rfl
    cases b2 with
    | true =>
      have h2 : flX y = 0 := i2.1 rfl
      cases b3 with
      | true =>
        exact absurd (i3.1 rfl) (fun c => hn ⟨flX_iff.1 h1, flX_iff.1 h2, flX_iff.1 c⟩)
      | false =>
        have h3 : ¬ (flX z = 0) := fun c => Bool.false_ne_true (i3.2 c)
        exact fin _ (DyadGo_b_r1) rfl rfl
    | false =>
      have h2 : ¬ (flX y = 0) := fun c => Bool.false_ne_true (i2.2 c)
      exact fin _ (DyadGo_b_r2 b3) rfl rfl
  | false =>
    have h1 : ¬ (flX x = 0) := fun c => Bool.false_ne_true (i1.2 c)
    exact fin _ (DyadGo_b_r3 b2 b3) rfl rfl

theorem DyadGo_law (x y z : Nat) (w : World) (hx : x < 18446744073709551616) (hy : y < 18446744073709551616) (hz : z < 18446744073709551616) (hG : Globs glT w) : Calls Tryd.prog 12 #[.float .f64 x, .float .f64 y, .float .f64 z] w fun e w' => e = .returned (.bool true) ∧ Below w.heap.size w w' := by
  by_cases h : Bt.finB x = true ∧ Bt.finB y = true ∧ Bt.finB z = true
  · exact DyadGo_f x y z w hx hy hz h.1 h.2.1 h.2.2 hG
  · exact DyadGo_b x y z w hx hy hz h hG
end Go.Proofs.YtjkonfopajihdaaDoor
namespace Go.Proofs.YtjkonfopajihdaaDoor
open Go Go.RowKit Go.WideShapes Go.ChangeShapes
variable {H : Type} {enc : TypeId × Value → H} {P : Program}

theorem postBelow {f : Func} {s : ChangeSpec} {apart fresh handsOn again : Bool} {W W' : World} {args : Array Value} {v : Value} {ds gs : List (DataW H)} {places pa pv : List MemPlace}
    (whole : DataW.Whole enc P f.params.toList s.vars apart W args.toList ds gs places)
    (res : ∀ (b : Nat) (sp : Nat → Bool) (hd : Bool), DataW.TrodAll enc P W' b sp hd f.resultTypes.toList (v.resultList f.resultTypes.size) (s.fn H (ds ++ gs)).results [])
    (left : ∀ sp : Nat → Bool, (∀ p ∈ places, sp p.block = true) → DataW.TrodAll enc P W' 0 sp true f.params.toList args.toList (s.fn H (ds ++ gs)).args pa)
    (vars : ∀ sp : Nat → Bool, (∀ p ∈ places, sp p.block = true) → DataW.TrodVars enc P W' sp s.vars (s.fn H (ds ++ gs)).vars pv)
    (split : places = pa ++ pv) (below : Below W.heap.size W W')
    (ok : ∀ (j : Nat) (t : TypeId) (r : Value), f.resultTypes[j]? = some t → (v.resultList f.resultTypes.size)[j]? = some r → Value.okWide P W' .any 0 t r) :
    s.post enc P f apart fresh handsOn again W args v W' := by
  have old : ∀ p ∈ places, p.block < W.heap.size := fun p hp => whole.lt p hp
  have same : ∀ p ∈ places, (fun b => decide (b < W.heap.size)) p.block = true := fun p hp => decide_eq_true (old p hp)
  have kept : W.keptBut W' (fun p => p ∈ places ∧ p ∈ pa ++ pv) :=
    World.keptBut_mono (fun p hp => ⟨hp, split ▸ hp⟩) (below.frame (· ∈ places))
  have free : ∀ b off, MemPlace.cell b off ∈ pa ++ pv → W'.frozen? ⟨b, off, none⟩ = false := fun b off hp => by
    have hin : MemPlace.cell b off ∈ places := split ▸ hp
    rw [below.frozen (p := ⟨b, off, none⟩) (old _ hin)]
    obtain ⟨_, _, _, _, _, hz, _⟩ := whole
    exact hz b off hin
  have apartNow : apart = true → (pa ++ pv).Nodup := fun ha => by
    obtain ⟨_, _, _, _, _, _, hn⟩ := whole
    exact split ▸ hn ha
  refine ⟨ds, gs, places, [], pa, pv, whole, res _ _ _, left _ same, vars _ same, ?_, fun _ => ⟨ok, _, _, ([] ++ pa) ++ pv, ⟨[] ++ pa, pv, trodAll_append (left _ (fun _ _ => rfl)) (res _ _ _), vars _ (fun _ _ => rfl), rfl, ?_, ?_⟩, ?_⟩⟩
  · exact World.keptBut_mono (fun p hp => ⟨hp.1, Or.inr (List.mem_append.1 hp.2)⟩) kept
  · intro b off hp; exact free b off (by simpa using hp)
  · intro ha; simpa using apartNow ha
  · intro p hp _; rw [split]; simpa using hp
end Go.Proofs.YtjkonfopajihdaaDoor
set_option linter.unusedVariables false
namespace Go.Proofs.YtjkonfopajihdaaDoor
open Go.ChangeShapes Go.WideShapes Go.ChangeAt Go.RowKit Go.Joins
variable {H : Type} {enc : TypeId × Value → H}
/-- A Dyad's datum. -/
def dyadD (H : Type) (g : Bool) (s : ByteArray) (x : Int) : DataW H := .agg [.lit (.bool g), .lit (.string s.data.toList), .lit (.int .i64 x)]
set_option maxRecDepth 100000 in
theorem open_dyad {w : World} {base : Nat} {spare : Nat → Bool} {held : Bool} {r : Go.Reach} {b0 : Nat} {v : Value} {d : DataW H} {p : List MemPlace}
    (hv : Value.okWide Tryd.prog w r b0 24 v) (h : DataW.Trod enc Tryd.prog w base spare held 24 v d p) :
    ∃ (g : Bool) (s : ByteArray) (x : Int), v = .agg #[.bool g, .string s, .int .i64 x] ∧ d = dyadD H g s x ∧ p = [] ∧ s.size ≤ maxLen ∧ (Lit.int .i64 x).wf = true := by
  obtain ⟨c0, c1, c2, y0, y1, y2, m, rfl, rfl, rfl, hy0, hy1, hy2⟩ := open_agg3 Tryd.underlying24 (by kernel_rfl) (by kernel_rfl) hv h
  obtain ⟨g, e0, rfl⟩ := DataW.trod_bool Tryd.underlying4 hy0
  obtain ⟨s, e1, rfl, hs⟩ := DataW.trod_string Tryd.underlying22 hy1
  obtain ⟨x, e2, rfl, wx⟩ := DataW.trod_int Tryd.underlying3 hy2
  simp at e0 e1 e2
  subst e0 e1 e2
  exact ⟨g, s, x, rfl, rfl, rfl, hs, wx⟩
set_option maxRecDepth 100000 in
theorem shut_dyad {W' : World} {b : Nat} {sp : Nat → Bool} {hd : Bool} {g : Bool} {s : ByteArray} {x : Int} (hs : s.size ≤ maxLen) (wx : (Lit.int .i64 x).wf = true) :
    DataW.Trod enc Tryd.prog W' b sp hd 24 (.agg #[.bool g, .string s, .int .i64 x]) (dyadD H g s x) [] := by
  simpa [dyadD] using shut_agg3 (enc := enc) (w := W') (base := b) (spare := sp) (held := hd) (y0 := (.lit (.bool g), [])) (y1 := (.lit (.string s.data.toList), [])) (y2 := (.lit (.int .i64 x), [])) Tryd.underlying24 (by kernel_rfl) (by kernel_rfl) ⟨1, by simp [DataW.trod, Tryd.underlying4]⟩ ⟨1, by simp [DataW.trod, Tryd.underlying22, hs]⟩ ⟨1, by simp [DataW.trod, Tryd.underlying3, wx]⟩
theorem int64_bounds {x : Int} (h : (Lit.int .i64 x).wf = true) : -9223372036854775808 ≤ x ∧ x ≤ 9223372036854775807 := by
  unfold Lit.wf at h
  rw [Bool.and_eq_true, decide_eq_true_iff, decide_eq_true_iff] at h
  exact h
theorem float_bound {b : Nat} (h : (Lit.float .f64 b).wf = true) : b < 18446744073709551616 := by
  unfold Lit.wf at h
  exact of_decide_eq_true h
end Go.Proofs.YtjkonfopajihdaaDoor
