/- Texts put together: A16 A18 A19 A21 A17 A22 AP A23 A24 A25. -/
import Derived.Test.YtfoldiieclfbgaaR4
import Derived.Test.YtfoldiieclfbgaaRows
import Derived.Test.YtfoldiieclfbgaaR1
import Derived.ProofKit
import Derived.Lib.SmallJoins
import Derived.OpenShut
import Derived.ShutString
set_option linter.unusedVariables false
set_option linter.unusedSimpArgs false
namespace Go.Proofs.Ytfoldiieclfbgaa
open Go Go.RowKit Nt

theorem anA_le (r : Rt) : (anA r).n ≤ 2147483647 ∧ (anA r).d ≤ 2147483647 := by
  rcases r.cases_ with ⟨a, h⟩ | h
  · rw [(okB_is h).2.1]; exact ⟨h.1.le.1, h.1.le.2.1⟩
  · rw [(okB_no h).2.1]; exact ⟨by decide, by decide⟩
theorem anA_ok {r : Rt} (h : okB r = true) : (anA r).Ok := by
  obtain ⟨a, ha⟩ := okB_iff.1 h
  rw [(okB_is ha).2.1]; exact ha.1
theorem anA_ok0 {r : Rt} (h : anE r = 0) : (anA r).Ok := anA_ok (anE_iff.1 h)
theorem anA_eq {a x : Rt} (ha : okB a = true) (hx : okB x = true) (h : anA a = anA x) : a = x := by
  obtain ⟨p, hp⟩ := okB_iff.1 ha
  obtain ⟨q, hq⟩ := okB_iff.1 hx
  rw [(okB_is hp).2.1, (okB_is hq).2.1] at h
  rw [hp.2, hq.2, h]
theorem okB_f {r : Rt} (h : ¬ okB r = true) : anE r = 210 := by unfold anE; exact if_neg h

@[reducible] def Acompare_c0_f : FuncId := 52
@[reducible] def Acompare_c0_a : List AV := [.agg [.sym 0, .sym 1], .agg [.sym 2, .sym 3]]
@[reducible] noncomputable def Acompare_c0_k (b1 b2 : Bool) : Know := ⟨[([0, 2, 28], [.sym 0, .sym 3], .sym 4),
  ([0, 2, 28], [.sym 2, .sym 1], .sym 5),
  ([0, 12, 28], [.sym 4, .sym 4], .lit (.bool false)),
  ([0, 12, 28], [.sym 5, .sym 5], .lit (.bool false)),
  ([0, 13, 28], [.sym 4, .sym 5], .lit (.bool b1)),
  ([0, 15, 28], [.sym 4, .sym 5], .lit (.bool b2))],
  []⟩
theorem Acompare_c0_r1 (b2 : Bool) : @comes (Acompare_c0_k true b2) Try.prog glT 3000 Acompare_c0_f Acompare_c0_a = some (.lit (.int .i64 (-1))) := by kernel_rfl
theorem Acompare_c0_r2 : @comes (Acompare_c0_k false true) Try.prog glT 3000 Acompare_c0_f Acompare_c0_a = some (.lit (.int .i64 1)) := by kernel_rfl
theorem Acompare_c0_r3 : @comes (Acompare_c0_k false false) Try.prog glT 3000 Acompare_c0_f Acompare_c0_a = some (.lit (.int .i64 0)) := by kernel_rfl

set_option maxRecDepth 100000 in
set_option maxHeartbeats 4000000 in
theorem Acompare_c0 (a b : An) (w : World) (ha : a.n ≤ 2147483647 ∧ a.d ≤ 2147483647) (hb : b.n ≤ 2147483647 ∧ b.d ≤ 2147483647) : Calls Try.prog 52 #[.agg #[.int .u64 ((a.n : Nat) : Int), .int .u64 ((a.d : Nat) : Int)], .agg #[.int .u64 ((b.n : Nat) : Int), .int .u64 ((b.d : Nat) : Int)]] w fun e w' => e = .returned (.int .i64 (cmp21 (a.n * b.d) (b.n * a.d))) ∧ Below w.heap.size w w' := by
  have hG : Globs glT w := glT_all w
  obtain ⟨b1, i1⟩ := bex (((a.n * b.d : Nat) : Int) < ((b.n * a.d : Nat) : Int))
  obtain ⟨b2, i2⟩ := bex (((a.n * b.d : Nat) : Int) > ((b.n * a.d : Nat) : Int))
  letI : Env := mkEnv glT [.int .u64 ((a.n : Nat) : Int), .int .u64 ((a.d : Nat) : Int), .int .u64 ((b.n : Nat) : Int), .int .u64 ((b.d : Nat) : Int), .int .u64 ((a.n * b.d : Nat) : Int), .int .u64 ((b.n * a.d : Nat) : Int)] rfl
  have hops : OpsT Try.prog (@Know.ops (Acompare_c0_k b1 b2)) := ⟨nopt_mul (x := a.n) (y := b.d) (z := a.n * b.d) rfl rfl rfl rfl rfl (prod_lt ha.1 hb.2),
    nopt_mul (x := b.n) (y := a.d) (z := b.n * a.d) rfl rfl rfl rfl rfl (prod_lt hb.1 ha.2),
    opt_neq_f rfl rfl rfl,
    opt_neq_f rfl rfl rfl,
    opt_lss_i rfl rfl i1,
    opt_gtr_i rfl rfl i2,
    trivial⟩
  have hcalls : CallsT Try.prog (@Know.calls (Acompare_c0_k b1 b2)) := trivial
  have fin : ∀ v, @comes (Acompare_c0_k b1 b2) Try.prog glT 3000 Acompare_c0_f Acompare_c0_a = some v → ground v = true → Ending.returned (gval v) = .returned (.int .i64 (cmp21 (a.n * b.d) (b.n * a.d))) → Calls Try.prog 52 #[.agg #[.int .u64 ((a.n : Nat) : Int), .int .u64 ((a.d : Nat) : Int)], .agg #[.int .u64 ((b.n : Nat) : Int), .int .u64 ((b.d : Nat) : Int)]] w fun e w' => e = .returned (.int .i64 (cmp21 (a.n * b.d) (b.n * a.d))) ∧ Below w.heap.size w w' := fun v h1 h2 h3 => (@sym_ok _ (Acompare_c0_k b1 b2) _ (@KnowOk.of _ (Acompare_c0_k b1 b2) _ hops hcalls) (by kernel_rfl) _ _ _ _ h1 rfl h2 _ hG).mono fun e w' h => ⟨h.1.trans h3, h.2⟩
  clear hops hcalls
  cases b1 with
  | true =>
    have h1 : ((a.n * b.d : Nat) : Int) < ((b.n * a.d : Nat) : Int) := i1.1 rfl
    exact fin _ (Acompare_c0_r1 b2) rfl (show Ending.returned (.int .i64 (-1)) = .returned (.int .i64 (cmp21 (a.n * b.d) (b.n * a.d))) from by rw [cmp21_lt (x := a.n * b.d) (y := b.n * a.d) (Int.ofNat_lt.1 h1)])
  | false =>
    have h1 : ¬ (((a.n * b.d : Nat) : Int) < ((b.n * a.d : Nat) : Int)) := fun c => Bool.false_ne_true (i1.2 c)
    cases b2 with
    | true =>
      have h2 : ((a.n * b.d : Nat) : Int) > ((b.n * a.d : Nat) : Int) := i2.1 rfl
      exact fin _ (Acompare_c0_r2) rfl (show Ending.returned (.int .i64 1) = .returned (.int .i64 (cmp21 (a.n * b.d) (b.n * a.d))) from by rw [cmp21_gt (x := a.n * b.d) (y := b.n * a.d) (Int.ofNat_lt.1 h2)])
    | false =>
      have h2 : ¬ (((a.n * b.d : Nat) : Int) > ((b.n * a.d : Nat) : Int)) := fun c => Bool.false_ne_true (i2.2 c)
      exact fin _ (Acompare_c0_r3) rfl (show Ending.returned (.int .i64 0) = .returned (.int .i64 (cmp21 (a.n * b.d) (b.n * a.d))) from by rw [show a.n * b.d = b.n * a.d from Nat.le_antisymm (Nat.le_of_not_lt fun c => h2 (Int.ofNat_lt.2 c)) (Nat.le_of_not_lt fun c => h1 (Int.ofNat_lt.2 c)), cmp21_eq])

theorem Acompare_c (a b : An) (w : World) (ha : a.n ≤ 2147483647 ∧ a.d ≤ 2147483647) (hb : b.n ≤ 2147483647 ∧ b.d ≤ 2147483647) : Calls Try.prog 52 #[.agg #[.int .u64 (a.n : Nat), .int .u64 (a.d : Nat)], .agg #[.int .u64 (b.n : Nat), .int .u64 (b.d : Nat)]] w fun e w' => e = .returned (.int .i64 (cmp21 (a.n * b.d) (b.n * a.d))) ∧ Below w.heap.size w w' := Acompare_c0 a b w ha hb

@[reducible] def rCmp21_c0_f : FuncId := 23
@[reducible] def rCmp21_c0_a : List AV := [.agg [.sym 0, .sym 1], .agg [.sym 2, .sym 3]]
@[reducible] noncomputable def rCmp21_c0_k (b1 b2 : Bool) : Know := ⟨[([0, 2, 28], [.sym 0, .sym 3], .sym 4),
  ([0, 2, 28], [.sym 2, .sym 1], .sym 5),
  ([0, 13, 28], [.sym 4, .sym 5], .lit (.bool b1)),
  ([0, 15, 28], [.sym 4, .sym 5], .lit (.bool b2))],
  []⟩
theorem rCmp21_c0_r1 (b2 : Bool) : @comes (rCmp21_c0_k true b2) Try.prog glT 3000 rCmp21_c0_f rCmp21_c0_a = some (.lit (.int .i64 (-1))) := by kernel_rfl
theorem rCmp21_c0_r2 : @comes (rCmp21_c0_k false true) Try.prog glT 3000 rCmp21_c0_f rCmp21_c0_a = some (.lit (.int .i64 1)) := by kernel_rfl
theorem rCmp21_c0_r3 : @comes (rCmp21_c0_k false false) Try.prog glT 3000 rCmp21_c0_f rCmp21_c0_a = some (.lit (.int .i64 0)) := by kernel_rfl

set_option maxRecDepth 100000 in
set_option maxHeartbeats 4000000 in
theorem rCmp21_c0 (a b : An) (w : World) (ha : a.n ≤ 2147483647 ∧ a.d ≤ 2147483647) (hb : b.n ≤ 2147483647 ∧ b.d ≤ 2147483647) : Calls Try.prog 23 #[.agg #[.int .u64 ((a.n : Nat) : Int), .int .u64 ((a.d : Nat) : Int)], .agg #[.int .u64 ((b.n : Nat) : Int), .int .u64 ((b.d : Nat) : Int)]] w fun e w' => e = .returned (.int .i64 (cmp21 (a.n * b.d) (b.n * a.d))) ∧ Below w.heap.size w w' := by
  have hG : Globs glT w := glT_all w
  obtain ⟨b1, i1⟩ := bex (((a.n * b.d : Nat) : Int) < ((b.n * a.d : Nat) : Int))
  obtain ⟨b2, i2⟩ := bex (((a.n * b.d : Nat) : Int) > ((b.n * a.d : Nat) : Int))
  letI : Env := mkEnv glT [.int .u64 ((a.n : Nat) : Int), .int .u64 ((a.d : Nat) : Int), .int .u64 ((b.n : Nat) : Int), .int .u64 ((b.d : Nat) : Int), .int .u64 ((a.n * b.d : Nat) : Int), .int .u64 ((b.n * a.d : Nat) : Int)] rfl
  have hops : OpsT Try.prog (@Know.ops (rCmp21_c0_k b1 b2)) := ⟨nopt_mul (x := a.n) (y := b.d) (z := a.n * b.d) rfl rfl rfl rfl rfl (prod_lt ha.1 hb.2),
    nopt_mul (x := b.n) (y := a.d) (z := b.n * a.d) rfl rfl rfl rfl rfl (prod_lt hb.1 ha.2),
    opt_lss_i rfl rfl i1,
    opt_gtr_i rfl rfl i2,
    trivial⟩
  have hcalls : CallsT Try.prog (@Know.calls (rCmp21_c0_k b1 b2)) := trivial
  have fin : ∀ v, @comes (rCmp21_c0_k b1 b2) Try.prog glT 3000 rCmp21_c0_f rCmp21_c0_a = some v → ground v = true → Ending.returned (gval v) = .returned (.int .i64 (cmp21 (a.n * b.d) (b.n * a.d))) → Calls Try.prog 23 #[.agg #[.int .u64 ((a.n : Nat) : Int), .int .u64 ((a.d : Nat) : Int)], .agg #[.int .u64 ((b.n : Nat) : Int), .int .u64 ((b.d : Nat) : Int)]] w fun e w' => e = .returned (.int .i64 (cmp21 (a.n * b.d) (b.n * a.d))) ∧ Below w.heap.size w w' := fun v h1 h2 h3 => (@sym_ok _ (rCmp21_c0_k b1 b2) _ (@KnowOk.of _ (rCmp21_c0_k b1 b2) _ hops hcalls) (by kernel_rfl) _ _ _ _ h1 rfl h2 _ hG).mono fun e w' h => ⟨h.1.trans h3, h.2⟩
  clear hops hcalls
  cases b1 with
  | true =>
    have h1 : ((a.n * b.d : Nat) : Int) < ((b.n * a.d : Nat) : Int) := i1.1 rfl
    exact fin _ (rCmp21_c0_r1 b2) rfl (show Ending.returned (.int .i64 (-1)) = .returned (.int .i64 (cmp21 (a.n * b.d) (b.n * a.d))) from by rw [cmp21_lt (x := a.n * b.d) (y := b.n * a.d) (Int.ofNat_lt.1 h1)])
  | false =>
    have h1 : ¬ (((a.n * b.d : Nat) : Int) < ((b.n * a.d : Nat) : Int)) := fun c => Bool.false_ne_true (i1.2 c)
    cases b2 with
    | true =>
      have h2 : ((a.n * b.d : Nat) : Int) > ((b.n * a.d : Nat) : Int) := i2.1 rfl
      exact fin _ (rCmp21_c0_r2) rfl (show Ending.returned (.int .i64 1) = .returned (.int .i64 (cmp21 (a.n * b.d) (b.n * a.d))) from by rw [cmp21_gt (x := a.n * b.d) (y := b.n * a.d) (Int.ofNat_lt.1 h2)])
    | false =>
      have h2 : ¬ (((a.n * b.d : Nat) : Int) > ((b.n * a.d : Nat) : Int)) := fun c => Bool.false_ne_true (i2.2 c)
      exact fin _ (rCmp21_c0_r3) rfl (show Ending.returned (.int .i64 0) = .returned (.int .i64 (cmp21 (a.n * b.d) (b.n * a.d))) from by rw [show a.n * b.d = b.n * a.d from Nat.le_antisymm (Nat.le_of_not_lt fun c => h2 (Int.ofNat_lt.2 c)) (Nat.le_of_not_lt fun c => h1 (Int.ofNat_lt.2 c)), cmp21_eq])

theorem rCmp21_c (a b : An) (w : World) (ha : a.n ≤ 2147483647 ∧ a.d ≤ 2147483647) (hb : b.n ≤ 2147483647 ∧ b.d ≤ 2147483647) : Calls Try.prog 23 #[.agg #[.int .u64 (a.n : Nat), .int .u64 (a.d : Nat)], .agg #[.int .u64 (b.n : Nat), .int .u64 (b.d : Nat)]] w fun e w' => e = .returned (.int .i64 (cmp21 (a.n * b.d) (b.n * a.d))) ∧ Below w.heap.size w w' := rCmp21_c0 a b w ha hb

/-- All three are angles. -/
def ok3 (a x b : Rt) : Prop := anE a = 0 ∧ anE x = 0 ∧ anE b = 0
open Classical in
@[irreducible] noncomputable def btR (a x b : Rt) : Bool := decide (ok3 a x b) && btwA (anA a) (anA x) (anA b)
open Classical in
@[irreducible] noncomputable def btE (a x b : Rt) : Int := if ok3 a x b then 0 else 210
theorem bt_ok {a x b : Rt} (h : ok3 a x b) : btR a x b = btwA (anA a) (anA x) (anA b) ∧ btE a x b = 0 := by
  unfold btR btE; rw [if_pos h]; simp [h]
theorem bt_no {a x b : Rt} (h : ¬ ok3 a x b) : btR a x b = false ∧ btE a x b = 210 := by
  unfold btR btE; rw [if_neg h]; simp [h]
theorem btw_t {a x b : An} (h : btwA a x b = true) : true = btwA a x b := h.symm
theorem btw_f {a x b : An} (h : ¬ btwA a x b = true) : false = btwA a x b := (Bool.eq_false_iff.2 h).symm

@[reducible] def ABetween_any_f : FuncId := 42
@[reducible] def ABetween_any_a : List AV := [.agg [.sym 0, .sym 1, .sym 2], .agg [.sym 3, .sym 4, .sym 5], .agg [.sym 6, .sym 7, .sym 8]]
@[reducible] noncomputable def ABetween_any_k (b1 b2 b3 b4 b5 b6 b7 b8 : Bool) : Know := ⟨[([0, 12, 25], [.sym 11, .lit (.int .i64 0)], .lit (.bool (!b1))),
  ([0, 12, 25], [.sym 14, .lit (.int .i64 0)], .lit (.bool (!b2))),
  ([0, 12, 25], [.sym 17, .lit (.int .i64 0)], .lit (.bool (!b3))),
  ([0, 13, 3], [.sym 18, .lit (.int .i64 0)], .lit (.bool b4)),
  ([0, 13, 3], [.sym 19, .lit (.int .i64 0)], .lit (.bool b5)),
  ([0, 11, 3], [.sym 20, .lit (.int .i64 (-1))], .lit (.bool b6)),
  ([0, 11, 3], [.sym 20, .lit (.int .i64 1)], .lit (.bool b7)),
  ([0, 12, 93], [.agg [.sym 12, .sym 13], .agg [.sym 9, .sym 10]], .lit (.bool (!b8)))],
  [(51, [.agg [.sym 0, .sym 1, .sym 2]], .tup [.agg [.sym 9, .sym 10], .sym 11]),
  (51, [.agg [.sym 3, .sym 4, .sym 5]], .tup [.agg [.sym 12, .sym 13], .sym 14]),
  (51, [.agg [.sym 6, .sym 7, .sym 8]], .tup [.agg [.sym 15, .sym 16], .sym 17]),
  (52, [.agg [.sym 9, .sym 10], .agg [.sym 12, .sym 13]], .sym 18),
  (52, [.agg [.sym 12, .sym 13], .agg [.sym 15, .sym 16]], .sym 19),
  (52, [.agg [.sym 9, .sym 10], .agg [.sym 15, .sym 16]], .sym 20)]⟩
theorem ABetween_any_r1 (b7 b8 : Bool) : @comes (ABetween_any_k true true true true true true b7 b8) Try.prog glT 3000 ABetween_any_f ABetween_any_a = some (.lit (.tuple #[.bool true, .int .i64 0])) := by kernel_rfl
theorem ABetween_any_r2 (b8 : Bool) : @comes (ABetween_any_k true true true true true false true b8) Try.prog glT 3000 ABetween_any_f ABetween_any_a = some (.lit (.tuple #[.bool true, .int .i64 0])) := by kernel_rfl
theorem ABetween_any_r3 : @comes (ABetween_any_k true true true true true false false true) Try.prog glT 3000 ABetween_any_f ABetween_any_a = some (.lit (.tuple #[.bool false, .int .i64 0])) := by kernel_rfl
theorem ABetween_any_r4 : @comes (ABetween_any_k true true true true true false false false) Try.prog glT 3000 ABetween_any_f ABetween_any_a = some (.lit (.tuple #[.bool true, .int .i64 0])) := by kernel_rfl
theorem ABetween_any_r5 (b7 b8 : Bool) : @comes (ABetween_any_k true true true true false true b7 b8) Try.prog glT 3000 ABetween_any_f ABetween_any_a = some (.lit (.tuple #[.bool false, .int .i64 0])) := by kernel_rfl
theorem ABetween_any_r6 (b8 : Bool) : @comes (ABetween_any_k true true true true false false true b8) Try.prog glT 3000 ABetween_any_f ABetween_any_a = some (.lit (.tuple #[.bool true, .int .i64 0])) := by kernel_rfl
theorem ABetween_any_r7 : @comes (ABetween_any_k true true true true false false false true) Try.prog glT 3000 ABetween_any_f ABetween_any_a = some (.lit (.tuple #[.bool false, .int .i64 0])) := by kernel_rfl
theorem ABetween_any_r8 : @comes (ABetween_any_k true true true true false false false false) Try.prog glT 3000 ABetween_any_f ABetween_any_a = some (.lit (.tuple #[.bool true, .int .i64 0])) := by kernel_rfl
theorem ABetween_any_r9 (b7 b8 : Bool) : @comes (ABetween_any_k true true true false true true b7 b8) Try.prog glT 3000 ABetween_any_f ABetween_any_a = some (.lit (.tuple #[.bool false, .int .i64 0])) := by kernel_rfl
theorem ABetween_any_r10 (b8 : Bool) : @comes (ABetween_any_k true true true false true false true b8) Try.prog glT 3000 ABetween_any_f ABetween_any_a = some (.lit (.tuple #[.bool true, .int .i64 0])) := by kernel_rfl
theorem ABetween_any_r11 : @comes (ABetween_any_k true true true false true false false true) Try.prog glT 3000 ABetween_any_f ABetween_any_a = some (.lit (.tuple #[.bool false, .int .i64 0])) := by kernel_rfl
theorem ABetween_any_r12 : @comes (ABetween_any_k true true true false true false false false) Try.prog glT 3000 ABetween_any_f ABetween_any_a = some (.lit (.tuple #[.bool true, .int .i64 0])) := by kernel_rfl
theorem ABetween_any_r13 (b7 b8 : Bool) : @comes (ABetween_any_k true true true false false true b7 b8) Try.prog glT 3000 ABetween_any_f ABetween_any_a = some (.lit (.tuple #[.bool false, .int .i64 0])) := by kernel_rfl
theorem ABetween_any_r14 (b8 : Bool) : @comes (ABetween_any_k true true true false false false true b8) Try.prog glT 3000 ABetween_any_f ABetween_any_a = some (.lit (.tuple #[.bool false, .int .i64 0])) := by kernel_rfl
theorem ABetween_any_r15 : @comes (ABetween_any_k true true true false false false false true) Try.prog glT 3000 ABetween_any_f ABetween_any_a = some (.lit (.tuple #[.bool false, .int .i64 0])) := by kernel_rfl
theorem ABetween_any_r16 : @comes (ABetween_any_k true true true false false false false false) Try.prog glT 3000 ABetween_any_f ABetween_any_a = some (.lit (.tuple #[.bool true, .int .i64 0])) := by kernel_rfl
theorem ABetween_any_r17 (b4 b5 b6 b7 b8 : Bool) : @comes (ABetween_any_k true true false b4 b5 b6 b7 b8) Try.prog glT 3000 ABetween_any_f ABetween_any_a = some (.lit (.tuple #[.bool false, .int .i64 210])) := by kernel_rfl
theorem ABetween_any_r18 (b3 b4 b5 b6 b7 b8 : Bool) : @comes (ABetween_any_k true false b3 b4 b5 b6 b7 b8) Try.prog glT 3000 ABetween_any_f ABetween_any_a = some (.lit (.tuple #[.bool false, .int .i64 210])) := by kernel_rfl
theorem ABetween_any_r19 (b2 b3 b4 b5 b6 b7 b8 : Bool) : @comes (ABetween_any_k false b2 b3 b4 b5 b6 b7 b8) Try.prog glT 3000 ABetween_any_f ABetween_any_a = some (.lit (.tuple #[.bool false, .int .i64 210])) := by kernel_rfl

set_option maxRecDepth 100000 in
set_option maxHeartbeats 4000000 in
theorem ABetween_any (a x b : Rt) (w : World) (hza : a.small) (hzx : x.small) (hzb : b.small) : Calls Try.prog 42 #[.agg #[.bool a.g, .string a.s, .string a.t], .agg #[.bool x.g, .string x.s, .string x.t], .agg #[.bool b.g, .string b.s, .string b.t]] w fun e w' => e = .returned (.tuple #[.bool (btR a x b), .int .i64 (btE a x b)]) ∧ Below w.heap.size w w' := by
  have hG : Globs glT w := glT_all w
  obtain ⟨b1, i1⟩ := bex (anE a = 0)
  obtain ⟨b2, i2⟩ := bex (anE x = 0)
  obtain ⟨b3, i3⟩ := bex (anE b = 0)
  obtain ⟨b4, i4⟩ := bex (cmp21 ((anA a).n * (anA x).d) ((anA x).n * (anA a).d) < 0)
  obtain ⟨b5, i5⟩ := bex (cmp21 ((anA x).n * (anA b).d) ((anA b).n * (anA x).d) < 0)
  obtain ⟨b6, i6⟩ := bex (cmp21 ((anA a).n * (anA b).d) ((anA b).n * (anA a).d) = -1)
  obtain ⟨b7, i7⟩ := bex (cmp21 ((anA a).n * (anA b).d) ((anA b).n * (anA a).d) = 1)
  obtain ⟨b8, i8⟩ := bex (anA x = anA a)
  letI : Env := mkEnv glT [.bool a.g, .string a.s, .string a.t, .bool x.g, .string x.s, .string x.t, .bool b.g, .string b.s, .string b.t, .int .u64 (((anA a).n : Nat) : Int), .int .u64 (((anA a).d : Nat) : Int), .int .i64 (anE a), .int .u64 (((anA x).n : Nat) : Int), .int .u64 (((anA x).d : Nat) : Int), .int .i64 (anE x), .int .u64 (((anA b).n : Nat) : Int), .int .u64 (((anA b).d : Nat) : Int), .int .i64 (anE b), .int .i64 (cmp21 ((anA a).n * (anA x).d) ((anA x).n * (anA a).d)), .int .i64 (cmp21 ((anA x).n * (anA b).d) ((anA b).n * (anA x).d)), .int .i64 (cmp21 ((anA a).n * (anA b).d) ((anA b).n * (anA a).d))] rfl
  have hops : OpsT Try.prog (@Know.ops (ABetween_any_k b1 b2 b3 b4 b5 b6 b7 b8)) := ⟨opt_neq_i rfl rfl i1,
    opt_neq_i rfl rfl i2,
    opt_neq_i rfl rfl i3,
    opt_lss_i rfl rfl i4,
    opt_lss_i rfl rfl i5,
    opt_eql_i rfl rfl i6,
    opt_eql_i rfl rfl i7,
    optp_neq_i rfl rfl i8,
    trivial⟩
  have hcalls : CallsT Try.prog (@Know.calls (ABetween_any_k b1 b2 b3 b4 b5 b6 b7 b8)) := ⟨callt rfl rfl fun w hG => Aopen_any a hza w,
    callt rfl rfl fun w hG => Aopen_any x hzx w,
    callt rfl rfl fun w hG => Aopen_any b hzb w,
    callt rfl rfl fun w hG => Acompare_c (anA a) (anA x) w (anA_le a) (anA_le x),
    callt rfl rfl fun w hG => Acompare_c (anA x) (anA b) w (anA_le x) (anA_le b),
    callt rfl rfl fun w hG => Acompare_c (anA a) (anA b) w (anA_le a) (anA_le b),
    trivial⟩
  have fin : ∀ v, @comes (ABetween_any_k b1 b2 b3 b4 b5 b6 b7 b8) Try.prog glT 3000 ABetween_any_f ABetween_any_a = some v → ground v = true → Ending.returned (gval v) = .returned (.tuple #[.bool (btR a x b), .int .i64 (btE a x b)]) → Calls Try.prog 42 #[.agg #[.bool a.g, .string a.s, .string a.t], .agg #[.bool x.g, .string x.s, .string x.t], .agg #[.bool b.g, .string b.s, .string b.t]] w fun e w' => e = .returned (.tuple #[.bool (btR a x b), .int .i64 (btE a x b)]) ∧ Below w.heap.size w w' := fun v h1 h2 h3 => (@sym_ok _ (ABetween_any_k b1 b2 b3 b4 b5 b6 b7 b8) _ (@KnowOk.of _ (ABetween_any_k b1 b2 b3 b4 b5 b6 b7 b8) _ hops hcalls) (by kernel_rfl) _ _ _ _ h1 rfl h2 _ hG).mono fun e w' h => ⟨h.1.trans h3, h.2⟩
  clear hops hcalls
  cases b1 with
  | true =>
    have h1 : anE a = 0 := i1.1 rfl
    cases b2 with
    | true =>
      have h2 : anE x = 0 := i2.1 rfl
      cases b3 with
      | true =>
        have h3 : anE b = 0 := i3.1 rfl
        cases b4 with
        | true =>
          have h4 : cmp21 ((anA a).n * (anA x).d) ((anA x).n * (anA a).d) < 0 := i4.1 rfl
          cases b5 with
          | true =>
            have h5 : cmp21 ((anA x).n * (anA b).d) ((anA b).n * (anA x).d) < 0 := i5.1 rfl
            cases b6 with
            | true =>
              have h6 : cmp21 ((anA a).n * (anA b).d) ((anA b).n * (anA a).d) = -1 := i6.1 rfl
              exact fin _ (ABetween_any_r1 b7 b8) rfl (show Ending.returned (.tuple #[.bool true, .int .i64 0]) = .returned (.tuple #[.bool (btR a x b), .int .i64 (btE a x b)]) from (by
            have hv : btwA (anA a) (anA x) (anA b) = true := by
              have g0 := (show (anA a).n * (anA x).d < (anA x).n * (anA a).d from cmp21_neg.1 h4)
              have g1 := (show (anA x).n * (anA b).d < (anA b).n * (anA x).d from cmp21_neg.1 h5)
              have g2 := (show (anA a).n * (anA b).d < (anA b).n * (anA a).d from cmp21_m1.1 h6)
              simp [btwA, ltA, g0, g1, g2]
            rw [(bt_ok (show ok3 a x b from ⟨h1, h2, h3⟩)).1, (bt_ok (show ok3 a x b from ⟨h1, h2, h3⟩)).2, hv]))
            | false =>
              have h6 : ¬ (cmp21 ((anA a).n * (anA b).d) ((anA b).n * (anA a).d) = -1) := fun c => Bool.false_ne_true (i6.2 c)
              cases b7 with
              | true =>
                have h7 : cmp21 ((anA a).n * (anA b).d) ((anA b).n * (anA a).d) = 1 := i7.1 rfl
                exact fin _ (ABetween_any_r2 b8) rfl (show Ending.returned (.tuple #[.bool true, .int .i64 0]) = .returned (.tuple #[.bool (btR a x b), .int .i64 (btE a x b)]) from (by
            have hv : btwA (anA a) (anA x) (anA b) = true := by
              have g0 := (show (anA a).n * (anA x).d < (anA x).n * (anA a).d from cmp21_neg.1 h4)
              have g1 := (show (anA x).n * (anA b).d < (anA b).n * (anA x).d from cmp21_neg.1 h5)
              have g2 := (show ¬ ((anA a).n * (anA b).d < (anA b).n * (anA a).d) from (fun c => h6 (cmp21_m1.2 c)))
              have g3 := (show (anA b).n * (anA a).d < (anA a).n * (anA b).d from cmp21_p1.1 h7)
              simp [btwA, ltA, g0, g1, g2, g3]
            rw [(bt_ok (show ok3 a x b from ⟨h1, h2, h3⟩)).1, (bt_ok (show ok3 a x b from ⟨h1, h2, h3⟩)).2, hv]))
              | false =>
                have h7 : ¬ (cmp21 ((anA a).n * (anA b).d) ((anA b).n * (anA a).d) = 1) := fun c => Bool.false_ne_true (i7.2 c)
                cases b8 with
                | true =>
                  have h8 : anA x = anA a := i8.1 rfl
                  exact fin _ (ABetween_any_r3) rfl (show Ending.returned (.tuple #[.bool false, .int .i64 0]) = .returned (.tuple #[.bool (btR a x b), .int .i64 (btE a x b)]) from (by
            have hv : btwA (anA a) (anA x) (anA b) = false := by
              have g0 := (show (anA a).n * (anA x).d < (anA x).n * (anA a).d from cmp21_neg.1 h4)
              have g1 := (show (anA x).n * (anA b).d < (anA b).n * (anA x).d from cmp21_neg.1 h5)
              have g2 := (show ¬ ((anA a).n * (anA b).d < (anA b).n * (anA a).d) from (fun c => h6 (cmp21_m1.2 c)))
              have g3 := (show ¬ ((anA b).n * (anA a).d < (anA a).n * (anA b).d) from (fun c => h7 (cmp21_p1.2 c)))
              have g4 := (show anA x = anA a from h8)
              simp [btwA, ltA, g0, g1, g2, g3, g4]
            rw [(bt_ok (show ok3 a x b from ⟨h1, h2, h3⟩)).1, (bt_ok (show ok3 a x b from ⟨h1, h2, h3⟩)).2, hv]))
                | false =>
                  have h8 : ¬ (anA x = anA a) := fun c => Bool.false_ne_true (i8.2 c)
                  exact fin _ (ABetween_any_r4) rfl (show Ending.returned (.tuple #[.bool true, .int .i64 0]) = .returned (.tuple #[.bool (btR a x b), .int .i64 (btE a x b)]) from (by
            have hv : btwA (anA a) (anA x) (anA b) = true := by
              have g0 := (show (anA a).n * (anA x).d < (anA x).n * (anA a).d from cmp21_neg.1 h4)
              have g1 := (show (anA x).n * (anA b).d < (anA b).n * (anA x).d from cmp21_neg.1 h5)
              have g2 := (show ¬ ((anA a).n * (anA b).d < (anA b).n * (anA a).d) from (fun c => h6 (cmp21_m1.2 c)))
              have g3 := (show ¬ ((anA b).n * (anA a).d < (anA a).n * (anA b).d) from (fun c => h7 (cmp21_p1.2 c)))
              have g4 := (show ¬ (anA x = anA a) from h8)
              simp [btwA, ltA, g0, g1, g2, g3, g4]
            rw [(bt_ok (show ok3 a x b from ⟨h1, h2, h3⟩)).1, (bt_ok (show ok3 a x b from ⟨h1, h2, h3⟩)).2, hv]))
          | false =>
            have h5 : ¬ (cmp21 ((anA x).n * (anA b).d) ((anA b).n * (anA x).d) < 0) := fun c => Bool.false_ne_true (i5.2 c)
            cases b6 with
            | true =>
              have h6 : cmp21 ((anA a).n * (anA b).d) ((anA b).n * (anA a).d) = -1 := i6.1 rfl
              exact fin _ (ABetween_any_r5 b7 b8) rfl (show Ending.returned (.tuple #[.bool false, .int .i64 0]) = .returned (.tuple #[.bool (btR a x b), .int .i64 (btE a x b)]) from (by
            have hv : btwA (anA a) (anA x) (anA b) = false := by
              have g0 := (show (anA a).n * (anA x).d < (anA x).n * (anA a).d from cmp21_neg.1 h4)
              have g1 := (show ¬ ((anA x).n * (anA b).d < (anA b).n * (anA x).d) from (fun c => h5 (cmp21_neg.2 c)))
              have g2 := (show (anA a).n * (anA b).d < (anA b).n * (anA a).d from cmp21_m1.1 h6)
              simp [btwA, ltA, g0, g1, g2]
            rw [(bt_ok (show ok3 a x b from ⟨h1, h2, h3⟩)).1, (bt_ok (show ok3 a x b from ⟨h1, h2, h3⟩)).2, hv]))
            | false =>
              have h6 : ¬ (cmp21 ((anA a).n * (anA b).d) ((anA b).n * (anA a).d) = -1) := fun c => Bool.false_ne_true (i6.2 c)
              cases b7 with
              | true =>
                have h7 : cmp21 ((anA a).n * (anA b).d) ((anA b).n * (anA a).d) = 1 := i7.1 rfl
                exact fin _ (ABetween_any_r6 b8) rfl (show Ending.returned (.tuple #[.bool true, .int .i64 0]) = .returned (.tuple #[.bool (btR a x b), .int .i64 (btE a x b)]) from (by
            have hv : btwA (anA a) (anA x) (anA b) = true := by
              have g0 := (show (anA a).n * (anA x).d < (anA x).n * (anA a).d from cmp21_neg.1 h4)
              have g1 := (show ¬ ((anA x).n * (anA b).d < (anA b).n * (anA x).d) from (fun c => h5 (cmp21_neg.2 c)))
              have g2 := (show ¬ ((anA a).n * (anA b).d < (anA b).n * (anA a).d) from (fun c => h6 (cmp21_m1.2 c)))
              have g3 := (show (anA b).n * (anA a).d < (anA a).n * (anA b).d from cmp21_p1.1 h7)
              simp [btwA, ltA, g0, g1, g2, g3]
            rw [(bt_ok (show ok3 a x b from ⟨h1, h2, h3⟩)).1, (bt_ok (show ok3 a x b from ⟨h1, h2, h3⟩)).2, hv]))
              | false =>
                have h7 : ¬ (cmp21 ((anA a).n * (anA b).d) ((anA b).n * (anA a).d) = 1) := fun c => Bool.false_ne_true (i7.2 c)
                cases b8 with
                | true =>
                  have h8 : anA x = anA a := i8.1 rfl
                  exact fin _ (ABetween_any_r7) rfl (show Ending.returned (.tuple #[.bool false, .int .i64 0]) = .returned (.tuple #[.bool (btR a x b), .int .i64 (btE a x b)]) from (by
            have hv : btwA (anA a) (anA x) (anA b) = false := by
              have g0 := (show (anA a).n * (anA x).d < (anA x).n * (anA a).d from cmp21_neg.1 h4)
              have g1 := (show ¬ ((anA x).n * (anA b).d < (anA b).n * (anA x).d) from (fun c => h5 (cmp21_neg.2 c)))
              have g2 := (show ¬ ((anA a).n * (anA b).d < (anA b).n * (anA a).d) from (fun c => h6 (cmp21_m1.2 c)))
              have g3 := (show ¬ ((anA b).n * (anA a).d < (anA a).n * (anA b).d) from (fun c => h7 (cmp21_p1.2 c)))
              have g4 := (show anA x = anA a from h8)
              simp [btwA, ltA, g0, g1, g2, g3, g4]
            rw [(bt_ok (show ok3 a x b from ⟨h1, h2, h3⟩)).1, (bt_ok (show ok3 a x b from ⟨h1, h2, h3⟩)).2, hv]))
                | false =>
                  have h8 : ¬ (anA x = anA a) := fun c => Bool.false_ne_true (i8.2 c)
                  exact fin _ (ABetween_any_r8) rfl (show Ending.returned (.tuple #[.bool true, .int .i64 0]) = .returned (.tuple #[.bool (btR a x b), .int .i64 (btE a x b)]) from (by
            have hv : btwA (anA a) (anA x) (anA b) = true := by
              have g0 := (show (anA a).n * (anA x).d < (anA x).n * (anA a).d from cmp21_neg.1 h4)
              have g1 := (show ¬ ((anA x).n * (anA b).d < (anA b).n * (anA x).d) from (fun c => h5 (cmp21_neg.2 c)))
              have g2 := (show ¬ ((anA a).n * (anA b).d < (anA b).n * (anA a).d) from (fun c => h6 (cmp21_m1.2 c)))
              have g3 := (show ¬ ((anA b).n * (anA a).d < (anA a).n * (anA b).d) from (fun c => h7 (cmp21_p1.2 c)))
              have g4 := (show ¬ (anA x = anA a) from h8)
              simp [btwA, ltA, g0, g1, g2, g3, g4]
            rw [(bt_ok (show ok3 a x b from ⟨h1, h2, h3⟩)).1, (bt_ok (show ok3 a x b from ⟨h1, h2, h3⟩)).2, hv]))
        | false =>
          have h4 : ¬ (cmp21 ((anA a).n * (anA x).d) ((anA x).n * (anA a).d) < 0) := fun c => Bool.false_ne_true (i4.2 c)
          cases b5 with
          | true =>
            have h5 : cmp21 ((anA x).n * (anA b).d) ((anA b).n * (anA x).d) < 0 := i5.1 rfl
            cases b6 with
            | true =>
              have h6 : cmp21 ((anA a).n * (anA b).d) ((anA b).n * (anA a).d) = -1 := i6.1 rfl
              exact fin _ (ABetween_any_r9 b7 b8) rfl (show Ending.returned (.tuple #[.bool false, .int .i64 0]) = .returned (.tuple #[.bool (btR a x b), .int .i64 (btE a x b)]) from (by
            have hv : btwA (anA a) (anA x) (anA b) = false := by
              have g0 := (show ¬ ((anA a).n * (anA x).d < (anA x).n * (anA a).d) from (fun c => h4 (cmp21_neg.2 c)))
              have g1 := (show (anA x).n * (anA b).d < (anA b).n * (anA x).d from cmp21_neg.1 h5)
              have g2 := (show (anA a).n * (anA b).d < (anA b).n * (anA a).d from cmp21_m1.1 h6)
              simp [btwA, ltA, g0, g1, g2]
            rw [(bt_ok (show ok3 a x b from ⟨h1, h2, h3⟩)).1, (bt_ok (show ok3 a x b from ⟨h1, h2, h3⟩)).2, hv]))
            | false =>
              have h6 : ¬ (cmp21 ((anA a).n * (anA b).d) ((anA b).n * (anA a).d) = -1) := fun c => Bool.false_ne_true (i6.2 c)
              cases b7 with
              | true =>
                have h7 : cmp21 ((anA a).n * (anA b).d) ((anA b).n * (anA a).d) = 1 := i7.1 rfl
                exact fin _ (ABetween_any_r10 b8) rfl (show Ending.returned (.tuple #[.bool true, .int .i64 0]) = .returned (.tuple #[.bool (btR a x b), .int .i64 (btE a x b)]) from (by
            have hv : btwA (anA a) (anA x) (anA b) = true := by
              have g0 := (show ¬ ((anA a).n * (anA x).d < (anA x).n * (anA a).d) from (fun c => h4 (cmp21_neg.2 c)))
              have g1 := (show (anA x).n * (anA b).d < (anA b).n * (anA x).d from cmp21_neg.1 h5)
              have g2 := (show ¬ ((anA a).n * (anA b).d < (anA b).n * (anA a).d) from (fun c => h6 (cmp21_m1.2 c)))
              have g3 := (show (anA b).n * (anA a).d < (anA a).n * (anA b).d from cmp21_p1.1 h7)
              simp [btwA, ltA, g0, g1, g2, g3]
            rw [(bt_ok (show ok3 a x b from ⟨h1, h2, h3⟩)).1, (bt_ok (show ok3 a x b from ⟨h1, h2, h3⟩)).2, hv]))
              | false =>
                have h7 : ¬ (cmp21 ((anA a).n * (anA b).d) ((anA b).n * (anA a).d) = 1) := fun c => Bool.false_ne_true (i7.2 c)
                cases b8 with
                | true =>
                  have h8 : anA x = anA a := i8.1 rfl
                  exact fin _ (ABetween_any_r11) rfl (show Ending.returned (.tuple #[.bool false, .int .i64 0]) = .returned (.tuple #[.bool (btR a x b), .int .i64 (btE a x b)]) from (by
            have hv : btwA (anA a) (anA x) (anA b) = false := by
              have g0 := (show ¬ ((anA a).n * (anA x).d < (anA x).n * (anA a).d) from (fun c => h4 (cmp21_neg.2 c)))
              have g1 := (show (anA x).n * (anA b).d < (anA b).n * (anA x).d from cmp21_neg.1 h5)
              have g2 := (show ¬ ((anA a).n * (anA b).d < (anA b).n * (anA a).d) from (fun c => h6 (cmp21_m1.2 c)))
              have g3 := (show ¬ ((anA b).n * (anA a).d < (anA a).n * (anA b).d) from (fun c => h7 (cmp21_p1.2 c)))
              have g4 := (show anA x = anA a from h8)
              simp [btwA, ltA, g0, g1, g2, g3, g4]
            rw [(bt_ok (show ok3 a x b from ⟨h1, h2, h3⟩)).1, (bt_ok (show ok3 a x b from ⟨h1, h2, h3⟩)).2, hv]))
                | false =>
                  have h8 : ¬ (anA x = anA a) := fun c => Bool.false_ne_true (i8.2 c)
                  exact fin _ (ABetween_any_r12) rfl (show Ending.returned (.tuple #[.bool true, .int .i64 0]) = .returned (.tuple #[.bool (btR a x b), .int .i64 (btE a x b)]) from (by
            have hv : btwA (anA a) (anA x) (anA b) = true := by
              have g0 := (show ¬ ((anA a).n * (anA x).d < (anA x).n * (anA a).d) from (fun c => h4 (cmp21_neg.2 c)))
              have g1 := (show (anA x).n * (anA b).d < (anA b).n * (anA x).d from cmp21_neg.1 h5)
              have g2 := (show ¬ ((anA a).n * (anA b).d < (anA b).n * (anA a).d) from (fun c => h6 (cmp21_m1.2 c)))
              have g3 := (show ¬ ((anA b).n * (anA a).d < (anA a).n * (anA b).d) from (fun c => h7 (cmp21_p1.2 c)))
              have g4 := (show ¬ (anA x = anA a) from h8)
              simp [btwA, ltA, g0, g1, g2, g3, g4]
            rw [(bt_ok (show ok3 a x b from ⟨h1, h2, h3⟩)).1, (bt_ok (show ok3 a x b from ⟨h1, h2, h3⟩)).2, hv]))
          | false =>
            have h5 : ¬ (cmp21 ((anA x).n * (anA b).d) ((anA b).n * (anA x).d) < 0) := fun c => Bool.false_ne_true (i5.2 c)
            cases b6 with
            | true =>
              have h6 : cmp21 ((anA a).n * (anA b).d) ((anA b).n * (anA a).d) = -1 := i6.1 rfl
              exact fin _ (ABetween_any_r13 b7 b8) rfl (show Ending.returned (.tuple #[.bool false, .int .i64 0]) = .returned (.tuple #[.bool (btR a x b), .int .i64 (btE a x b)]) from (by
            have hv : btwA (anA a) (anA x) (anA b) = false := by
              have g0 := (show ¬ ((anA a).n * (anA x).d < (anA x).n * (anA a).d) from (fun c => h4 (cmp21_neg.2 c)))
              have g1 := (show ¬ ((anA x).n * (anA b).d < (anA b).n * (anA x).d) from (fun c => h5 (cmp21_neg.2 c)))
              have g2 := (show (anA a).n * (anA b).d < (anA b).n * (anA a).d from cmp21_m1.1 h6)
              simp [btwA, ltA, g0, g1, g2]
            rw [(bt_ok (show ok3 a x b from ⟨h1, h2, h3⟩)).1, (bt_ok (show ok3 a x b from ⟨h1, h2, h3⟩)).2, hv]))
            | false =>
              have h6 : ¬ (cmp21 ((anA a).n * (anA b).d) ((anA b).n * (anA a).d) = -1) := fun c => Bool.false_ne_true (i6.2 c)
              cases b7 with
              | true =>
                have h7 : cmp21 ((anA a).n * (anA b).d) ((anA b).n * (anA a).d) = 1 := i7.1 rfl
                exact fin _ (ABetween_any_r14 b8) rfl (show Ending.returned (.tuple #[.bool false, .int .i64 0]) = .returned (.tuple #[.bool (btR a x b), .int .i64 (btE a x b)]) from (by
            have hv : btwA (anA a) (anA x) (anA b) = false := by
              have g0 := (show ¬ ((anA a).n * (anA x).d < (anA x).n * (anA a).d) from (fun c => h4 (cmp21_neg.2 c)))
              have g1 := (show ¬ ((anA x).n * (anA b).d < (anA b).n * (anA x).d) from (fun c => h5 (cmp21_neg.2 c)))
              have g2 := (show ¬ ((anA a).n * (anA b).d < (anA b).n * (anA a).d) from (fun c => h6 (cmp21_m1.2 c)))
              have g3 := (show (anA b).n * (anA a).d < (anA a).n * (anA b).d from cmp21_p1.1 h7)
              simp [btwA, ltA, g0, g1, g2, g3]
            rw [(bt_ok (show ok3 a x b from ⟨h1, h2, h3⟩)).1, (bt_ok (show ok3 a x b from ⟨h1, h2, h3⟩)).2, hv]))
              | false =>
                have h7 : ¬ (cmp21 ((anA a).n * (anA b).d) ((anA b).n * (anA a).d) = 1) := fun c => Bool.false_ne_true (i7.2 c)
                cases b8 with
                | true =>
                  have h8 : anA x = anA a := i8.1 rfl
                  exact fin _ (ABetween_any_r15) rfl (show Ending.returned (.tuple #[.bool false, .int .i64 0]) = .returned (.tuple #[.bool (btR a x b), .int .i64 (btE a x b)]) from (by
            have hv : btwA (anA a) (anA x) (anA b) = false := by
              have g0 := (show ¬ ((anA a).n * (anA x).d < (anA x).n * (anA a).d) from (fun c => h4 (cmp21_neg.2 c)))
              have g1 := (show ¬ ((anA x).n * (anA b).d < (anA b).n * (anA x).d) from (fun c => h5 (cmp21_neg.2 c)))
              have g2 := (show ¬ ((anA a).n * (anA b).d < (anA b).n * (anA a).d) from (fun c => h6 (cmp21_m1.2 c)))
              have g3 := (show ¬ ((anA b).n * (anA a).d < (anA a).n * (anA b).d) from (fun c => h7 (cmp21_p1.2 c)))
              have g4 := (show anA x = anA a from h8)
              simp [btwA, ltA, g0, g1, g2, g3, g4]
            rw [(bt_ok (show ok3 a x b from ⟨h1, h2, h3⟩)).1, (bt_ok (show ok3 a x b from ⟨h1, h2, h3⟩)).2, hv]))
                | false =>
                  have h8 : ¬ (anA x = anA a) := fun c => Bool.false_ne_true (i8.2 c)
                  exact fin _ (ABetween_any_r16) rfl (show Ending.returned (.tuple #[.bool true, .int .i64 0]) = .returned (.tuple #[.bool (btR a x b), .int .i64 (btE a x b)]) from (by
            have hv : btwA (anA a) (anA x) (anA b) = true := by
              have g0 := (show ¬ ((anA a).n * (anA x).d < (anA x).n * (anA a).d) from (fun c => h4 (cmp21_neg.2 c)))
              have g1 := (show ¬ ((anA x).n * (anA b).d < (anA b).n * (anA x).d) from (fun c => h5 (cmp21_neg.2 c)))
              have g2 := (show ¬ ((anA a).n * (anA b).d < (anA b).n * (anA a).d) from (fun c => h6 (cmp21_m1.2 c)))
              have g3 := (show ¬ ((anA b).n * (anA a).d < (anA a).n * (anA b).d) from (fun c => h7 (cmp21_p1.2 c)))
              have g4 := (show ¬ (anA x = anA a) from h8)
              simp [btwA, ltA, g0, g1, g2, g3, g4]
            rw [(bt_ok (show ok3 a x b from ⟨h1, h2, h3⟩)).1, (bt_ok (show ok3 a x b from ⟨h1, h2, h3⟩)).2, hv]))
      | false =>
        have h3 : ¬ (anE b = 0) := fun c => Bool.false_ne_true (i3.2 c)
        exact fin _ (ABetween_any_r17 b4 b5 b6 b7 b8) rfl (show Ending.returned (.tuple #[.bool false, .int .i64 210]) = .returned (.tuple #[.bool (btR a x b), .int .i64 (btE a x b)]) from by rw [(bt_no (fun c => h3 c.2.2)).1, (bt_no (fun c => h3 c.2.2)).2])
    | false =>
      have h2 : ¬ (anE x = 0) := fun c => Bool.false_ne_true (i2.2 c)
      exact fin _ (ABetween_any_r18 b3 b4 b5 b6 b7 b8) rfl (show Ending.returned (.tuple #[.bool false, .int .i64 210]) = .returned (.tuple #[.bool (btR a x b), .int .i64 (btE a x b)]) from by rw [(bt_no (fun c => h2 c.2.1)).1, (bt_no (fun c => h2 c.2.1)).2])
  | false =>
    have h1 : ¬ (anE a = 0) := fun c => Bool.false_ne_true (i1.2 c)
    exact fin _ (ABetween_any_r19 b2 b3 b4 b5 b6 b7 b8) rfl (show Ending.returned (.tuple #[.bool false, .int .i64 210]) = .returned (.tuple #[.bool (btR a x b), .int .i64 (btE a x b)]) from by rw [(bt_no (fun c => h1 c.1)).1, (bt_no (fun c => h1 c.1)).2])

end Go.Proofs.Ytfoldiieclfbgaa
set_option linter.unusedVariables false
set_option linter.unusedSimpArgs false
namespace Go.Proofs.Ytfoldiieclfbgaa
open Go Go.RowKit Nt

theorem opt_conv [Env] {a r : AV} {x : Int} {z : Nat} (hr : ground r = true) (ha : gval a = .int .i64 x) (hv : gval r = .int .u64 (z : Nat)) (hz : x = (z : Int)) (h1 : z < 18446744073709551616) : OpT Try.prog [2, 3, 28] [a] r := by
  refine ⟨hr, fun o xs hk ρ hρ hx w => ?_⟩
  unfold keyOf at hk
  obtain ⟨dst, o, type, pos, after, guard⟩ := o
  simp only at hk
  split at hk
  · simp only [Option.some.injEq, Prod.mk.injEq, List.cons.injEq] at hk; have := hk.1.1; omega
  · simp only [Option.some.injEq, Prod.mk.injEq, List.cons.injEq] at hk; have := hk.1.1; omega
  · rename_i s' t' y
    simp only [Option.some.injEq, Prod.mk.injEq, List.cons.injEq, and_true, true_and] at hk
    obtain ⟨⟨h1', h2'⟩, h3⟩ := hk
    subst h1' h2' h3
    simp only [List.map_cons, List.map_nil, List.cons.injEq, and_true] at hx
    have hw : IntKind.u64.wrap (z : Int) = (z : Int) := by rw [IntKind.wrap_u64]; omega
    rw [ha, hz] at hx
    rw [hv]
    simp only [execOp, hx]
    go_simp
    try rw [hw]
  all_goals first
    | (simp only [Option.some.injEq, Prod.mk.injEq, List.cons.injEq] at hk; have := hk.1.1; omega)
    | (split at hk <;> first | cases hk | (simp only [Option.some.injEq, Prod.mk.injEq, List.cons.injEq] at hk; have := hk.1.1; omega))
    | cases hk

theorem Apower_b (d n m : Nat) (w : World) (hd : d < 18446744073709551616) (hn : n < 18446744073709551616) (hm0 : 0 < m) (hm : m < 4294967296) : Calls Try.prog 54 #[.int .u64 (d : Nat), .int .u64 (n : Nat), .int .u64 (m : Nat)] w fun e w' => e = .returned (.int .u64 (d ^ n % m : Nat)) ∧ Below w.heap.size w w' := (Apower_c d n m w hd hn hm0 hm).mono fun e w' h => ⟨h.1, by rw [← h.2]; exact Below.refl _ _⟩

@[reducible] def Amade_any_f : FuncId := 47
@[reducible] def Amade_any_a : List AV := [.sym 0, .sym 1]
@[reducible] noncomputable def Amade_any_k (b1 : Bool) : Know := ⟨[([0, 4, 28], [.sym 0, .sym 1], .sym 2),
  ([0, 3, 28], [.sym 2, .sym 3], .sym 4),
  ([0, 3, 28], [.sym 1, .sym 3], .sym 5),
  ([0, 15, 28], [.sym 5, .lit (.int .u64 2147483647)], .lit (.bool b1))],
  [(76, [.sym 2, .sym 1], .sym 3),
  (63, [.sym 4], .sym 6),
  (63, [.sym 5], .sym 7)]⟩
theorem Amade_any_r1 : @comes (Amade_any_k true) Try.prog glT 3000 Amade_any_f Amade_any_a = some (.lit (.tuple #[.agg #[.bool false, .string ⟨#[]⟩, .string ⟨#[]⟩], .int .i64 210])) := by kernel_rfl
theorem Amade_any_r2 : @comes (Amade_any_k false) Try.prog glT 3000 Amade_any_f Amade_any_a = some (.tup [.agg [.lit (.bool false), .sym 6, .sym 7], .lit (.int .i64 0)]) := by kernel_rfl

set_option maxRecDepth 100000 in
set_option maxHeartbeats 4000000 in
theorem Amade_any (n d : Nat) (w : World) (hn : n < 18446744073709551616) (hd : 0 < d) (hd2 : d < 18446744073709551616) : Calls Try.prog 47 #[.int .u64 ((n : Nat) : Int), .int .u64 ((d : Nat) : Int)] w fun e w' => e = .returned (.tuple #[.agg #[.bool false, .string (mdS n d), .string (mdT n d)], .int .i64 (mdE n d)]) ∧ Below w.heap.size w w' := by
  have hG : Globs glT w := glT_all w
  obtain ⟨b1, i1⟩ := bex (((d / (Nat.gcd (n % d) d) : Nat) : Int) > 2147483647)
  letI : Env := mkEnv glT [.int .u64 ((n : Nat) : Int), .int .u64 ((d : Nat) : Int), .int .u64 ((n % d : Nat) : Int), .int .u64 ((Nat.gcd (n % d) d : Nat) : Int), .int .u64 (((n % d) / (Nat.gcd (n % d) d) : Nat) : Int), .int .u64 ((d / (Nat.gcd (n % d) d) : Nat) : Int), .string (natS ((n % d) / (Nat.gcd (n % d) d))), .string (natS (d / (Nat.gcd (n % d) d)))] rfl
  have hops : OpsT Try.prog (@Know.ops (Amade_any_k b1)) := ⟨nopt_rem (x := n) (y := d) (z := n % d) rfl rfl rfl rfl rfl (Nat.ne_of_gt hd) hn,
    nopt_quo (x := (n % d)) (y := (Nat.gcd (n % d) d)) (z := (n % d) / (Nat.gcd (n % d) d)) rfl rfl rfl rfl rfl (Nat.ne_of_gt (Nat.gcd_pos_of_pos_right _ hd)) (Nat.lt_of_le_of_lt (Nat.mod_le _ _) hn),
    nopt_quo (x := d) (y := (Nat.gcd (n % d) d)) (z := d / (Nat.gcd (n % d) d)) rfl rfl rfl rfl rfl (Nat.ne_of_gt (Nat.gcd_pos_of_pos_right _ hd)) hd2,
    opt_gtr_i rfl rfl i1,
    trivial⟩
  have hcalls : CallsT Try.prog (@Know.calls (Amade_any_k b1)) := ⟨callt rfl rfl fun w hG => Agcd_c (n % d) d w (Nat.lt_of_le_of_lt (Nat.mod_le _ _) hn) hd2,
    callt rfl rfl fun w hG => Of_n ((n % d) / (Nat.gcd (n % d) d)) w (Nat.lt_of_le_of_lt (Nat.div_le_self _ _) (Nat.lt_of_le_of_lt (Nat.mod_le _ _) hn)),
    callt rfl rfl fun w hG => Of_n (d / (Nat.gcd (n % d) d)) w (Nat.lt_of_le_of_lt (Nat.div_le_self _ _) hd2),
    trivial⟩
  have fin : ∀ v, @comes (Amade_any_k b1) Try.prog glT 3000 Amade_any_f Amade_any_a = some v → ground v = true → Ending.returned (gval v) = .returned (.tuple #[.agg #[.bool false, .string (mdS n d), .string (mdT n d)], .int .i64 (mdE n d)]) → Calls Try.prog 47 #[.int .u64 ((n : Nat) : Int), .int .u64 ((d : Nat) : Int)] w fun e w' => e = .returned (.tuple #[.agg #[.bool false, .string (mdS n d), .string (mdT n d)], .int .i64 (mdE n d)]) ∧ Below w.heap.size w w' := fun v h1 h2 h3 => (@sym_ok _ (Amade_any_k b1) _ (@KnowOk.of _ (Amade_any_k b1) _ hops hcalls) (by kernel_rfl) _ _ _ _ h1 rfl h2 _ hG).mono fun e w' h => ⟨h.1.trans h3, h.2⟩
  clear hops hcalls
  cases b1 with
  | true =>
    have h1 : ((d / (Nat.gcd (n % d) d) : Nat) : Int) > 2147483647 := i1.1 rfl
    exact fin _ (Amade_any_r1) rfl (show Ending.returned (.tuple #[.agg #[.bool false, .string ⟨#[]⟩, .string ⟨#[]⟩], .int .i64 210]) = .returned (.tuple #[.agg #[.bool false, .string (mdS n d), .string (mdT n d)], .int .i64 (mdE n d)]) from by rw [(md_no (n := n) (d := d) (show ¬ lowDen n d ≤ 2147483647 from fun c => by have c2 : d / (Nat.gcd (n % d) d) ≤ 2147483647 := c; omega)).1, (md_no (n := n) (d := d) (show ¬ lowDen n d ≤ 2147483647 from fun c => by have c2 : d / (Nat.gcd (n % d) d) ≤ 2147483647 := c; omega)).2.1, (md_no (n := n) (d := d) (show ¬ lowDen n d ≤ 2147483647 from fun c => by have c2 : d / (Nat.gcd (n % d) d) ≤ 2147483647 := c; omega)).2.2])
  | false =>
    have h1 : ¬ (((d / (Nat.gcd (n % d) d) : Nat) : Int) > 2147483647) := fun c => Bool.false_ne_true (i1.2 c)
    exact fin _ (Amade_any_r2) rfl (show Ending.returned (.tuple #[.agg #[.bool false, .string (natS ((n % d) / (Nat.gcd (n % d) d))), .string (natS (d / (Nat.gcd (n % d) d)))], .int .i64 0]) = .returned (.tuple #[.agg #[.bool false, .string (mdS n d), .string (mdT n d)], .int .i64 (mdE n d)]) from by rw [(md_ok (show lowDen n d ≤ 2147483647 from by show d / (Nat.gcd (n % d) d) ≤ 2147483647; omega)).1, (md_ok (show lowDen n d ≤ 2147483647 from by show d / (Nat.gcd (n % d) d) ≤ 2147483647; omega)).2.1, (md_ok (show lowDen n d ≤ 2147483647 from by show d / (Nat.gcd (n % d) d) ≤ 2147483647; omega)).2.2]; rfl)

@[reducible] def rlow_any_f : FuncId := 48
@[reducible] def rlow_any_a : List AV := [.sym 0, .sym 1]
@[reducible] noncomputable def rlow_any_k : Know := ⟨[([0, 4, 28], [.sym 0, .sym 1], .sym 2),
  ([0, 3, 28], [.sym 2, .sym 3], .sym 4),
  ([0, 3, 28], [.sym 1, .sym 3], .sym 5)],
  [(50, [.sym 2, .sym 1], .sym 3)]⟩
theorem rlow_any_r1 : @comes rlow_any_k Try.prog glT 3000 rlow_any_f rlow_any_a = some (.agg [.sym 4, .sym 5]) := by kernel_rfl

set_option maxRecDepth 100000 in
set_option maxHeartbeats 4000000 in
theorem rlow_any (n d : Nat) (w : World) (hn : n < 18446744073709551616) (hd : 0 < d) (hd2 : d < 18446744073709551616) : Calls Try.prog 48 #[.int .u64 ((n : Nat) : Int), .int .u64 ((d : Nat) : Int)] w fun e w' => e = .returned (.agg #[.int .u64 ((lowNum n d : Nat) : Int), .int .u64 ((lowDen n d : Nat) : Int)]) ∧ Below w.heap.size w w' := by
  have hG : Globs glT w := glT_all w
  letI : Env := mkEnv glT [.int .u64 ((n : Nat) : Int), .int .u64 ((d : Nat) : Int), .int .u64 ((n % d : Nat) : Int), .int .u64 ((Nat.gcd (n % d) d : Nat) : Int), .int .u64 (((n % d) / (Nat.gcd (n % d) d) : Nat) : Int), .int .u64 ((d / (Nat.gcd (n % d) d) : Nat) : Int)] rfl
  have hops : OpsT Try.prog (@Know.ops rlow_any_k) := ⟨nopt_rem (x := n) (y := d) (z := n % d) rfl rfl rfl rfl rfl (Nat.ne_of_gt hd) hn,
    nopt_quo (x := (n % d)) (y := (Nat.gcd (n % d) d)) (z := (n % d) / (Nat.gcd (n % d) d)) rfl rfl rfl rfl rfl (Nat.ne_of_gt (Nat.gcd_pos_of_pos_right _ hd)) (Nat.lt_of_le_of_lt (Nat.mod_le _ _) hn),
    nopt_quo (x := d) (y := (Nat.gcd (n % d) d)) (z := d / (Nat.gcd (n % d) d)) rfl rfl rfl rfl rfl (Nat.ne_of_gt (Nat.gcd_pos_of_pos_right _ hd)) hd2,
    trivial⟩
  have hcalls : CallsT Try.prog (@Know.calls rlow_any_k) := ⟨callt rfl rfl fun w hG => rgcd21_c (n % d) d w (Nat.lt_of_le_of_lt (Nat.mod_le _ _) hn) hd2,
    trivial⟩
  have fin : ∀ v, @comes rlow_any_k Try.prog glT 3000 rlow_any_f rlow_any_a = some v → ground v = true → Ending.returned (gval v) = .returned (.agg #[.int .u64 ((lowNum n d : Nat) : Int), .int .u64 ((lowDen n d : Nat) : Int)]) → Calls Try.prog 48 #[.int .u64 ((n : Nat) : Int), .int .u64 ((d : Nat) : Int)] w fun e w' => e = .returned (.agg #[.int .u64 ((lowNum n d : Nat) : Int), .int .u64 ((lowDen n d : Nat) : Int)]) ∧ Below w.heap.size w w' := fun v h1 h2 h3 => (@sym_ok _ rlow_any_k _ (@KnowOk.of _ rlow_any_k _ hops hcalls) (by kernel_rfl) _ _ _ _ h1 rfl h2 _ hG).mono fun e w' h => ⟨h.1.trans h3, h.2⟩
  clear hops hcalls
  exact fin _ (rlow_any_r1) rfl rfl

@[reducible] def rRatio_any_f : FuncId := 37
@[reducible] def rRatio_any_a : List AV := [.agg [.sym 0, .sym 1]]
@[reducible] noncomputable def rRatio_any_k : Know := ⟨[],
  [(60, [.sym 0], .sym 2),
  (60, [.sym 1], .sym 3)]⟩
theorem rRatio_any_r1 : @comes rRatio_any_k Try.prog glT 3000 rRatio_any_f rRatio_any_a = some (.agg [.lit (.bool false), .sym 2, .sym 3]) := by kernel_rfl

set_option maxRecDepth 100000 in
set_option maxHeartbeats 4000000 in
theorem rRatio_any (a : An) (w : World) (hb : a.n < 18446744073709551616 ∧ a.d < 18446744073709551616) : Calls Try.prog 37 #[.agg #[.int .u64 ((a.n : Nat) : Int), .int .u64 ((a.d : Nat) : Int)]] w fun e w' => e = .returned (.agg #[.bool false, .string (natS a.n), .string (natS a.d)]) ∧ Below w.heap.size w w' := by
  have hG : Globs glT w := glT_all w
  letI : Env := mkEnv glT [.int .u64 ((a.n : Nat) : Int), .int .u64 ((a.d : Nat) : Int), .string (natS a.n), .string (natS a.d)] rfl
  have hops : OpsT Try.prog (@Know.ops rRatio_any_k) := trivial
  have hcalls : CallsT Try.prog (@Know.calls rRatio_any_k) := ⟨callt rfl rfl fun w hG => rOf_c a.n w hb.1,
    callt rfl rfl fun w hG => rOf_c a.d w hb.2,
    trivial⟩
  have fin : ∀ v, @comes rRatio_any_k Try.prog glT 3000 rRatio_any_f rRatio_any_a = some v → ground v = true → Ending.returned (gval v) = .returned (.agg #[.bool false, .string (natS a.n), .string (natS a.d)]) → Calls Try.prog 37 #[.agg #[.int .u64 ((a.n : Nat) : Int), .int .u64 ((a.d : Nat) : Int)]] w fun e w' => e = .returned (.agg #[.bool false, .string (natS a.n), .string (natS a.d)]) ∧ Below w.heap.size w w' := fun v h1 h2 h3 => (@sym_ok _ rRatio_any_k _ (@KnowOk.of _ rRatio_any_k _ hops hcalls) (by kernel_rfl) _ _ _ _ h1 rfl h2 _ hG).mono fun e w' h => ⟨h.1.trans h3, h.2⟩
  clear hops hcalls
  exact fin _ (rRatio_any_r1) rfl rfl

/-- An angle turned. -/
def turnA (a : An) (d : Int) : An := ⟨lowNum (a.n * (d.toNat ^ 1 % a.d)) a.d, lowDen (a.n * (d.toNat ^ 1 % a.d)) a.d⟩
theorem turnA_ok {a : An} (d : Int) (ha : a.Ok) : (turnA a d).Ok := ⟨lowNum_lt ha.le.2.2, Nat.le_trans (lowDen_le _ _) ha.le.2.1, low_coprime ha.le.2.2⟩
theorem Amade_turn (a : An) (d : Int) (w : World) (ha : a.Ok) : Calls Try.prog 47 #[.int .u64 ((a.n * (d.toNat ^ 1 % a.d) : Nat) : Int), .int .u64 ((a.d : Nat) : Int)] w fun e w' => e = .returned (.tuple #[.agg #[.bool false, .string (natS (turnA a d).n), .string (natS (turnA a d).d)], .int .i64 0]) ∧ Below w.heap.size w w' := by
  have h := Amade_any (a.n * (d.toNat ^ 1 % a.d)) a.d w (prod_lt ha.le.1 (Nat.le_trans (Nat.le_of_lt (Nat.mod_lt _ ha.le.2.2)) ha.le.2.1)) ha.le.2.2 ha.small.2
  have hl : lowDen (a.n * (d.toNat ^ 1 % a.d)) a.d ≤ 2147483647 := Nat.le_trans (lowDen_le _ _) ha.le.2.1
  rw [(md_ok hl).1, (md_ok hl).2.1, (md_ok hl).2.2] at h
  exact h

@[reducible] def AKind_k_f : FuncId := 32
@[reducible] def AKind_k_a : List AV := [.agg [.lit (.bool false), .sym 0, .sym 1], .sym 2]
@[reducible] noncomputable def AKind_k_k (b1 b2 : Bool) : Know := ⟨[([0, 16, 3], [.sym 2, .lit (.int .i64 2)], .lit (.bool b1)),
  ([0, 14, 3], [.sym 2, .lit (.int .i64 64)], .lit (.bool b2)),
  ([2, 3, 28], [.sym 2], .sym 5)],
  [(51, [.agg [.lit (.bool false), .sym 0, .sym 1]], .tup [.agg [.sym 3, .sym 4], .lit (.int .i64 0)]),
  (55, [.sym 4, .sym 5], .tup [.sym 6, .sym 7]),
  (56, [.sym 5, .sym 7], .sym 8)]⟩
theorem AKind_k_r1 : @comes (AKind_k_k true true) Try.prog glT 3000 AKind_k_f AKind_k_a = some (.tup [.sym 6, .sym 8, .lit (.int .i64 0)]) := by kernel_rfl

set_option maxRecDepth 100000 in
set_option maxHeartbeats 4000000 in
theorem AKind_k (a : An) (d : Int) (w : World) (ha : a.Ok) (hd1 : 2 ≤ d) (hd2 : d ≤ 64) : Calls Try.prog 32 #[.agg #[.bool false, .string (natS a.n), .string (natS a.d)], .int .i64 d] w fun e w' => e = .returned (.tuple #[.int .i64 (((barN a.d d.toNat).1 : Nat) : Int), .int .i64 ((ordN d.toNat (barN a.d d.toNat).2 : Nat) : Int), .int .i64 0]) ∧ Below w.heap.size w w' := by
  have hG : Globs glT w := glT_all w
  obtain ⟨b1, i1⟩ := bex (d ≥ 2)
  obtain ⟨b2, i2⟩ := bex (d ≤ 64)
  letI : Env := mkEnv glT [.string (natS a.n), .string (natS a.d), .int .i64 d, .int .u64 ((a.n : Nat) : Int), .int .u64 ((a.d : Nat) : Int), .int .u64 ((d.toNat : Nat) : Int), .int .i64 (((barN a.d d.toNat).1 : Nat) : Int), .int .u64 (((barN a.d d.toNat).2 : Nat) : Int), .int .i64 (((ordN d.toNat (barN a.d d.toNat).2 : Nat) : Int))] rfl
  have hops : OpsT Try.prog (@Know.ops (AKind_k_k b1 b2)) := ⟨opt_geq_i rfl rfl i1,
    opt_leq_i rfl rfl i2,
    opt_conv (x := d) (z := d.toNat) rfl rfl rfl (by omega) (by omega),
    trivial⟩
  have hcalls : CallsT Try.prog (@Know.calls (AKind_k_k b1 b2)) := ⟨callt rfl rfl fun w hG => Aopen_ok a ha w,
    callt rfl rfl fun w hG => Abare_c a.d d.toNat w ha.le.2.2 (by have := ha.le.2.1; omega) (by omega),
    callt rfl rfl fun w hG => Aorder_c d.toNat (barN a.d d.toNat).2 w (by omega) (barN_bound ha.le.2.2).1 (by have := (barN_bound (d := d.toNat) ha.le.2.2).2; have := ha.le.2.1; omega),
    trivial⟩
  have fin : ∀ v, @comes (AKind_k_k b1 b2) Try.prog glT 3000 AKind_k_f AKind_k_a = some v → ground v = true → Ending.returned (gval v) = .returned (.tuple #[.int .i64 (((barN a.d d.toNat).1 : Nat) : Int), .int .i64 ((ordN d.toNat (barN a.d d.toNat).2 : Nat) : Int), .int .i64 0]) → Calls Try.prog 32 #[.agg #[.bool false, .string (natS a.n), .string (natS a.d)], .int .i64 d] w fun e w' => e = .returned (.tuple #[.int .i64 (((barN a.d d.toNat).1 : Nat) : Int), .int .i64 ((ordN d.toNat (barN a.d d.toNat).2 : Nat) : Int), .int .i64 0]) ∧ Below w.heap.size w w' := fun v h1 h2 h3 => (@sym_ok _ (AKind_k_k b1 b2) _ (@KnowOk.of _ (AKind_k_k b1 b2) _ hops hcalls) (by kernel_rfl) _ _ _ _ h1 rfl h2 _ hG).mono fun e w' h => ⟨h.1.trans h3, h.2⟩
  clear hops hcalls
  cases b1 with
  | true =>
    have h1 : d ≥ 2 := i1.1 rfl
    cases b2 with
    | true =>
      have h2 : d ≤ 64 := i2.1 rfl
      exact fin _ (AKind_k_r1) rfl rfl
    | false =>
      exact absurd (i2.2 ((by omega))) Bool.false_ne_true
  | false =>
    exact absurd (i1.2 ((by omega))) Bool.false_ne_true

@[reducible] def ATurn_k_f : FuncId := 24
@[reducible] def ATurn_k_a : List AV := [.agg [.lit (.bool false), .sym 0, .sym 1], .sym 2]
@[reducible] noncomputable def ATurn_k_k (b1 b2 : Bool) : Know := ⟨[([0, 16, 3], [.sym 2, .lit (.int .i64 2)], .lit (.bool b1)),
  ([0, 14, 3], [.sym 2, .lit (.int .i64 64)], .lit (.bool b2)),
  ([2, 3, 28], [.sym 2], .sym 5),
  ([0, 2, 28], [.sym 3, .sym 6], .sym 7)],
  [(51, [.agg [.lit (.bool false), .sym 0, .sym 1]], .tup [.agg [.sym 3, .sym 4], .lit (.int .i64 0)]),
  (54, [.sym 5, .lit (.int .u64 1), .sym 4], .sym 6),
  (47, [.sym 7, .sym 4], .tup [.agg [.lit (.bool false), .sym 8, .sym 9], .lit (.int .i64 0)])]⟩
theorem ATurn_k_r1 : @comes (ATurn_k_k true true) Try.prog glT 3000 ATurn_k_f ATurn_k_a = some (.tup [.agg [.lit (.bool false), .sym 8, .sym 9], .lit (.int .i64 0)]) := by kernel_rfl

set_option maxRecDepth 100000 in
set_option maxHeartbeats 4000000 in
theorem ATurn_k (a : An) (d : Int) (w : World) (ha : a.Ok) (hd1 : 2 ≤ d) (hd2 : d ≤ 64) : Calls Try.prog 24 #[.agg #[.bool false, .string (natS a.n), .string (natS a.d)], .int .i64 d] w fun e w' => e = .returned (.tuple #[.agg #[.bool false, .string (natS (turnA a d).n), .string (natS (turnA a d).d)], .int .i64 0]) ∧ Below w.heap.size w w' := by
  have hG : Globs glT w := glT_all w
  obtain ⟨b1, i1⟩ := bex (d ≥ 2)
  obtain ⟨b2, i2⟩ := bex (d ≤ 64)
  letI : Env := mkEnv glT [.string (natS a.n), .string (natS a.d), .int .i64 d, .int .u64 ((a.n : Nat) : Int), .int .u64 ((a.d : Nat) : Int), .int .u64 ((d.toNat : Nat) : Int), .int .u64 ((d.toNat ^ 1 % a.d : Nat) : Int), .int .u64 ((a.n * (d.toNat ^ 1 % a.d) : Nat) : Int), .string (natS (turnA a d).n), .string (natS (turnA a d).d)] rfl
  have hops : OpsT Try.prog (@Know.ops (ATurn_k_k b1 b2)) := ⟨opt_geq_i rfl rfl i1,
    opt_leq_i rfl rfl i2,
    opt_conv (x := d) (z := d.toNat) rfl rfl rfl (by omega) (by omega),
    nopt_mul (x := a.n) (y := (d.toNat ^ 1 % a.d)) (z := a.n * (d.toNat ^ 1 % a.d)) rfl rfl rfl rfl rfl (prod_lt ha.le.1 (Nat.le_trans (Nat.le_of_lt (Nat.mod_lt _ ha.le.2.2)) ha.le.2.1)),
    trivial⟩
  have hcalls : CallsT Try.prog (@Know.calls (ATurn_k_k b1 b2)) := ⟨callt rfl rfl fun w hG => Aopen_ok a ha w,
    callt rfl rfl fun w hG => Apower_b d.toNat 1 a.d w (by omega) (by decide) ha.le.2.2 (by have := ha.le.2.1; omega),
    callt rfl rfl fun w hG => Amade_turn a d w ha,
    trivial⟩
  have fin : ∀ v, @comes (ATurn_k_k b1 b2) Try.prog glT 3000 ATurn_k_f ATurn_k_a = some v → ground v = true → Ending.returned (gval v) = .returned (.tuple #[.agg #[.bool false, .string (natS (turnA a d).n), .string (natS (turnA a d).d)], .int .i64 0]) → Calls Try.prog 24 #[.agg #[.bool false, .string (natS a.n), .string (natS a.d)], .int .i64 d] w fun e w' => e = .returned (.tuple #[.agg #[.bool false, .string (natS (turnA a d).n), .string (natS (turnA a d).d)], .int .i64 0]) ∧ Below w.heap.size w w' := fun v h1 h2 h3 => (@sym_ok _ (ATurn_k_k b1 b2) _ (@KnowOk.of _ (ATurn_k_k b1 b2) _ hops hcalls) (by kernel_rfl) _ _ _ _ h1 rfl h2 _ hG).mono fun e w' h => ⟨h.1.trans h3, h.2⟩
  clear hops hcalls
  cases b1 with
  | true =>
    have h1 : d ≥ 2 := i1.1 rfl
    cases b2 with
    | true =>
      have h2 : d ≤ 64 := i2.1 rfl
      exact fin _ (ATurn_k_r1) rfl rfl
    | false =>
      exact absurd (i2.2 ((by omega))) Bool.false_ne_true
  | false =>
    exact absurd (i1.2 ((by omega))) Bool.false_ne_true

/-- The error of what has no kind. -/
@[irreducible] noncomputable def kE (r : Rt) (d : Int) : Int := if anE r = 0 then 2 else anE r
theorem kE_ne (r : Rt) (d : Int) : kE r d ≠ 0 := by
  unfold kE
  split
  · decide
  · next h => exact h

@[reducible] def AKind_n_f : FuncId := 32
@[reducible] def AKind_n_a : List AV := [.agg [.sym 0, .sym 1, .sym 2], .sym 3]
@[reducible] noncomputable def AKind_n_k (b1 b2 b3 : Bool) : Know := ⟨[([0, 11, 25], [.sym 6, .lit (.int .i64 0)], .lit (.bool b1)),
  ([0, 16, 3], [.sym 3, .lit (.int .i64 2)], .lit (.bool b2)),
  ([0, 14, 3], [.sym 3, .lit (.int .i64 64)], .lit (.bool b3)),
  ([0, 12, 25], [.sym 6, .lit (.int .i64 0)], .lit (.bool (!b1)))],
  [(51, [.agg [.sym 0, .sym 1, .sym 2]], .tup [.agg [.sym 4, .sym 5], .sym 6])]⟩
theorem AKind_n_r1 : @comes (AKind_n_k true true false) Try.prog glT 3000 AKind_n_f AKind_n_a = some (.lit (.tuple #[.int .i64 0, .int .i64 0, .int .i64 2])) := by kernel_rfl
theorem AKind_n_r2 (b3 : Bool) : @comes (AKind_n_k true false b3) Try.prog glT 3000 AKind_n_f AKind_n_a = some (.lit (.tuple #[.int .i64 0, .int .i64 0, .int .i64 2])) := by kernel_rfl
theorem AKind_n_r3 (b2 b3 : Bool) : @comes (AKind_n_k false b2 b3) Try.prog glT 3000 AKind_n_f AKind_n_a = some (.tup [.lit (.int .i64 0), .lit (.int .i64 0), .sym 6]) := by kernel_rfl

set_option maxRecDepth 100000 in
set_option maxHeartbeats 4000000 in
theorem AKind_n (r : Rt) (d : Int) (w : World) (hzr : r.small) (hno : ¬ (anE r = 0 ∧ 2 ≤ d ∧ d ≤ 64)) : Calls Try.prog 32 #[.agg #[.bool r.g, .string r.s, .string r.t], .int .i64 d] w fun e w' => e = .returned (.tuple #[.int .i64 0, .int .i64 0, .int .i64 (kE r d)]) ∧ Below w.heap.size w w' := by
  have hG : Globs glT w := glT_all w
  obtain ⟨b1, i1⟩ := bex (anE r = 0)
  obtain ⟨b2, i2⟩ := bex (d ≥ 2)
  obtain ⟨b3, i3⟩ := bex (d ≤ 64)
  letI : Env := mkEnv glT [.bool r.g, .string r.s, .string r.t, .int .i64 d, .int .u64 (((anA r).n : Nat) : Int), .int .u64 (((anA r).d : Nat) : Int), .int .i64 (anE r)] rfl
  have hops : OpsT Try.prog (@Know.ops (AKind_n_k b1 b2 b3)) := ⟨opt_eql_i rfl rfl i1,
    opt_geq_i rfl rfl i2,
    opt_leq_i rfl rfl i3,
    opt_neq_i rfl rfl i1,
    trivial⟩
  have hcalls : CallsT Try.prog (@Know.calls (AKind_n_k b1 b2 b3)) := ⟨callt rfl rfl fun w hG => Aopen_any r hzr w,
    trivial⟩
  have fin : ∀ v, @comes (AKind_n_k b1 b2 b3) Try.prog glT 3000 AKind_n_f AKind_n_a = some v → ground v = true → Ending.returned (gval v) = .returned (.tuple #[.int .i64 0, .int .i64 0, .int .i64 (kE r d)]) → Calls Try.prog 32 #[.agg #[.bool r.g, .string r.s, .string r.t], .int .i64 d] w fun e w' => e = .returned (.tuple #[.int .i64 0, .int .i64 0, .int .i64 (kE r d)]) ∧ Below w.heap.size w w' := fun v h1 h2 h3 => (@sym_ok _ (AKind_n_k b1 b2 b3) _ (@KnowOk.of _ (AKind_n_k b1 b2 b3) _ hops hcalls) (by kernel_rfl) _ _ _ _ h1 rfl h2 _ hG).mono fun e w' h => ⟨h.1.trans h3, h.2⟩
  clear hops hcalls
  cases b1 with
  | true =>
    have h1 : anE r = 0 := i1.1 rfl
    cases b2 with
    | true =>
      have h2 : d ≥ 2 := i2.1 rfl
      cases b3 with
      | true =>
        exact absurd (i3.1 rfl) ((fun c => hno ⟨h1, h2, c⟩))
      | false =>
        have h3 : ¬ (d ≤ 64) := fun c => Bool.false_ne_true (i3.2 c)
        exact fin _ (AKind_n_r1) rfl (show Ending.returned (.tuple #[.int .i64 0, .int .i64 0, .int .i64 2]) = .returned (.tuple #[.int .i64 0, .int .i64 0, .int .i64 (kE r d)]) from by rw [show kE r d = 2 from by unfold kE; exact if_pos h1])
    | false =>
      have h2 : ¬ (d ≥ 2) := fun c => Bool.false_ne_true (i2.2 c)
      exact fin _ (AKind_n_r2 b3) rfl (show Ending.returned (.tuple #[.int .i64 0, .int .i64 0, .int .i64 2]) = .returned (.tuple #[.int .i64 0, .int .i64 0, .int .i64 (kE r d)]) from by rw [show kE r d = 2 from by unfold kE; exact if_pos h1])
  | false =>
    have h1 : ¬ (anE r = 0) := fun c => Bool.false_ne_true (i1.2 c)
    exact fin _ (AKind_n_r3 b2 b3) rfl (show Ending.returned (.tuple #[.int .i64 0, .int .i64 0, .int .i64 (anE r)]) = .returned (.tuple #[.int .i64 0, .int .i64 0, .int .i64 (kE r d)]) from by rw [show kE r d = anE r from by unfold kE; exact if_neg h1])

end Go.Proofs.Ytfoldiieclfbgaa
set_option linter.unusedSimpArgs false
set_option linter.unusedVariables false
namespace Go.Proofs.Ytfoldiieclfbgaa
open Go Go.RowKit Nt

/-- Turned, the period stays, and the preperiod is one less. -/
theorem turn_kind {a : An} {d : Int} (ha : a.Ok) : (barN (turnA a d).d d.toNat).2 = (barN a.d d.toNat).2 ∧ (barN (turnA a d).d d.toNat).1 = (barN a.d d.toNat).1 - 1 := by
  have hd : (turnA a d).d = a.d / Nat.gcd a.d d.toNat := by
    show lowDen _ _ = _
    rw [(low_mul_mod a.n (d.toNat ^ 1) a.d).2, Nat.pow_one, turn_den ha.2.2]
  rw [hd]
  by_cases h : Nat.gcd a.d d.toNat = 1
  · rw [h, Nat.div_one, barN_stop h]
    exact ⟨rfl, rfl⟩
  · rw [barN_on ha.le.2.2 h]
    exact ⟨rfl, rfl⟩
theorem rat_cells {w : World} {B : Nat} {t : TypeId} {x y z : Value} (h : Blk w B t #[x, y, z]) : w.cell? ⟨B, 0, none⟩ = some x ∧ w.cell? ⟨B, 1, none⟩ = some y ∧ w.cell? ⟨B, 2, none⟩ = some z := ⟨h.cell 0, h.cell 1, h.cell 2⟩
theorem str_inj21 {s t : ByteArray} (h : s.toList = t.toList) : s = t := by
  rw [ba_toList, ba_toList] at h
  exact ByteArray.ext (Array.toList_inj.1 h)
set_option maxRecDepth 100000 in
set_option maxHeartbeats 2000000 in
theorem AngleDen_k (a b : An) (d : Int) (w : World) (ha : a.Ok) (hb : b.Ok) (hd1 : 2 ≤ d) (hd2 : d ≤ 64) :
    Calls Try.prog 8 #[.agg #[.bool false, .string (natS a.n), .string (natS a.d)], .agg #[.bool false, .string (natS b.n), .string (natS b.d)], .int .i64 d] w fun e w' => e = .returned (.bool true) ∧ Below w.heap.size w w' := by
  have KA := Lib.hid (fun w => AKind_k a d w ha hd1 hd2)
  have KB := Lib.hid (fun w => AKind_k b d w hb hd1 hd2)
  have KT := Lib.hid (fun w => ATurn_k a d w ha hd1 hd2)
  have KK := Lib.hid (fun w => AKind_k (turnA a d) d w (turnA_ok d ha) hd1 hd2)
  have htk := turn_kind (d := d) ha
  have hba := barN_bound (d := d.toNat) ha.le.2.2
  have hbb := barN_bound (d := d.toNat) hb.le.2.2
  have hna := ordN_pos (d := d.toNat) hba.1
  have hnb := ordN_pos (d := d.toNat) hbb.1
  have hal := ha.le.2.1
  have hbl := hb.le.2.1
  rw [htk.1, htk.2] at KK
  have HDEN : Hid (a.d = b.d → (barN a.d d.toNat).1 = (barN b.d d.toNat).1 ∧ ordN d.toNat (barN a.d d.toNat).2 = ordN d.toNat (barN b.d d.toNat).2) := Lib.hid (fun e => by rw [e]; exact ⟨rfl, rfl⟩)
  generalize turnA a d = T at *
  generalize ordN d.toNat (barN a.d d.toNat).2 = nA at *
  generalize ordN d.toNat (barN b.d d.toNat).2 = nB at *
  have hpa : (barN a.d d.toNat).1 ≤ 2147483647 := by omega
  have hpb : (barN b.d d.toNat).1 ≤ 2147483647 := by omega
  have hna2 : nA ≤ 2147483647 := by omega
  have hnb2 : nB ≤ 2147483647 := by omega
  have hna1 : 0 < nA := hna.1
  generalize (barN a.d d.toNat).1 = pA at *
  generalize (barN b.d d.toNat).1 = pB at *
  generalize natS a.n = sa at *
  generalize natS b.n = sb at *
  obtain ⟨pT, hpT⟩ : ∃ p, p = pA - 1 := ⟨_, rfl⟩
  rw [← hpT] at KK
  have hmx : max (0 : Int) ((pA : Int) - 1) = (pT : Int) := by omega
  have hS : natS a.d = natS b.d → a.d = b.d := natS_inj
  clear htk hba hbb hna hnb ha hb hal hbl hpT
  have HS := Lib.hid hS
  clear hS
  by_cases he : natS a.d = natS b.d
  · obtain ⟨rfl, rfl⟩ := HDEN.out (HS.out he)
    rw [← he] at KB ⊢
    generalize natS a.d = t at *
    clear he HDEN HS
    have B1 := (Blk.new w 24 #[.bool false, .string sa, .string t]).alloc (.cells #[.bool false, .string sb, .string t] 24)
    have B2 := Blk.new (w.alloc (.cells #[.bool false, .string sa, .string t] 24)) 24 #[.bool false, .string sb, .string t]
    rw [World.size_alloc] at B2
    have HB : Below w.heap.size w ((w.alloc (.cells #[.bool false, .string sa, .string t] 24)).alloc (.cells #[.bool false, .string sb, .string t] 24)) := ((Below.refl _ w).alloc (Nat.le_refl _) _).alloc (by simp) _
    go_enter Try.func8, Try.ntmps8
    go_wp2_with fail
    generalize (w.alloc (.cells #[.bool false, .string sa, .string t] 24)).alloc (.cells #[.bool false, .string sb, .string t] 24) = w0 at *
    refine (awake21_c _).mono ?_
    rintro e w1 ⟨rfl, hb1⟩
    replace B1 := B1.below hb1 B1.lt
    replace B2 := B2.below hb1 B2.lt
    replace HB := below_chain HB hb1
    clear hb1
    obtain ⟨p0, p1, p2⟩ := rat_cells B1
    obtain ⟨q0, q1, q2⟩ := rat_cells B2
    go_wp2_with fail
    clear p0 p1 p2 q0 q1 q2
    refine (KA.out _).mono ?_
    rintro e w2 ⟨rfl, hb2⟩
    replace B1 := B1.below hb2 B1.lt
    replace B2 := B2.below hb2 B2.lt
    replace HB := below_chain HB hb2
    clear hb2
    obtain ⟨p0, p1, p2⟩ := rat_cells B1
    obtain ⟨q0, q1, q2⟩ := rat_cells B2
    go_wp2_with fail
    clear p0 p1 p2 q0 q1 q2
    refine (KB.out _).mono ?_
    rintro e w3 ⟨rfl, hb3⟩
    replace B1 := B1.below hb3 B1.lt
    replace B2 := B2.below hb3 B2.lt
    replace HB := below_chain HB hb3
    clear hb3
    obtain ⟨p0, p1, p2⟩ := rat_cells B1
    obtain ⟨q0, q1, q2⟩ := rat_cells B2
    go_wp2_with fail
    clear p0 p1 p2 q0 q1 q2
    refine (KT.out _).mono ?_
    rintro e w4 ⟨rfl, hb4⟩
    replace B1 := B1.below hb4 B1.lt
    replace B2 := B2.below hb4 B2.lt
    replace HB := below_chain HB hb4
    clear hb4
    obtain ⟨p0, p1, p2⟩ := rat_cells B1
    obtain ⟨q0, q1, q2⟩ := rat_cells B2
    have B3 := Blk.new w4 24 #[.bool false, .string (natS T.n), .string (natS T.d)]
    obtain ⟨r0, r1, r2⟩ := rat_cells B3
    replace HB := HB.alloc HB.size (.cells #[.bool false, .string (natS T.n), .string (natS T.d)] 24)
    go_wp2_with fail
    refine (KK.out _).mono ?_
    rintro e w5 ⟨rfl, hb5⟩
    replace HB := below_chain HB hb5
    clear r0 r1 r2 p0 p1 p2 q0 q1 q2 B1 B2 B3 hb5
    go_wp2_with fail
    go_ret
    exact ⟨rfl, HB⟩
  · have he3 : ((natS a.d).toList == (natS b.d).toList) = false := by rw [beq_eq_false_iff_ne]; exact fun c => he (str_inj21 c)
    have he4 : ¬ (natS a.d).toList = (natS b.d).toList := fun c => he (str_inj21 c)
    generalize natS a.d = t at *
    generalize natS b.d = tb at *
    clear HDEN HS
    have B1 := (Blk.new w 24 #[.bool false, .string sa, .string t]).alloc (.cells #[.bool false, .string sb, .string tb] 24)
    have B2 := Blk.new (w.alloc (.cells #[.bool false, .string sa, .string t] 24)) 24 #[.bool false, .string sb, .string tb]
    rw [World.size_alloc] at B2
    have HB : Below w.heap.size w ((w.alloc (.cells #[.bool false, .string sa, .string t] 24)).alloc (.cells #[.bool false, .string sb, .string tb] 24)) := ((Below.refl _ w).alloc (Nat.le_refl _) _).alloc (by simp) _
    go_enter Try.func8, Try.ntmps8
    go_wp2_with fail
    generalize (w.alloc (.cells #[.bool false, .string sa, .string t] 24)).alloc (.cells #[.bool false, .string sb, .string tb] 24) = w0 at *
    refine (awake21_c _).mono ?_
    rintro e w1 ⟨rfl, hb1⟩
    replace B1 := B1.below hb1 B1.lt
    replace B2 := B2.below hb1 B2.lt
    replace HB := below_chain HB hb1
    clear hb1
    obtain ⟨p0, p1, p2⟩ := rat_cells B1
    obtain ⟨q0, q1, q2⟩ := rat_cells B2
    go_wp2_with fail
    clear p0 p1 p2 q0 q1 q2
    refine (KA.out _).mono ?_
    rintro e w2 ⟨rfl, hb2⟩
    replace B1 := B1.below hb2 B1.lt
    replace B2 := B2.below hb2 B2.lt
    replace HB := below_chain HB hb2
    clear hb2
    obtain ⟨p0, p1, p2⟩ := rat_cells B1
    obtain ⟨q0, q1, q2⟩ := rat_cells B2
    go_wp2_with fail
    clear p0 p1 p2 q0 q1 q2
    refine (KB.out _).mono ?_
    rintro e w3 ⟨rfl, hb3⟩
    replace B1 := B1.below hb3 B1.lt
    replace B2 := B2.below hb3 B2.lt
    replace HB := below_chain HB hb3
    clear hb3
    obtain ⟨p0, p1, p2⟩ := rat_cells B1
    obtain ⟨q0, q1, q2⟩ := rat_cells B2
    go_wp2_with fail
    clear p0 p1 p2 q0 q1 q2
    refine (KT.out _).mono ?_
    rintro e w4 ⟨rfl, hb4⟩
    replace B1 := B1.below hb4 B1.lt
    replace B2 := B2.below hb4 B2.lt
    replace HB := below_chain HB hb4
    clear hb4
    obtain ⟨p0, p1, p2⟩ := rat_cells B1
    obtain ⟨q0, q1, q2⟩ := rat_cells B2
    have B3 := Blk.new w4 24 #[.bool false, .string (natS T.n), .string (natS T.d)]
    obtain ⟨r0, r1, r2⟩ := rat_cells B3
    replace HB := HB.alloc HB.size (.cells #[.bool false, .string (natS T.n), .string (natS T.d)] 24)
    go_wp2_with fail
    refine (KK.out _).mono ?_
    rintro e w5 ⟨rfl, hb5⟩
    replace HB := below_chain HB hb5
    clear r0 r1 r2 p0 p1 p2 q0 q1 q2 B1 B2 B3 hb5
    go_wp2_with fail
    go_ret
    exact ⟨rfl, HB⟩
end Go.Proofs.Ytfoldiieclfbgaa
set_option linter.unusedVariables false
set_option linter.unusedSimpArgs false
namespace Go.Proofs.Ytfoldiieclfbgaa
open Go Go.RowKit Nt

set_option maxRecDepth 100000 in
set_option maxHeartbeats 1000000 in
theorem optR_eql_i [Env] {A B : AV} {a b : Rt} {c : Bool} (ha : gval A = .agg #[.bool a.g, .string a.s, .string a.t]) (hb : gval B = .agg #[.bool b.g, .string b.s, .string b.t]) (h : c = true ↔ a = b) : OpT Try.prog [0, 11, 24] [A, B] (.lit (.bool c)) :=
  opt_bin (op := .eql) (r := .lit (.bool c)) rfl fun p q w => by
    rw [ha, hb]
    show _ = Result.ok (Value.bool (c)) w
    obtain ⟨g, s, t⟩ := a
    obtain ⟨g2, s2, t2⟩ := b
    simp only [Rt.mk.injEq] at h
    by_cases h1 : g = g2 <;> by_cases h2 : s.toList = s2.toList <;> by_cases h3 : t.toList = t2.toList
    · rw [h.2 ⟨h1, str_inj21 h2, str_inj21 h3⟩]
      subst h1
      go_simp
      try simp [h2, h3]
    all_goals
      rw [show c = false from Bool.eq_false_iff.2 (fun k => by
        obtain ⟨e1, e2, e3⟩ := h.1 k
        first | exact h1 e1 | exact h2 (congrArg _ e2) | exact h3 (congrArg _ e3))]
      go_simp
      try simp [h1, h2, h3]
set_option maxRecDepth 100000 in
set_option maxHeartbeats 1000000 in
theorem optR_neq_i [Env] {A B : AV} {a b : Rt} {c : Bool} (ha : gval A = .agg #[.bool a.g, .string a.s, .string a.t]) (hb : gval B = .agg #[.bool b.g, .string b.s, .string b.t]) (h : c = true ↔ a = b) : OpT Try.prog [0, 12, 24] [A, B] (.lit (.bool (!c))) :=
  opt_bin (op := .neq) (r := .lit (.bool (!c))) rfl fun p q w => by
    rw [ha, hb]
    show _ = Result.ok (Value.bool (!c)) w
    obtain ⟨g, s, t⟩ := a
    obtain ⟨g2, s2, t2⟩ := b
    simp only [Rt.mk.injEq] at h
    by_cases h1 : g = g2 <;> by_cases h2 : s.toList = s2.toList <;> by_cases h3 : t.toList = t2.toList
    · rw [h.2 ⟨h1, str_inj21 h2, str_inj21 h3⟩]
      subst h1
      go_simp
      try simp [h2, h3]
    all_goals
      rw [show c = false from Bool.eq_false_iff.2 (fun k => by
        obtain ⟨e1, e2, e3⟩ := h.1 k
        first | exact h1 e1 | exact h2 (congrArg _ e2) | exact h3 (congrArg _ e3))]
      go_simp
      try simp [h1, h2, h3]

theorem sumA_lt {a b : An} (ha : a.Ok) (hb : b.Ok) : a.n * b.d + b.n * a.d < 18446744073709551616 := by
  have h1 := mul31 ha.le.1 hb.le.2.1
  have h2 := mul31 hb.le.1 ha.le.2.1
  omega
/-- What Add gives of two angles. -/
def adS (a b : An) : ByteArray := mdS (a.n * b.d + b.n * a.d) (a.d * b.d)
def adT (a b : An) : ByteArray := mdT (a.n * b.d + b.n * a.d) (a.d * b.d)
def adE (a b : An) : Int := mdE (a.n * b.d + b.n * a.d) (a.d * b.d)

@[reducible] def AAdd_k_f : FuncId := 20
@[reducible] def AAdd_k_a : List AV := [.agg [.lit (.bool false), .sym 0, .sym 1], .agg [.lit (.bool false), .sym 2, .sym 3]]
@[reducible] noncomputable def AAdd_k_k : Know := ⟨[([0, 2, 28], [.sym 4, .sym 7], .sym 8),
  ([0, 2, 28], [.sym 6, .sym 5], .sym 9),
  ([0, 0, 28], [.sym 8, .sym 9], .sym 10),
  ([0, 2, 28], [.sym 5, .sym 7], .sym 11)],
  [(51, [.agg [.lit (.bool false), .sym 0, .sym 1]], .tup [.agg [.sym 4, .sym 5], .lit (.int .i64 0)]),
  (51, [.agg [.lit (.bool false), .sym 2, .sym 3]], .tup [.agg [.sym 6, .sym 7], .lit (.int .i64 0)]),
  (47, [.sym 10, .sym 11], .tup [.agg [.lit (.bool false), .sym 12, .sym 13], .sym 14])]⟩
theorem AAdd_k_r1 : @comes AAdd_k_k Try.prog glT 3000 AAdd_k_f AAdd_k_a = some (.tup [.agg [.lit (.bool false), .sym 12, .sym 13], .sym 14]) := by kernel_rfl

set_option maxRecDepth 100000 in
set_option maxHeartbeats 4000000 in
theorem AAdd_k (a b : An) (w : World) (ha : a.Ok) (hb : b.Ok) : Calls Try.prog 20 #[.agg #[.bool false, .string (natS a.n), .string (natS a.d)], .agg #[.bool false, .string (natS b.n), .string (natS b.d)]] w fun e w' => e = .returned (.tuple #[.agg #[.bool false, .string (adS a b), .string (adT a b)], .int .i64 (adE a b)]) ∧ Below w.heap.size w w' := by
  have hG : Globs glT w := glT_all w
  letI : Env := mkEnv glT [.string (natS a.n), .string (natS a.d), .string (natS b.n), .string (natS b.d), .int .u64 ((a.n : Nat) : Int), .int .u64 ((a.d : Nat) : Int), .int .u64 ((b.n : Nat) : Int), .int .u64 ((b.d : Nat) : Int), .int .u64 ((a.n * b.d : Nat) : Int), .int .u64 ((b.n * a.d : Nat) : Int), .int .u64 (((a.n * b.d) + (b.n * a.d) : Nat) : Int), .int .u64 ((a.d * b.d : Nat) : Int), .string (adS a b), .string (adT a b), .int .i64 (adE a b)] rfl
  have hops : OpsT Try.prog (@Know.ops AAdd_k_k) := ⟨nopt_mul (x := a.n) (y := b.d) (z := a.n * b.d) rfl rfl rfl rfl rfl (prod_lt ha.le.1 hb.le.2.1),
    nopt_mul (x := b.n) (y := a.d) (z := b.n * a.d) rfl rfl rfl rfl rfl (prod_lt hb.le.1 ha.le.2.1),
    nopt_add (x := (a.n * b.d)) (y := (b.n * a.d)) (z := (a.n * b.d) + (b.n * a.d)) rfl rfl rfl rfl rfl (sumA_lt ha hb),
    nopt_mul (x := a.d) (y := b.d) (z := a.d * b.d) rfl rfl rfl rfl rfl (prod_lt ha.le.2.1 hb.le.2.1),
    trivial⟩
  have hcalls : CallsT Try.prog (@Know.calls AAdd_k_k) := ⟨callt rfl rfl fun w hG => Aopen_ok a ha w,
    callt rfl rfl fun w hG => Aopen_ok b hb w,
    callt rfl rfl fun w hG => Amade_any (a.n * b.d + b.n * a.d) (a.d * b.d) w (sumA_lt ha hb) (Nat.mul_pos ha.le.2.2 hb.le.2.2) (prod_lt ha.le.2.1 hb.le.2.1),
    trivial⟩
  have fin : ∀ v, @comes AAdd_k_k Try.prog glT 3000 AAdd_k_f AAdd_k_a = some v → ground v = true → Ending.returned (gval v) = .returned (.tuple #[.agg #[.bool false, .string (adS a b), .string (adT a b)], .int .i64 (adE a b)]) → Calls Try.prog 20 #[.agg #[.bool false, .string (natS a.n), .string (natS a.d)], .agg #[.bool false, .string (natS b.n), .string (natS b.d)]] w fun e w' => e = .returned (.tuple #[.agg #[.bool false, .string (adS a b), .string (adT a b)], .int .i64 (adE a b)]) ∧ Below w.heap.size w w' := fun v h1 h2 h3 => (@sym_ok _ AAdd_k_k _ (@KnowOk.of _ AAdd_k_k _ hops hcalls) (by kernel_rfl) _ _ _ _ h1 rfl h2 _ hG).mono fun e w' h => ⟨h.1.trans h3, h.2⟩
  clear hops hcalls
  exact fin _ (AAdd_k_r1) rfl rfl

@[reducible] def AAdd_n_f : FuncId := 20
@[reducible] def AAdd_n_a : List AV := [.agg [.sym 0, .sym 1, .sym 2], .agg [.sym 3, .sym 4, .sym 5]]
@[reducible] noncomputable def AAdd_n_k (b1 b2 : Bool) : Know := ⟨[([0, 12, 25], [.sym 8, .lit (.int .i64 0)], .lit (.bool (!b1))),
  ([0, 12, 25], [.sym 11, .lit (.int .i64 0)], .lit (.bool (!b2)))],
  [(51, [.agg [.sym 0, .sym 1, .sym 2]], .tup [.agg [.sym 6, .sym 7], .sym 8]),
  (51, [.agg [.sym 3, .sym 4, .sym 5]], .tup [.agg [.sym 9, .sym 10], .sym 11])]⟩
theorem AAdd_n_r1 : @comes (AAdd_n_k true false) Try.prog glT 3000 AAdd_n_f AAdd_n_a = some (.lit (.tuple #[.agg #[.bool false, .string ⟨#[]⟩, .string ⟨#[]⟩], .int .i64 210])) := by kernel_rfl
theorem AAdd_n_r2 (b2 : Bool) : @comes (AAdd_n_k false b2) Try.prog glT 3000 AAdd_n_f AAdd_n_a = some (.lit (.tuple #[.agg #[.bool false, .string ⟨#[]⟩, .string ⟨#[]⟩], .int .i64 210])) := by kernel_rfl

set_option maxRecDepth 100000 in
set_option maxHeartbeats 4000000 in
theorem AAdd_n (a b : Rt) (w : World) (hza : a.small) (hzb : b.small) (hno : ¬ (anE a = 0 ∧ anE b = 0)) : Calls Try.prog 20 #[.agg #[.bool a.g, .string a.s, .string a.t], .agg #[.bool b.g, .string b.s, .string b.t]] w fun e w' => e = .returned (.tuple #[.agg #[.bool false, .string ⟨#[]⟩, .string ⟨#[]⟩], .int .i64 210]) ∧ Below w.heap.size w w' := by
  have hG : Globs glT w := glT_all w
  obtain ⟨b1, i1⟩ := bex (anE a = 0)
  obtain ⟨b2, i2⟩ := bex (anE b = 0)
  letI : Env := mkEnv glT [.bool a.g, .string a.s, .string a.t, .bool b.g, .string b.s, .string b.t, .int .u64 (((anA a).n : Nat) : Int), .int .u64 (((anA a).d : Nat) : Int), .int .i64 (anE a), .int .u64 (((anA b).n : Nat) : Int), .int .u64 (((anA b).d : Nat) : Int), .int .i64 (anE b)] rfl
  have hops : OpsT Try.prog (@Know.ops (AAdd_n_k b1 b2)) := ⟨opt_neq_i rfl rfl i1,
    opt_neq_i rfl rfl i2,
    trivial⟩
  have hcalls : CallsT Try.prog (@Know.calls (AAdd_n_k b1 b2)) := ⟨callt rfl rfl fun w hG => Aopen_any a hza w,
    callt rfl rfl fun w hG => Aopen_any b hzb w,
    trivial⟩
  have fin : ∀ v, @comes (AAdd_n_k b1 b2) Try.prog glT 3000 AAdd_n_f AAdd_n_a = some v → ground v = true → Ending.returned (gval v) = .returned (.tuple #[.agg #[.bool false, .string ⟨#[]⟩, .string ⟨#[]⟩], .int .i64 210]) → Calls Try.prog 20 #[.agg #[.bool a.g, .string a.s, .string a.t], .agg #[.bool b.g, .string b.s, .string b.t]] w fun e w' => e = .returned (.tuple #[.agg #[.bool false, .string ⟨#[]⟩, .string ⟨#[]⟩], .int .i64 210]) ∧ Below w.heap.size w w' := fun v h1 h2 h3 => (@sym_ok _ (AAdd_n_k b1 b2) _ (@KnowOk.of _ (AAdd_n_k b1 b2) _ hops hcalls) (by kernel_rfl) _ _ _ _ h1 rfl h2 _ hG).mono fun e w' h => ⟨h.1.trans h3, h.2⟩
  clear hops hcalls
  cases b1 with
  | true =>
    have h1 : anE a = 0 := i1.1 rfl
    cases b2 with
    | true =>
      exact absurd (i2.1 rfl) ((fun c => hno ⟨h1, c⟩))
    | false =>
      have h2 : ¬ (anE b = 0) := fun c => Bool.false_ne_true (i2.2 c)
      exact fin _ (AAdd_n_r1) rfl rfl
  | false =>
    have h1 : ¬ (anE a = 0) := fun c => Bool.false_ne_true (i1.2 c)
    exact fin _ (AAdd_n_r2 b2) rfl rfl

open Classical in
/-- What Add gives of any two Ratios. -/
@[irreducible] noncomputable def adR (a b : Rt) : Rt := if anE a = 0 ∧ anE b = 0 then ⟨false, adS (anA a) (anA b), adT (anA a) (anA b)⟩ else ⟨false, ⟨#[]⟩, ⟨#[]⟩⟩
open Classical in
@[irreducible] noncomputable def adF (a b : Rt) : Int := if anE a = 0 ∧ anE b = 0 then adE (anA a) (anA b) else 210
theorem anA_r0 {r : Rt} (h : anE r = 0) : (anA r).r = r := by
  obtain ⟨a, ha⟩ := okB_iff.1 (anE_iff.1 h)
  rw [(okB_is ha).2.1]; exact ha.2.symm
theorem AAdd_any (a b : Rt) (hza : a.small) (hzb : b.small) (w : World) : Calls Try.prog 20 #[.agg #[.bool a.g, .string a.s, .string a.t], .agg #[.bool b.g, .string b.s, .string b.t]] w fun e w' => e = .returned (.tuple #[.agg #[.bool (adR a b).g, .string (adR a b).s, .string (adR a b).t], .int .i64 (adF a b)]) ∧ Below w.heap.size w w' := by
  by_cases h : anE a = 0 ∧ anE b = 0
  · have hk := AAdd_k (anA a) (anA b) w (anA_ok0 h.1) (anA_ok0 h.2)
    have ea := anA_r0 h.1
    have eb := anA_r0 h.2
    rw [show natS (anA a).n = a.s from congrArg Rt.s ea, show natS (anA a).d = a.t from congrArg Rt.t ea, show natS (anA b).n = b.s from congrArg Rt.s eb, show natS (anA b).d = b.t from congrArg Rt.t eb] at hk
    unfold adR adF
    rw [if_pos h, if_pos h, show a.g = false from (congrArg Rt.g ea).symm, show b.g = false from (congrArg Rt.g eb).symm]
    exact hk
  · unfold adR adF
    rw [if_neg h, if_neg h]
    exact AAdd_n a b w hza hzb h
/-- The sum of two angles, in lowest terms. -/
def sumA (a b : An) : An := ⟨lowNum (a.n * b.d + b.n * a.d) (a.d * b.d), lowDen (a.n * b.d + b.n * a.d) (a.d * b.d)⟩
theorem ad_parts {a b : Rt} (h : adF a b = 0) : (anE a = 0 ∧ anE b = 0) ∧ (adR a b).Is (sumA (anA a) (anA b)) := by
  by_cases hk : anE a = 0 ∧ anE b = 0
  · refine ⟨hk, ?_⟩
    unfold adF at h
    rw [if_pos hk] at h
    have hd : 0 < (anA a).d * (anA b).d := Nat.mul_pos (anA_ok0 hk.1).le.2.2 (anA_ok0 hk.2).le.2.2
    by_cases hl : lowDen ((anA a).n * (anA b).d + (anA b).n * (anA a).d) ((anA a).d * (anA b).d) ≤ 2147483647
    · refine ⟨⟨lowNum_lt hd, hl, low_coprime hd⟩, ?_⟩
      unfold adR
      rw [if_pos hk]
      unfold adS adT
      rw [(md_ok hl).1, (md_ok hl).2.1]
      rfl
    · unfold adE at h
      rw [(md_no hl).2.2] at h
      cases h
  · unfold adF at h
    rw [if_neg hk] at h
    cases h
theorem mdS_small (n d : Nat) : (mdS n d).size ≤ 9223372036854775807 ∧ (mdT n d).size ≤ 9223372036854775807 := by
  by_cases h : lowDen n d ≤ 2147483647
  · rw [(md_ok h).1, (md_ok h).2.1]
    rcases Nat.eq_zero_or_pos d with h0 | h0
    · subst h0
      have e1 : lowDen n 0 = 0 := Nat.zero_div _
      have e2 : lowNum n 0 ≤ 1 := by
        show n % 0 / Nat.gcd (n % 0) 0 ≤ 1
        rw [Nat.mod_zero, Nat.gcd_zero_right]
        rcases Nat.eq_zero_or_pos n with h1 | h1
        · rw [h1]; decide
        · rw [Nat.div_self h1]; exact Nat.le_refl _
      exact ⟨natS_small (by omega), natS_small (by omega)⟩
    · have := lowNum_lt (n := n) h0
      exact ⟨natS_small (by omega), natS_small (by omega)⟩
  · rw [(md_no h).1, (md_no h).2.1]
    exact ⟨by decide, by decide⟩
theorem adR_small (a b : Rt) : (adR a b).small := by
  unfold adR
  split
  · exact mdS_small _ _
  · exact ⟨by decide, by decide⟩
/-! Between, over a common denominator. -/
def sc (M : Nat) (a : An) : Nat := a.n * (M / a.d)
theorem sc_below {M : Nat} {a : An} (ha : a.Ok) (hM : 0 < M) (h : a.d ∣ M) : sc M a < M := by
  obtain ⟨k, hk⟩ := h
  have hk0 : 0 < k := Nat.pos_of_ne_zero fun c => by rw [c, Nat.mul_zero] at hk; omega
  unfold sc
  rw [hk, Nat.mul_div_cancel_left _ ha.le.2.2]
  exact Nat.mul_lt_mul_of_pos_right ha.1 hk0
theorem lt_sc {M : Nat} {a b : An} (hM : 0 < M) (ha : a.d ∣ M) (hb : b.d ∣ M) : ltA a b = decide (sc M a < sc M b) := by
  unfold ltA
  rw [Bool.eq_iff_iff, decide_eq_true_iff, decide_eq_true_iff]
  exact sc_lt hM ha hb
theorem eq_sc {M : Nat} {a b : An} (hM : 0 < M) (ha : a.Ok) (hb : b.Ok) (da : a.d ∣ M) (db : b.d ∣ M) : a = b ↔ sc M a = sc M b := by
  refine ⟨fun h => by rw [h], fun h => An.same ha hb (fun c => ?_) (fun c => ?_)⟩
  · have := (sc_lt hM da db).1 c
    unfold sc at h; omega
  · have := (sc_lt hM db da).1 c
    unfold sc at h; omega
theorem btw_sc {M : Nat} {a x b : An} (hM : 0 < M) (ha : a.Ok) (hx : x.Ok) (hb : b.Ok) (da : a.d ∣ M) (dx : x.d ∣ M) (db : b.d ∣ M) : btwA a x b = btw (sc M a) (sc M x) (sc M b) := by
  unfold btwA btw
  rw [lt_sc hM da db, lt_sc hM da dx, lt_sc hM dx db, lt_sc hM db da]
  have e : decide (x = a) = decide (sc M x = sc M a) := by
    rw [Bool.eq_iff_iff, decide_eq_true_iff, decide_eq_true_iff]
    exact eq_sc hM hx ha dx da
  rw [e]
  simp only [decide_eq_true_eq]
theorem sumA_sc {M : Nat} {a y : An} (hM : 0 < M) (ha : a.Ok) (hy : y.Ok) (h : a.d * y.d ∣ M) : (sumA a y).d ∣ M ∧ sc M (sumA a y) = (sc M a + sc M y) % M := by
  have := sc_sum (a := a.n) (c := y.n) ha.le.2.2 hy.le.2.2 hM h
  exact ⟨this.1, this.2⟩
theorem btw_turned {a x b y : An} (ha : a.Ok) (hx : x.Ok) (hb : b.Ok) (hy : y.Ok) (h1 : (sumA a y).Ok) (h2 : (sumA x y).Ok) (h3 : (sumA b y).Ok) : btwA (sumA a y) (sumA x y) (sumA b y) = btwA a x b := by
  obtain ⟨M, hMe⟩ : ∃ M, M = a.d * x.d * b.d * y.d := ⟨_, rfl⟩
  have hM : 0 < M := by rw [hMe]; exact Nat.mul_pos (Nat.mul_pos (Nat.mul_pos ha.le.2.2 hx.le.2.2) hb.le.2.2) hy.le.2.2
  have da : a.d * y.d ∣ M := ⟨x.d * b.d, by rw [hMe]; simp only [Nat.mul_comm, Nat.mul_left_comm]⟩
  have dx : x.d * y.d ∣ M := ⟨a.d * b.d, by rw [hMe]; simp only [Nat.mul_comm, Nat.mul_left_comm]⟩
  have db : b.d * y.d ∣ M := ⟨a.d * x.d, by rw [hMe]; simp only [Nat.mul_comm, Nat.mul_left_comm]⟩
  have ea := Nat.dvd_trans (Nat.dvd_mul_right a.d y.d) da
  have ex := Nat.dvd_trans (Nat.dvd_mul_right x.d y.d) dx
  have eb := Nat.dvd_trans (Nat.dvd_mul_right b.d y.d) db
  have ey := Nat.dvd_trans (Nat.dvd_mul_left y.d a.d) da
  obtain ⟨sa, ta⟩ := sumA_sc hM ha hy da
  obtain ⟨sx, tx⟩ := sumA_sc hM hx hy dx
  obtain ⟨sb, tb⟩ := sumA_sc hM hb hy db
  rw [btw_sc hM h1 h2 h3 sa sx sb, ta, tx, tb, btw_sc hM ha hx hb ea ex eb]
  exact btw_on (sc_below ha hM ea) (sc_below hx hM ex) (sc_below hb hM eb) (sc_below hy hM ey)
theorem btwA_other {a x b : An} (ha : a.Ok) (hx : x.Ok) (hb : b.Ok) (h1 : a ≠ x) (h2 : x ≠ b) (h3 : a ≠ b) : btwA a x b = !btwA b x a := by
  obtain ⟨M, hMe⟩ : ∃ M, M = a.d * x.d * b.d := ⟨_, rfl⟩
  have hM : 0 < M := by rw [hMe]; exact Nat.mul_pos (Nat.mul_pos ha.le.2.2 hx.le.2.2) hb.le.2.2
  have da : a.d ∣ M := ⟨x.d * b.d, by rw [hMe, Nat.mul_assoc]⟩
  have dx : x.d ∣ M := ⟨a.d * b.d, by rw [hMe]; simp only [Nat.mul_comm, Nat.mul_left_comm]⟩
  have db : b.d ∣ M := ⟨a.d * x.d, by rw [hMe]; simp only [Nat.mul_comm, Nat.mul_left_comm]⟩
  rw [btw_sc hM ha hx hb da dx db, btw_sc hM hb hx ha db dx da]
  exact btw_other (fun c => h1 ((eq_sc hM ha hx da dx).2 c)) (fun c => h2 ((eq_sc hM hx hb dx db).2 c)) (fun c => h3 ((eq_sc hM ha hb da db).2 c))

end Go.Proofs.Ytfoldiieclfbgaa
set_option linter.unusedVariables false
set_option linter.unusedSimpArgs false
namespace Go.Proofs.Ytfoldiieclfbgaa
open Go Go.RowKit Nt

/-- As the document says what lies between. -/
@[irreducible] def btwC (a x b : An) : Bool := if a = b then !decide (x = a) else if ltA a b = true then ltA a x && ltA x b else ltA a x || ltA x b
theorem btwC_A {a x b : An} (ha : a.Ok) (hb : b.Ok) : btwC a x b = btwA a x b := by
  unfold btwC btwA
  by_cases h : a = b
  · subst h; simp [ltA]
  · rw [if_neg h]
    by_cases h1 : ltA a b = true
    · rw [if_pos h1, if_pos h1]
    · rw [if_neg h1, if_neg h1]
      have h2 : ltA b a = true := by
        refine Classical.byContradiction fun c => h (An.same ha hb ?_ ?_)
        · exact fun k => h1 (decide_eq_true k)
        · exact fun k => c (decide_eq_true k)
      rw [if_pos h2]
theorem btR_parts {a x b : Rt} (h : btR a x b = true) : okB a = true ∧ okB x = true ∧ okB b = true := by
  by_cases hk : ok3 a x b
  · exact ⟨anE_iff.1 hk.1, anE_iff.1 hk.2.1, anE_iff.1 hk.2.2⟩
  · rw [(bt_no hk).1] at h; cases h
theorem bt_all {a x b : Rt} (ha : okB a = true) (hx : okB x = true) (hb : okB b = true) : btR a x b = btwC (anA a) (anA x) (anA b) ∧ btE a x b = 0 := by
  have hk : ok3 a x b := ⟨anE_iff.2 ha, anE_iff.2 hx, anE_iff.2 hb⟩
  rw [btwC_A (anA_ok ha) (anA_ok hb)]
  exact bt_ok hk
theorem bt_none {a x b : Rt} (h : ¬ (okB a = true ∧ okB x = true ∧ okB b = true)) : btE a x b = 210 := (bt_no (fun c => h ⟨anE_iff.1 c.1, anE_iff.1 c.2.1, anE_iff.1 c.2.2⟩)).2
theorem ABetween_i (a x b : Rt) (hza : a.small) (hzx : x.small) (hzb : b.small) {c : Bool} (w : World) (hc : c = true ↔ btR a x b = true) : Calls Try.prog 42 #[.agg #[.bool a.g, .string a.s, .string a.t], .agg #[.bool x.g, .string x.s, .string x.t], .agg #[.bool b.g, .string b.s, .string b.t]] w fun e w' => e = .returned (.tuple #[.bool c, .int .i64 (btE a x b)]) ∧ Below w.heap.size w w' := by
  rw [show c = btR a x b from Bool.eq_iff_iff.2 hc]; exact ABetween_any a x b w hza hzx hzb

@[reducible] def rBetween_c_f : FuncId := 43
@[reducible] def rBetween_c_a : List AV := [.agg [.sym 0, .sym 1], .agg [.sym 2, .sym 3], .agg [.sym 4, .sym 5]]
@[reducible] noncomputable def rBetween_c_k (b1 b2 b3 b4 b5 : Bool) : Know := ⟨[([0, 11, 30], [.agg [.sym 0, .sym 1], .agg [.sym 4, .sym 5]], .lit (.bool b1)),
  ([0, 12, 30], [.agg [.sym 2, .sym 3], .agg [.sym 0, .sym 1]], .lit (.bool (!b2))),
  ([0, 13, 3], [.sym 8, .lit (.int .i64 0)], .lit (.bool b3)),
  ([0, 13, 3], [.sym 6, .lit (.int .i64 0)], .lit (.bool b4)),
  ([0, 13, 3], [.sym 7, .lit (.int .i64 0)], .lit (.bool b5))],
  [(23, [.agg [.sym 0, .sym 1], .agg [.sym 2, .sym 3]], .sym 6),
  (23, [.agg [.sym 2, .sym 3], .agg [.sym 4, .sym 5]], .sym 7),
  (23, [.agg [.sym 0, .sym 1], .agg [.sym 4, .sym 5]], .sym 8)]⟩
theorem rBetween_c_r1 (b3 b4 b5 : Bool) : @comes (rBetween_c_k true true b3 b4 b5) Try.prog glT 3000 rBetween_c_f rBetween_c_a = some (.lit (.bool false)) := by kernel_rfl
theorem rBetween_c_r2 (b3 b4 b5 : Bool) : @comes (rBetween_c_k true false b3 b4 b5) Try.prog glT 3000 rBetween_c_f rBetween_c_a = some (.lit (.bool true)) := by kernel_rfl
theorem rBetween_c_r3 (b2 : Bool) : @comes (rBetween_c_k false b2 true true true) Try.prog glT 3000 rBetween_c_f rBetween_c_a = some (.lit (.bool true)) := by kernel_rfl
theorem rBetween_c_r4 (b2 : Bool) : @comes (rBetween_c_k false b2 true true false) Try.prog glT 3000 rBetween_c_f rBetween_c_a = some (.lit (.bool false)) := by kernel_rfl
theorem rBetween_c_r5 (b2 b5 : Bool) : @comes (rBetween_c_k false b2 true false b5) Try.prog glT 3000 rBetween_c_f rBetween_c_a = some (.lit (.bool false)) := by kernel_rfl
theorem rBetween_c_r6 (b2 b5 : Bool) : @comes (rBetween_c_k false b2 false true b5) Try.prog glT 3000 rBetween_c_f rBetween_c_a = some (.lit (.bool true)) := by kernel_rfl
theorem rBetween_c_r7 (b2 : Bool) : @comes (rBetween_c_k false b2 false false true) Try.prog glT 3000 rBetween_c_f rBetween_c_a = some (.lit (.bool true)) := by kernel_rfl
theorem rBetween_c_r8 (b2 : Bool) : @comes (rBetween_c_k false b2 false false false) Try.prog glT 3000 rBetween_c_f rBetween_c_a = some (.lit (.bool false)) := by kernel_rfl

set_option maxRecDepth 100000 in
set_option maxHeartbeats 4000000 in
theorem rBetween_c (a x b : An) (w : World) (la : a.n ≤ 2147483647 ∧ a.d ≤ 2147483647) (lx : x.n ≤ 2147483647 ∧ x.d ≤ 2147483647) (lb : b.n ≤ 2147483647 ∧ b.d ≤ 2147483647) : Calls Try.prog 43 #[.agg #[.int .u64 ((a.n : Nat) : Int), .int .u64 ((a.d : Nat) : Int)], .agg #[.int .u64 ((x.n : Nat) : Int), .int .u64 ((x.d : Nat) : Int)], .agg #[.int .u64 ((b.n : Nat) : Int), .int .u64 ((b.d : Nat) : Int)]] w fun e w' => e = .returned (.bool (btwC a x b)) ∧ Below w.heap.size w w' := by
  have hG : Globs glT w := glT_all w
  obtain ⟨b1, i1⟩ := bex (a = b)
  obtain ⟨b2, i2⟩ := bex (x = a)
  obtain ⟨b3, i3⟩ := bex (cmp21 (a.n * b.d) (b.n * a.d) < 0)
  obtain ⟨b4, i4⟩ := bex (cmp21 (a.n * x.d) (x.n * a.d) < 0)
  obtain ⟨b5, i5⟩ := bex (cmp21 (x.n * b.d) (b.n * x.d) < 0)
  letI : Env := mkEnv glT [.int .u64 ((a.n : Nat) : Int), .int .u64 ((a.d : Nat) : Int), .int .u64 ((x.n : Nat) : Int), .int .u64 ((x.d : Nat) : Int), .int .u64 ((b.n : Nat) : Int), .int .u64 ((b.d : Nat) : Int), .int .i64 (cmp21 (a.n * x.d) (x.n * a.d)), .int .i64 (cmp21 (x.n * b.d) (b.n * x.d)), .int .i64 (cmp21 (a.n * b.d) (b.n * a.d))] rfl
  have hops : OpsT Try.prog (@Know.ops (rBetween_c_k b1 b2 b3 b4 b5)) := ⟨opta_eql_i rfl rfl i1,
    opta_neq_i rfl rfl i2,
    opt_lss_i rfl rfl i3,
    opt_lss_i rfl rfl i4,
    opt_lss_i rfl rfl i5,
    trivial⟩
  have hcalls : CallsT Try.prog (@Know.calls (rBetween_c_k b1 b2 b3 b4 b5)) := ⟨callt rfl rfl fun w hG => rCmp21_c a x w la lx,
    callt rfl rfl fun w hG => rCmp21_c x b w lx lb,
    callt rfl rfl fun w hG => rCmp21_c a b w la lb,
    trivial⟩
  have fin : ∀ v, @comes (rBetween_c_k b1 b2 b3 b4 b5) Try.prog glT 3000 rBetween_c_f rBetween_c_a = some v → ground v = true → Ending.returned (gval v) = .returned (.bool (btwC a x b)) → Calls Try.prog 43 #[.agg #[.int .u64 ((a.n : Nat) : Int), .int .u64 ((a.d : Nat) : Int)], .agg #[.int .u64 ((x.n : Nat) : Int), .int .u64 ((x.d : Nat) : Int)], .agg #[.int .u64 ((b.n : Nat) : Int), .int .u64 ((b.d : Nat) : Int)]] w fun e w' => e = .returned (.bool (btwC a x b)) ∧ Below w.heap.size w w' := fun v h1 h2 h3 => (@sym_ok _ (rBetween_c_k b1 b2 b3 b4 b5) _ (@KnowOk.of _ (rBetween_c_k b1 b2 b3 b4 b5) _ hops hcalls) (by kernel_rfl) _ _ _ _ h1 rfl h2 _ hG).mono fun e w' h => ⟨h.1.trans h3, h.2⟩
  clear hops hcalls
  cases b1 with
  | true =>
    have h1 : a = b := i1.1 rfl
    cases b2 with
    | true =>
      have h2 : x = a := i2.1 rfl
      exact fin _ (rBetween_c_r1 b3 b4 b5) rfl (show Ending.returned (.bool false) = .returned (.bool (btwC a x b)) from (by
            have hv : btwC a x b = false := by
              have g0 := (show a = b from h1)
              have g1 := (show x = a from h2)
              unfold btwC
              rw [if_pos h1]; simp [g1]
            rw [hv]))
    | false =>
      have h2 : ¬ (x = a) := fun c => Bool.false_ne_true (i2.2 c)
      exact fin _ (rBetween_c_r2 b3 b4 b5) rfl (show Ending.returned (.bool true) = .returned (.bool (btwC a x b)) from (by
            have hv : btwC a x b = true := by
              have g0 := (show a = b from h1)
              have g1 := (show ¬ (x = a) from h2)
              unfold btwC
              rw [if_pos h1]; simp [g1]
            rw [hv]))
  | false =>
    have h1 : ¬ (a = b) := fun c => Bool.false_ne_true (i1.2 c)
    cases b3 with
    | true =>
      have h3 : cmp21 (a.n * b.d) (b.n * a.d) < 0 := i3.1 rfl
      cases b4 with
      | true =>
        have h4 : cmp21 (a.n * x.d) (x.n * a.d) < 0 := i4.1 rfl
        cases b5 with
        | true =>
          have h5 : cmp21 (x.n * b.d) (b.n * x.d) < 0 := i5.1 rfl
          exact fin _ (rBetween_c_r3 b2) rfl (show Ending.returned (.bool true) = .returned (.bool (btwC a x b)) from (by
            have hv : btwC a x b = true := by
              have g0 := (show a.n * b.d < b.n * a.d from cmp21_neg.1 h3)
              have g1 := (show a.n * x.d < x.n * a.d from cmp21_neg.1 h4)
              have g2 := (show x.n * b.d < b.n * x.d from cmp21_neg.1 h5)
              have g3 := (show ¬ (a = b) from h1)
              unfold btwC
              simp [ltA, g0, g1, g2, g3]
            rw [hv]))
        | false =>
          have h5 : ¬ (cmp21 (x.n * b.d) (b.n * x.d) < 0) := fun c => Bool.false_ne_true (i5.2 c)
          exact fin _ (rBetween_c_r4 b2) rfl (show Ending.returned (.bool false) = .returned (.bool (btwC a x b)) from (by
            have hv : btwC a x b = false := by
              have g0 := (show a.n * b.d < b.n * a.d from cmp21_neg.1 h3)
              have g1 := (show a.n * x.d < x.n * a.d from cmp21_neg.1 h4)
              have g2 := (show ¬ (x.n * b.d < b.n * x.d) from (fun c => h5 (cmp21_neg.2 c)))
              have g3 := (show ¬ (a = b) from h1)
              unfold btwC
              simp [ltA, g0, g1, g2, g3]
            rw [hv]))
      | false =>
        have h4 : ¬ (cmp21 (a.n * x.d) (x.n * a.d) < 0) := fun c => Bool.false_ne_true (i4.2 c)
        exact fin _ (rBetween_c_r5 b2 b5) rfl (show Ending.returned (.bool false) = .returned (.bool (btwC a x b)) from (by
            have hv : btwC a x b = false := by
              have g0 := (show a.n * b.d < b.n * a.d from cmp21_neg.1 h3)
              have g1 := (show ¬ (a.n * x.d < x.n * a.d) from (fun c => h4 (cmp21_neg.2 c)))
              have g2 := (show ¬ (a = b) from h1)
              unfold btwC
              simp [ltA, g0, g1, g2]
            rw [hv]))
    | false =>
      have h3 : ¬ (cmp21 (a.n * b.d) (b.n * a.d) < 0) := fun c => Bool.false_ne_true (i3.2 c)
      cases b4 with
      | true =>
        have h4 : cmp21 (a.n * x.d) (x.n * a.d) < 0 := i4.1 rfl
        exact fin _ (rBetween_c_r6 b2 b5) rfl (show Ending.returned (.bool true) = .returned (.bool (btwC a x b)) from (by
            have hv : btwC a x b = true := by
              have g0 := (show ¬ (a.n * b.d < b.n * a.d) from (fun c => h3 (cmp21_neg.2 c)))
              have g1 := (show a.n * x.d < x.n * a.d from cmp21_neg.1 h4)
              have g2 := (show ¬ (a = b) from h1)
              unfold btwC
              simp [ltA, g0, g1, g2]
            rw [hv]))
      | false =>
        have h4 : ¬ (cmp21 (a.n * x.d) (x.n * a.d) < 0) := fun c => Bool.false_ne_true (i4.2 c)
        cases b5 with
        | true =>
          have h5 : cmp21 (x.n * b.d) (b.n * x.d) < 0 := i5.1 rfl
          exact fin _ (rBetween_c_r7 b2) rfl (show Ending.returned (.bool true) = .returned (.bool (btwC a x b)) from (by
            have hv : btwC a x b = true := by
              have g0 := (show ¬ (a.n * b.d < b.n * a.d) from (fun c => h3 (cmp21_neg.2 c)))
              have g1 := (show ¬ (a.n * x.d < x.n * a.d) from (fun c => h4 (cmp21_neg.2 c)))
              have g2 := (show x.n * b.d < b.n * x.d from cmp21_neg.1 h5)
              have g3 := (show ¬ (a = b) from h1)
              unfold btwC
              simp [ltA, g0, g1, g2, g3]
            rw [hv]))
        | false =>
          have h5 : ¬ (cmp21 (x.n * b.d) (b.n * x.d) < 0) := fun c => Bool.false_ne_true (i5.2 c)
          exact fin _ (rBetween_c_r8 b2) rfl (show Ending.returned (.bool false) = .returned (.bool (btwC a x b)) from (by
            have hv : btwC a x b = false := by
              have g0 := (show ¬ (a.n * b.d < b.n * a.d) from (fun c => h3 (cmp21_neg.2 c)))
              have g1 := (show ¬ (a.n * x.d < x.n * a.d) from (fun c => h4 (cmp21_neg.2 c)))
              have g2 := (show ¬ (x.n * b.d < b.n * x.d) from (fun c => h5 (cmp21_neg.2 c)))
              have g3 := (show ¬ (a = b) from h1)
              unfold btwC
              simp [ltA, g0, g1, g2, g3]
            rw [hv]))

theorem rBetween_i (a x b : An) {c : Bool} (w : World) (la : a.n ≤ 2147483647 ∧ a.d ≤ 2147483647) (lx : x.n ≤ 2147483647 ∧ x.d ≤ 2147483647) (lb : b.n ≤ 2147483647 ∧ b.d ≤ 2147483647) (hc : c = true ↔ btwC a x b = true) : Calls Try.prog 43 #[.agg #[.int .u64 (a.n : Nat), .int .u64 (a.d : Nat)], .agg #[.int .u64 (x.n : Nat), .int .u64 (x.d : Nat)], .agg #[.int .u64 (b.n : Nat), .int .u64 (b.d : Nat)]] w fun e w' => e = .returned (.bool c) ∧ Below w.heap.size w w' := by
  rw [show c = btwC a x b from Bool.eq_iff_iff.2 hc]; exact rBetween_c a x b w la lx lb

@[reducible] def AngleBetween_law_f : FuncId := 7
@[reducible] def AngleBetween_law_a : List AV := [.agg [.sym 0, .sym 1, .sym 2], .agg [.sym 3, .sym 4, .sym 5], .agg [.sym 6, .sym 7, .sym 8]]
@[reducible] noncomputable def AngleBetween_law_k (b1 b2 b3 b4 b5 b6 b7 : Bool) : Know := ⟨[([0, 11, 25], [.sym 9, .lit (.int .i64 0)], .lit (.bool b6)),
  ([0, 11, 25], [.sym 9, .lit (.int .i64 210)], .lit (.bool b7))],
  [(42, [.agg [.sym 0, .sym 1, .sym 2], .agg [.sym 3, .sym 4, .sym 5], .agg [.sym 6, .sym 7, .sym 8]], .tup [.lit (.bool b1), .sym 9]),
  (17, [.agg [.sym 0, .sym 1, .sym 2]], .tup [.agg [.sym 10, .sym 11], .lit (.bool b2)]),
  (17, [.agg [.sym 3, .sym 4, .sym 5]], .tup [.agg [.sym 12, .sym 13], .lit (.bool b3)]),
  (17, [.agg [.sym 6, .sym 7, .sym 8]], .tup [.agg [.sym 14, .sym 15], .lit (.bool b4)]),
  (43, [.agg [.sym 10, .sym 11], .agg [.sym 12, .sym 13], .agg [.sym 14, .sym 15]], .lit (.bool b5)),
  (21, [], .lit (.bool true))]⟩
theorem AngleBetween_law_r1 (b7 : Bool) : @comes (AngleBetween_law_k true true true true true true b7) Try.prog glT 3000 AngleBetween_law_f AngleBetween_law_a = some (.lit (.bool true)) := by kernel_rfl
theorem AngleBetween_law_r2 (b7 : Bool) : @comes (AngleBetween_law_k false true true true false true b7) Try.prog glT 3000 AngleBetween_law_f AngleBetween_law_a = some (.lit (.bool true)) := by kernel_rfl
theorem AngleBetween_law_r3 (b5 b6 : Bool) : @comes (AngleBetween_law_k false true true false b5 b6 true) Try.prog glT 3000 AngleBetween_law_f AngleBetween_law_a = some (.lit (.bool true)) := by kernel_rfl
theorem AngleBetween_law_r4 (b4 b5 b6 : Bool) : @comes (AngleBetween_law_k false true false b4 b5 b6 true) Try.prog glT 3000 AngleBetween_law_f AngleBetween_law_a = some (.lit (.bool true)) := by kernel_rfl
theorem AngleBetween_law_r5 (b3 b4 b5 b6 : Bool) : @comes (AngleBetween_law_k false false b3 b4 b5 b6 true) Try.prog glT 3000 AngleBetween_law_f AngleBetween_law_a = some (.lit (.bool true)) := by kernel_rfl

set_option maxRecDepth 100000 in
set_option maxHeartbeats 4000000 in
theorem AngleBetween_law (a x b : Rt) (w : World) (hza : a.small) (hzx : x.small) (hzb : b.small) : Calls Try.prog 7 #[.agg #[.bool a.g, .string a.s, .string a.t], .agg #[.bool x.g, .string x.s, .string x.t], .agg #[.bool b.g, .string b.s, .string b.t]] w fun e w' => e = .returned (.bool true) ∧ Below w.heap.size w w' := by
  have hG : Globs glT w := glT_all w
  obtain ⟨b1, i1⟩ := bex (btR a x b = true)
  obtain ⟨b2, i2⟩ := bex (okB a = true)
  obtain ⟨b3, i3⟩ := bex (okB x = true)
  obtain ⟨b4, i4⟩ := bex (okB b = true)
  obtain ⟨b5, i5⟩ := bex (btwC (anA a) (anA x) (anA b) = true)
  obtain ⟨b6, i6⟩ := bex (btE a x b = 0)
  obtain ⟨b7, i7⟩ := bex (btE a x b = 210)
  letI : Env := mkEnv glT [.bool a.g, .string a.s, .string a.t, .bool x.g, .string x.s, .string x.t, .bool b.g, .string b.s, .string b.t, .int .i64 (btE a x b), .int .u64 (((anA a).n : Nat) : Int), .int .u64 (((anA a).d : Nat) : Int), .int .u64 (((anA x).n : Nat) : Int), .int .u64 (((anA x).d : Nat) : Int), .int .u64 (((anA b).n : Nat) : Int), .int .u64 (((anA b).d : Nat) : Int)] rfl
  have hops : OpsT Try.prog (@Know.ops (AngleBetween_law_k b1 b2 b3 b4 b5 b6 b7)) := ⟨opt_eql_i rfl rfl i6,
    opt_eql_i rfl rfl i7,
    trivial⟩
  have hcalls : CallsT Try.prog (@Know.calls (AngleBetween_law_k b1 b2 b3 b4 b5 b6 b7)) := ⟨callt rfl rfl fun w hG => ABetween_i a x b hza hzx hzb w i1,
    callt rfl rfl fun w hG => rOf21_i a hza w i2,
    callt rfl rfl fun w hG => rOf21_i x hzx w i3,
    callt rfl rfl fun w hG => rOf21_i b hzb w i4,
    callt rfl rfl fun w hG => rBetween_i (anA a) (anA x) (anA b) w (anA_le a) (anA_le x) (anA_le b) i5,
    callt rfl rfl fun w hG => awake21_c w,
    trivial⟩
  have fin : ∀ v, @comes (AngleBetween_law_k b1 b2 b3 b4 b5 b6 b7) Try.prog glT 3000 AngleBetween_law_f AngleBetween_law_a = some v → ground v = true → Ending.returned (gval v) = .returned (.bool true) → Calls Try.prog 7 #[.agg #[.bool a.g, .string a.s, .string a.t], .agg #[.bool x.g, .string x.s, .string x.t], .agg #[.bool b.g, .string b.s, .string b.t]] w fun e w' => e = .returned (.bool true) ∧ Below w.heap.size w w' := fun v h1 h2 h3 => (@sym_ok _ (AngleBetween_law_k b1 b2 b3 b4 b5 b6 b7) _ (@KnowOk.of _ (AngleBetween_law_k b1 b2 b3 b4 b5 b6 b7) _ hops hcalls) (by kernel_rfl) _ _ _ _ h1 rfl h2 _ hG).mono fun e w' h => ⟨h.1.trans h3, h.2⟩
  clear hops hcalls
  cases b1 with
  | true =>
    have h1 : btR a x b = true := i1.1 rfl
    cases b2 with
    | true =>
      have h2 : okB a = true := i2.1 rfl
      cases b3 with
      | true =>
        have h3 : okB x = true := i3.1 rfl
        cases b4 with
        | true =>
          have h4 : okB b = true := i4.1 rfl
          cases b5 with
          | true =>
            have h5 : btwC (anA a) (anA x) (anA b) = true := i5.1 rfl
            cases b6 with
            | true =>
              have h6 : btE a x b = 0 := i6.1 rfl
              exact fin _ (AngleBetween_law_r1 b7) rfl rfl
            | false =>
              exact absurd (i6.2 ((bt_all h2 h3 h4).2)) Bool.false_ne_true
          | false =>
            exact absurd (i5.2 (((bt_all h2 h3 h4).1 ▸ h1))) Bool.false_ne_true
        | false =>
          exact absurd (i4.2 ((btR_parts h1).2.2)) Bool.false_ne_true
      | false =>
        exact absurd (i3.2 ((btR_parts h1).2.1)) Bool.false_ne_true
    | false =>
      exact absurd (i2.2 ((btR_parts h1).1)) Bool.false_ne_true
  | false =>
    have h1 : ¬ (btR a x b = true) := fun c => Bool.false_ne_true (i1.2 c)
    cases b2 with
    | true =>
      have h2 : okB a = true := i2.1 rfl
      cases b3 with
      | true =>
        have h3 : okB x = true := i3.1 rfl
        cases b4 with
        | true =>
          have h4 : okB b = true := i4.1 rfl
          cases b5 with
          | true =>
            exact absurd (i5.1 rfl) ((fun c => h1 ((bt_all h2 h3 h4).1 ▸ c)))
          | false =>
            have h5 : ¬ (btwC (anA a) (anA x) (anA b) = true) := fun c => Bool.false_ne_true (i5.2 c)
            cases b6 with
            | true =>
              have h6 : btE a x b = 0 := i6.1 rfl
              exact fin _ (AngleBetween_law_r2 b7) rfl rfl
            | false =>
              exact absurd (i6.2 ((bt_all h2 h3 h4).2)) Bool.false_ne_true
        | false =>
          have h4 : ¬ (okB b = true) := fun c => Bool.false_ne_true (i4.2 c)
          cases b7 with
          | true =>
            have h7 : btE a x b = 210 := i7.1 rfl
            exact fin _ (AngleBetween_law_r3 b5 b6) rfl rfl
          | false =>
            exact absurd (i7.2 ((bt_none (fun c => h4 c.2.2)))) Bool.false_ne_true
      | false =>
        have h3 : ¬ (okB x = true) := fun c => Bool.false_ne_true (i3.2 c)
        cases b7 with
        | true =>
          have h7 : btE a x b = 210 := i7.1 rfl
          exact fin _ (AngleBetween_law_r4 b4 b5 b6) rfl rfl
        | false =>
          exact absurd (i7.2 ((bt_none (fun c => h3 c.2.1)))) Bool.false_ne_true
    | false =>
      have h2 : ¬ (okB a = true) := fun c => Bool.false_ne_true (i2.2 c)
      cases b7 with
      | true =>
        have h7 : btE a x b = 210 := i7.1 rfl
        exact fin _ (AngleBetween_law_r5 b3 b4 b5 b6) rfl rfl
      | false =>
        exact absurd (i7.2 ((bt_none (fun c => h2 c.1)))) Bool.false_ne_true

end Go.Proofs.Ytfoldiieclfbgaa
set_option linter.unusedVariables false
set_option linter.unusedSimpArgs false
namespace Go.Proofs.Ytfoldiieclfbgaa
open Go Go.RowKit Nt

theorem bt_zero {a x b : Rt} : btE a x b = 0 ↔ ok3 a x b := by
  constructor
  · intro h
    refine Classical.byContradiction fun c => ?_
    rw [(bt_no c).2] at h; cases h
  · exact fun h => (bt_ok h).2
theorem ok3_swap {a x b : Rt} (h : ok3 a x b) : ok3 b x a := ⟨h.2.2, h.2.1, h.1⟩
theorem btE_swap (a x b : Rt) : btE a x b = btE b x a := by
  by_cases h : ok3 a x b
  · rw [(bt_ok h).2, (bt_ok (ok3_swap h)).2]
  · rw [(bt_no h).2, (bt_no (fun c => h (ok3_swap c))).2]
theorem An_ne {a x : Rt} (ha : anE a = 0) (hx : anE x = 0) (h : ¬ a = x) : anA a ≠ anA x := fun c => h (anA_eq (anE_iff.1 ha) (anE_iff.1 hx) c)
theorem bt_other {a x b : Rt} (h : btE a x b = 0) (h1 : ¬ a = x) (h2 : ¬ x = b) (h3 : ¬ a = b) : btR a x b = !btR b x a := by
  have hk := bt_zero.1 h
  rw [(bt_ok hk).1, (bt_ok (ok3_swap hk)).1]
  exact btwA_other (anA_ok0 hk.1) (anA_ok0 hk.2.1) (anA_ok0 hk.2.2) (An_ne hk.1 hk.2.1 h1) (An_ne hk.2.1 hk.2.2 h2) (An_ne hk.1 hk.2.2 h3)
theorem is_E {r : Rt} {a : An} (h : r.Is a) : anE r = 0 ∧ anA r = a := ⟨(okB_is h).2.2, (okB_is h).2.1⟩
theorem bt_sums {a x b y : Rt} (h : btE a x b = 0) (h1 : adF a y = 0) (h2 : adF x y = 0) (h3 : adF b y = 0) : btE (adR a y) (adR x y) (adR b y) = 0 ∧ btR (adR a y) (adR x y) (adR b y) = btR a x b := by
  obtain ⟨⟨pa, py⟩, ia⟩ := ad_parts h1
  obtain ⟨⟨px, _⟩, ix⟩ := ad_parts h2
  obtain ⟨⟨pb, _⟩, ib⟩ := ad_parts h3
  have hk : ok3 (adR a y) (adR x y) (adR b y) := ⟨(is_E ia).1, (is_E ix).1, (is_E ib).1⟩
  refine ⟨(bt_ok hk).2, ?_⟩
  rw [(bt_ok hk).1, (bt_ok (bt_zero.1 h)).1, (is_E ia).2, (is_E ix).2, (is_E ib).2]
  exact btw_turned (anA_ok0 pa) (anA_ok0 px) (anA_ok0 pb) (anA_ok0 py) ia.1 ix.1 ib.1
theorem not_both {p q : Bool} (h : p = !q) (hp : p = true) : ¬ q = true := fun hq => by rw [hp, hq] at h; exact Bool.noConfusion h
theorem not_none {p q : Bool} (h : p = !q) (hp : ¬ p = true) : q = true := by
  cases q with
  | true => rfl
  | false => exact absurd h hp

@[reducible] def AngleRound_law_f : FuncId := 12
@[reducible] def AngleRound_law_a : List AV := [.agg [.sym 0, .sym 1, .sym 2], .agg [.sym 3, .sym 4, .sym 5], .agg [.sym 6, .sym 7, .sym 8], .agg [.sym 9, .sym 10, .sym 11]]
@[reducible] noncomputable def AngleRound_law_k (b1 b2 b3 b5 b6 b7 b8 b9 b10 b11 b12 b13 : Bool) : Know := ⟨[([0, 12, 25], [.sym 12, .lit (.int .i64 0)], .lit (.bool (!b3))),
  ([0, 11, 25], [.sym 12, .sym 13], .lit (.bool true)),
  ([0, 12, 25], [.sym 13, .lit (.int .i64 0)], .lit (.bool (!b5))),
  ([0, 12, 24], [.agg [.sym 0, .sym 1, .sym 2], .agg [.sym 3, .sym 4, .sym 5]], .lit (.bool (!b6))),
  ([0, 12, 24], [.agg [.sym 3, .sym 4, .sym 5], .agg [.sym 6, .sym 7, .sym 8]], .lit (.bool (!b7))),
  ([0, 12, 24], [.agg [.sym 0, .sym 1, .sym 2], .agg [.sym 6, .sym 7, .sym 8]], .lit (.bool (!b8))),
  ([0, 12, 25], [.sym 17, .lit (.int .i64 0)], .lit (.bool (!b9))),
  ([0, 12, 25], [.sym 21, .lit (.int .i64 0)], .lit (.bool (!b10))),
  ([0, 12, 25], [.sym 25, .lit (.int .i64 0)], .lit (.bool (!b11))),
  ([0, 11, 25], [.sym 26, .lit (.int .i64 0)], .lit (.bool b13))],
  [(21, [], .lit (.bool true)),
  (42, [.agg [.sym 0, .sym 1, .sym 2], .agg [.sym 3, .sym 4, .sym 5], .agg [.sym 6, .sym 7, .sym 8]], .tup [.lit (.bool b1), .sym 12]),
  (42, [.agg [.sym 6, .sym 7, .sym 8], .agg [.sym 3, .sym 4, .sym 5], .agg [.sym 0, .sym 1, .sym 2]], .tup [.lit (.bool b2), .sym 13]),
  (20, [.agg [.sym 0, .sym 1, .sym 2], .agg [.sym 9, .sym 10, .sym 11]], .tup [.agg [.sym 14, .sym 15, .sym 16], .sym 17]),
  (20, [.agg [.sym 3, .sym 4, .sym 5], .agg [.sym 9, .sym 10, .sym 11]], .tup [.agg [.sym 18, .sym 19, .sym 20], .sym 21]),
  (20, [.agg [.sym 6, .sym 7, .sym 8], .agg [.sym 9, .sym 10, .sym 11]], .tup [.agg [.sym 22, .sym 23, .sym 24], .sym 25]),
  (42, [.agg [.sym 14, .sym 15, .sym 16], .agg [.sym 18, .sym 19, .sym 20], .agg [.sym 22, .sym 23, .sym 24]], .tup [.lit (.bool b12), .sym 26])]⟩
theorem AngleRound_law_r1 (b2 b7 b8 : Bool) : @comes (AngleRound_law_k true b2 true true true b7 b8 true true true true true) Try.prog glT 3000 AngleRound_law_f AngleRound_law_a = some (.lit (.bool true)) := by kernel_rfl
theorem AngleRound_law_r2 (b2 b7 b8 : Bool) : @comes (AngleRound_law_k false b2 true true true b7 b8 true true true false true) Try.prog glT 3000 AngleRound_law_f AngleRound_law_a = some (.lit (.bool true)) := by kernel_rfl
theorem AngleRound_law_r3 (b1 b2 b7 b8 b12 b13 : Bool) : @comes (AngleRound_law_k b1 b2 true true true b7 b8 true true false b12 b13) Try.prog glT 3000 AngleRound_law_f AngleRound_law_a = some (.lit (.bool true)) := by kernel_rfl
theorem AngleRound_law_r4 (b1 b2 b7 b8 b11 b12 b13 : Bool) : @comes (AngleRound_law_k b1 b2 true true true b7 b8 true false b11 b12 b13) Try.prog glT 3000 AngleRound_law_f AngleRound_law_a = some (.lit (.bool true)) := by kernel_rfl
theorem AngleRound_law_r5 (b1 b2 b7 b8 b10 b11 b12 b13 : Bool) : @comes (AngleRound_law_k b1 b2 true true true b7 b8 false b10 b11 b12 b13) Try.prog glT 3000 AngleRound_law_f AngleRound_law_a = some (.lit (.bool true)) := by kernel_rfl
theorem AngleRound_law_r6 (b2 b8 : Bool) : @comes (AngleRound_law_k true b2 true true false true b8 true true true true true) Try.prog glT 3000 AngleRound_law_f AngleRound_law_a = some (.lit (.bool true)) := by kernel_rfl
theorem AngleRound_law_r7 (b2 b8 : Bool) : @comes (AngleRound_law_k false b2 true true false true b8 true true true false true) Try.prog glT 3000 AngleRound_law_f AngleRound_law_a = some (.lit (.bool true)) := by kernel_rfl
theorem AngleRound_law_r8 (b1 b2 b8 b12 b13 : Bool) : @comes (AngleRound_law_k b1 b2 true true false true b8 true true false b12 b13) Try.prog glT 3000 AngleRound_law_f AngleRound_law_a = some (.lit (.bool true)) := by kernel_rfl
theorem AngleRound_law_r9 (b1 b2 b8 b11 b12 b13 : Bool) : @comes (AngleRound_law_k b1 b2 true true false true b8 true false b11 b12 b13) Try.prog glT 3000 AngleRound_law_f AngleRound_law_a = some (.lit (.bool true)) := by kernel_rfl
theorem AngleRound_law_r10 (b1 b2 b8 b10 b11 b12 b13 : Bool) : @comes (AngleRound_law_k b1 b2 true true false true b8 false b10 b11 b12 b13) Try.prog glT 3000 AngleRound_law_f AngleRound_law_a = some (.lit (.bool true)) := by kernel_rfl
theorem AngleRound_law_r11 (b2 : Bool) : @comes (AngleRound_law_k true b2 true true false false true true true true true true) Try.prog glT 3000 AngleRound_law_f AngleRound_law_a = some (.lit (.bool true)) := by kernel_rfl
theorem AngleRound_law_r12 (b2 : Bool) : @comes (AngleRound_law_k false b2 true true false false true true true true false true) Try.prog glT 3000 AngleRound_law_f AngleRound_law_a = some (.lit (.bool true)) := by kernel_rfl
theorem AngleRound_law_r13 (b1 b2 b12 b13 : Bool) : @comes (AngleRound_law_k b1 b2 true true false false true true true false b12 b13) Try.prog glT 3000 AngleRound_law_f AngleRound_law_a = some (.lit (.bool true)) := by kernel_rfl
theorem AngleRound_law_r14 (b1 b2 b11 b12 b13 : Bool) : @comes (AngleRound_law_k b1 b2 true true false false true true false b11 b12 b13) Try.prog glT 3000 AngleRound_law_f AngleRound_law_a = some (.lit (.bool true)) := by kernel_rfl
theorem AngleRound_law_r15 (b1 b2 b10 b11 b12 b13 : Bool) : @comes (AngleRound_law_k b1 b2 true true false false true false b10 b11 b12 b13) Try.prog glT 3000 AngleRound_law_f AngleRound_law_a = some (.lit (.bool true)) := by kernel_rfl
theorem AngleRound_law_r16 : @comes (AngleRound_law_k true false true true false false false true true true true true) Try.prog glT 3000 AngleRound_law_f AngleRound_law_a = some (.lit (.bool true)) := by kernel_rfl
theorem AngleRound_law_r17 (b12 b13 : Bool) : @comes (AngleRound_law_k true false true true false false false true true false b12 b13) Try.prog glT 3000 AngleRound_law_f AngleRound_law_a = some (.lit (.bool true)) := by kernel_rfl
theorem AngleRound_law_r18 (b11 b12 b13 : Bool) : @comes (AngleRound_law_k true false true true false false false true false b11 b12 b13) Try.prog glT 3000 AngleRound_law_f AngleRound_law_a = some (.lit (.bool true)) := by kernel_rfl
theorem AngleRound_law_r19 (b10 b11 b12 b13 : Bool) : @comes (AngleRound_law_k true false true true false false false false b10 b11 b12 b13) Try.prog glT 3000 AngleRound_law_f AngleRound_law_a = some (.lit (.bool true)) := by kernel_rfl
theorem AngleRound_law_r20 : @comes (AngleRound_law_k false true true true false false false true true true false true) Try.prog glT 3000 AngleRound_law_f AngleRound_law_a = some (.lit (.bool true)) := by kernel_rfl
theorem AngleRound_law_r21 (b12 b13 : Bool) : @comes (AngleRound_law_k false true true true false false false true true false b12 b13) Try.prog glT 3000 AngleRound_law_f AngleRound_law_a = some (.lit (.bool true)) := by kernel_rfl
theorem AngleRound_law_r22 (b11 b12 b13 : Bool) : @comes (AngleRound_law_k false true true true false false false true false b11 b12 b13) Try.prog glT 3000 AngleRound_law_f AngleRound_law_a = some (.lit (.bool true)) := by kernel_rfl
theorem AngleRound_law_r23 (b10 b11 b12 b13 : Bool) : @comes (AngleRound_law_k false true true true false false false false b10 b11 b12 b13) Try.prog glT 3000 AngleRound_law_f AngleRound_law_a = some (.lit (.bool true)) := by kernel_rfl
theorem AngleRound_law_r24 (b1 b2 b5 b6 b7 b8 b9 b10 b11 b12 b13 : Bool) : @comes (AngleRound_law_k b1 b2 false b5 b6 b7 b8 b9 b10 b11 b12 b13) Try.prog glT 3000 AngleRound_law_f AngleRound_law_a = some (.lit (.bool true)) := by kernel_rfl

set_option maxRecDepth 100000 in
set_option maxHeartbeats 4000000 in
theorem AngleRound_law (a x b y : Rt) (w : World) (hza : a.small) (hzx : x.small) (hzb : b.small) (hzy : y.small) : Calls Try.prog 12 #[.agg #[.bool a.g, .string a.s, .string a.t], .agg #[.bool x.g, .string x.s, .string x.t], .agg #[.bool b.g, .string b.s, .string b.t], .agg #[.bool y.g, .string y.s, .string y.t]] w fun e w' => e = .returned (.bool true) ∧ Below w.heap.size w w' := by
  have hG : Globs glT w := glT_all w
  obtain ⟨b1, i1⟩ := bex (btR a x b = true)
  obtain ⟨b2, i2⟩ := bex (btR b x a = true)
  obtain ⟨b3, i3⟩ := bex (btE a x b = 0)
  have h4 : btE a x b = btE b x a := (btE_swap a x b)
  have i4 : true = true ↔ (btE a x b = btE b x a) := ⟨fun _ => h4, fun _ => rfl⟩
  obtain ⟨b5, i5⟩ := bex (btE b x a = 0)
  obtain ⟨b6, i6⟩ := bex (a = x)
  obtain ⟨b7, i7⟩ := bex (x = b)
  obtain ⟨b8, i8⟩ := bex (a = b)
  obtain ⟨b9, i9⟩ := bex (adF a y = 0)
  obtain ⟨b10, i10⟩ := bex (adF x y = 0)
  obtain ⟨b11, i11⟩ := bex (adF b y = 0)
  obtain ⟨b12, i12⟩ := bex (btR (adR a y) (adR x y) (adR b y) = true)
  obtain ⟨b13, i13⟩ := bex (btE (adR a y) (adR x y) (adR b y) = 0)
  letI : Env := mkEnv glT [.bool a.g, .string a.s, .string a.t, .bool x.g, .string x.s, .string x.t, .bool b.g, .string b.s, .string b.t, .bool y.g, .string y.s, .string y.t, .int .i64 (btE a x b), .int .i64 (btE b x a), .bool (adR a y).g, .string (adR a y).s, .string (adR a y).t, .int .i64 (adF a y), .bool (adR x y).g, .string (adR x y).s, .string (adR x y).t, .int .i64 (adF x y), .bool (adR b y).g, .string (adR b y).s, .string (adR b y).t, .int .i64 (adF b y), .int .i64 (btE (adR a y) (adR x y) (adR b y))] rfl
  have hops : OpsT Try.prog (@Know.ops (AngleRound_law_k b1 b2 b3 b5 b6 b7 b8 b9 b10 b11 b12 b13)) := ⟨opt_neq_i rfl rfl i3,
    opt_eql_i rfl rfl i4,
    opt_neq_i rfl rfl i5,
    optR_neq_i (a := a) (b := x) rfl rfl i6,
    optR_neq_i (a := x) (b := b) rfl rfl i7,
    optR_neq_i (a := a) (b := b) rfl rfl i8,
    opt_neq_i rfl rfl i9,
    opt_neq_i rfl rfl i10,
    opt_neq_i rfl rfl i11,
    opt_eql_i rfl rfl i13,
    trivial⟩
  have hcalls : CallsT Try.prog (@Know.calls (AngleRound_law_k b1 b2 b3 b5 b6 b7 b8 b9 b10 b11 b12 b13)) := ⟨callt rfl rfl fun w hG => awake21_c w,
    callt rfl rfl fun w hG => ABetween_i a x b hza hzx hzb w i1,
    callt rfl rfl fun w hG => ABetween_i b x a hzb hzx hza w i2,
    callt rfl rfl fun w hG => AAdd_any a y hza hzy w,
    callt rfl rfl fun w hG => AAdd_any x y hzx hzy w,
    callt rfl rfl fun w hG => AAdd_any b y hzb hzy w,
    callt rfl rfl fun w hG => ABetween_i (adR a y) (adR x y) (adR b y) (adR_small a y) (adR_small x y) (adR_small b y) w i12,
    trivial⟩
  have fin : ∀ v, @comes (AngleRound_law_k b1 b2 b3 b5 b6 b7 b8 b9 b10 b11 b12 b13) Try.prog glT 3000 AngleRound_law_f AngleRound_law_a = some v → ground v = true → Ending.returned (gval v) = .returned (.bool true) → Calls Try.prog 12 #[.agg #[.bool a.g, .string a.s, .string a.t], .agg #[.bool x.g, .string x.s, .string x.t], .agg #[.bool b.g, .string b.s, .string b.t], .agg #[.bool y.g, .string y.s, .string y.t]] w fun e w' => e = .returned (.bool true) ∧ Below w.heap.size w w' := fun v h1 h2 h3 => (@sym_ok _ (AngleRound_law_k b1 b2 b3 b5 b6 b7 b8 b9 b10 b11 b12 b13) _ (@KnowOk.of _ (AngleRound_law_k b1 b2 b3 b5 b6 b7 b8 b9 b10 b11 b12 b13) _ hops hcalls) (by kernel_rfl) _ _ _ _ h1 rfl h2 _ hG).mono fun e w' h => ⟨h.1.trans h3, h.2⟩
  clear hops hcalls
  cases b3 with
  | true =>
    have h3 : btE a x b = 0 := i3.1 rfl
    cases b5 with
    | true =>
      have h5 : btE b x a = 0 := i5.1 rfl
      cases b6 with
      | true =>
        have h6 : a = x := i6.1 rfl
        cases b9 with
        | true =>
          have h9 : adF a y = 0 := i9.1 rfl
          cases b10 with
          | true =>
            have h10 : adF x y = 0 := i10.1 rfl
            cases b11 with
            | true =>
              have h11 : adF b y = 0 := i11.1 rfl
              cases b13 with
              | true =>
                have h13 : btE (adR a y) (adR x y) (adR b y) = 0 := i13.1 rfl
                cases b1 with
                | true =>
                  have h1 : btR a x b = true := i1.1 rfl
                  cases b12 with
                  | true =>
                    have h12 : btR (adR a y) (adR x y) (adR b y) = true := i12.1 rfl
                    exact fin _ (AngleRound_law_r1 b2 b7 b8) rfl rfl
                  | false =>
                    exact absurd (i12.2 (((bt_sums h3 h9 h10 h11).2.trans h1))) Bool.false_ne_true
                | false =>
                  have h1 : ¬ (btR a x b = true) := fun c => Bool.false_ne_true (i1.2 c)
                  cases b12 with
                  | true =>
                    exact absurd (i12.1 rfl) ((fun c => h1 ((bt_sums h3 h9 h10 h11).2.symm.trans c)))
                  | false =>
                    have h12 : ¬ (btR (adR a y) (adR x y) (adR b y) = true) := fun c => Bool.false_ne_true (i12.2 c)
                    exact fin _ (AngleRound_law_r2 b2 b7 b8) rfl rfl
              | false =>
                exact absurd (i13.2 ((bt_sums h3 h9 h10 h11).1)) Bool.false_ne_true
            | false =>
              have h11 : ¬ (adF b y = 0) := fun c => Bool.false_ne_true (i11.2 c)
              exact fin _ (AngleRound_law_r3 b1 b2 b7 b8 b12 b13) rfl rfl
          | false =>
            have h10 : ¬ (adF x y = 0) := fun c => Bool.false_ne_true (i10.2 c)
            exact fin _ (AngleRound_law_r4 b1 b2 b7 b8 b11 b12 b13) rfl rfl
        | false =>
          have h9 : ¬ (adF a y = 0) := fun c => Bool.false_ne_true (i9.2 c)
          exact fin _ (AngleRound_law_r5 b1 b2 b7 b8 b10 b11 b12 b13) rfl rfl
      | false =>
        have h6 : ¬ (a = x) := fun c => Bool.false_ne_true (i6.2 c)
        cases b7 with
        | true =>
          have h7 : x = b := i7.1 rfl
          cases b9 with
          | true =>
            have h9 : adF a y = 0 := i9.1 rfl
            cases b10 with
            | true =>
              have h10 : adF x y = 0 := i10.1 rfl
              cases b11 with
              | true =>
                have h11 : adF b y = 0 := i11.1 rfl
                cases b13 with
                | true =>
                  have h13 : btE (adR a y) (adR x y) (adR b y) = 0 := i13.1 rfl
                  cases b1 with
                  | true =>
                    have h1 : btR a x b = true := i1.1 rfl
                    cases b12 with
                    | true =>
                      have h12 : btR (adR a y) (adR x y) (adR b y) = true := i12.1 rfl
                      exact fin _ (AngleRound_law_r6 b2 b8) rfl rfl
                    | false =>
                      exact absurd (i12.2 (((bt_sums h3 h9 h10 h11).2.trans h1))) Bool.false_ne_true
                  | false =>
                    have h1 : ¬ (btR a x b = true) := fun c => Bool.false_ne_true (i1.2 c)
                    cases b12 with
                    | true =>
                      exact absurd (i12.1 rfl) ((fun c => h1 ((bt_sums h3 h9 h10 h11).2.symm.trans c)))
                    | false =>
                      have h12 : ¬ (btR (adR a y) (adR x y) (adR b y) = true) := fun c => Bool.false_ne_true (i12.2 c)
                      exact fin _ (AngleRound_law_r7 b2 b8) rfl rfl
                | false =>
                  exact absurd (i13.2 ((bt_sums h3 h9 h10 h11).1)) Bool.false_ne_true
              | false =>
                have h11 : ¬ (adF b y = 0) := fun c => Bool.false_ne_true (i11.2 c)
                exact fin _ (AngleRound_law_r8 b1 b2 b8 b12 b13) rfl rfl
            | false =>
              have h10 : ¬ (adF x y = 0) := fun c => Bool.false_ne_true (i10.2 c)
              exact fin _ (AngleRound_law_r9 b1 b2 b8 b11 b12 b13) rfl rfl
          | false =>
            have h9 : ¬ (adF a y = 0) := fun c => Bool.false_ne_true (i9.2 c)
            exact fin _ (AngleRound_law_r10 b1 b2 b8 b10 b11 b12 b13) rfl rfl
        | false =>
          have h7 : ¬ (x = b) := fun c => Bool.false_ne_true (i7.2 c)
          cases b8 with
          | true =>
            have h8 : a = b := i8.1 rfl
            cases b9 with
            | true =>
              have h9 : adF a y = 0 := i9.1 rfl
              cases b10 with
              | true =>
                have h10 : adF x y = 0 := i10.1 rfl
                cases b11 with
                | true =>
                  have h11 : adF b y = 0 := i11.1 rfl
                  cases b13 with
                  | true =>
                    have h13 : btE (adR a y) (adR x y) (adR b y) = 0 := i13.1 rfl
                    cases b1 with
                    | true =>
                      have h1 : btR a x b = true := i1.1 rfl
                      cases b12 with
                      | true =>
                        have h12 : btR (adR a y) (adR x y) (adR b y) = true := i12.1 rfl
                        exact fin _ (AngleRound_law_r11 b2) rfl rfl
                      | false =>
                        exact absurd (i12.2 (((bt_sums h3 h9 h10 h11).2.trans h1))) Bool.false_ne_true
                    | false =>
                      have h1 : ¬ (btR a x b = true) := fun c => Bool.false_ne_true (i1.2 c)
                      cases b12 with
                      | true =>
                        exact absurd (i12.1 rfl) ((fun c => h1 ((bt_sums h3 h9 h10 h11).2.symm.trans c)))
                      | false =>
                        have h12 : ¬ (btR (adR a y) (adR x y) (adR b y) = true) := fun c => Bool.false_ne_true (i12.2 c)
                        exact fin _ (AngleRound_law_r12 b2) rfl rfl
                  | false =>
                    exact absurd (i13.2 ((bt_sums h3 h9 h10 h11).1)) Bool.false_ne_true
                | false =>
                  have h11 : ¬ (adF b y = 0) := fun c => Bool.false_ne_true (i11.2 c)
                  exact fin _ (AngleRound_law_r13 b1 b2 b12 b13) rfl rfl
              | false =>
                have h10 : ¬ (adF x y = 0) := fun c => Bool.false_ne_true (i10.2 c)
                exact fin _ (AngleRound_law_r14 b1 b2 b11 b12 b13) rfl rfl
            | false =>
              have h9 : ¬ (adF a y = 0) := fun c => Bool.false_ne_true (i9.2 c)
              exact fin _ (AngleRound_law_r15 b1 b2 b10 b11 b12 b13) rfl rfl
          | false =>
            have h8 : ¬ (a = b) := fun c => Bool.false_ne_true (i8.2 c)
            cases b1 with
            | true =>
              have h1 : btR a x b = true := i1.1 rfl
              cases b2 with
              | true =>
                exact absurd (i2.1 rfl) ((not_both (bt_other h3 h6 h7 h8) h1))
              | false =>
                have h2 : ¬ (btR b x a = true) := fun c => Bool.false_ne_true (i2.2 c)
                cases b9 with
                | true =>
                  have h9 : adF a y = 0 := i9.1 rfl
                  cases b10 with
                  | true =>
                    have h10 : adF x y = 0 := i10.1 rfl
                    cases b11 with
                    | true =>
                      have h11 : adF b y = 0 := i11.1 rfl
                      cases b13 with
                      | true =>
                        have h13 : btE (adR a y) (adR x y) (adR b y) = 0 := i13.1 rfl
                        cases b12 with
                        | true =>
                          have h12 : btR (adR a y) (adR x y) (adR b y) = true := i12.1 rfl
                          exact fin _ (AngleRound_law_r16) rfl rfl
                        | false =>
                          exact absurd (i12.2 (((bt_sums h3 h9 h10 h11).2.trans h1))) Bool.false_ne_true
                      | false =>
                        exact absurd (i13.2 ((bt_sums h3 h9 h10 h11).1)) Bool.false_ne_true
                    | false =>
                      have h11 : ¬ (adF b y = 0) := fun c => Bool.false_ne_true (i11.2 c)
                      exact fin _ (AngleRound_law_r17 b12 b13) rfl rfl
                  | false =>
                    have h10 : ¬ (adF x y = 0) := fun c => Bool.false_ne_true (i10.2 c)
                    exact fin _ (AngleRound_law_r18 b11 b12 b13) rfl rfl
                | false =>
                  have h9 : ¬ (adF a y = 0) := fun c => Bool.false_ne_true (i9.2 c)
                  exact fin _ (AngleRound_law_r19 b10 b11 b12 b13) rfl rfl
            | false =>
              have h1 : ¬ (btR a x b = true) := fun c => Bool.false_ne_true (i1.2 c)
              cases b2 with
              | true =>
                have h2 : btR b x a = true := i2.1 rfl
                cases b9 with
                | true =>
                  have h9 : adF a y = 0 := i9.1 rfl
                  cases b10 with
                  | true =>
                    have h10 : adF x y = 0 := i10.1 rfl
                    cases b11 with
                    | true =>
                      have h11 : adF b y = 0 := i11.1 rfl
                      cases b13 with
                      | true =>
                        have h13 : btE (adR a y) (adR x y) (adR b y) = 0 := i13.1 rfl
                        cases b12 with
                        | true =>
                          exact absurd (i12.1 rfl) ((fun c => h1 ((bt_sums h3 h9 h10 h11).2.symm.trans c)))
                        | false =>
                          have h12 : ¬ (btR (adR a y) (adR x y) (adR b y) = true) := fun c => Bool.false_ne_true (i12.2 c)
                          exact fin _ (AngleRound_law_r20) rfl rfl
                      | false =>
                        exact absurd (i13.2 ((bt_sums h3 h9 h10 h11).1)) Bool.false_ne_true
                    | false =>
                      have h11 : ¬ (adF b y = 0) := fun c => Bool.false_ne_true (i11.2 c)
                      exact fin _ (AngleRound_law_r21 b12 b13) rfl rfl
                  | false =>
                    have h10 : ¬ (adF x y = 0) := fun c => Bool.false_ne_true (i10.2 c)
                    exact fin _ (AngleRound_law_r22 b11 b12 b13) rfl rfl
                | false =>
                  have h9 : ¬ (adF a y = 0) := fun c => Bool.false_ne_true (i9.2 c)
                  exact fin _ (AngleRound_law_r23 b10 b11 b12 b13) rfl rfl
              | false =>
                exact absurd (i2.2 ((not_none (bt_other h3 h6 h7 h8) h1))) Bool.false_ne_true
    | false =>
      exact absurd (i5.2 (((btE_swap a x b).symm.trans h3))) Bool.false_ne_true
  | false =>
    have h3 : ¬ (btE a x b = 0) := fun c => Bool.false_ne_true (i3.2 c)
    exact fin _ (AngleRound_law_r24 b1 b2 b5 b6 b7 b8 b9 b10 b11 b12 b13) rfl rfl

end Go.Proofs.Ytfoldiieclfbgaa
set_option linter.unusedVariables false
namespace Go.Proofs.Ytfoldiieclfbgaa
open Go Go.ChangeShapes Go.WideShapes Go.ChangeAt Go.RowKit Go.Joins
variable {H : Type} {enc : TypeId × Value → H}
/-- A Ratio's datum. -/
def ratD (H : Type) (r : Rt) : DataW H := .agg [.lit (.bool r.g), .lit (.string r.s.data.toList), .lit (.string r.t.data.toList)]
def Rt.max (r : Rt) : Prop := r.s.size ≤ maxLen ∧ r.t.size ≤ maxLen
theorem Rt.max.small {r : Rt} (h : r.max) : r.small := by
  have h1 := h.1; have h2 := h.2
  unfold maxLen at h1 h2
  exact ⟨by omega, by omega⟩
set_option maxRecDepth 100000 in
theorem open_rat {w : World} {base : Nat} {spare : Nat → Bool} {held : Bool} {r : Go.Reach} {b0 : Nat} {v : Value} {d : DataW H} {p : List MemPlace}
    (hv : Value.okWide Try.prog w r b0 24 v) (h : DataW.Trod enc Try.prog w base spare held 24 v d p) :
    ∃ a : Rt, v = .agg #[.bool a.g, .string a.s, .string a.t] ∧ d = ratD H a ∧ p = [] ∧ a.max := by
  obtain ⟨c0, c1, c2, y0, y1, y2, m, rfl, rfl, rfl, hy0, hy1, hy2⟩ := open_agg3 Try.underlying24 (by kernel_rfl) (by kernel_rfl) hv h
  obtain ⟨g, e0, rfl⟩ := DataW.trod_bool Try.underlying4 hy0
  obtain ⟨s, e1, rfl, hs⟩ := DataW.trod_string Try.underlying22 hy1
  obtain ⟨t, e2, rfl, ht⟩ := DataW.trod_string Try.underlying22 hy2
  simp at e0 e1 e2
  subst e0 e1 e2
  exact ⟨⟨g, s, t⟩, rfl, rfl, rfl, hs, ht⟩
set_option maxRecDepth 100000 in
theorem shut_rat {W' : World} {b : Nat} {sp : Nat → Bool} {hd : Bool} {a : Rt} (hm : a.max) :
    DataW.Trod enc Try.prog W' b sp hd 24 (.agg #[.bool a.g, .string a.s, .string a.t]) (ratD H a) [] := by
  simpa [ratD] using shut_agg3 (enc := enc) (w := W') (base := b) (spare := sp) (held := hd) (y0 := (.lit (.bool a.g), [])) (y1 := (.lit (.string a.s.data.toList), [])) (y2 := (.lit (.string a.t.data.toList), [])) Try.underlying24 (by kernel_rfl) (by kernel_rfl) ⟨1, by simp [DataW.trod, Try.underlying4]⟩ ⟨1, by simp [DataW.trod, Try.underlying22, hm.1]⟩ ⟨1, by simp [DataW.trod, Try.underlying22, hm.2]⟩
end Go.Proofs.Ytfoldiieclfbgaa
set_option linter.unusedVariables false
set_option linter.unusedSimpArgs false
namespace Go.Proofs.Ytfoldiieclfbgaa
open Go Go.RowKit Nt

theorem opt_conv64 [Env] {a r : AV} {x : Int} {z : Nat} (hr : ground r = true) (ha : gval a = .int .i64 x) (hv : gval r = .int .u64 (z : Nat)) (hz : x = (z : Int)) (h1 : z < 18446744073709551616) : OpT Try.prog [2, 2, 28] [a] r := by
  refine ⟨hr, fun o xs hk ρ hρ hx w => ?_⟩
  unfold keyOf at hk
  obtain ⟨dst, o, type, pos, after, guard⟩ := o
  simp only at hk
  split at hk
  · simp only [Option.some.injEq, Prod.mk.injEq, List.cons.injEq] at hk; have := hk.1.1; omega
  · simp only [Option.some.injEq, Prod.mk.injEq, List.cons.injEq] at hk; have := hk.1.1; omega
  · rename_i s' t' y
    simp only [Option.some.injEq, Prod.mk.injEq, List.cons.injEq, and_true, true_and] at hk
    obtain ⟨⟨h1', h2'⟩, h3⟩ := hk
    subst h1' h2' h3
    simp only [List.map_cons, List.map_nil, List.cons.injEq, and_true] at hx
    have hw : IntKind.u64.wrap (z : Int) = (z : Int) := by rw [IntKind.wrap_u64]; omega
    rw [ha, hz] at hx
    rw [hv]
    simp only [execOp, hx]
    go_simp
    try rw [hw]
  all_goals first
    | (simp only [Option.some.injEq, Prod.mk.injEq, List.cons.injEq] at hk; have := hk.1.1; omega)
    | (split at hk <;> first | cases hk | (simp only [Option.some.injEq, Prod.mk.injEq, List.cons.injEq] at hk; have := hk.1.1; omega))
    | cases hk
theorem opt_rem64 [Env] {P : Program} {t : TypeId} {a b r : AV} {x y z : Int} (ha : gval a = .int .i64 x) (hb : gval b = .int .i64 y) (hr : ground r = true) (hv : gval r = .int .i64 z) (h : x.tmod y = z) (hy : 0 < y) (h1 : -9223372036854775808 ≤ z ∧ z ≤ 9223372036854775807) : OpT P [0, 4, t] [a, b] r :=
  opt_int (op := .rem) ha hb hr hv fun w => by
    have hw : IntKind.i64.wrap z = z := IntWalk.i64_in _ h1
    have h0 : ¬ (y = 0) := by omega
    have hm : ¬ (y = -1) := by omega
    simp [binOp, Op.intArith, Op.intDiv, h, hw, h0, hm]
theorem opt_addi [Env] {P : Program} {t : TypeId} {a b r : AV} {x y z : Int} (ha : gval a = .int .i64 x) (hb : gval b = .int .i64 y) (hr : ground r = true) (hv : gval r = .int .i64 z) (h : x + y = z) (h1 : -9223372036854775808 ≤ z ∧ z ≤ 9223372036854775807) : OpT P [0, 0, t] [a, b] r :=
  opt_int (op := .add) ha hb hr hv fun w => by
    have : IntKind.i64.wrap (x + y) = z := by rw [h]; exact IntWalk.i64_in _ h1
    simp [binOp, Op.intArith, this]
/-- num over den, less its whole part. -/
def mkN (x y : Int) : Nat := (x % y).toNat
def mkA (x y : Int) : An := ⟨lowNum (mkN x y) y.toNat, lowDen (mkN x y) y.toNat⟩
theorem tmod_b {x y : Int} (hy : 1 ≤ y) : -y < x.tmod y ∧ x.tmod y < y := by
  refine ⟨?_, Int.tmod_lt_of_pos x (by omega)⟩
  rcases Int.le_total 0 x with h | h
  · have := Int.tmod_nonneg y h; omega
  · have h2 := Int.tmod_lt_of_pos (-x) (show 0 < y by omega)
    rw [Int.neg_tmod] at h2
    omega
theorem mkN_p {x y : Int} (hy : 1 ≤ y) (h : ¬ x.tmod y < 0) : (x.tmod y).toNat = mkN x y := by
  unfold mkN
  have h1 := tmod_b (x := x) hy
  have h2 : x % y = x.tmod y := by
    have h3 : x.tmod y % y = x % y := by rw [Int.tmod_def, Int.sub_mul_emod_self_left]
    rw [← h3, Int.emod_eq_of_lt (by omega) h1.2]
  rw [h2]
theorem mkN_q {x y : Int} (hy : 1 ≤ y) (h : x.tmod y < 0) : (x.tmod y + y).toNat = mkN x y := by
  unfold mkN
  have h1 := tmod_b (x := x) hy
  have h2 : x % y = x.tmod y + y := by
    have h3 : (x.tmod y + y) % y = x % y := by rw [Int.add_emod_right, Int.tmod_def, Int.sub_mul_emod_self_left]
    rw [← h3, Int.emod_eq_of_lt (by omega) (by omega)]
  rw [h2]
theorem mkA_ok {x y : Int} (h1 : 1 ≤ y) (h2 : y ≤ 2147483647) : (mkA x y).Ok := by
  have hp : 0 < y.toNat := by omega
  exact ⟨lowNum_lt hp, Nat.le_trans (lowDen_le _ _) (by omega), low_coprime hp⟩
theorem mkN_lt {x y : Int} (h1 : 1 ≤ y) (h2 : y ≤ 2147483647) : mkN x y < 18446744073709551616 := by
  have := Int.emod_lt_of_pos x (show 0 < y by omega)
  unfold mkN; omega
theorem Amade_mk (x y : Int) (w : World) (h1 : 1 ≤ y) (h2 : y ≤ 2147483647) : Calls Try.prog 47 #[.int .u64 ((mkN x y : Nat) : Int), .int .u64 ((y.toNat : Nat) : Int)] w fun e w' => e = .returned (.tuple #[.agg #[.bool false, .string (natS (mkA x y).n), .string (natS (mkA x y).d)], .int .i64 0]) ∧ Below w.heap.size w w' := by
  have h := Amade_any (mkN x y) y.toNat w (mkN_lt h1 h2) (by omega) (by omega)
  have hl : lowDen (mkN x y) y.toNat ≤ 2147483647 := Nat.le_trans (lowDen_le _ _) (by omega)
  rw [(md_ok hl).1, (md_ok hl).2.1, (md_ok hl).2.2] at h
  exact h

@[reducible] def AMake_p_f : FuncId := 14
@[reducible] def AMake_p_a : List AV := [.sym 0, .sym 1]
@[reducible] noncomputable def AMake_p_k (b1 b2 : Bool) : Know := ⟨[([0, 13, 2], [.sym 1, .lit (.int .i64 1)], .lit (.bool b1)),
  ([0, 15, 2], [.sym 1, .lit (.int .i64 2147483647)], .lit (.bool b2)),
  ([0, 4, 2], [.sym 0, .sym 1], .sym 2),
  ([0, 13, 2], [.sym 2, .lit (.int .i64 0)], .lit (.bool false)),
  ([2, 2, 28], [.sym 2], .sym 3),
  ([2, 2, 28], [.sym 1], .sym 4)],
  [(47, [.sym 3, .sym 4], .tup [.agg [.lit (.bool false), .sym 5, .sym 6], .lit (.int .i64 0)])]⟩
theorem AMake_p_r1 : @comes (AMake_p_k false false) Try.prog glT 3000 AMake_p_f AMake_p_a = some (.tup [.agg [.lit (.bool false), .sym 5, .sym 6], .lit (.int .i64 0)]) := by kernel_rfl

set_option maxRecDepth 100000 in
set_option maxHeartbeats 4000000 in
theorem AMake_p (x y : Int) (w : World) (h1 : 1 ≤ y) (h2 : y ≤ 2147483647) (hs : ¬ x.tmod y < 0) : Calls Try.prog 14 #[.int .i64 x, .int .i64 y] w fun e w' => e = .returned (.tuple #[.agg #[.bool false, .string (natS (mkA x y).n), .string (natS (mkA x y).d)], .int .i64 0]) ∧ Below w.heap.size w w' := by
  have hG : Globs glT w := glT_all w
  obtain ⟨b1, i1⟩ := bex (y < 1)
  obtain ⟨b2, i2⟩ := bex (y > 2147483647)
  have h3 : ¬ (x.tmod y < 0) := hs
  have i3 : false = true ↔ (x.tmod y < 0) := ⟨fun k => absurd k Bool.false_ne_true, fun k => absurd k h3⟩
  letI : Env := mkEnv glT [.int .i64 x, .int .i64 y, .int .i64 (x.tmod y), .int .u64 ((mkN x y : Nat) : Int), .int .u64 ((y.toNat : Nat) : Int), .string (natS (mkA x y).n), .string (natS (mkA x y).d)] rfl
  have hops : OpsT Try.prog (@Know.ops (AMake_p_k b1 b2)) := ⟨opt_lss_i rfl rfl i1,
    opt_gtr_i rfl rfl i2,
    opt_rem64 (x := x) (y := y) (z := x.tmod y) rfl rfl rfl rfl rfl (by omega) (by have := tmod_b (x := x) h1; omega),
    opt_lss_i rfl rfl i3,
    opt_conv64 (x := x.tmod y) (z := mkN x y) rfl rfl rfl (by rw [← mkN_p h1 hs]; omega) (mkN_lt h1 h2),
    opt_conv64 (x := y) (z := y.toNat) rfl rfl rfl (by omega) (by omega),
    trivial⟩
  have hcalls : CallsT Try.prog (@Know.calls (AMake_p_k b1 b2)) := ⟨callt rfl rfl fun w hG => Amade_mk x y w h1 h2,
    trivial⟩
  have fin : ∀ v, @comes (AMake_p_k b1 b2) Try.prog glT 3000 AMake_p_f AMake_p_a = some v → ground v = true → Ending.returned (gval v) = .returned (.tuple #[.agg #[.bool false, .string (natS (mkA x y).n), .string (natS (mkA x y).d)], .int .i64 0]) → Calls Try.prog 14 #[.int .i64 x, .int .i64 y] w fun e w' => e = .returned (.tuple #[.agg #[.bool false, .string (natS (mkA x y).n), .string (natS (mkA x y).d)], .int .i64 0]) ∧ Below w.heap.size w w' := fun v h1 h2 h3 => (@sym_ok _ (AMake_p_k b1 b2) _ (@KnowOk.of _ (AMake_p_k b1 b2) _ hops hcalls) (by kernel_rfl) _ _ _ _ h1 rfl h2 _ hG).mono fun e w' h => ⟨h.1.trans h3, h.2⟩
  clear hops hcalls
  cases b1 with
  | true =>
    exact absurd (i1.1 rfl) ((by omega))
  | false =>
    have h1 : ¬ (y < 1) := fun c => Bool.false_ne_true (i1.2 c)
    cases b2 with
    | true =>
      exact absurd (i2.1 rfl) ((by omega))
    | false =>
      have h2 : ¬ (y > 2147483647) := fun c => Bool.false_ne_true (i2.2 c)
      exact fin _ (AMake_p_r1) rfl rfl

@[reducible] def rMake_p_f : FuncId := 15
@[reducible] def rMake_p_a : List AV := [.sym 0, .sym 1]
@[reducible] noncomputable def rMake_p_k (b1 b2 : Bool) : Know := ⟨[([0, 13, 2], [.sym 1, .lit (.int .i64 1)], .lit (.bool b1)),
  ([0, 15, 2], [.sym 1, .lit (.int .i64 2147483647)], .lit (.bool b2)),
  ([0, 4, 2], [.sym 0, .sym 1], .sym 2),
  ([0, 13, 2], [.sym 2, .lit (.int .i64 0)], .lit (.bool false)),
  ([2, 2, 28], [.sym 2], .sym 3),
  ([2, 2, 28], [.sym 1], .sym 4)],
  [(48, [.sym 3, .sym 4], .agg [.sym 5, .sym 6])]⟩
theorem rMake_p_r1 : @comes (rMake_p_k false false) Try.prog glT 3000 rMake_p_f rMake_p_a = some (.tup [.agg [.sym 5, .sym 6], .lit (.int .i64 0)]) := by kernel_rfl

set_option maxRecDepth 100000 in
set_option maxHeartbeats 4000000 in
theorem rMake_p (x y : Int) (w : World) (h1 : 1 ≤ y) (h2 : y ≤ 2147483647) (hs : ¬ x.tmod y < 0) : Calls Try.prog 15 #[.int .i64 x, .int .i64 y] w fun e w' => e = .returned (.tuple #[.agg #[.int .u64 (((mkA x y).n : Nat) : Int), .int .u64 (((mkA x y).d : Nat) : Int)], .int .i64 0]) ∧ Below w.heap.size w w' := by
  have hG : Globs glT w := glT_all w
  obtain ⟨b1, i1⟩ := bex (y < 1)
  obtain ⟨b2, i2⟩ := bex (y > 2147483647)
  have h3 : ¬ (x.tmod y < 0) := hs
  have i3 : false = true ↔ (x.tmod y < 0) := ⟨fun k => absurd k Bool.false_ne_true, fun k => absurd k h3⟩
  letI : Env := mkEnv glT [.int .i64 x, .int .i64 y, .int .i64 (x.tmod y), .int .u64 ((mkN x y : Nat) : Int), .int .u64 ((y.toNat : Nat) : Int), .int .u64 (((mkA x y).n : Nat) : Int), .int .u64 (((mkA x y).d : Nat) : Int)] rfl
  have hops : OpsT Try.prog (@Know.ops (rMake_p_k b1 b2)) := ⟨opt_lss_i rfl rfl i1,
    opt_gtr_i rfl rfl i2,
    opt_rem64 (x := x) (y := y) (z := x.tmod y) rfl rfl rfl rfl rfl (by omega) (by have := tmod_b (x := x) h1; omega),
    opt_lss_i rfl rfl i3,
    opt_conv64 (x := x.tmod y) (z := mkN x y) rfl rfl rfl (by rw [← mkN_p h1 hs]; omega) (mkN_lt h1 h2),
    opt_conv64 (x := y) (z := y.toNat) rfl rfl rfl (by omega) (by omega),
    trivial⟩
  have hcalls : CallsT Try.prog (@Know.calls (rMake_p_k b1 b2)) := ⟨callt rfl rfl fun w hG => rlow_any (mkN x y) y.toNat w (mkN_lt h1 h2) (by omega) (by omega),
    trivial⟩
  have fin : ∀ v, @comes (rMake_p_k b1 b2) Try.prog glT 3000 rMake_p_f rMake_p_a = some v → ground v = true → Ending.returned (gval v) = .returned (.tuple #[.agg #[.int .u64 (((mkA x y).n : Nat) : Int), .int .u64 (((mkA x y).d : Nat) : Int)], .int .i64 0]) → Calls Try.prog 15 #[.int .i64 x, .int .i64 y] w fun e w' => e = .returned (.tuple #[.agg #[.int .u64 (((mkA x y).n : Nat) : Int), .int .u64 (((mkA x y).d : Nat) : Int)], .int .i64 0]) ∧ Below w.heap.size w w' := fun v h1 h2 h3 => (@sym_ok _ (rMake_p_k b1 b2) _ (@KnowOk.of _ (rMake_p_k b1 b2) _ hops hcalls) (by kernel_rfl) _ _ _ _ h1 rfl h2 _ hG).mono fun e w' h => ⟨h.1.trans h3, h.2⟩
  clear hops hcalls
  cases b1 with
  | true =>
    exact absurd (i1.1 rfl) ((by omega))
  | false =>
    have h1 : ¬ (y < 1) := fun c => Bool.false_ne_true (i1.2 c)
    cases b2 with
    | true =>
      exact absurd (i2.1 rfl) ((by omega))
    | false =>
      have h2 : ¬ (y > 2147483647) := fun c => Bool.false_ne_true (i2.2 c)
      exact fin _ (rMake_p_r1) rfl rfl

@[reducible] def AMake_q_f : FuncId := 14
@[reducible] def AMake_q_a : List AV := [.sym 0, .sym 1]
@[reducible] noncomputable def AMake_q_k (b1 b2 : Bool) : Know := ⟨[([0, 13, 2], [.sym 1, .lit (.int .i64 1)], .lit (.bool b1)),
  ([0, 15, 2], [.sym 1, .lit (.int .i64 2147483647)], .lit (.bool b2)),
  ([0, 4, 2], [.sym 0, .sym 1], .sym 2),
  ([0, 13, 2], [.sym 2, .lit (.int .i64 0)], .lit (.bool true)),
  ([0, 0, 2], [.sym 2, .sym 1], .sym 3),
  ([2, 2, 28], [.sym 3], .sym 4),
  ([2, 2, 28], [.sym 1], .sym 5)],
  [(47, [.sym 4, .sym 5], .tup [.agg [.lit (.bool false), .sym 6, .sym 7], .lit (.int .i64 0)])]⟩
theorem AMake_q_r1 : @comes (AMake_q_k false false) Try.prog glT 3000 AMake_q_f AMake_q_a = some (.tup [.agg [.lit (.bool false), .sym 6, .sym 7], .lit (.int .i64 0)]) := by kernel_rfl

set_option maxRecDepth 100000 in
set_option maxHeartbeats 4000000 in
theorem AMake_q (x y : Int) (w : World) (h1 : 1 ≤ y) (h2 : y ≤ 2147483647) (hs : x.tmod y < 0) : Calls Try.prog 14 #[.int .i64 x, .int .i64 y] w fun e w' => e = .returned (.tuple #[.agg #[.bool false, .string (natS (mkA x y).n), .string (natS (mkA x y).d)], .int .i64 0]) ∧ Below w.heap.size w w' := by
  have hG : Globs glT w := glT_all w
  obtain ⟨b1, i1⟩ := bex (y < 1)
  obtain ⟨b2, i2⟩ := bex (y > 2147483647)
  have h3 : x.tmod y < 0 := hs
  have i3 : true = true ↔ (x.tmod y < 0) := ⟨fun _ => h3, fun _ => rfl⟩
  letI : Env := mkEnv glT [.int .i64 x, .int .i64 y, .int .i64 (x.tmod y), .int .i64 (x.tmod y + y), .int .u64 ((mkN x y : Nat) : Int), .int .u64 ((y.toNat : Nat) : Int), .string (natS (mkA x y).n), .string (natS (mkA x y).d)] rfl
  have hops : OpsT Try.prog (@Know.ops (AMake_q_k b1 b2)) := ⟨opt_lss_i rfl rfl i1,
    opt_gtr_i rfl rfl i2,
    opt_rem64 (x := x) (y := y) (z := x.tmod y) rfl rfl rfl rfl rfl (by omega) (by have := tmod_b (x := x) h1; omega),
    opt_lss_i rfl rfl i3,
    opt_addi (x := x.tmod y) (y := y) (z := x.tmod y + y) rfl rfl rfl rfl rfl (by have := tmod_b (x := x) h1; omega),
    opt_conv64 (x := x.tmod y + y) (z := mkN x y) rfl rfl rfl (by rw [← mkN_q h1 hs]; have := tmod_b (x := x) h1; omega) (mkN_lt h1 h2),
    opt_conv64 (x := y) (z := y.toNat) rfl rfl rfl (by omega) (by omega),
    trivial⟩
  have hcalls : CallsT Try.prog (@Know.calls (AMake_q_k b1 b2)) := ⟨callt rfl rfl fun w hG => Amade_mk x y w h1 h2,
    trivial⟩
  have fin : ∀ v, @comes (AMake_q_k b1 b2) Try.prog glT 3000 AMake_q_f AMake_q_a = some v → ground v = true → Ending.returned (gval v) = .returned (.tuple #[.agg #[.bool false, .string (natS (mkA x y).n), .string (natS (mkA x y).d)], .int .i64 0]) → Calls Try.prog 14 #[.int .i64 x, .int .i64 y] w fun e w' => e = .returned (.tuple #[.agg #[.bool false, .string (natS (mkA x y).n), .string (natS (mkA x y).d)], .int .i64 0]) ∧ Below w.heap.size w w' := fun v h1 h2 h3 => (@sym_ok _ (AMake_q_k b1 b2) _ (@KnowOk.of _ (AMake_q_k b1 b2) _ hops hcalls) (by kernel_rfl) _ _ _ _ h1 rfl h2 _ hG).mono fun e w' h => ⟨h.1.trans h3, h.2⟩
  clear hops hcalls
  cases b1 with
  | true =>
    exact absurd (i1.1 rfl) ((by omega))
  | false =>
    have h1 : ¬ (y < 1) := fun c => Bool.false_ne_true (i1.2 c)
    cases b2 with
    | true =>
      exact absurd (i2.1 rfl) ((by omega))
    | false =>
      have h2 : ¬ (y > 2147483647) := fun c => Bool.false_ne_true (i2.2 c)
      exact fin _ (AMake_q_r1) rfl rfl

@[reducible] def rMake_q_f : FuncId := 15
@[reducible] def rMake_q_a : List AV := [.sym 0, .sym 1]
@[reducible] noncomputable def rMake_q_k (b1 b2 : Bool) : Know := ⟨[([0, 13, 2], [.sym 1, .lit (.int .i64 1)], .lit (.bool b1)),
  ([0, 15, 2], [.sym 1, .lit (.int .i64 2147483647)], .lit (.bool b2)),
  ([0, 4, 2], [.sym 0, .sym 1], .sym 2),
  ([0, 13, 2], [.sym 2, .lit (.int .i64 0)], .lit (.bool true)),
  ([0, 0, 2], [.sym 2, .sym 1], .sym 3),
  ([2, 2, 28], [.sym 3], .sym 4),
  ([2, 2, 28], [.sym 1], .sym 5)],
  [(48, [.sym 4, .sym 5], .agg [.sym 6, .sym 7])]⟩
theorem rMake_q_r1 : @comes (rMake_q_k false false) Try.prog glT 3000 rMake_q_f rMake_q_a = some (.tup [.agg [.sym 6, .sym 7], .lit (.int .i64 0)]) := by kernel_rfl

set_option maxRecDepth 100000 in
set_option maxHeartbeats 4000000 in
theorem rMake_q (x y : Int) (w : World) (h1 : 1 ≤ y) (h2 : y ≤ 2147483647) (hs : x.tmod y < 0) : Calls Try.prog 15 #[.int .i64 x, .int .i64 y] w fun e w' => e = .returned (.tuple #[.agg #[.int .u64 (((mkA x y).n : Nat) : Int), .int .u64 (((mkA x y).d : Nat) : Int)], .int .i64 0]) ∧ Below w.heap.size w w' := by
  have hG : Globs glT w := glT_all w
  obtain ⟨b1, i1⟩ := bex (y < 1)
  obtain ⟨b2, i2⟩ := bex (y > 2147483647)
  have h3 : x.tmod y < 0 := hs
  have i3 : true = true ↔ (x.tmod y < 0) := ⟨fun _ => h3, fun _ => rfl⟩
  letI : Env := mkEnv glT [.int .i64 x, .int .i64 y, .int .i64 (x.tmod y), .int .i64 (x.tmod y + y), .int .u64 ((mkN x y : Nat) : Int), .int .u64 ((y.toNat : Nat) : Int), .int .u64 (((mkA x y).n : Nat) : Int), .int .u64 (((mkA x y).d : Nat) : Int)] rfl
  have hops : OpsT Try.prog (@Know.ops (rMake_q_k b1 b2)) := ⟨opt_lss_i rfl rfl i1,
    opt_gtr_i rfl rfl i2,
    opt_rem64 (x := x) (y := y) (z := x.tmod y) rfl rfl rfl rfl rfl (by omega) (by have := tmod_b (x := x) h1; omega),
    opt_lss_i rfl rfl i3,
    opt_addi (x := x.tmod y) (y := y) (z := x.tmod y + y) rfl rfl rfl rfl rfl (by have := tmod_b (x := x) h1; omega),
    opt_conv64 (x := x.tmod y + y) (z := mkN x y) rfl rfl rfl (by rw [← mkN_q h1 hs]; have := tmod_b (x := x) h1; omega) (mkN_lt h1 h2),
    opt_conv64 (x := y) (z := y.toNat) rfl rfl rfl (by omega) (by omega),
    trivial⟩
  have hcalls : CallsT Try.prog (@Know.calls (rMake_q_k b1 b2)) := ⟨callt rfl rfl fun w hG => rlow_any (mkN x y) y.toNat w (mkN_lt h1 h2) (by omega) (by omega),
    trivial⟩
  have fin : ∀ v, @comes (rMake_q_k b1 b2) Try.prog glT 3000 rMake_q_f rMake_q_a = some v → ground v = true → Ending.returned (gval v) = .returned (.tuple #[.agg #[.int .u64 (((mkA x y).n : Nat) : Int), .int .u64 (((mkA x y).d : Nat) : Int)], .int .i64 0]) → Calls Try.prog 15 #[.int .i64 x, .int .i64 y] w fun e w' => e = .returned (.tuple #[.agg #[.int .u64 (((mkA x y).n : Nat) : Int), .int .u64 (((mkA x y).d : Nat) : Int)], .int .i64 0]) ∧ Below w.heap.size w w' := fun v h1 h2 h3 => (@sym_ok _ (rMake_q_k b1 b2) _ (@KnowOk.of _ (rMake_q_k b1 b2) _ hops hcalls) (by kernel_rfl) _ _ _ _ h1 rfl h2 _ hG).mono fun e w' h => ⟨h.1.trans h3, h.2⟩
  clear hops hcalls
  cases b1 with
  | true =>
    exact absurd (i1.1 rfl) ((by omega))
  | false =>
    have h1 : ¬ (y < 1) := fun c => Bool.false_ne_true (i1.2 c)
    cases b2 with
    | true =>
      exact absurd (i2.1 rfl) ((by omega))
    | false =>
      have h2 : ¬ (y > 2147483647) := fun c => Bool.false_ne_true (i2.2 c)
      exact fin _ (rMake_q_r1) rfl rfl

@[reducible] def AMake_n_f : FuncId := 14
@[reducible] def AMake_n_a : List AV := [.sym 0, .sym 1]
@[reducible] noncomputable def AMake_n_k (b1 b2 : Bool) : Know := ⟨[([0, 13, 2], [.sym 1, .lit (.int .i64 1)], .lit (.bool b1)),
  ([0, 15, 2], [.sym 1, .lit (.int .i64 2147483647)], .lit (.bool b2))],
  []⟩
theorem AMake_n_r1 (b2 : Bool) : @comes (AMake_n_k true b2) Try.prog glT 3000 AMake_n_f AMake_n_a = some (.lit (.tuple #[.agg #[.bool false, .string ⟨#[]⟩, .string ⟨#[]⟩], .int .i64 2])) := by kernel_rfl
theorem AMake_n_r2 : @comes (AMake_n_k false true) Try.prog glT 3000 AMake_n_f AMake_n_a = some (.lit (.tuple #[.agg #[.bool false, .string ⟨#[]⟩, .string ⟨#[]⟩], .int .i64 2])) := by kernel_rfl

set_option maxRecDepth 100000 in
set_option maxHeartbeats 4000000 in
theorem AMake_n (x y : Int) (w : World) (hno : ¬ (1 ≤ y ∧ y ≤ 2147483647)) : Calls Try.prog 14 #[.int .i64 x, .int .i64 y] w fun e w' => e = .returned (.tuple #[.agg #[.bool false, .string ⟨#[]⟩, .string ⟨#[]⟩], .int .i64 2]) ∧ Below w.heap.size w w' := by
  have hG : Globs glT w := glT_all w
  obtain ⟨b1, i1⟩ := bex (y < 1)
  obtain ⟨b2, i2⟩ := bex (y > 2147483647)
  letI : Env := mkEnv glT [.int .i64 x, .int .i64 y] rfl
  have hops : OpsT Try.prog (@Know.ops (AMake_n_k b1 b2)) := ⟨opt_lss_i rfl rfl i1,
    opt_gtr_i rfl rfl i2,
    trivial⟩
  have hcalls : CallsT Try.prog (@Know.calls (AMake_n_k b1 b2)) := trivial
  have fin : ∀ v, @comes (AMake_n_k b1 b2) Try.prog glT 3000 AMake_n_f AMake_n_a = some v → ground v = true → Ending.returned (gval v) = .returned (.tuple #[.agg #[.bool false, .string ⟨#[]⟩, .string ⟨#[]⟩], .int .i64 2]) → Calls Try.prog 14 #[.int .i64 x, .int .i64 y] w fun e w' => e = .returned (.tuple #[.agg #[.bool false, .string ⟨#[]⟩, .string ⟨#[]⟩], .int .i64 2]) ∧ Below w.heap.size w w' := fun v h1 h2 h3 => (@sym_ok _ (AMake_n_k b1 b2) _ (@KnowOk.of _ (AMake_n_k b1 b2) _ hops hcalls) (by kernel_rfl) _ _ _ _ h1 rfl h2 _ hG).mono fun e w' h => ⟨h.1.trans h3, h.2⟩
  clear hops hcalls
  cases b1 with
  | true =>
    have h1 : y < 1 := i1.1 rfl
    exact fin _ (AMake_n_r1 b2) rfl rfl
  | false =>
    have h1 : ¬ (y < 1) := fun c => Bool.false_ne_true (i1.2 c)
    cases b2 with
    | true =>
      have h2 : y > 2147483647 := i2.1 rfl
      exact fin _ (AMake_n_r2) rfl rfl
    | false =>
      exact absurd (i2.2 ((by omega))) Bool.false_ne_true

@[reducible] def rMake_n_f : FuncId := 15
@[reducible] def rMake_n_a : List AV := [.sym 0, .sym 1]
@[reducible] noncomputable def rMake_n_k (b1 b2 : Bool) : Know := ⟨[([0, 13, 2], [.sym 1, .lit (.int .i64 1)], .lit (.bool b1)),
  ([0, 15, 2], [.sym 1, .lit (.int .i64 2147483647)], .lit (.bool b2))],
  []⟩
theorem rMake_n_r1 (b2 : Bool) : @comes (rMake_n_k true b2) Try.prog glT 3000 rMake_n_f rMake_n_a = some (.lit (.tuple #[.agg #[.int .u64 0, .int .u64 0], .int .i64 2])) := by kernel_rfl
theorem rMake_n_r2 : @comes (rMake_n_k false true) Try.prog glT 3000 rMake_n_f rMake_n_a = some (.lit (.tuple #[.agg #[.int .u64 0, .int .u64 0], .int .i64 2])) := by kernel_rfl

set_option maxRecDepth 100000 in
set_option maxHeartbeats 4000000 in
theorem rMake_n (x y : Int) (w : World) (hno : ¬ (1 ≤ y ∧ y ≤ 2147483647)) : Calls Try.prog 15 #[.int .i64 x, .int .i64 y] w fun e w' => e = .returned (.tuple #[.agg #[.int .u64 0, .int .u64 0], .int .i64 2]) ∧ Below w.heap.size w w' := by
  have hG : Globs glT w := glT_all w
  obtain ⟨b1, i1⟩ := bex (y < 1)
  obtain ⟨b2, i2⟩ := bex (y > 2147483647)
  letI : Env := mkEnv glT [.int .i64 x, .int .i64 y] rfl
  have hops : OpsT Try.prog (@Know.ops (rMake_n_k b1 b2)) := ⟨opt_lss_i rfl rfl i1,
    opt_gtr_i rfl rfl i2,
    trivial⟩
  have hcalls : CallsT Try.prog (@Know.calls (rMake_n_k b1 b2)) := trivial
  have fin : ∀ v, @comes (rMake_n_k b1 b2) Try.prog glT 3000 rMake_n_f rMake_n_a = some v → ground v = true → Ending.returned (gval v) = .returned (.tuple #[.agg #[.int .u64 0, .int .u64 0], .int .i64 2]) → Calls Try.prog 15 #[.int .i64 x, .int .i64 y] w fun e w' => e = .returned (.tuple #[.agg #[.int .u64 0, .int .u64 0], .int .i64 2]) ∧ Below w.heap.size w w' := fun v h1 h2 h3 => (@sym_ok _ (rMake_n_k b1 b2) _ (@KnowOk.of _ (rMake_n_k b1 b2) _ hops hcalls) (by kernel_rfl) _ _ _ _ h1 rfl h2 _ hG).mono fun e w' h => ⟨h.1.trans h3, h.2⟩
  clear hops hcalls
  cases b1 with
  | true =>
    have h1 : y < 1 := i1.1 rfl
    exact fin _ (rMake_n_r1 b2) rfl rfl
  | false =>
    have h1 : ¬ (y < 1) := fun c => Bool.false_ne_true (i1.2 c)
    cases b2 with
    | true =>
      have h2 : y > 2147483647 := i2.1 rfl
      exact fin _ (rMake_n_r2) rfl rfl
    | false =>
      exact absurd (i2.2 ((by omega))) Bool.false_ne_true

end Go.Proofs.Ytfoldiieclfbgaa
set_option linter.unusedVariables false
set_option linter.unusedSimpArgs false
namespace Go.Proofs.Ytfoldiieclfbgaa
open Go Go.RowKit Nt

@[reducible] def Rt.zero : Rt := ⟨false, ⟨#[]⟩, ⟨#[]⟩⟩
@[reducible] def Rt.nul : Rt := ⟨false, ⟨#[]⟩, ⟨#[]⟩⟩

@[reducible] def is_k_f : FuncId := 16
@[reducible] def is_k_a : List AV := [.agg [.lit (.bool false), .sym 0, .sym 1], .lit (.int .i64 0), .agg [.sym 2, .sym 3], .lit (.int .i64 0)]
@[reducible] noncomputable def is_k_k : Know := ⟨[([0, 11, 24], [.agg [.lit (.bool false), .sym 0, .sym 1], .agg [.lit (.bool false), .sym 4, .sym 5]], .lit (.bool true))],
  [(37, [.agg [.sym 2, .sym 3]], .agg [.lit (.bool false), .sym 4, .sym 5])]⟩
theorem is_k_r1 : @comes is_k_k Try.prog glT 3000 is_k_f is_k_a = some (.lit (.bool true)) := by kernel_rfl

set_option maxRecDepth 100000 in
set_option maxHeartbeats 4000000 in
theorem is_k (a : An) (w : World) (hb : a.n < 18446744073709551616 ∧ a.d < 18446744073709551616) : Calls Try.prog 16 #[.agg #[.bool false, .string (natS a.n), .string (natS a.d)], .int .i64 0, .agg #[.int .u64 ((a.n : Nat) : Int), .int .u64 ((a.d : Nat) : Int)], .int .i64 0] w fun e w' => e = .returned (.bool true) ∧ Below w.heap.size w w' := by
  have hG : Globs glT w := glT_all w
  have h1 : a.r = (An.r a) := rfl
  have i1 : true = true ↔ (a.r = (An.r a)) := ⟨fun _ => h1, fun _ => rfl⟩
  letI : Env := mkEnv glT [.string (natS a.n), .string (natS a.d), .int .u64 ((a.n : Nat) : Int), .int .u64 ((a.d : Nat) : Int), .string (natS a.n), .string (natS a.d)] rfl
  have hops : OpsT Try.prog (@Know.ops is_k_k) := ⟨optR_eql_i (a := a.r) (b := (An.r a)) rfl rfl i1,
    trivial⟩
  have hcalls : CallsT Try.prog (@Know.calls is_k_k) := ⟨callt rfl rfl fun w hG => rRatio_any a w hb,
    trivial⟩
  have fin : ∀ v, @comes is_k_k Try.prog glT 3000 is_k_f is_k_a = some v → ground v = true → Ending.returned (gval v) = .returned (.bool true) → Calls Try.prog 16 #[.agg #[.bool false, .string (natS a.n), .string (natS a.d)], .int .i64 0, .agg #[.int .u64 ((a.n : Nat) : Int), .int .u64 ((a.d : Nat) : Int)], .int .i64 0] w fun e w' => e = .returned (.bool true) ∧ Below w.heap.size w w' := fun v h1 h2 h3 => (@sym_ok _ is_k_k _ (@KnowOk.of _ is_k_k _ hops hcalls) (by kernel_rfl) _ _ _ _ h1 rfl h2 _ hG).mono fun e w' h => ⟨h.1.trans h3, h.2⟩
  clear hops hcalls
  exact fin _ (is_k_r1) rfl rfl

@[reducible] def is_e_f : FuncId := 16
@[reducible] def is_e_a : List AV := [.agg [.lit (.bool false), .sym 0, .sym 1], .sym 2, .agg [.sym 3, .sym 4], .sym 5]
@[reducible] noncomputable def is_e_k : Know := ⟨[([0, 12, 3], [.sym 5, .lit (.int .i64 0)], .lit (.bool true)),
  ([0, 11, 24], [.agg [.lit (.bool false), .sym 0, .sym 1], .lit (.agg #[.bool false, .string ⟨#[]⟩, .string ⟨#[]⟩])], .lit (.bool true)),
  ([0, 11, 3], [.sym 2, .sym 5], .lit (.bool true))],
  []⟩
theorem is_e_r1 : @comes is_e_k Try.prog glT 3000 is_e_f is_e_a = some (.lit (.bool true)) := by kernel_rfl

set_option maxRecDepth 100000 in
set_option maxHeartbeats 4000000 in
theorem is_e (a : An) (e : Int) (w : World) (he : ¬ e = 0) : Calls Try.prog 16 #[.agg #[.bool false, .string ⟨#[]⟩, .string ⟨#[]⟩], .int .i64 e, .agg #[.int .u64 ((a.n : Nat) : Int), .int .u64 ((a.d : Nat) : Int)], .int .i64 e] w fun e w' => e = .returned (.bool true) ∧ Below w.heap.size w w' := by
  have hG : Globs glT w := glT_all w
  have h1 : ¬ (e = 0) := he
  have i1 : false = true ↔ (e = 0) := ⟨fun k => absurd k Bool.false_ne_true, fun k => absurd k h1⟩
  have h2 : Rt.zero = Rt.nul := rfl
  have i2 : true = true ↔ (Rt.zero = Rt.nul) := ⟨fun _ => h2, fun _ => rfl⟩
  letI : Env := mkEnv glT [.string ⟨#[]⟩, .string ⟨#[]⟩, .int .i64 e, .int .u64 ((a.n : Nat) : Int), .int .u64 ((a.d : Nat) : Int), .int .i64 e] rfl
  have hops : OpsT Try.prog (@Know.ops is_e_k) := ⟨opt_neq_i rfl rfl i1,
    optR_eql_i (a := Rt.zero) (b := Rt.nul) rfl rfl i2,
    opt_eql_t rfl rfl rfl,
    trivial⟩
  have hcalls : CallsT Try.prog (@Know.calls is_e_k) := trivial
  have fin : ∀ v, @comes is_e_k Try.prog glT 3000 is_e_f is_e_a = some v → ground v = true → Ending.returned (gval v) = .returned (.bool true) → Calls Try.prog 16 #[.agg #[.bool false, .string ⟨#[]⟩, .string ⟨#[]⟩], .int .i64 e, .agg #[.int .u64 ((a.n : Nat) : Int), .int .u64 ((a.d : Nat) : Int)], .int .i64 e] w fun e w' => e = .returned (.bool true) ∧ Below w.heap.size w w' := fun v h1 h2 h3 => (@sym_ok _ is_e_k _ (@KnowOk.of _ is_e_k _ hops hcalls) (by kernel_rfl) _ _ _ _ h1 rfl h2 _ hG).mono fun e w' h => ⟨h.1.trans h3, h.2⟩
  clear hops hcalls
  exact fin _ (is_e_r1) rfl rfl

@[reducible] def ACheck_any_f : FuncId := 18
@[reducible] def ACheck_any_a : List AV := [.agg [.sym 0, .sym 1, .sym 2]]
@[reducible] noncomputable def ACheck_any_k : Know := ⟨[],
  [(51, [.agg [.sym 0, .sym 1, .sym 2]], .tup [.agg [.sym 3, .sym 4], .sym 5])]⟩
theorem ACheck_any_r1 : @comes ACheck_any_k Try.prog glT 3000 ACheck_any_f ACheck_any_a = some (.sym 5) := by kernel_rfl

set_option maxRecDepth 100000 in
set_option maxHeartbeats 4000000 in
theorem ACheck_any (r : Rt) (w : World) (hzr : r.small) : Calls Try.prog 18 #[.agg #[.bool r.g, .string r.s, .string r.t]] w fun e w' => e = .returned (.int .i64 (anE r)) ∧ Below w.heap.size w w' := by
  have hG : Globs glT w := glT_all w
  letI : Env := mkEnv glT [.bool r.g, .string r.s, .string r.t, .int .u64 (((anA r).n : Nat) : Int), .int .u64 (((anA r).d : Nat) : Int), .int .i64 (anE r)] rfl
  have hops : OpsT Try.prog (@Know.ops ACheck_any_k) := trivial
  have hcalls : CallsT Try.prog (@Know.calls ACheck_any_k) := ⟨callt rfl rfl fun w hG => Aopen_any r hzr w,
    trivial⟩
  have fin : ∀ v, @comes ACheck_any_k Try.prog glT 3000 ACheck_any_f ACheck_any_a = some v → ground v = true → Ending.returned (gval v) = .returned (.int .i64 (anE r)) → Calls Try.prog 18 #[.agg #[.bool r.g, .string r.s, .string r.t]] w fun e w' => e = .returned (.int .i64 (anE r)) ∧ Below w.heap.size w w' := fun v h1 h2 h3 => (@sym_ok _ ACheck_any_k _ (@KnowOk.of _ ACheck_any_k _ hops hcalls) (by kernel_rfl) _ _ _ _ h1 rfl h2 _ hG).mono fun e w' h => ⟨h.1.trans h3, h.2⟩
  clear hops hcalls
  exact fin _ (ACheck_any_r1) rfl rfl

@[reducible] def ACmp_k_f : FuncId := 19
@[reducible] def ACmp_k_a : List AV := [.agg [.sym 0, .sym 1, .sym 2], .agg [.sym 3, .sym 4, .sym 5]]
@[reducible] noncomputable def ACmp_k_k : Know := ⟨[([0, 12, 25], [.sym 8, .lit (.int .i64 0)], .lit (.bool false)),
  ([0, 12, 25], [.sym 11, .lit (.int .i64 0)], .lit (.bool false))],
  [(51, [.agg [.sym 0, .sym 1, .sym 2]], .tup [.agg [.sym 6, .sym 7], .sym 8]),
  (51, [.agg [.sym 3, .sym 4, .sym 5]], .tup [.agg [.sym 9, .sym 10], .sym 11]),
  (52, [.agg [.sym 6, .sym 7], .agg [.sym 9, .sym 10]], .sym 12)]⟩
theorem ACmp_k_r1 : @comes ACmp_k_k Try.prog glT 3000 ACmp_k_f ACmp_k_a = some (.tup [.sym 12, .lit (.int .i64 0)]) := by kernel_rfl

set_option maxRecDepth 100000 in
set_option maxHeartbeats 4000000 in
theorem ACmp_k (a b : Rt) (w : World) (hza : a.small) (hzb : b.small) (ka : anE a = 0) (kb : anE b = 0) : Calls Try.prog 19 #[.agg #[.bool a.g, .string a.s, .string a.t], .agg #[.bool b.g, .string b.s, .string b.t]] w fun e w' => e = .returned (.tuple #[.int .i64 (cmp21 ((anA a).n * (anA b).d) ((anA b).n * (anA a).d)), .int .i64 0]) ∧ Below w.heap.size w w' := by
  have hG : Globs glT w := glT_all w
  have h1 : anE a = 0 := ka
  have i1 : true = true ↔ (anE a = 0) := ⟨fun _ => h1, fun _ => rfl⟩
  have h2 : anE b = 0 := kb
  have i2 : true = true ↔ (anE b = 0) := ⟨fun _ => h2, fun _ => rfl⟩
  letI : Env := mkEnv glT [.bool a.g, .string a.s, .string a.t, .bool b.g, .string b.s, .string b.t, .int .u64 (((anA a).n : Nat) : Int), .int .u64 (((anA a).d : Nat) : Int), .int .i64 (anE a), .int .u64 (((anA b).n : Nat) : Int), .int .u64 (((anA b).d : Nat) : Int), .int .i64 (anE b), .int .i64 (cmp21 ((anA a).n * (anA b).d) ((anA b).n * (anA a).d))] rfl
  have hops : OpsT Try.prog (@Know.ops ACmp_k_k) := ⟨opt_neq_i rfl rfl i1,
    opt_neq_i rfl rfl i2,
    trivial⟩
  have hcalls : CallsT Try.prog (@Know.calls ACmp_k_k) := ⟨callt rfl rfl fun w hG => Aopen_any a hza w,
    callt rfl rfl fun w hG => Aopen_any b hzb w,
    callt rfl rfl fun w hG => Acompare_c (anA a) (anA b) w (anA_le a) (anA_le b),
    trivial⟩
  have fin : ∀ v, @comes ACmp_k_k Try.prog glT 3000 ACmp_k_f ACmp_k_a = some v → ground v = true → Ending.returned (gval v) = .returned (.tuple #[.int .i64 (cmp21 ((anA a).n * (anA b).d) ((anA b).n * (anA a).d)), .int .i64 0]) → Calls Try.prog 19 #[.agg #[.bool a.g, .string a.s, .string a.t], .agg #[.bool b.g, .string b.s, .string b.t]] w fun e w' => e = .returned (.tuple #[.int .i64 (cmp21 ((anA a).n * (anA b).d) ((anA b).n * (anA a).d)), .int .i64 0]) ∧ Below w.heap.size w w' := fun v h1 h2 h3 => (@sym_ok _ ACmp_k_k _ (@KnowOk.of _ ACmp_k_k _ hops hcalls) (by kernel_rfl) _ _ _ _ h1 rfl h2 _ hG).mono fun e w' h => ⟨h.1.trans h3, h.2⟩
  clear hops hcalls
  exact fin _ (ACmp_k_r1) rfl rfl

@[reducible] def ACmp_n_f : FuncId := 19
@[reducible] def ACmp_n_a : List AV := [.agg [.sym 0, .sym 1, .sym 2], .agg [.sym 3, .sym 4, .sym 5]]
@[reducible] noncomputable def ACmp_n_k (b1 b2 : Bool) : Know := ⟨[([0, 12, 25], [.sym 8, .lit (.int .i64 0)], .lit (.bool (!b1))),
  ([0, 12, 25], [.sym 11, .lit (.int .i64 0)], .lit (.bool (!b2)))],
  [(51, [.agg [.sym 0, .sym 1, .sym 2]], .tup [.agg [.sym 6, .sym 7], .sym 8]),
  (51, [.agg [.sym 3, .sym 4, .sym 5]], .tup [.agg [.sym 9, .sym 10], .sym 11])]⟩
theorem ACmp_n_r1 : @comes (ACmp_n_k true false) Try.prog glT 3000 ACmp_n_f ACmp_n_a = some (.lit (.tuple #[.int .i64 0, .int .i64 210])) := by kernel_rfl
theorem ACmp_n_r2 (b2 : Bool) : @comes (ACmp_n_k false b2) Try.prog glT 3000 ACmp_n_f ACmp_n_a = some (.lit (.tuple #[.int .i64 0, .int .i64 210])) := by kernel_rfl

set_option maxRecDepth 100000 in
set_option maxHeartbeats 4000000 in
theorem ACmp_n (a b : Rt) (w : World) (hza : a.small) (hzb : b.small) (hno : ¬ (anE a = 0 ∧ anE b = 0)) : Calls Try.prog 19 #[.agg #[.bool a.g, .string a.s, .string a.t], .agg #[.bool b.g, .string b.s, .string b.t]] w fun e w' => e = .returned (.tuple #[.int .i64 0, .int .i64 210]) ∧ Below w.heap.size w w' := by
  have hG : Globs glT w := glT_all w
  obtain ⟨b1, i1⟩ := bex (anE a = 0)
  obtain ⟨b2, i2⟩ := bex (anE b = 0)
  letI : Env := mkEnv glT [.bool a.g, .string a.s, .string a.t, .bool b.g, .string b.s, .string b.t, .int .u64 (((anA a).n : Nat) : Int), .int .u64 (((anA a).d : Nat) : Int), .int .i64 (anE a), .int .u64 (((anA b).n : Nat) : Int), .int .u64 (((anA b).d : Nat) : Int), .int .i64 (anE b)] rfl
  have hops : OpsT Try.prog (@Know.ops (ACmp_n_k b1 b2)) := ⟨opt_neq_i rfl rfl i1,
    opt_neq_i rfl rfl i2,
    trivial⟩
  have hcalls : CallsT Try.prog (@Know.calls (ACmp_n_k b1 b2)) := ⟨callt rfl rfl fun w hG => Aopen_any a hza w,
    callt rfl rfl fun w hG => Aopen_any b hzb w,
    trivial⟩
  have fin : ∀ v, @comes (ACmp_n_k b1 b2) Try.prog glT 3000 ACmp_n_f ACmp_n_a = some v → ground v = true → Ending.returned (gval v) = .returned (.tuple #[.int .i64 0, .int .i64 210]) → Calls Try.prog 19 #[.agg #[.bool a.g, .string a.s, .string a.t], .agg #[.bool b.g, .string b.s, .string b.t]] w fun e w' => e = .returned (.tuple #[.int .i64 0, .int .i64 210]) ∧ Below w.heap.size w w' := fun v h1 h2 h3 => (@sym_ok _ (ACmp_n_k b1 b2) _ (@KnowOk.of _ (ACmp_n_k b1 b2) _ hops hcalls) (by kernel_rfl) _ _ _ _ h1 rfl h2 _ hG).mono fun e w' h => ⟨h.1.trans h3, h.2⟩
  clear hops hcalls
  cases b1 with
  | true =>
    have h1 : anE a = 0 := i1.1 rfl
    cases b2 with
    | true =>
      exact absurd (i2.1 rfl) ((fun c => hno ⟨h1, c⟩))
    | false =>
      have h2 : ¬ (anE b = 0) := fun c => Bool.false_ne_true (i2.2 c)
      exact fin _ (ACmp_n_r1) rfl rfl
  | false =>
    have h1 : ¬ (anE a = 0) := fun c => Bool.false_ne_true (i1.2 c)
    exact fin _ (ACmp_n_r2 b2) rfl rfl

theorem sum_parts {a b : An} (ha : a.Ok) (hb : b.Ok) : (a.n * (b.d / (Nat.gcd a.d b.d))) + (b.n * (a.d / (Nat.gcd a.d b.d))) < 18446744073709551616 := by
  have k1 := mul31 ha.le.1 (Nat.le_trans (Nat.div_le_self b.d (Nat.gcd a.d b.d)) hb.le.2.1)
  have k2 := mul31 hb.le.1 (Nat.le_trans (Nat.div_le_self a.d (Nat.gcd a.d b.d)) ha.le.2.1)
  omega
theorem den_pos {a b : An} (ha : a.Ok) (hb : b.Ok) : 0 < (a.d / (Nat.gcd a.d b.d)) * b.d := Nat.mul_pos (Nat.div_pos (Nat.gcd_le_left _ ha.le.2.2) (Nat.gcd_pos_of_pos_left _ ha.le.2.2)) hb.le.2.2
theorem rlow_sum (a b : An) (w : World) (ha : a.Ok) (hb : b.Ok) : Calls Try.prog 48 #[.int .u64 ((((a.n * (b.d / (Nat.gcd a.d b.d))) + (b.n * (a.d / (Nat.gcd a.d b.d)))) % ((a.d / (Nat.gcd a.d b.d)) * b.d) : Nat) : Int), .int .u64 (((a.d / (Nat.gcd a.d b.d)) * b.d : Nat) : Int)] w fun e w' => e = .returned (.agg #[.int .u64 (((sumA a b).n : Nat) : Int), .int .u64 (((sumA a b).d : Nat) : Int)]) ∧ Below w.heap.size w w' := by
  have hl := low_add (a := a.n) (c := b.n) ha.le.2.2 hb.le.2.2
  have h := rlow_any (((a.n * (b.d / (Nat.gcd a.d b.d))) + (b.n * (a.d / (Nat.gcd a.d b.d)))) % ((a.d / (Nat.gcd a.d b.d)) * b.d)) ((a.d / (Nat.gcd a.d b.d)) * b.d) w (Nat.lt_of_le_of_lt (Nat.mod_le _ _) (sum_parts ha hb)) (den_pos ha hb) (prod_lt (Nat.le_trans (Nat.div_le_self _ _) ha.le.2.1) hb.le.2.1)
  rw [← hl.1, ← hl.2] at h
  exact h
@[irreducible] def rsA (a b : An) : An := if (sumA a b).d ≤ 2147483647 then sumA a b else ⟨0, 0⟩
theorem rs_ok {a b : An} (h : (sumA a b).d ≤ 2147483647) : rsA a b = sumA a b ∧ adE a b = 0 := ⟨by unfold rsA; exact if_pos h, (md_ok h).2.2⟩
theorem rs_no {a b : An} (h : ¬ (sumA a b).d ≤ 2147483647) : rsA a b = ⟨0, 0⟩ ∧ adE a b = 210 := ⟨by unfold rsA; exact if_neg h, (md_no h).2.2⟩

@[reducible] def rAdd_k_f : FuncId := 22
@[reducible] def rAdd_k_a : List AV := [.agg [.sym 0, .sym 1], .agg [.sym 2, .sym 3]]
@[reducible] noncomputable def rAdd_k_k (b1 : Bool) : Know := ⟨[([0, 3, 28], [.sym 1, .sym 4], .sym 5),
  ([0, 2, 28], [.sym 5, .sym 3], .sym 6),
  ([0, 3, 28], [.sym 3, .sym 4], .sym 7),
  ([0, 2, 28], [.sym 0, .sym 7], .sym 8),
  ([0, 2, 28], [.sym 2, .sym 5], .sym 9),
  ([0, 0, 28], [.sym 8, .sym 9], .sym 10),
  ([0, 4, 28], [.sym 10, .sym 6], .sym 11),
  ([0, 15, 28], [.sym 13, .lit (.int .u64 2147483647)], .lit (.bool b1))],
  [(50, [.sym 1, .sym 3], .sym 4),
  (48, [.sym 11, .sym 6], .agg [.sym 12, .sym 13])]⟩
theorem rAdd_k_r1 : @comes (rAdd_k_k true) Try.prog glT 3000 rAdd_k_f rAdd_k_a = some (.lit (.tuple #[.agg #[.int .u64 0, .int .u64 0], .int .i64 210])) := by kernel_rfl
theorem rAdd_k_r2 : @comes (rAdd_k_k false) Try.prog glT 3000 rAdd_k_f rAdd_k_a = some (.tup [.agg [.sym 12, .sym 13], .lit (.int .i64 0)]) := by kernel_rfl

set_option maxRecDepth 100000 in
set_option maxHeartbeats 4000000 in
theorem rAdd_k (a b : An) (w : World) (ha : a.Ok) (hb : b.Ok) : Calls Try.prog 22 #[.agg #[.int .u64 ((a.n : Nat) : Int), .int .u64 ((a.d : Nat) : Int)], .agg #[.int .u64 ((b.n : Nat) : Int), .int .u64 ((b.d : Nat) : Int)]] w fun e w' => e = .returned (.tuple #[.agg #[.int .u64 (((rsA a b).n : Nat) : Int), .int .u64 (((rsA a b).d : Nat) : Int)], .int .i64 (adE a b)]) ∧ Below w.heap.size w w' := by
  have hG : Globs glT w := glT_all w
  obtain ⟨b1, i1⟩ := bex ((((sumA a b).d : Nat) : Int) > 2147483647)
  letI : Env := mkEnv glT [.int .u64 ((a.n : Nat) : Int), .int .u64 ((a.d : Nat) : Int), .int .u64 ((b.n : Nat) : Int), .int .u64 ((b.d : Nat) : Int), .int .u64 ((Nat.gcd a.d b.d : Nat) : Int), .int .u64 ((a.d / (Nat.gcd a.d b.d) : Nat) : Int), .int .u64 (((a.d / (Nat.gcd a.d b.d)) * b.d : Nat) : Int), .int .u64 ((b.d / (Nat.gcd a.d b.d) : Nat) : Int), .int .u64 ((a.n * (b.d / (Nat.gcd a.d b.d)) : Nat) : Int), .int .u64 ((b.n * (a.d / (Nat.gcd a.d b.d)) : Nat) : Int), .int .u64 (((a.n * (b.d / (Nat.gcd a.d b.d))) + (b.n * (a.d / (Nat.gcd a.d b.d))) : Nat) : Int), .int .u64 ((((a.n * (b.d / (Nat.gcd a.d b.d))) + (b.n * (a.d / (Nat.gcd a.d b.d)))) % ((a.d / (Nat.gcd a.d b.d)) * b.d) : Nat) : Int), .int .u64 (((sumA a b).n : Nat) : Int), .int .u64 (((sumA a b).d : Nat) : Int)] rfl
  have hops : OpsT Try.prog (@Know.ops (rAdd_k_k b1)) := ⟨nopt_quo (x := a.d) (y := (Nat.gcd a.d b.d)) (z := a.d / (Nat.gcd a.d b.d)) rfl rfl rfl rfl rfl (Nat.ne_of_gt (Nat.gcd_pos_of_pos_left _ ha.le.2.2)) ha.small.2,
    nopt_mul (x := (a.d / (Nat.gcd a.d b.d))) (y := b.d) (z := (a.d / (Nat.gcd a.d b.d)) * b.d) rfl rfl rfl rfl rfl (prod_lt (Nat.le_trans (Nat.div_le_self _ _) ha.le.2.1) hb.le.2.1),
    nopt_quo (x := b.d) (y := (Nat.gcd a.d b.d)) (z := b.d / (Nat.gcd a.d b.d)) rfl rfl rfl rfl rfl (Nat.ne_of_gt (Nat.gcd_pos_of_pos_left _ ha.le.2.2)) hb.small.2,
    nopt_mul (x := a.n) (y := (b.d / (Nat.gcd a.d b.d))) (z := a.n * (b.d / (Nat.gcd a.d b.d))) rfl rfl rfl rfl rfl (prod_lt ha.le.1 (Nat.le_trans (Nat.div_le_self _ _) hb.le.2.1)),
    nopt_mul (x := b.n) (y := (a.d / (Nat.gcd a.d b.d))) (z := b.n * (a.d / (Nat.gcd a.d b.d))) rfl rfl rfl rfl rfl (prod_lt hb.le.1 (Nat.le_trans (Nat.div_le_self _ _) ha.le.2.1)),
    nopt_add (x := (a.n * (b.d / (Nat.gcd a.d b.d)))) (y := (b.n * (a.d / (Nat.gcd a.d b.d)))) (z := (a.n * (b.d / (Nat.gcd a.d b.d))) + (b.n * (a.d / (Nat.gcd a.d b.d)))) rfl rfl rfl rfl rfl (sum_parts ha hb),
    nopt_rem (x := ((a.n * (b.d / (Nat.gcd a.d b.d))) + (b.n * (a.d / (Nat.gcd a.d b.d))))) (y := ((a.d / (Nat.gcd a.d b.d)) * b.d)) (z := ((a.n * (b.d / (Nat.gcd a.d b.d))) + (b.n * (a.d / (Nat.gcd a.d b.d)))) % ((a.d / (Nat.gcd a.d b.d)) * b.d)) rfl rfl rfl rfl rfl (Nat.ne_of_gt (den_pos ha hb)) (sum_parts ha hb),
    opt_gtr_i rfl rfl i1,
    trivial⟩
  have hcalls : CallsT Try.prog (@Know.calls (rAdd_k_k b1)) := ⟨callt rfl rfl fun w hG => rgcd21_c a.d b.d w ha.small.2 hb.small.2,
    callt rfl rfl fun w hG => rlow_sum a b w ha hb,
    trivial⟩
  have fin : ∀ v, @comes (rAdd_k_k b1) Try.prog glT 3000 rAdd_k_f rAdd_k_a = some v → ground v = true → Ending.returned (gval v) = .returned (.tuple #[.agg #[.int .u64 (((rsA a b).n : Nat) : Int), .int .u64 (((rsA a b).d : Nat) : Int)], .int .i64 (adE a b)]) → Calls Try.prog 22 #[.agg #[.int .u64 ((a.n : Nat) : Int), .int .u64 ((a.d : Nat) : Int)], .agg #[.int .u64 ((b.n : Nat) : Int), .int .u64 ((b.d : Nat) : Int)]] w fun e w' => e = .returned (.tuple #[.agg #[.int .u64 (((rsA a b).n : Nat) : Int), .int .u64 (((rsA a b).d : Nat) : Int)], .int .i64 (adE a b)]) ∧ Below w.heap.size w w' := fun v h1 h2 h3 => (@sym_ok _ (rAdd_k_k b1) _ (@KnowOk.of _ (rAdd_k_k b1) _ hops hcalls) (by kernel_rfl) _ _ _ _ h1 rfl h2 _ hG).mono fun e w' h => ⟨h.1.trans h3, h.2⟩
  clear hops hcalls
  cases b1 with
  | true =>
    have h1 : (((sumA a b).d : Nat) : Int) > 2147483647 := i1.1 rfl
    exact fin _ (rAdd_k_r1) rfl (show Ending.returned (.tuple #[.agg #[.int .u64 0, .int .u64 0], .int .i64 210]) = .returned (.tuple #[.agg #[.int .u64 (((rsA a b).n : Nat) : Int), .int .u64 (((rsA a b).d : Nat) : Int)], .int .i64 (adE a b)]) from by rw [(rs_no (show ¬ (sumA a b).d ≤ 2147483647 from by omega)).1, (rs_no (show ¬ (sumA a b).d ≤ 2147483647 from by omega)).2]; rfl)
  | false =>
    have h1 : ¬ ((((sumA a b).d : Nat) : Int) > 2147483647) := fun c => Bool.false_ne_true (i1.2 c)
    exact fin _ (rAdd_k_r2) rfl (show Ending.returned (.tuple #[.agg #[.int .u64 (((sumA a b).n : Nat) : Int), .int .u64 (((sumA a b).d : Nat) : Int)], .int .i64 0]) = .returned (.tuple #[.agg #[.int .u64 (((rsA a b).n : Nat) : Int), .int .u64 (((rsA a b).d : Nat) : Int)], .int .i64 (adE a b)]) from by rw [(rs_ok (show (sumA a b).d ≤ 2147483647 from by omega)).1, (rs_ok (show (sumA a b).d ≤ 2147483647 from by omega)).2])

theorem is_sum (a b : Rt) (w : World) (ka : anE a = 0) (kb : anE b = 0) : Calls Try.prog 16 #[.agg #[.bool (adR a b).g, .string (adR a b).s, .string (adR a b).t], .int .i64 (adF a b), .agg #[.int .u64 (((rsA (anA a) (anA b)).n : Nat) : Int), .int .u64 (((rsA (anA a) (anA b)).d : Nat) : Int)], .int .i64 (adE (anA a) (anA b))] w fun e w' => e = .returned (.bool true) ∧ Below w.heap.size w w' := by
  have hf : adF a b = adE (anA a) (anA b) := by unfold adF; exact if_pos ⟨ka, kb⟩
  have hr : adR a b = ⟨false, adS (anA a) (anA b), adT (anA a) (anA b)⟩ := by unfold adR; exact if_pos ⟨ka, kb⟩
  rw [hf, hr]
  have hd : 0 < (anA a).d * (anA b).d := Nat.mul_pos (anA_ok0 ka).le.2.2 (anA_ok0 kb).le.2.2
  by_cases hl : (sumA (anA a) (anA b)).d ≤ 2147483647
  · rw [(rs_ok hl).1, (rs_ok hl).2]
    have hn : (sumA (anA a) (anA b)).n < (sumA (anA a) (anA b)).d := lowNum_lt hd
    have h := is_k (sumA (anA a) (anA b)) w ⟨by omega, by omega⟩
    have e1 : adS (anA a) (anA b) = natS (sumA (anA a) (anA b)).n := (md_ok hl).1
    have e2 : adT (anA a) (anA b) = natS (sumA (anA a) (anA b)).d := (md_ok hl).2.1
    rw [e1, e2]
    exact h
  · rw [(rs_no hl).1, (rs_no hl).2]
    have e1 : adS (anA a) (anA b) = ⟨#[]⟩ := (md_no hl).1
    have e2 : adT (anA a) (anA b) = ⟨#[]⟩ := (md_no hl).2.1
    rw [e1, e2]
    exact is_e ⟨0, 0⟩ 210 w (by decide)

end Go.Proofs.Ytfoldiieclfbgaa
set_option linter.unusedVariables false
set_option linter.unusedSimpArgs false
namespace Go.Proofs.Ytfoldiieclfbgaa
open Go Go.RowKit Nt

theorem AMake_c (x y : Int) (w : World) (h1 : 1 ≤ y) (h2 : y ≤ 2147483647) : Calls Try.prog 14 #[.int .i64 x, .int .i64 y] w fun e w' => e = .returned (.tuple #[.agg #[.bool false, .string (natS (mkA x y).n), .string (natS (mkA x y).d)], .int .i64 0]) ∧ Below w.heap.size w w' := by
  by_cases h : x.tmod y < 0
  · exact AMake_q x y w h1 h2 h
  · exact AMake_p x y w h1 h2 h
theorem rMake_c (x y : Int) (w : World) (h1 : 1 ≤ y) (h2 : y ≤ 2147483647) : Calls Try.prog 15 #[.int .i64 x, .int .i64 y] w fun e w' => e = .returned (.tuple #[.agg #[.int .u64 (((mkA x y).n : Nat) : Int), .int .u64 (((mkA x y).d : Nat) : Int)], .int .i64 0]) ∧ Below w.heap.size w w' := by
  by_cases h : x.tmod y < 0
  · exact rMake_q x y w h1 h2 h
  · exact rMake_p x y w h1 h2 h
theorem adR_n {a b : Rt} (h : ¬ (anE a = 0 ∧ anE b = 0)) : adR a b = Rt.nul := by unfold adR; exact if_neg h
theorem adF_n {a b : Rt} (h : ¬ (anE a = 0 ∧ anE b = 0)) : adF a b = 210 := by unfold adF; exact if_neg h

@[reducible] def AngleMakes_pk_f : FuncId := 3
@[reducible] def AngleMakes_pk_a : List AV := [.sym 0, .sym 1, .agg [.sym 2, .sym 3, .sym 4], .agg [.sym 5, .sym 6, .sym 7]]
@[reducible] noncomputable def AngleMakes_pk_k (b4 b5 : Bool) : Know := ⟨[([0, 11, 25], [.sym 16, .lit (.int .i64 0)], .lit (.bool true)),
  ([0, 11, 3], [.sym 17, .sym 25], .lit (.bool true)),
  ([0, 11, 3], [.sym 17, .lit (.int .i64 0)], .lit (.bool b4)),
  ([0, 12, 25], [.sym 16, .lit (.int .i64 210)], .lit (.bool (!b5)))],
  [(14, [.sym 0, .sym 1], .tup [.agg [.lit (.bool false), .sym 8, .sym 9], .lit (.int .i64 0)]),
  (15, [.sym 0, .sym 1], .tup [.agg [.sym 10, .sym 11], .lit (.int .i64 0)]),
  (16, [.agg [.lit (.bool false), .sym 8, .sym 9], .lit (.int .i64 0), .agg [.sym 10, .sym 11], .lit (.int .i64 0)], .lit (.bool true)),
  (17, [.agg [.sym 2, .sym 3, .sym 4]], .tup [.agg [.sym 12, .sym 13], .lit (.bool true)]),
  (17, [.agg [.sym 5, .sym 6, .sym 7]], .tup [.agg [.sym 14, .sym 15], .lit (.bool true)]),
  (18, [.agg [.sym 2, .sym 3, .sym 4]], .sym 16),
  (19, [.agg [.sym 2, .sym 3, .sym 4], .agg [.sym 5, .sym 6, .sym 7]], .tup [.sym 17, .lit (.int .i64 0)]),
  (20, [.agg [.sym 2, .sym 3, .sym 4], .agg [.sym 5, .sym 6, .sym 7]], .tup [.agg [.sym 18, .sym 19, .sym 20], .sym 21]),
  (22, [.agg [.sym 12, .sym 13], .agg [.sym 14, .sym 15]], .tup [.agg [.sym 22, .sym 23], .sym 24]),
  (23, [.agg [.sym 12, .sym 13], .agg [.sym 14, .sym 15]], .sym 25),
  (16, [.agg [.sym 18, .sym 19, .sym 20], .sym 21, .agg [.sym 22, .sym 23], .sym 24], .lit (.bool true)),
  (21, [], .lit (.bool true))]⟩
theorem AngleMakes_pk_r1 (b4 b5 : Bool) : @comes (AngleMakes_pk_k b4 b5) Try.prog glT 3000 AngleMakes_pk_f AngleMakes_pk_a = some (.lit (.bool true)) := by kernel_rfl

set_option maxRecDepth 100000 in
set_option maxHeartbeats 4000000 in
theorem AngleMakes_pk (x y : Int) (a b : Rt) (w : World) (hza : a.small) (hzb : b.small) (l1 : 1 ≤ y) (l2 : y ≤ 2147483647) (ka : anE a = 0) (kb : anE b = 0) : Calls Try.prog 3 #[.int .i64 x, .int .i64 y, .agg #[.bool a.g, .string a.s, .string a.t], .agg #[.bool b.g, .string b.s, .string b.t]] w fun e w' => e = .returned (.bool true) ∧ Below w.heap.size w w' := by
  have hG : Globs glT w := glT_all w
  have h1 : okB a = true := (anE_iff.1 ka)
  have i1 : true = true ↔ (okB a = true) := ⟨fun _ => h1, fun _ => rfl⟩
  have h2 : okB b = true := (anE_iff.1 kb)
  have i2 : true = true ↔ (okB b = true) := ⟨fun _ => h2, fun _ => rfl⟩
  have h3 : anE a = 0 := ka
  have i3 : true = true ↔ (anE a = 0) := ⟨fun _ => h3, fun _ => rfl⟩
  obtain ⟨b4, i4⟩ := bex (cmp21 ((anA a).n * (anA b).d) ((anA b).n * (anA a).d) = 0)
  obtain ⟨b5, i5⟩ := bex (anE a = 210)
  letI : Env := mkEnv glT [.int .i64 x, .int .i64 y, .bool a.g, .string a.s, .string a.t, .bool b.g, .string b.s, .string b.t, .string (natS (mkA x y).n), .string (natS (mkA x y).d), .int .u64 (((mkA x y).n : Nat) : Int), .int .u64 (((mkA x y).d : Nat) : Int), .int .u64 (((anA a).n : Nat) : Int), .int .u64 (((anA a).d : Nat) : Int), .int .u64 (((anA b).n : Nat) : Int), .int .u64 (((anA b).d : Nat) : Int), .int .i64 (anE a), .int .i64 (cmp21 ((anA a).n * (anA b).d) ((anA b).n * (anA a).d)), .bool (adR a b).g, .string (adR a b).s, .string (adR a b).t, .int .i64 (adF a b), .int .u64 (((rsA (anA a) (anA b)).n : Nat) : Int), .int .u64 (((rsA (anA a) (anA b)).d : Nat) : Int), .int .i64 (adE (anA a) (anA b)), .int .i64 (cmp21 ((anA a).n * (anA b).d) ((anA b).n * (anA a).d))] rfl
  have hops : OpsT Try.prog (@Know.ops (AngleMakes_pk_k b4 b5)) := ⟨opt_eql_i rfl rfl i3,
    opt_eql_t rfl rfl rfl,
    opt_eql_i rfl rfl i4,
    opt_neq_i rfl rfl i5,
    trivial⟩
  have hcalls : CallsT Try.prog (@Know.calls (AngleMakes_pk_k b4 b5)) := ⟨callt rfl rfl fun w hG => AMake_c x y w l1 l2,
    callt rfl rfl fun w hG => rMake_c x y w l1 l2,
    callt rfl rfl fun w hG => is_k (mkA x y) w ((mkA_ok l1 l2).small),
    callt rfl rfl fun w hG => rOf21_i a hza w i1,
    callt rfl rfl fun w hG => rOf21_i b hzb w i2,
    callt rfl rfl fun w hG => ACheck_any a w hza,
    callt rfl rfl fun w hG => ACmp_k a b w hza hzb ka kb,
    callt rfl rfl fun w hG => AAdd_any a b hza hzb w,
    callt rfl rfl fun w hG => rAdd_k (anA a) (anA b) w (anA_ok0 ka) (anA_ok0 kb),
    callt rfl rfl fun w hG => rCmp21_c (anA a) (anA b) w (anA_le a) (anA_le b),
    callt rfl rfl fun w hG => is_sum a b w ka kb,
    callt rfl rfl fun w hG => awake21_c w,
    trivial⟩
  have fin : ∀ v, @comes (AngleMakes_pk_k b4 b5) Try.prog glT 3000 AngleMakes_pk_f AngleMakes_pk_a = some v → ground v = true → Ending.returned (gval v) = .returned (.bool true) → Calls Try.prog 3 #[.int .i64 x, .int .i64 y, .agg #[.bool a.g, .string a.s, .string a.t], .agg #[.bool b.g, .string b.s, .string b.t]] w fun e w' => e = .returned (.bool true) ∧ Below w.heap.size w w' := fun v h1 h2 h3 => (@sym_ok _ (AngleMakes_pk_k b4 b5) _ (@KnowOk.of _ (AngleMakes_pk_k b4 b5) _ hops hcalls) (by kernel_rfl) _ _ _ _ h1 rfl h2 _ hG).mono fun e w' h => ⟨h.1.trans h3, h.2⟩
  clear hops hcalls
  exact fin _ (AngleMakes_pk_r1 b4 b5) rfl rfl

@[reducible] def AngleMakes_nk_f : FuncId := 3
@[reducible] def AngleMakes_nk_a : List AV := [.sym 0, .sym 1, .agg [.sym 2, .sym 3, .sym 4], .agg [.sym 5, .sym 6, .sym 7]]
@[reducible] noncomputable def AngleMakes_nk_k (b4 b5 : Bool) : Know := ⟨[([0, 11, 25], [.sym 16, .lit (.int .i64 0)], .lit (.bool true)),
  ([0, 11, 3], [.sym 17, .sym 25], .lit (.bool true)),
  ([0, 11, 3], [.sym 17, .lit (.int .i64 0)], .lit (.bool b4)),
  ([0, 12, 25], [.sym 16, .lit (.int .i64 210)], .lit (.bool (!b5)))],
  [(14, [.sym 0, .sym 1], .tup [.agg [.lit (.bool false), .sym 8, .sym 9], .lit (.int .i64 2)]),
  (15, [.sym 0, .sym 1], .tup [.agg [.sym 10, .sym 11], .lit (.int .i64 2)]),
  (16, [.agg [.lit (.bool false), .sym 8, .sym 9], .lit (.int .i64 2), .agg [.sym 10, .sym 11], .lit (.int .i64 2)], .lit (.bool true)),
  (17, [.agg [.sym 2, .sym 3, .sym 4]], .tup [.agg [.sym 12, .sym 13], .lit (.bool true)]),
  (17, [.agg [.sym 5, .sym 6, .sym 7]], .tup [.agg [.sym 14, .sym 15], .lit (.bool true)]),
  (18, [.agg [.sym 2, .sym 3, .sym 4]], .sym 16),
  (19, [.agg [.sym 2, .sym 3, .sym 4], .agg [.sym 5, .sym 6, .sym 7]], .tup [.sym 17, .lit (.int .i64 0)]),
  (20, [.agg [.sym 2, .sym 3, .sym 4], .agg [.sym 5, .sym 6, .sym 7]], .tup [.agg [.sym 18, .sym 19, .sym 20], .sym 21]),
  (22, [.agg [.sym 12, .sym 13], .agg [.sym 14, .sym 15]], .tup [.agg [.sym 22, .sym 23], .sym 24]),
  (23, [.agg [.sym 12, .sym 13], .agg [.sym 14, .sym 15]], .sym 25),
  (16, [.agg [.sym 18, .sym 19, .sym 20], .sym 21, .agg [.sym 22, .sym 23], .sym 24], .lit (.bool true)),
  (21, [], .lit (.bool true))]⟩
theorem AngleMakes_nk_r1 (b4 b5 : Bool) : @comes (AngleMakes_nk_k b4 b5) Try.prog glT 3000 AngleMakes_nk_f AngleMakes_nk_a = some (.lit (.bool true)) := by kernel_rfl

set_option maxRecDepth 100000 in
set_option maxHeartbeats 4000000 in
theorem AngleMakes_nk (x y : Int) (a b : Rt) (w : World) (hza : a.small) (hzb : b.small) (hm : ¬ (1 ≤ y ∧ y ≤ 2147483647)) (ka : anE a = 0) (kb : anE b = 0) : Calls Try.prog 3 #[.int .i64 x, .int .i64 y, .agg #[.bool a.g, .string a.s, .string a.t], .agg #[.bool b.g, .string b.s, .string b.t]] w fun e w' => e = .returned (.bool true) ∧ Below w.heap.size w w' := by
  have hG : Globs glT w := glT_all w
  have h1 : okB a = true := (anE_iff.1 ka)
  have i1 : true = true ↔ (okB a = true) := ⟨fun _ => h1, fun _ => rfl⟩
  have h2 : okB b = true := (anE_iff.1 kb)
  have i2 : true = true ↔ (okB b = true) := ⟨fun _ => h2, fun _ => rfl⟩
  have h3 : anE a = 0 := ka
  have i3 : true = true ↔ (anE a = 0) := ⟨fun _ => h3, fun _ => rfl⟩
  obtain ⟨b4, i4⟩ := bex (cmp21 ((anA a).n * (anA b).d) ((anA b).n * (anA a).d) = 0)
  obtain ⟨b5, i5⟩ := bex (anE a = 210)
  letI : Env := mkEnv glT [.int .i64 x, .int .i64 y, .bool a.g, .string a.s, .string a.t, .bool b.g, .string b.s, .string b.t, .string ⟨#[]⟩, .string ⟨#[]⟩, .int .u64 ((0 : Nat) : Int), .int .u64 ((0 : Nat) : Int), .int .u64 (((anA a).n : Nat) : Int), .int .u64 (((anA a).d : Nat) : Int), .int .u64 (((anA b).n : Nat) : Int), .int .u64 (((anA b).d : Nat) : Int), .int .i64 (anE a), .int .i64 (cmp21 ((anA a).n * (anA b).d) ((anA b).n * (anA a).d)), .bool (adR a b).g, .string (adR a b).s, .string (adR a b).t, .int .i64 (adF a b), .int .u64 (((rsA (anA a) (anA b)).n : Nat) : Int), .int .u64 (((rsA (anA a) (anA b)).d : Nat) : Int), .int .i64 (adE (anA a) (anA b)), .int .i64 (cmp21 ((anA a).n * (anA b).d) ((anA b).n * (anA a).d))] rfl
  have hops : OpsT Try.prog (@Know.ops (AngleMakes_nk_k b4 b5)) := ⟨opt_eql_i rfl rfl i3,
    opt_eql_t rfl rfl rfl,
    opt_eql_i rfl rfl i4,
    opt_neq_i rfl rfl i5,
    trivial⟩
  have hcalls : CallsT Try.prog (@Know.calls (AngleMakes_nk_k b4 b5)) := ⟨callt rfl rfl fun w hG => AMake_n x y w hm,
    callt rfl rfl fun w hG => rMake_n x y w hm,
    callt rfl rfl fun w hG => is_e ⟨0, 0⟩ 2 w (by decide),
    callt rfl rfl fun w hG => rOf21_i a hza w i1,
    callt rfl rfl fun w hG => rOf21_i b hzb w i2,
    callt rfl rfl fun w hG => ACheck_any a w hza,
    callt rfl rfl fun w hG => ACmp_k a b w hza hzb ka kb,
    callt rfl rfl fun w hG => AAdd_any a b hza hzb w,
    callt rfl rfl fun w hG => rAdd_k (anA a) (anA b) w (anA_ok0 ka) (anA_ok0 kb),
    callt rfl rfl fun w hG => rCmp21_c (anA a) (anA b) w (anA_le a) (anA_le b),
    callt rfl rfl fun w hG => is_sum a b w ka kb,
    callt rfl rfl fun w hG => awake21_c w,
    trivial⟩
  have fin : ∀ v, @comes (AngleMakes_nk_k b4 b5) Try.prog glT 3000 AngleMakes_nk_f AngleMakes_nk_a = some v → ground v = true → Ending.returned (gval v) = .returned (.bool true) → Calls Try.prog 3 #[.int .i64 x, .int .i64 y, .agg #[.bool a.g, .string a.s, .string a.t], .agg #[.bool b.g, .string b.s, .string b.t]] w fun e w' => e = .returned (.bool true) ∧ Below w.heap.size w w' := fun v h1 h2 h3 => (@sym_ok _ (AngleMakes_nk_k b4 b5) _ (@KnowOk.of _ (AngleMakes_nk_k b4 b5) _ hops hcalls) (by kernel_rfl) _ _ _ _ h1 rfl h2 _ hG).mono fun e w' h => ⟨h.1.trans h3, h.2⟩
  clear hops hcalls
  exact fin _ (AngleMakes_nk_r1 b4 b5) rfl rfl

@[reducible] def AngleMakes_pn_f : FuncId := 3
@[reducible] def AngleMakes_pn_a : List AV := [.sym 0, .sym 1, .agg [.sym 2, .sym 3, .sym 4], .agg [.sym 5, .sym 6, .sym 7]]
@[reducible] noncomputable def AngleMakes_pn_k (b1 b2 b3 b7 : Bool) : Know := ⟨[([0, 11, 25], [.sym 16, .lit (.int .i64 0)], .lit (.bool b3)),
  ([0, 11, 25], [.sym 17, .lit (.int .i64 210)], .lit (.bool true)),
  ([0, 11, 24], [.agg [.sym 18, .sym 19, .sym 20], .lit (.agg #[.bool false, .string ⟨#[]⟩, .string ⟨#[]⟩])], .lit (.bool true)),
  ([0, 11, 25], [.sym 21, .lit (.int .i64 210)], .lit (.bool true)),
  ([0, 12, 25], [.sym 16, .lit (.int .i64 210)], .lit (.bool (!b7)))],
  [(14, [.sym 0, .sym 1], .tup [.agg [.lit (.bool false), .sym 8, .sym 9], .lit (.int .i64 0)]),
  (15, [.sym 0, .sym 1], .tup [.agg [.sym 10, .sym 11], .lit (.int .i64 0)]),
  (16, [.agg [.lit (.bool false), .sym 8, .sym 9], .lit (.int .i64 0), .agg [.sym 10, .sym 11], .lit (.int .i64 0)], .lit (.bool true)),
  (17, [.agg [.sym 2, .sym 3, .sym 4]], .tup [.agg [.sym 12, .sym 13], .lit (.bool b1)]),
  (17, [.agg [.sym 5, .sym 6, .sym 7]], .tup [.agg [.sym 14, .sym 15], .lit (.bool b2)]),
  (18, [.agg [.sym 2, .sym 3, .sym 4]], .sym 16),
  (19, [.agg [.sym 2, .sym 3, .sym 4], .agg [.sym 5, .sym 6, .sym 7]], .tup [.lit (.int .i64 0), .sym 17]),
  (20, [.agg [.sym 2, .sym 3, .sym 4], .agg [.sym 5, .sym 6, .sym 7]], .tup [.agg [.sym 18, .sym 19, .sym 20], .sym 21]),
  (21, [], .lit (.bool true))]⟩
theorem AngleMakes_pn_r1 (b7 : Bool) : @comes (AngleMakes_pn_k true false true b7) Try.prog glT 3000 AngleMakes_pn_f AngleMakes_pn_a = some (.lit (.bool true)) := by kernel_rfl
theorem AngleMakes_pn_r2 (b2 : Bool) : @comes (AngleMakes_pn_k false b2 false true) Try.prog glT 3000 AngleMakes_pn_f AngleMakes_pn_a = some (.lit (.bool true)) := by kernel_rfl

set_option maxRecDepth 100000 in
set_option maxHeartbeats 4000000 in
theorem AngleMakes_pn (x y : Int) (a b : Rt) (w : World) (hza : a.small) (hzb : b.small) (l1 : 1 ≤ y) (l2 : y ≤ 2147483647) (hno : ¬ (anE a = 0 ∧ anE b = 0)) : Calls Try.prog 3 #[.int .i64 x, .int .i64 y, .agg #[.bool a.g, .string a.s, .string a.t], .agg #[.bool b.g, .string b.s, .string b.t]] w fun e w' => e = .returned (.bool true) ∧ Below w.heap.size w w' := by
  have hG : Globs glT w := glT_all w
  obtain ⟨b1, i1⟩ := bex (okB a = true)
  obtain ⟨b2, i2⟩ := bex (okB b = true)
  obtain ⟨b3, i3⟩ := bex (anE a = 0)
  have h4 : (210 : Int) = 210 := rfl
  have i4 : true = true ↔ ((210 : Int) = 210) := ⟨fun _ => h4, fun _ => rfl⟩
  have h5 : adR a b = Rt.nul := (adR_n hno)
  have i5 : true = true ↔ (adR a b = Rt.nul) := ⟨fun _ => h5, fun _ => rfl⟩
  have h6 : adF a b = 210 := (adF_n hno)
  have i6 : true = true ↔ (adF a b = 210) := ⟨fun _ => h6, fun _ => rfl⟩
  obtain ⟨b7, i7⟩ := bex (anE a = 210)
  letI : Env := mkEnv glT [.int .i64 x, .int .i64 y, .bool a.g, .string a.s, .string a.t, .bool b.g, .string b.s, .string b.t, .string (natS (mkA x y).n), .string (natS (mkA x y).d), .int .u64 (((mkA x y).n : Nat) : Int), .int .u64 (((mkA x y).d : Nat) : Int), .int .u64 (((anA a).n : Nat) : Int), .int .u64 (((anA a).d : Nat) : Int), .int .u64 (((anA b).n : Nat) : Int), .int .u64 (((anA b).d : Nat) : Int), .int .i64 (anE a), .int .i64 ((210 : Int)), .bool (adR a b).g, .string (adR a b).s, .string (adR a b).t, .int .i64 (adF a b)] rfl
  have hops : OpsT Try.prog (@Know.ops (AngleMakes_pn_k b1 b2 b3 b7)) := ⟨opt_eql_i rfl rfl i3,
    opt_eql_i rfl rfl i4,
    optR_eql_i (a := adR a b) (b := Rt.nul) rfl rfl i5,
    opt_eql_i rfl rfl i6,
    opt_neq_i rfl rfl i7,
    trivial⟩
  have hcalls : CallsT Try.prog (@Know.calls (AngleMakes_pn_k b1 b2 b3 b7)) := ⟨callt rfl rfl fun w hG => AMake_c x y w l1 l2,
    callt rfl rfl fun w hG => rMake_c x y w l1 l2,
    callt rfl rfl fun w hG => is_k (mkA x y) w ((mkA_ok l1 l2).small),
    callt rfl rfl fun w hG => rOf21_i a hza w i1,
    callt rfl rfl fun w hG => rOf21_i b hzb w i2,
    callt rfl rfl fun w hG => ACheck_any a w hza,
    callt rfl rfl fun w hG => ACmp_n a b w hza hzb hno,
    callt rfl rfl fun w hG => AAdd_any a b hza hzb w,
    callt rfl rfl fun w hG => awake21_c w,
    trivial⟩
  have fin : ∀ v, @comes (AngleMakes_pn_k b1 b2 b3 b7) Try.prog glT 3000 AngleMakes_pn_f AngleMakes_pn_a = some v → ground v = true → Ending.returned (gval v) = .returned (.bool true) → Calls Try.prog 3 #[.int .i64 x, .int .i64 y, .agg #[.bool a.g, .string a.s, .string a.t], .agg #[.bool b.g, .string b.s, .string b.t]] w fun e w' => e = .returned (.bool true) ∧ Below w.heap.size w w' := fun v h1 h2 h3 => (@sym_ok _ (AngleMakes_pn_k b1 b2 b3 b7) _ (@KnowOk.of _ (AngleMakes_pn_k b1 b2 b3 b7) _ hops hcalls) (by kernel_rfl) _ _ _ _ h1 rfl h2 _ hG).mono fun e w' h => ⟨h.1.trans h3, h.2⟩
  clear hops hcalls
  cases b1 with
  | true =>
    have h1 : okB a = true := i1.1 rfl
    cases b2 with
    | true =>
      exact absurd (i2.1 rfl) ((fun c => hno ⟨anE_iff.2 h1, anE_iff.2 c⟩))
    | false =>
      have h2 : ¬ (okB b = true) := fun c => Bool.false_ne_true (i2.2 c)
      cases b3 with
      | true =>
        have h3 : anE a = 0 := i3.1 rfl
        exact fin _ (AngleMakes_pn_r1 b7) rfl rfl
      | false =>
        exact absurd (i3.2 ((anE_iff.2 h1))) Bool.false_ne_true
  | false =>
    have h1 : ¬ (okB a = true) := fun c => Bool.false_ne_true (i1.2 c)
    cases b3 with
    | true =>
      exact absurd (i3.1 rfl) ((fun c => h1 (anE_iff.1 c)))
    | false =>
      have h3 : ¬ (anE a = 0) := fun c => Bool.false_ne_true (i3.2 c)
      cases b7 with
      | true =>
        have h7 : anE a = 210 := i7.1 rfl
        exact fin _ (AngleMakes_pn_r2 b2) rfl rfl
      | false =>
        exact absurd (i7.2 ((okB_f h1))) Bool.false_ne_true

@[reducible] def AngleMakes_nn_f : FuncId := 3
@[reducible] def AngleMakes_nn_a : List AV := [.sym 0, .sym 1, .agg [.sym 2, .sym 3, .sym 4], .agg [.sym 5, .sym 6, .sym 7]]
@[reducible] noncomputable def AngleMakes_nn_k (b1 b2 b3 b7 : Bool) : Know := ⟨[([0, 11, 25], [.sym 16, .lit (.int .i64 0)], .lit (.bool b3)),
  ([0, 11, 25], [.sym 17, .lit (.int .i64 210)], .lit (.bool true)),
  ([0, 11, 24], [.agg [.sym 18, .sym 19, .sym 20], .lit (.agg #[.bool false, .string ⟨#[]⟩, .string ⟨#[]⟩])], .lit (.bool true)),
  ([0, 11, 25], [.sym 21, .lit (.int .i64 210)], .lit (.bool true)),
  ([0, 12, 25], [.sym 16, .lit (.int .i64 210)], .lit (.bool (!b7)))],
  [(14, [.sym 0, .sym 1], .tup [.agg [.lit (.bool false), .sym 8, .sym 9], .lit (.int .i64 2)]),
  (15, [.sym 0, .sym 1], .tup [.agg [.sym 10, .sym 11], .lit (.int .i64 2)]),
  (16, [.agg [.lit (.bool false), .sym 8, .sym 9], .lit (.int .i64 2), .agg [.sym 10, .sym 11], .lit (.int .i64 2)], .lit (.bool true)),
  (17, [.agg [.sym 2, .sym 3, .sym 4]], .tup [.agg [.sym 12, .sym 13], .lit (.bool b1)]),
  (17, [.agg [.sym 5, .sym 6, .sym 7]], .tup [.agg [.sym 14, .sym 15], .lit (.bool b2)]),
  (18, [.agg [.sym 2, .sym 3, .sym 4]], .sym 16),
  (19, [.agg [.sym 2, .sym 3, .sym 4], .agg [.sym 5, .sym 6, .sym 7]], .tup [.lit (.int .i64 0), .sym 17]),
  (20, [.agg [.sym 2, .sym 3, .sym 4], .agg [.sym 5, .sym 6, .sym 7]], .tup [.agg [.sym 18, .sym 19, .sym 20], .sym 21]),
  (21, [], .lit (.bool true))]⟩
theorem AngleMakes_nn_r1 (b7 : Bool) : @comes (AngleMakes_nn_k true false true b7) Try.prog glT 3000 AngleMakes_nn_f AngleMakes_nn_a = some (.lit (.bool true)) := by kernel_rfl
theorem AngleMakes_nn_r2 (b2 : Bool) : @comes (AngleMakes_nn_k false b2 false true) Try.prog glT 3000 AngleMakes_nn_f AngleMakes_nn_a = some (.lit (.bool true)) := by kernel_rfl

set_option maxRecDepth 100000 in
set_option maxHeartbeats 4000000 in
theorem AngleMakes_nn (x y : Int) (a b : Rt) (w : World) (hza : a.small) (hzb : b.small) (hm : ¬ (1 ≤ y ∧ y ≤ 2147483647)) (hno : ¬ (anE a = 0 ∧ anE b = 0)) : Calls Try.prog 3 #[.int .i64 x, .int .i64 y, .agg #[.bool a.g, .string a.s, .string a.t], .agg #[.bool b.g, .string b.s, .string b.t]] w fun e w' => e = .returned (.bool true) ∧ Below w.heap.size w w' := by
  have hG : Globs glT w := glT_all w
  obtain ⟨b1, i1⟩ := bex (okB a = true)
  obtain ⟨b2, i2⟩ := bex (okB b = true)
  obtain ⟨b3, i3⟩ := bex (anE a = 0)
  have h4 : (210 : Int) = 210 := rfl
  have i4 : true = true ↔ ((210 : Int) = 210) := ⟨fun _ => h4, fun _ => rfl⟩
  have h5 : adR a b = Rt.nul := (adR_n hno)
  have i5 : true = true ↔ (adR a b = Rt.nul) := ⟨fun _ => h5, fun _ => rfl⟩
  have h6 : adF a b = 210 := (adF_n hno)
  have i6 : true = true ↔ (adF a b = 210) := ⟨fun _ => h6, fun _ => rfl⟩
  obtain ⟨b7, i7⟩ := bex (anE a = 210)
  letI : Env := mkEnv glT [.int .i64 x, .int .i64 y, .bool a.g, .string a.s, .string a.t, .bool b.g, .string b.s, .string b.t, .string ⟨#[]⟩, .string ⟨#[]⟩, .int .u64 ((0 : Nat) : Int), .int .u64 ((0 : Nat) : Int), .int .u64 (((anA a).n : Nat) : Int), .int .u64 (((anA a).d : Nat) : Int), .int .u64 (((anA b).n : Nat) : Int), .int .u64 (((anA b).d : Nat) : Int), .int .i64 (anE a), .int .i64 ((210 : Int)), .bool (adR a b).g, .string (adR a b).s, .string (adR a b).t, .int .i64 (adF a b)] rfl
  have hops : OpsT Try.prog (@Know.ops (AngleMakes_nn_k b1 b2 b3 b7)) := ⟨opt_eql_i rfl rfl i3,
    opt_eql_i rfl rfl i4,
    optR_eql_i (a := adR a b) (b := Rt.nul) rfl rfl i5,
    opt_eql_i rfl rfl i6,
    opt_neq_i rfl rfl i7,
    trivial⟩
  have hcalls : CallsT Try.prog (@Know.calls (AngleMakes_nn_k b1 b2 b3 b7)) := ⟨callt rfl rfl fun w hG => AMake_n x y w hm,
    callt rfl rfl fun w hG => rMake_n x y w hm,
    callt rfl rfl fun w hG => is_e ⟨0, 0⟩ 2 w (by decide),
    callt rfl rfl fun w hG => rOf21_i a hza w i1,
    callt rfl rfl fun w hG => rOf21_i b hzb w i2,
    callt rfl rfl fun w hG => ACheck_any a w hza,
    callt rfl rfl fun w hG => ACmp_n a b w hza hzb hno,
    callt rfl rfl fun w hG => AAdd_any a b hza hzb w,
    callt rfl rfl fun w hG => awake21_c w,
    trivial⟩
  have fin : ∀ v, @comes (AngleMakes_nn_k b1 b2 b3 b7) Try.prog glT 3000 AngleMakes_nn_f AngleMakes_nn_a = some v → ground v = true → Ending.returned (gval v) = .returned (.bool true) → Calls Try.prog 3 #[.int .i64 x, .int .i64 y, .agg #[.bool a.g, .string a.s, .string a.t], .agg #[.bool b.g, .string b.s, .string b.t]] w fun e w' => e = .returned (.bool true) ∧ Below w.heap.size w w' := fun v h1 h2 h3 => (@sym_ok _ (AngleMakes_nn_k b1 b2 b3 b7) _ (@KnowOk.of _ (AngleMakes_nn_k b1 b2 b3 b7) _ hops hcalls) (by kernel_rfl) _ _ _ _ h1 rfl h2 _ hG).mono fun e w' h => ⟨h.1.trans h3, h.2⟩
  clear hops hcalls
  cases b1 with
  | true =>
    have h1 : okB a = true := i1.1 rfl
    cases b2 with
    | true =>
      exact absurd (i2.1 rfl) ((fun c => hno ⟨anE_iff.2 h1, anE_iff.2 c⟩))
    | false =>
      have h2 : ¬ (okB b = true) := fun c => Bool.false_ne_true (i2.2 c)
      cases b3 with
      | true =>
        have h3 : anE a = 0 := i3.1 rfl
        exact fin _ (AngleMakes_nn_r1 b7) rfl rfl
      | false =>
        exact absurd (i3.2 ((anE_iff.2 h1))) Bool.false_ne_true
  | false =>
    have h1 : ¬ (okB a = true) := fun c => Bool.false_ne_true (i1.2 c)
    cases b3 with
    | true =>
      exact absurd (i3.1 rfl) ((fun c => h1 (anE_iff.1 c)))
    | false =>
      have h3 : ¬ (anE a = 0) := fun c => Bool.false_ne_true (i3.2 c)
      cases b7 with
      | true =>
        have h7 : anE a = 210 := i7.1 rfl
        exact fin _ (AngleMakes_nn_r2 b2) rfl rfl
      | false =>
        exact absurd (i7.2 ((okB_f h1))) Bool.false_ne_true

theorem AngleMakes_law (x y : Int) (a b : Rt) (w : World) (hza : a.small) (hzb : b.small) : Calls Try.prog 3 #[.int .i64 x, .int .i64 y, .agg #[.bool a.g, .string a.s, .string a.t], .agg #[.bool b.g, .string b.s, .string b.t]] w fun e w' => e = .returned (.bool true) ∧ Below w.heap.size w w' := by
  by_cases hk : anE a = 0 ∧ anE b = 0
  · by_cases hm : 1 ≤ y ∧ y ≤ 2147483647
    · exact AngleMakes_pk x y a b w hza hzb hm.1 hm.2 hk.1 hk.2
    · exact AngleMakes_nk x y a b w hza hzb hm hk.1 hk.2
  · by_cases hm : 1 ≤ y ∧ y ≤ 2147483647
    · exact AngleMakes_pn x y a b w hza hzb hm.1 hm.2 hk
    · exact AngleMakes_nn x y a b w hza hzb hm hk

end Go.Proofs.Ytfoldiieclfbgaa
