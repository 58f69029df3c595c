/- Texts put together: VC7 VC4 VC8 G4 G5 G6 VC9 VC10 Post DP GP WP. -/
import Derived.Test.YtamcnnocjelcjaaGreatDoorV6
import Derived.Laws.EntriesVeiled
import Derived.Deep.RegionWith
import Derived.Below
import Derived.ChangeSame
import Derived.Test.YtamcnnocjelcjaaGreatDoorRows
import Derived.ProofKit
import Derived.Lib.SmallJoins
import Derived.OpenShut
import Derived.ShutString
import Derived.Deep.Strs
set_option linter.unusedVariables false
set_option linter.unusedSimpArgs false
namespace Go.Proofs.YtamcnnocjelcjaaGreatDoor
open Go Go.RowKit Nt
theorem VCheck_ok (p q : Dy) (y a b : Int) (w : World) (hp : p.Ok) (hq : q.Ok) (hy : -4096 ≤ y ∧ y ≤ 4096) (ha : 1 ≤ a ∧ a ≤ 65536) (hb : 1 ≤ b ∧ b ≤ 65536) (hG : Globs glT w) : Calls Tryz.prog 15 #[.agg #[.bool p.g, .string (natS p.n), .int .i64 p.x, .bool q.g, .string (natS q.n), .int .i64 q.x, .int .i64 y, .int .i64 a, .int .i64 b]] w fun e w' => e = .returned (.int .i64 0) ∧ Below w.heap.size w w' := by
  have h1 := Dt.small (Dy.ok_t hp)
  have h2 := Dt.small (Dy.ok_t hq)
  have h := VCheck_c (⟨⟨p.t, q.t⟩, y, a, b⟩ : WinT) w ⟨Nat.le_trans h1 (by decide), Nat.le_trans h2 (by decide)⟩ hG
  rw [wE_ok ⟨⟨Dy.ok_t hp, Dy.ok_t hq⟩, hy, ha, hb⟩] at h
  exact h
@[reducible] def VFind_sub_f : FuncId := 6
@[reducible] def VFind_sub_a : List AV := [.agg [.sym 0, .sym 1, .sym 2, .sym 3, .sym 4, .sym 5, .sym 6, .sym 7, .sym 8], .agg [.sym 9, .sym 10, .sym 11, .sym 12, .sym 13, .sym 14]]
@[reducible] noncomputable def VFind_sub_k : Know := ⟨[([0, 12, 31], [.sym 21, .lit (.int .i64 0)], .lit (.bool true))],
  [(15, [.agg [.sym 0, .sym 1, .sym 2, .sym 3, .sym 4, .sym 5, .sym 6, .sym 7, .sym 8]], .lit (.int .i64 0)),
  (19, [.agg [.sym 9, .sym 10, .sym 11, .sym 12, .sym 13, .sym 14]], .lit (.int .i64 0)),
  (20, [.agg [.sym 9, .sym 10, .sym 11, .sym 12, .sym 13, .sym 14], .agg [.sym 0, .sym 1, .sym 2, .sym 3, .sym 4, .sym 5]], .tup [.agg [.sym 15, .sym 16, .sym 17, .sym 18, .sym 19, .sym 20], .sym 21])]⟩
theorem VFind_sub_r1 : @comes VFind_sub_k Tryz.prog glT 3000 VFind_sub_f VFind_sub_a = some (.tup [.lit (.int .i64 0), .lit (.int .i64 0), .sym 21]) := by kernel_rfl
set_option maxRecDepth 100000 in
set_option maxHeartbeats 4000000 in
theorem VFind_sub (p q : Dy) (y a b : Int) (g d : Gs) (kk : Int) (w : World) (hp : p.Ok) (hq : q.Ok) (hy : -4096 ≤ y ∧ y ≤ 4096) (ha : 1 ≤ a ∧ a ≤ 65536) (hb : 1 ≤ b ∧ b ≤ 65536) (hg : g.Ok) (HS : ∀ w, Globs glT w → Calls Tryz.prog 20 #[.agg #[.bool g.re.g, .string (natS g.re.n), .int .i64 g.re.x, .bool g.im.g, .string (natS g.im.n), .int .i64 g.im.x], .agg #[.bool (p).g, .string (natS (p).n), .int .i64 (p).x, .bool (q).g, .string (natS (q).n), .int .i64 (q).x]] w fun e w' => e = .returned (.tuple #[.agg #[.bool d.re.g, .string (natS d.re.n), .int .i64 d.re.x, .bool d.im.g, .string (natS d.im.n), .int .i64 d.im.x], .int .i64 kk]) ∧ Below w.heap.size w w') (hk : ¬ kk = 0) (hG : Globs glT w) : Calls Tryz.prog 6 #[.agg #[.bool p.g, .string (natS p.n), .int .i64 p.x, .bool q.g, .string (natS q.n), .int .i64 q.x, .int .i64 y, .int .i64 a, .int .i64 b], .agg #[.bool g.re.g, .string (natS g.re.n), .int .i64 g.re.x, .bool g.im.g, .string (natS g.im.n), .int .i64 g.im.x]] w fun e w' => e = .returned (.tuple #[.int .i64 0, .int .i64 0, .int .i64 kk]) ∧ Below w.heap.size w w' := by
  have h1 : ¬ (kk = 0) := hk
  have i1 : false = true ↔ (kk = 0) := ⟨fun k => absurd k Bool.false_ne_true, fun k => absurd k h1⟩
  letI : Env := mkEnv glT [.bool p.g, .string (natS p.n), .int .i64 p.x, .bool q.g, .string (natS q.n), .int .i64 q.x, .int .i64 y, .int .i64 a, .int .i64 b, .bool g.re.g, .string (natS g.re.n), .int .i64 g.re.x, .bool g.im.g, .string (natS g.im.n), .int .i64 g.im.x, .bool d.re.g, .string (natS d.re.n), .int .i64 d.re.x, .bool d.im.g, .string (natS d.im.n), .int .i64 d.im.x, .int .i64 kk] rfl
  have hops : OpsT Tryz.prog (@Know.ops VFind_sub_k) := ⟨opt_neq_i rfl rfl i1,
    trivial⟩
  have hcalls : CallsT Tryz.prog (@Know.calls VFind_sub_k) := ⟨callt rfl rfl fun w hG => VCheck_ok p q y a b w hp hq hy ha hb hG,
    callt rfl rfl fun w hG => GCheck_gs g hg w hG,
    callt rfl rfl fun w hG => HS w hG,
    trivial⟩
  have fin : ∀ v, @comes VFind_sub_k Tryz.prog glT 3000 VFind_sub_f VFind_sub_a = some v → ground v = true → Ending.returned (gval v) = .returned (.tuple #[.int .i64 0, .int .i64 0, .int .i64 kk]) → Calls Tryz.prog 6 #[.agg #[.bool p.g, .string (natS p.n), .int .i64 p.x, .bool q.g, .string (natS q.n), .int .i64 q.x, .int .i64 y, .int .i64 a, .int .i64 b], .agg #[.bool g.re.g, .string (natS g.re.n), .int .i64 g.re.x, .bool g.im.g, .string (natS g.im.n), .int .i64 g.im.x]] w fun e w' => e = .returned (.tuple #[.int .i64 0, .int .i64 0, .int .i64 kk]) ∧ Below w.heap.size w w' := fun v h1 h2 h3 => (@sym_ok _ VFind_sub_k _ (@KnowOk.of _ VFind_sub_k _ hops hcalls) (by kernel_rfl) _ _ _ _ h1 rfl h2 _ hG).mono fun e w' h => ⟨h.1.trans h3, h.2⟩
  clear hops hcalls
  exact fin _ (VFind_sub_r1) rfl rfl
@[reducible] def VFind_no1t_f : FuncId := 6
@[reducible] def VFind_no1t_a : List AV := [.agg [.sym 0, .sym 1, .sym 2, .sym 3, .sym 4, .sym 5, .sym 6, .sym 7, .sym 8], .agg [.sym 9, .sym 10, .sym 11, .sym 12, .sym 13, .sym 14]]
@[reducible] noncomputable def VFind_no1t_k : Know := ⟨[],
  [(15, [.agg [.sym 0, .sym 1, .sym 2, .sym 3, .sym 4, .sym 5, .sym 6, .sym 7, .sym 8]], .lit (.int .i64 0)),
  (19, [.agg [.sym 9, .sym 10, .sym 11, .sym 12, .sym 13, .sym 14]], .lit (.int .i64 0)),
  (20, [.agg [.sym 9, .sym 10, .sym 11, .sym 12, .sym 13, .sym 14], .agg [.sym 0, .sym 1, .sym 2, .sym 3, .sym 4, .sym 5]], .tup [.agg [.sym 15, .sym 16, .sym 17, .sym 18, .sym 19, .sym 20], .lit (.int .i64 0)]),
  (21, [.agg [.sym 15, .sym 16, .sym 17], .sym 7, .sym 6], .tup [.sym 21, .lit (.bool false)]),
  (22, [.agg [.sym 18, .sym 19, .sym 20]], .agg [.sym 22, .sym 23, .sym 24]),
  (21, [.agg [.sym 22, .sym 23, .sym 24], .sym 8, .sym 6], .tup [.sym 25, .lit (.bool true)])]⟩
theorem VFind_no1t_r1 : @comes VFind_no1t_k Tryz.prog glT 3000 VFind_no1t_f VFind_no1t_a = some (.lit (.tuple #[.int .i64 0, .int .i64 0, .int .i64 241])) := by kernel_rfl
set_option maxRecDepth 100000 in
set_option maxHeartbeats 4000000 in
theorem VFind_no1t (p q : Dy) (y a b : Int) (g d : Gs) (t : Dy) (m n : Int) (w : World) (hp : p.Ok) (hq : q.Ok) (hy : -4096 ≤ y ∧ y ≤ 4096) (ha : 1 ≤ a ∧ a ≤ 65536) (hb : 1 ≤ b ∧ b ≤ 65536) (hg : g.Ok) (HS : ∀ w, Globs glT w → Calls Tryz.prog 20 #[.agg #[.bool g.re.g, .string (natS g.re.n), .int .i64 g.re.x, .bool g.im.g, .string (natS g.im.n), .int .i64 g.im.x], .agg #[.bool (p).g, .string (natS (p).n), .int .i64 (p).x, .bool (q).g, .string (natS (q).n), .int .i64 (q).x]] w fun e w' => e = .returned (.tuple #[.agg #[.bool d.re.g, .string (natS d.re.n), .int .i64 d.re.x, .bool d.im.g, .string (natS d.im.n), .int .i64 d.im.x], .int .i64 0]) ∧ Below w.heap.size w w') (HL : ∀ w, Globs glT w → Calls Tryz.prog 21 #[.agg #[.bool d.re.g, .string (natS d.re.n), .int .i64 d.re.x], .int .i64 a, .int .i64 y] w fun e w' => e = .returned (.tuple #[.int .i64 m, .bool false]) ∧ Below w.heap.size w w') (HN : ∀ w, Globs glT w → Calls Tryz.prog 22 #[.agg #[.bool d.im.g, .string (natS d.im.n), .int .i64 d.im.x]] w fun e w' => e = .returned (.agg #[.bool t.g, .string (natS t.n), .int .i64 t.x]) ∧ Below w.heap.size w w') (HT : ∀ w, Globs glT w → Calls Tryz.prog 21 #[.agg #[.bool t.g, .string (natS t.n), .int .i64 t.x], .int .i64 b, .int .i64 y] w fun e w' => e = .returned (.tuple #[.int .i64 n, .bool true]) ∧ Below w.heap.size w w') (hG : Globs glT w) : Calls Tryz.prog 6 #[.agg #[.bool p.g, .string (natS p.n), .int .i64 p.x, .bool q.g, .string (natS q.n), .int .i64 q.x, .int .i64 y, .int .i64 a, .int .i64 b], .agg #[.bool g.re.g, .string (natS g.re.n), .int .i64 g.re.x, .bool g.im.g, .string (natS g.im.n), .int .i64 g.im.x]] w fun e w' => e = .returned (.tuple #[.int .i64 0, .int .i64 0, .int .i64 241]) ∧ Below w.heap.size w w' := by
  letI : Env := mkEnv glT [.bool p.g, .string (natS p.n), .int .i64 p.x, .bool q.g, .string (natS q.n), .int .i64 q.x, .int .i64 y, .int .i64 a, .int .i64 b, .bool g.re.g, .string (natS g.re.n), .int .i64 g.re.x, .bool g.im.g, .string (natS g.im.n), .int .i64 g.im.x, .bool d.re.g, .string (natS d.re.n), .int .i64 d.re.x, .bool d.im.g, .string (natS d.im.n), .int .i64 d.im.x, .int .i64 m, .bool t.g, .string (natS t.n), .int .i64 t.x, .int .i64 n] rfl
  have hops : OpsT Tryz.prog (@Know.ops VFind_no1t_k) := trivial
  have hcalls : CallsT Tryz.prog (@Know.calls VFind_no1t_k) := ⟨callt rfl rfl fun w hG => VCheck_ok p q y a b w hp hq hy ha hb hG,
    callt rfl rfl fun w hG => GCheck_gs g hg w hG,
    callt rfl rfl fun w hG => HS w hG,
    callt rfl rfl fun w hG => HL w hG,
    callt rfl rfl fun w hG => HN w hG,
    callt rfl rfl fun w hG => HT w hG,
    trivial⟩
  have fin : ∀ v, @comes VFind_no1t_k Tryz.prog glT 3000 VFind_no1t_f VFind_no1t_a = some v → ground v = true → Ending.returned (gval v) = .returned (.tuple #[.int .i64 0, .int .i64 0, .int .i64 241]) → Calls Tryz.prog 6 #[.agg #[.bool p.g, .string (natS p.n), .int .i64 p.x, .bool q.g, .string (natS q.n), .int .i64 q.x, .int .i64 y, .int .i64 a, .int .i64 b], .agg #[.bool g.re.g, .string (natS g.re.n), .int .i64 g.re.x, .bool g.im.g, .string (natS g.im.n), .int .i64 g.im.x]] w fun e w' => e = .returned (.tuple #[.int .i64 0, .int .i64 0, .int .i64 241]) ∧ Below w.heap.size w w' := fun v h1 h2 h3 => (@sym_ok _ VFind_no1t_k _ (@KnowOk.of _ VFind_no1t_k _ hops hcalls) (by kernel_rfl) _ _ _ _ h1 rfl h2 _ hG).mono fun e w' h => ⟨h.1.trans h3, h.2⟩
  clear hops hcalls
  exact fin _ (VFind_no1t_r1) rfl rfl
@[reducible] def VFind_no1f_f : FuncId := 6
@[reducible] def VFind_no1f_a : List AV := [.agg [.sym 0, .sym 1, .sym 2, .sym 3, .sym 4, .sym 5, .sym 6, .sym 7, .sym 8], .agg [.sym 9, .sym 10, .sym 11, .sym 12, .sym 13, .sym 14]]
@[reducible] noncomputable def VFind_no1f_k : Know := ⟨[],
  [(15, [.agg [.sym 0, .sym 1, .sym 2, .sym 3, .sym 4, .sym 5, .sym 6, .sym 7, .sym 8]], .lit (.int .i64 0)),
  (19, [.agg [.sym 9, .sym 10, .sym 11, .sym 12, .sym 13, .sym 14]], .lit (.int .i64 0)),
  (20, [.agg [.sym 9, .sym 10, .sym 11, .sym 12, .sym 13, .sym 14], .agg [.sym 0, .sym 1, .sym 2, .sym 3, .sym 4, .sym 5]], .tup [.agg [.sym 15, .sym 16, .sym 17, .sym 18, .sym 19, .sym 20], .lit (.int .i64 0)]),
  (21, [.agg [.sym 15, .sym 16, .sym 17], .sym 7, .sym 6], .tup [.sym 21, .lit (.bool false)]),
  (22, [.agg [.sym 18, .sym 19, .sym 20]], .agg [.sym 22, .sym 23, .sym 24]),
  (21, [.agg [.sym 22, .sym 23, .sym 24], .sym 8, .sym 6], .tup [.sym 25, .lit (.bool false)])]⟩
theorem VFind_no1f_r1 : @comes VFind_no1f_k Tryz.prog glT 3000 VFind_no1f_f VFind_no1f_a = some (.lit (.tuple #[.int .i64 0, .int .i64 0, .int .i64 241])) := by kernel_rfl
set_option maxRecDepth 100000 in
set_option maxHeartbeats 4000000 in
theorem VFind_no1f (p q : Dy) (y a b : Int) (g d : Gs) (t : Dy) (m n : Int) (w : World) (hp : p.Ok) (hq : q.Ok) (hy : -4096 ≤ y ∧ y ≤ 4096) (ha : 1 ≤ a ∧ a ≤ 65536) (hb : 1 ≤ b ∧ b ≤ 65536) (hg : g.Ok) (HS : ∀ w, Globs glT w → Calls Tryz.prog 20 #[.agg #[.bool g.re.g, .string (natS g.re.n), .int .i64 g.re.x, .bool g.im.g, .string (natS g.im.n), .int .i64 g.im.x], .agg #[.bool (p).g, .string (natS (p).n), .int .i64 (p).x, .bool (q).g, .string (natS (q).n), .int .i64 (q).x]] w fun e w' => e = .returned (.tuple #[.agg #[.bool d.re.g, .string (natS d.re.n), .int .i64 d.re.x, .bool d.im.g, .string (natS d.im.n), .int .i64 d.im.x], .int .i64 0]) ∧ Below w.heap.size w w') (HL : ∀ w, Globs glT w → Calls Tryz.prog 21 #[.agg #[.bool d.re.g, .string (natS d.re.n), .int .i64 d.re.x], .int .i64 a, .int .i64 y] w fun e w' => e = .returned (.tuple #[.int .i64 m, .bool false]) ∧ Below w.heap.size w w') (HN : ∀ w, Globs glT w → Calls Tryz.prog 22 #[.agg #[.bool d.im.g, .string (natS d.im.n), .int .i64 d.im.x]] w fun e w' => e = .returned (.agg #[.bool t.g, .string (natS t.n), .int .i64 t.x]) ∧ Below w.heap.size w w') (HT : ∀ w, Globs glT w → Calls Tryz.prog 21 #[.agg #[.bool t.g, .string (natS t.n), .int .i64 t.x], .int .i64 b, .int .i64 y] w fun e w' => e = .returned (.tuple #[.int .i64 n, .bool false]) ∧ Below w.heap.size w w') (hG : Globs glT w) : Calls Tryz.prog 6 #[.agg #[.bool p.g, .string (natS p.n), .int .i64 p.x, .bool q.g, .string (natS q.n), .int .i64 q.x, .int .i64 y, .int .i64 a, .int .i64 b], .agg #[.bool g.re.g, .string (natS g.re.n), .int .i64 g.re.x, .bool g.im.g, .string (natS g.im.n), .int .i64 g.im.x]] w fun e w' => e = .returned (.tuple #[.int .i64 0, .int .i64 0, .int .i64 241]) ∧ Below w.heap.size w w' := by
  letI : Env := mkEnv glT [.bool p.g, .string (natS p.n), .int .i64 p.x, .bool q.g, .string (natS q.n), .int .i64 q.x, .int .i64 y, .int .i64 a, .int .i64 b, .bool g.re.g, .string (natS g.re.n), .int .i64 g.re.x, .bool g.im.g, .string (natS g.im.n), .int .i64 g.im.x, .bool d.re.g, .string (natS d.re.n), .int .i64 d.re.x, .bool d.im.g, .string (natS d.im.n), .int .i64 d.im.x, .int .i64 m, .bool t.g, .string (natS t.n), .int .i64 t.x, .int .i64 n] rfl
  have hops : OpsT Tryz.prog (@Know.ops VFind_no1f_k) := trivial
  have hcalls : CallsT Tryz.prog (@Know.calls VFind_no1f_k) := ⟨callt rfl rfl fun w hG => VCheck_ok p q y a b w hp hq hy ha hb hG,
    callt rfl rfl fun w hG => GCheck_gs g hg w hG,
    callt rfl rfl fun w hG => HS w hG,
    callt rfl rfl fun w hG => HL w hG,
    callt rfl rfl fun w hG => HN w hG,
    callt rfl rfl fun w hG => HT w hG,
    trivial⟩
  have fin : ∀ v, @comes VFind_no1f_k Tryz.prog glT 3000 VFind_no1f_f VFind_no1f_a = some v → ground v = true → Ending.returned (gval v) = .returned (.tuple #[.int .i64 0, .int .i64 0, .int .i64 241]) → Calls Tryz.prog 6 #[.agg #[.bool p.g, .string (natS p.n), .int .i64 p.x, .bool q.g, .string (natS q.n), .int .i64 q.x, .int .i64 y, .int .i64 a, .int .i64 b], .agg #[.bool g.re.g, .string (natS g.re.n), .int .i64 g.re.x, .bool g.im.g, .string (natS g.im.n), .int .i64 g.im.x]] w fun e w' => e = .returned (.tuple #[.int .i64 0, .int .i64 0, .int .i64 241]) ∧ Below w.heap.size w w' := fun v h1 h2 h3 => (@sym_ok _ VFind_no1f_k _ (@KnowOk.of _ VFind_no1f_k _ hops hcalls) (by kernel_rfl) _ _ _ _ h1 rfl h2 _ hG).mono fun e w' h => ⟨h.1.trans h3, h.2⟩
  clear hops hcalls
  exact fin _ (VFind_no1f_r1) rfl rfl
@[reducible] def VFind_no2_f : FuncId := 6
@[reducible] def VFind_no2_a : List AV := [.agg [.sym 0, .sym 1, .sym 2, .sym 3, .sym 4, .sym 5, .sym 6, .sym 7, .sym 8], .agg [.sym 9, .sym 10, .sym 11, .sym 12, .sym 13, .sym 14]]
@[reducible] noncomputable def VFind_no2_k : Know := ⟨[],
  [(15, [.agg [.sym 0, .sym 1, .sym 2, .sym 3, .sym 4, .sym 5, .sym 6, .sym 7, .sym 8]], .lit (.int .i64 0)),
  (19, [.agg [.sym 9, .sym 10, .sym 11, .sym 12, .sym 13, .sym 14]], .lit (.int .i64 0)),
  (20, [.agg [.sym 9, .sym 10, .sym 11, .sym 12, .sym 13, .sym 14], .agg [.sym 0, .sym 1, .sym 2, .sym 3, .sym 4, .sym 5]], .tup [.agg [.sym 15, .sym 16, .sym 17, .sym 18, .sym 19, .sym 20], .lit (.int .i64 0)]),
  (21, [.agg [.sym 15, .sym 16, .sym 17], .sym 7, .sym 6], .tup [.sym 21, .lit (.bool true)]),
  (22, [.agg [.sym 18, .sym 19, .sym 20]], .agg [.sym 22, .sym 23, .sym 24]),
  (21, [.agg [.sym 22, .sym 23, .sym 24], .sym 8, .sym 6], .tup [.sym 25, .lit (.bool false)])]⟩
theorem VFind_no2_r1 : @comes VFind_no2_k Tryz.prog glT 3000 VFind_no2_f VFind_no2_a = some (.lit (.tuple #[.int .i64 0, .int .i64 0, .int .i64 241])) := by kernel_rfl
set_option maxRecDepth 100000 in
set_option maxHeartbeats 4000000 in
theorem VFind_no2 (p q : Dy) (y a b : Int) (g d : Gs) (t : Dy) (m n : Int) (w : World) (hp : p.Ok) (hq : q.Ok) (hy : -4096 ≤ y ∧ y ≤ 4096) (ha : 1 ≤ a ∧ a ≤ 65536) (hb : 1 ≤ b ∧ b ≤ 65536) (hg : g.Ok) (HS : ∀ w, Globs glT w → Calls Tryz.prog 20 #[.agg #[.bool g.re.g, .string (natS g.re.n), .int .i64 g.re.x, .bool g.im.g, .string (natS g.im.n), .int .i64 g.im.x], .agg #[.bool (p).g, .string (natS (p).n), .int .i64 (p).x, .bool (q).g, .string (natS (q).n), .int .i64 (q).x]] w fun e w' => e = .returned (.tuple #[.agg #[.bool d.re.g, .string (natS d.re.n), .int .i64 d.re.x, .bool d.im.g, .string (natS d.im.n), .int .i64 d.im.x], .int .i64 0]) ∧ Below w.heap.size w w') (HL : ∀ w, Globs glT w → Calls Tryz.prog 21 #[.agg #[.bool d.re.g, .string (natS d.re.n), .int .i64 d.re.x], .int .i64 a, .int .i64 y] w fun e w' => e = .returned (.tuple #[.int .i64 m, .bool true]) ∧ Below w.heap.size w w') (HN : ∀ w, Globs glT w → Calls Tryz.prog 22 #[.agg #[.bool d.im.g, .string (natS d.im.n), .int .i64 d.im.x]] w fun e w' => e = .returned (.agg #[.bool t.g, .string (natS t.n), .int .i64 t.x]) ∧ Below w.heap.size w w') (HT : ∀ w, Globs glT w → Calls Tryz.prog 21 #[.agg #[.bool t.g, .string (natS t.n), .int .i64 t.x], .int .i64 b, .int .i64 y] w fun e w' => e = .returned (.tuple #[.int .i64 n, .bool false]) ∧ Below w.heap.size w w') (hG : Globs glT w) : Calls Tryz.prog 6 #[.agg #[.bool p.g, .string (natS p.n), .int .i64 p.x, .bool q.g, .string (natS q.n), .int .i64 q.x, .int .i64 y, .int .i64 a, .int .i64 b], .agg #[.bool g.re.g, .string (natS g.re.n), .int .i64 g.re.x, .bool g.im.g, .string (natS g.im.n), .int .i64 g.im.x]] w fun e w' => e = .returned (.tuple #[.int .i64 0, .int .i64 0, .int .i64 241]) ∧ Below w.heap.size w w' := by
  letI : Env := mkEnv glT [.bool p.g, .string (natS p.n), .int .i64 p.x, .bool q.g, .string (natS q.n), .int .i64 q.x, .int .i64 y, .int .i64 a, .int .i64 b, .bool g.re.g, .string (natS g.re.n), .int .i64 g.re.x, .bool g.im.g, .string (natS g.im.n), .int .i64 g.im.x, .bool d.re.g, .string (natS d.re.n), .int .i64 d.re.x, .bool d.im.g, .string (natS d.im.n), .int .i64 d.im.x, .int .i64 m, .bool t.g, .string (natS t.n), .int .i64 t.x, .int .i64 n] rfl
  have hops : OpsT Tryz.prog (@Know.ops VFind_no2_k) := trivial
  have hcalls : CallsT Tryz.prog (@Know.calls VFind_no2_k) := ⟨callt rfl rfl fun w hG => VCheck_ok p q y a b w hp hq hy ha hb hG,
    callt rfl rfl fun w hG => GCheck_gs g hg w hG,
    callt rfl rfl fun w hG => HS w hG,
    callt rfl rfl fun w hG => HL w hG,
    callt rfl rfl fun w hG => HN w hG,
    callt rfl rfl fun w hG => HT w hG,
    trivial⟩
  have fin : ∀ v, @comes VFind_no2_k Tryz.prog glT 3000 VFind_no2_f VFind_no2_a = some v → ground v = true → Ending.returned (gval v) = .returned (.tuple #[.int .i64 0, .int .i64 0, .int .i64 241]) → Calls Tryz.prog 6 #[.agg #[.bool p.g, .string (natS p.n), .int .i64 p.x, .bool q.g, .string (natS q.n), .int .i64 q.x, .int .i64 y, .int .i64 a, .int .i64 b], .agg #[.bool g.re.g, .string (natS g.re.n), .int .i64 g.re.x, .bool g.im.g, .string (natS g.im.n), .int .i64 g.im.x]] w fun e w' => e = .returned (.tuple #[.int .i64 0, .int .i64 0, .int .i64 241]) ∧ Below w.heap.size w w' := fun v h1 h2 h3 => (@sym_ok _ VFind_no2_k _ (@KnowOk.of _ VFind_no2_k _ hops hcalls) (by kernel_rfl) _ _ _ _ h1 rfl h2 _ hG).mono fun e w' h => ⟨h.1.trans h3, h.2⟩
  clear hops hcalls
  exact fin _ (VFind_no2_r1) rfl rfl
@[reducible] def VFind_yes_f : FuncId := 6
@[reducible] def VFind_yes_a : List AV := [.agg [.sym 0, .sym 1, .sym 2, .sym 3, .sym 4, .sym 5, .sym 6, .sym 7, .sym 8], .agg [.sym 9, .sym 10, .sym 11, .sym 12, .sym 13, .sym 14]]
@[reducible] noncomputable def VFind_yes_k : Know := ⟨[],
  [(15, [.agg [.sym 0, .sym 1, .sym 2, .sym 3, .sym 4, .sym 5, .sym 6, .sym 7, .sym 8]], .lit (.int .i64 0)),
  (19, [.agg [.sym 9, .sym 10, .sym 11, .sym 12, .sym 13, .sym 14]], .lit (.int .i64 0)),
  (20, [.agg [.sym 9, .sym 10, .sym 11, .sym 12, .sym 13, .sym 14], .agg [.sym 0, .sym 1, .sym 2, .sym 3, .sym 4, .sym 5]], .tup [.agg [.sym 15, .sym 16, .sym 17, .sym 18, .sym 19, .sym 20], .lit (.int .i64 0)]),
  (21, [.agg [.sym 15, .sym 16, .sym 17], .sym 7, .sym 6], .tup [.sym 21, .lit (.bool true)]),
  (22, [.agg [.sym 18, .sym 19, .sym 20]], .agg [.sym 22, .sym 23, .sym 24]),
  (21, [.agg [.sym 22, .sym 23, .sym 24], .sym 8, .sym 6], .tup [.sym 25, .lit (.bool true)])]⟩
theorem VFind_yes_r1 : @comes VFind_yes_k Tryz.prog glT 3000 VFind_yes_f VFind_yes_a = some (.tup [.sym 21, .sym 25, .lit (.int .i64 0)]) := by kernel_rfl
set_option maxRecDepth 100000 in
set_option maxHeartbeats 4000000 in
theorem VFind_yes (p q : Dy) (y a b : Int) (g d : Gs) (t : Dy) (m n : Int) (w : World) (hp : p.Ok) (hq : q.Ok) (hy : -4096 ≤ y ∧ y ≤ 4096) (ha : 1 ≤ a ∧ a ≤ 65536) (hb : 1 ≤ b ∧ b ≤ 65536) (hg : g.Ok) (HS : ∀ w, Globs glT w → Calls Tryz.prog 20 #[.agg #[.bool g.re.g, .string (natS g.re.n), .int .i64 g.re.x, .bool g.im.g, .string (natS g.im.n), .int .i64 g.im.x], .agg #[.bool (p).g, .string (natS (p).n), .int .i64 (p).x, .bool (q).g, .string (natS (q).n), .int .i64 (q).x]] w fun e w' => e = .returned (.tuple #[.agg #[.bool d.re.g, .string (natS d.re.n), .int .i64 d.re.x, .bool d.im.g, .string (natS d.im.n), .int .i64 d.im.x], .int .i64 0]) ∧ Below w.heap.size w w') (HL : ∀ w, Globs glT w → Calls Tryz.prog 21 #[.agg #[.bool d.re.g, .string (natS d.re.n), .int .i64 d.re.x], .int .i64 a, .int .i64 y] w fun e w' => e = .returned (.tuple #[.int .i64 m, .bool true]) ∧ Below w.heap.size w w') (HN : ∀ w, Globs glT w → Calls Tryz.prog 22 #[.agg #[.bool d.im.g, .string (natS d.im.n), .int .i64 d.im.x]] w fun e w' => e = .returned (.agg #[.bool t.g, .string (natS t.n), .int .i64 t.x]) ∧ Below w.heap.size w w') (HT : ∀ w, Globs glT w → Calls Tryz.prog 21 #[.agg #[.bool t.g, .string (natS t.n), .int .i64 t.x], .int .i64 b, .int .i64 y] w fun e w' => e = .returned (.tuple #[.int .i64 n, .bool true]) ∧ Below w.heap.size w w') (hG : Globs glT w) : Calls Tryz.prog 6 #[.agg #[.bool p.g, .string (natS p.n), .int .i64 p.x, .bool q.g, .string (natS q.n), .int .i64 q.x, .int .i64 y, .int .i64 a, .int .i64 b], .agg #[.bool g.re.g, .string (natS g.re.n), .int .i64 g.re.x, .bool g.im.g, .string (natS g.im.n), .int .i64 g.im.x]] w fun e w' => e = .returned (.tuple #[.int .i64 m, .int .i64 n, .int .i64 0]) ∧ Below w.heap.size w w' := by
  letI : Env := mkEnv glT [.bool p.g, .string (natS p.n), .int .i64 p.x, .bool q.g, .string (natS q.n), .int .i64 q.x, .int .i64 y, .int .i64 a, .int .i64 b, .bool g.re.g, .string (natS g.re.n), .int .i64 g.re.x, .bool g.im.g, .string (natS g.im.n), .int .i64 g.im.x, .bool d.re.g, .string (natS d.re.n), .int .i64 d.re.x, .bool d.im.g, .string (natS d.im.n), .int .i64 d.im.x, .int .i64 m, .bool t.g, .string (natS t.n), .int .i64 t.x, .int .i64 n] rfl
  have hops : OpsT Tryz.prog (@Know.ops VFind_yes_k) := trivial
  have hcalls : CallsT Tryz.prog (@Know.calls VFind_yes_k) := ⟨callt rfl rfl fun w hG => VCheck_ok p q y a b w hp hq hy ha hb hG,
    callt rfl rfl fun w hG => GCheck_gs g hg w hG,
    callt rfl rfl fun w hG => HS w hG,
    callt rfl rfl fun w hG => HL w hG,
    callt rfl rfl fun w hG => HN w hG,
    callt rfl rfl fun w hG => HT w hG,
    trivial⟩
  have fin : ∀ v, @comes VFind_yes_k Tryz.prog glT 3000 VFind_yes_f VFind_yes_a = some v → ground v = true → Ending.returned (gval v) = .returned (.tuple #[.int .i64 m, .int .i64 n, .int .i64 0]) → Calls Tryz.prog 6 #[.agg #[.bool p.g, .string (natS p.n), .int .i64 p.x, .bool q.g, .string (natS q.n), .int .i64 q.x, .int .i64 y, .int .i64 a, .int .i64 b], .agg #[.bool g.re.g, .string (natS g.re.n), .int .i64 g.re.x, .bool g.im.g, .string (natS g.im.n), .int .i64 g.im.x]] w fun e w' => e = .returned (.tuple #[.int .i64 m, .int .i64 n, .int .i64 0]) ∧ Below w.heap.size w w' := fun v h1 h2 h3 => (@sym_ok _ VFind_yes_k _ (@KnowOk.of _ VFind_yes_k _ hops hcalls) (by kernel_rfl) _ _ _ _ h1 rfl h2 _ hG).mono fun e w' h => ⟨h.1.trans h3, h.2⟩
  clear hops hcalls
  exact fin _ (VFind_yes_r1) rfl rfl
@[reducible] def VFind_g_f : FuncId := 6
@[reducible] def VFind_g_a : List AV := [.agg [.sym 0, .sym 1, .sym 2, .sym 3, .sym 4, .sym 5, .sym 6, .sym 7, .sym 8], .agg [.sym 9, .sym 10, .sym 11, .sym 12, .sym 13, .sym 14]]
@[reducible] noncomputable def VFind_g_k : Know := ⟨[],
  [(15, [.agg [.sym 0, .sym 1, .sym 2, .sym 3, .sym 4, .sym 5, .sym 6, .sym 7, .sym 8]], .lit (.int .i64 0)),
  (19, [.agg [.sym 9, .sym 10, .sym 11, .sym 12, .sym 13, .sym 14]], .lit (.int .i64 2))]⟩
theorem VFind_g_r1 : @comes VFind_g_k Tryz.prog glT 3000 VFind_g_f VFind_g_a = some (.lit (.tuple #[.int .i64 0, .int .i64 0, .int .i64 2])) := by kernel_rfl
set_option maxRecDepth 100000 in
set_option maxHeartbeats 4000000 in
theorem VFind_g (p q : Dy) (y a b : Int) (g : Gt) (w : World) (hp : p.Ok) (hq : q.Ok) (hy : -4096 ≤ y ∧ y ≤ 4096) (ha : 1 ≤ a ∧ a ≤ 65536) (hb : 1 ≤ b ∧ b ≤ 65536) (zg : g.Small) (hn : ¬ g.Ok) (hG : Globs glT w) : Calls Tryz.prog 6 #[.agg #[.bool p.g, .string (natS p.n), .int .i64 p.x, .bool q.g, .string (natS q.n), .int .i64 q.x, .int .i64 y, .int .i64 a, .int .i64 b], .agg #[.bool g.re.g, .string g.re.s, .int .i64 g.re.x, .bool g.im.g, .string g.im.s, .int .i64 g.im.x]] w fun e w' => e = .returned (.tuple #[.int .i64 0, .int .i64 0, .int .i64 2]) ∧ Below w.heap.size w w' := by
  letI : Env := mkEnv glT [.bool p.g, .string (natS p.n), .int .i64 p.x, .bool q.g, .string (natS q.n), .int .i64 q.x, .int .i64 y, .int .i64 a, .int .i64 b, .bool g.re.g, .string g.re.s, .int .i64 g.re.x, .bool g.im.g, .string g.im.s, .int .i64 g.im.x] rfl
  have hops : OpsT Tryz.prog (@Know.ops VFind_g_k) := trivial
  have hcalls : CallsT Tryz.prog (@Know.calls VFind_g_k) := ⟨callt rfl rfl fun w hG => VCheck_ok p q y a b w hp hq hy ha hb hG,
    callt rfl rfl fun w hG => GCheck_no g zg hn w hG,
    trivial⟩
  have fin : ∀ v, @comes VFind_g_k Tryz.prog glT 3000 VFind_g_f VFind_g_a = some v → ground v = true → Ending.returned (gval v) = .returned (.tuple #[.int .i64 0, .int .i64 0, .int .i64 2]) → Calls Tryz.prog 6 #[.agg #[.bool p.g, .string (natS p.n), .int .i64 p.x, .bool q.g, .string (natS q.n), .int .i64 q.x, .int .i64 y, .int .i64 a, .int .i64 b], .agg #[.bool g.re.g, .string g.re.s, .int .i64 g.re.x, .bool g.im.g, .string g.im.s, .int .i64 g.im.x]] w fun e w' => e = .returned (.tuple #[.int .i64 0, .int .i64 0, .int .i64 2]) ∧ Below w.heap.size w w' := fun v h1 h2 h3 => (@sym_ok _ VFind_g_k _ (@KnowOk.of _ VFind_g_k _ hops hcalls) (by kernel_rfl) _ _ _ _ h1 rfl h2 _ hG).mono fun e w' h => ⟨h.1.trans h3, h.2⟩
  clear hops hcalls
  exact fin _ (VFind_g_r1) rfl rfl
@[reducible] def VFind_w_f : FuncId := 6
@[reducible] def VFind_w_a : List AV := [.agg [.sym 0, .sym 1, .sym 2, .sym 3, .sym 4, .sym 5, .sym 6, .sym 7, .sym 8], .agg [.sym 9, .sym 10, .sym 11, .sym 12, .sym 13, .sym 14]]
@[reducible] noncomputable def VFind_w_k : Know := ⟨[],
  [(15, [.agg [.sym 0, .sym 1, .sym 2, .sym 3, .sym 4, .sym 5, .sym 6, .sym 7, .sym 8]], .lit (.int .i64 240))]⟩
theorem VFind_w_r1 : @comes VFind_w_k Tryz.prog glT 3000 VFind_w_f VFind_w_a = some (.lit (.tuple #[.int .i64 0, .int .i64 0, .int .i64 240])) := by kernel_rfl
set_option maxRecDepth 100000 in
set_option maxHeartbeats 4000000 in
theorem VFind_w (p q : Dt) (y a b : Int) (g : Gt) (w : World) (hn : True) (HC : ∀ w, Globs glT w → Calls Tryz.prog 15 #[.agg #[.bool p.g, .string p.s, .int .i64 p.x, .bool q.g, .string q.s, .int .i64 q.x, .int .i64 y, .int .i64 a, .int .i64 b]] w fun e w' => e = .returned (.int .i64 240) ∧ Below w.heap.size w w') (hG : Globs glT w) : Calls Tryz.prog 6 #[.agg #[.bool p.g, .string p.s, .int .i64 p.x, .bool q.g, .string q.s, .int .i64 q.x, .int .i64 y, .int .i64 a, .int .i64 b], .agg #[.bool g.re.g, .string g.re.s, .int .i64 g.re.x, .bool g.im.g, .string g.im.s, .int .i64 g.im.x]] w fun e w' => e = .returned (.tuple #[.int .i64 0, .int .i64 0, .int .i64 240]) ∧ Below w.heap.size w w' := by
  letI : Env := mkEnv glT [.bool p.g, .string p.s, .int .i64 p.x, .bool q.g, .string q.s, .int .i64 q.x, .int .i64 y, .int .i64 a, .int .i64 b, .bool g.re.g, .string g.re.s, .int .i64 g.re.x, .bool g.im.g, .string g.im.s, .int .i64 g.im.x] rfl
  have hops : OpsT Tryz.prog (@Know.ops VFind_w_k) := trivial
  have hcalls : CallsT Tryz.prog (@Know.calls VFind_w_k) := ⟨callt rfl rfl fun w hG => HC w hG,
    trivial⟩
  have fin : ∀ v, @comes VFind_w_k Tryz.prog glT 3000 VFind_w_f VFind_w_a = some v → ground v = true → Ending.returned (gval v) = .returned (.tuple #[.int .i64 0, .int .i64 0, .int .i64 240]) → Calls Tryz.prog 6 #[.agg #[.bool p.g, .string p.s, .int .i64 p.x, .bool q.g, .string q.s, .int .i64 q.x, .int .i64 y, .int .i64 a, .int .i64 b], .agg #[.bool g.re.g, .string g.re.s, .int .i64 g.re.x, .bool g.im.g, .string g.im.s, .int .i64 g.im.x]] w fun e w' => e = .returned (.tuple #[.int .i64 0, .int .i64 0, .int .i64 240]) ∧ Below w.heap.size w w' := fun v h1 h2 h3 => (@sym_ok _ VFind_w_k _ (@KnowOk.of _ VFind_w_k _ hops hcalls) (by kernel_rfl) _ _ _ _ h1 rfl h2 _ hG).mono fun e w' h => ⟨h.1.trans h3, h.2⟩
  clear hops hcalls
  exact fin _ (VFind_w_r1) rfl rfl
@[reducible] def rFind_sub_f : FuncId := 11
@[reducible] def rFind_sub_a : List AV := [.agg [.sym 0, .sym 1, .sym 2, .sym 3, .sym 4, .sym 5, .sym 6, .sym 7, .sym 8], .agg [.sym 9, .sym 10, .sym 11, .sym 12, .sym 13, .sym 14]]
@[reducible] noncomputable def rFind_sub_k : Know := ⟨[([0, 12, 3], [.sym 21, .lit (.int .i64 0)], .lit (.bool true))],
  [(29, [.agg [.sym 9, .sym 10, .sym 11, .sym 12, .sym 13, .sym 14], .agg [.sym 0, .sym 1, .sym 2, .sym 3, .sym 4, .sym 5]], .tup [.agg [.sym 15, .sym 16, .sym 17, .sym 18, .sym 19, .sym 20], .sym 21])]⟩
theorem rFind_sub_r1 : @comes rFind_sub_k Tryz.prog glT 3000 rFind_sub_f rFind_sub_a = some (.lit (.tuple #[.int .i64 0, .int .i64 0, .int .i64 4])) := by kernel_rfl
set_option maxRecDepth 100000 in
set_option maxHeartbeats 4000000 in
theorem rFind_sub (p q : Dy) (y a b : Int) (g d : Gs) (kk : Int) (w : World) (hp : p.Ok) (hq : q.Ok) (hy : -4096 ≤ y ∧ y ≤ 4096) (ha : 1 ≤ a ∧ a ≤ 65536) (hb : 1 ≤ b ∧ b ≤ 65536) (hg : g.Ok) (HS : ∀ w, Globs glT w → Calls Tryz.prog 29 #[.agg #[.bool g.re.g, .string (natS g.re.n), .int .i64 g.re.x, .bool g.im.g, .string (natS g.im.n), .int .i64 g.im.x], .agg #[.bool (p).g, .string (natS (p).n), .int .i64 (p).x, .bool (q).g, .string (natS (q).n), .int .i64 (q).x]] w fun e w' => e = .returned (.tuple #[.agg #[.bool d.re.g, .string (natS d.re.n), .int .i64 d.re.x, .bool d.im.g, .string (natS d.im.n), .int .i64 d.im.x], .int .i64 kk]) ∧ Below w.heap.size w w') (hk : ¬ kk = 0) (hG : Globs glT w) : Calls Tryz.prog 11 #[.agg #[.bool p.g, .string (natS p.n), .int .i64 p.x, .bool q.g, .string (natS q.n), .int .i64 q.x, .int .i64 y, .int .i64 a, .int .i64 b], .agg #[.bool g.re.g, .string (natS g.re.n), .int .i64 g.re.x, .bool g.im.g, .string (natS g.im.n), .int .i64 g.im.x]] w fun e w' => e = .returned (.tuple #[.int .i64 0, .int .i64 0, .int .i64 4]) ∧ Below w.heap.size w w' := by
  have h1 : ¬ (kk = 0) := hk
  have i1 : false = true ↔ (kk = 0) := ⟨fun k => absurd k Bool.false_ne_true, fun k => absurd k h1⟩
  letI : Env := mkEnv glT [.bool p.g, .string (natS p.n), .int .i64 p.x, .bool q.g, .string (natS q.n), .int .i64 q.x, .int .i64 y, .int .i64 a, .int .i64 b, .bool g.re.g, .string (natS g.re.n), .int .i64 g.re.x, .bool g.im.g, .string (natS g.im.n), .int .i64 g.im.x, .bool d.re.g, .string (natS d.re.n), .int .i64 d.re.x, .bool d.im.g, .string (natS d.im.n), .int .i64 d.im.x, .int .i64 kk] rfl
  have hops : OpsT Tryz.prog (@Know.ops rFind_sub_k) := ⟨opt_neq_i rfl rfl i1,
    trivial⟩
  have hcalls : CallsT Tryz.prog (@Know.calls rFind_sub_k) := ⟨callt rfl rfl fun w hG => HS w hG,
    trivial⟩
  have fin : ∀ v, @comes rFind_sub_k Tryz.prog glT 3000 rFind_sub_f rFind_sub_a = some v → ground v = true → Ending.returned (gval v) = .returned (.tuple #[.int .i64 0, .int .i64 0, .int .i64 4]) → Calls Tryz.prog 11 #[.agg #[.bool p.g, .string (natS p.n), .int .i64 p.x, .bool q.g, .string (natS q.n), .int .i64 q.x, .int .i64 y, .int .i64 a, .int .i64 b], .agg #[.bool g.re.g, .string (natS g.re.n), .int .i64 g.re.x, .bool g.im.g, .string (natS g.im.n), .int .i64 g.im.x]] w fun e w' => e = .returned (.tuple #[.int .i64 0, .int .i64 0, .int .i64 4]) ∧ Below w.heap.size w w' := fun v h1 h2 h3 => (@sym_ok _ rFind_sub_k _ (@KnowOk.of _ rFind_sub_k _ hops hcalls) (by kernel_rfl) _ _ _ _ h1 rfl h2 _ hG).mono fun e w' h => ⟨h.1.trans h3, h.2⟩
  clear hops hcalls
  exact fin _ (rFind_sub_r1) rfl rfl
@[reducible] def rFind_no1_f : FuncId := 11
@[reducible] def rFind_no1_a : List AV := [.agg [.sym 0, .sym 1, .sym 2, .sym 3, .sym 4, .sym 5, .sym 6, .sym 7, .sym 8], .agg [.sym 9, .sym 10, .sym 11, .sym 12, .sym 13, .sym 14]]
@[reducible] noncomputable def rFind_no1_k : Know := ⟨[([0, 1, 3], [.sym 6, .lit (.int .i64 1)], .sym 27)],
  [(29, [.agg [.sym 9, .sym 10, .sym 11, .sym 12, .sym 13, .sym 14], .agg [.sym 0, .sym 1, .sym 2, .sym 3, .sym 4, .sym 5]], .tup [.agg [.sym 15, .sym 16, .sym 17, .sym 18, .sym 19, .sym 20], .lit (.int .i64 0)]),
  (30, [.agg [.sym 18, .sym 19, .sym 20]], .agg [.sym 21, .sym 22, .sym 23]),
  (30, [.agg [.sym 15, .sym 16, .sym 17]], .agg [.sym 24, .sym 25, .sym 26]),
  (31, [.agg [.sym 24, .sym 25, .sym 26], .sym 7, .sym 27], .lit (.bool false))]⟩
theorem rFind_no1_r1 : @comes rFind_no1_k Tryz.prog glT 3000 rFind_no1_f rFind_no1_a = some (.lit (.tuple #[.int .i64 0, .int .i64 0, .int .i64 241])) := by kernel_rfl
set_option maxRecDepth 100000 in
set_option maxHeartbeats 4000000 in
theorem rFind_no1 (p q : Dy) (y a b : Int) (g d : Gs) (t x1 t1 : Dy) (w : World) (hp : p.Ok) (hq : q.Ok) (hy : -4096 ≤ y ∧ y ≤ 4096) (ha : 1 ≤ a ∧ a ≤ 65536) (hb : 1 ≤ b ∧ b ≤ 65536) (hg : g.Ok) (HS : ∀ w, Globs glT w → Calls Tryz.prog 29 #[.agg #[.bool g.re.g, .string (natS g.re.n), .int .i64 g.re.x, .bool g.im.g, .string (natS g.im.n), .int .i64 g.im.x], .agg #[.bool (p).g, .string (natS (p).n), .int .i64 (p).x, .bool (q).g, .string (natS (q).n), .int .i64 (q).x]] w fun e w' => e = .returned (.tuple #[.agg #[.bool d.re.g, .string (natS d.re.n), .int .i64 d.re.x, .bool d.im.g, .string (natS d.im.n), .int .i64 d.im.x], .int .i64 0]) ∧ Below w.heap.size w w') (HN : ∀ w, Globs glT w → Calls Tryz.prog 30 #[.agg #[.bool d.im.g, .string (natS d.im.n), .int .i64 d.im.x]] w fun e w' => e = .returned (.agg #[.bool t.g, .string (natS t.n), .int .i64 t.x]) ∧ Below w.heap.size w w') (HX : ∀ w, Globs glT w → Calls Tryz.prog 30 #[.agg #[.bool d.re.g, .string (natS d.re.n), .int .i64 d.re.x]] w fun e w' => e = .returned (.agg #[.bool x1.g, .string (natS x1.n), .int .i64 x1.x]) ∧ Below w.heap.size w w') (HU : ∀ w, Globs glT w → Calls Tryz.prog 30 #[.agg #[.bool t.g, .string (natS t.n), .int .i64 t.x]] w fun e w' => e = .returned (.agg #[.bool t1.g, .string (natS t1.n), .int .i64 t1.x]) ∧ Below w.heap.size w w') (B1 : ∀ w, Globs glT w → Calls Tryz.prog 31 #[.agg #[.bool x1.g, .string (natS x1.n), .int .i64 x1.x], .int .i64 a, .int .i64 (y - 1)] w fun e w' => e = .returned (.bool false) ∧ Below w.heap.size w w') (hG : Globs glT w) : Calls Tryz.prog 11 #[.agg #[.bool p.g, .string (natS p.n), .int .i64 p.x, .bool q.g, .string (natS q.n), .int .i64 q.x, .int .i64 y, .int .i64 a, .int .i64 b], .agg #[.bool g.re.g, .string (natS g.re.n), .int .i64 g.re.x, .bool g.im.g, .string (natS g.im.n), .int .i64 g.im.x]] w fun e w' => e = .returned (.tuple #[.int .i64 0, .int .i64 0, .int .i64 241]) ∧ Below w.heap.size w w' := by
  letI : Env := mkEnv glT [.bool p.g, .string (natS p.n), .int .i64 p.x, .bool q.g, .string (natS q.n), .int .i64 q.x, .int .i64 y, .int .i64 a, .int .i64 b, .bool g.re.g, .string (natS g.re.n), .int .i64 g.re.x, .bool g.im.g, .string (natS g.im.n), .int .i64 g.im.x, .bool d.re.g, .string (natS d.re.n), .int .i64 d.re.x, .bool d.im.g, .string (natS d.im.n), .int .i64 d.im.x, .bool t.g, .string (natS t.n), .int .i64 t.x, .bool x1.g, .string (natS x1.n), .int .i64 x1.x, .int .i64 (y - 1)] rfl
  have hops : OpsT Tryz.prog (@Know.ops rFind_no1_k) := ⟨vopt_sub rfl rfl rfl rfl (by omega) ⟨by omega, by omega⟩,
    trivial⟩
  have hcalls : CallsT Tryz.prog (@Know.calls rFind_no1_k) := ⟨callt rfl rfl fun w hG => HS w hG,
    callt rfl rfl fun w hG => HN w hG,
    callt rfl rfl fun w hG => HX w hG,
    callt rfl rfl fun w hG => B1 w hG,
    trivial⟩
  have fin : ∀ v, @comes rFind_no1_k Tryz.prog glT 3000 rFind_no1_f rFind_no1_a = some v → ground v = true → Ending.returned (gval v) = .returned (.tuple #[.int .i64 0, .int .i64 0, .int .i64 241]) → Calls Tryz.prog 11 #[.agg #[.bool p.g, .string (natS p.n), .int .i64 p.x, .bool q.g, .string (natS q.n), .int .i64 q.x, .int .i64 y, .int .i64 a, .int .i64 b], .agg #[.bool g.re.g, .string (natS g.re.n), .int .i64 g.re.x, .bool g.im.g, .string (natS g.im.n), .int .i64 g.im.x]] w fun e w' => e = .returned (.tuple #[.int .i64 0, .int .i64 0, .int .i64 241]) ∧ Below w.heap.size w w' := fun v h1 h2 h3 => (@sym_ok _ rFind_no1_k _ (@KnowOk.of _ rFind_no1_k _ hops hcalls) (by kernel_rfl) _ _ _ _ h1 rfl h2 _ hG).mono fun e w' h => ⟨h.1.trans h3, h.2⟩
  clear hops hcalls
  exact fin _ (rFind_no1_r1) rfl rfl
@[reducible] def rFind_no2_f : FuncId := 11
@[reducible] def rFind_no2_a : List AV := [.agg [.sym 0, .sym 1, .sym 2, .sym 3, .sym 4, .sym 5, .sym 6, .sym 7, .sym 8], .agg [.sym 9, .sym 10, .sym 11, .sym 12, .sym 13, .sym 14]]
@[reducible] noncomputable def rFind_no2_k : Know := ⟨[([0, 1, 3], [.sym 6, .lit (.int .i64 1)], .sym 30)],
  [(29, [.agg [.sym 9, .sym 10, .sym 11, .sym 12, .sym 13, .sym 14], .agg [.sym 0, .sym 1, .sym 2, .sym 3, .sym 4, .sym 5]], .tup [.agg [.sym 15, .sym 16, .sym 17, .sym 18, .sym 19, .sym 20], .lit (.int .i64 0)]),
  (30, [.agg [.sym 18, .sym 19, .sym 20]], .agg [.sym 21, .sym 22, .sym 23]),
  (30, [.agg [.sym 15, .sym 16, .sym 17]], .agg [.sym 24, .sym 25, .sym 26]),
  (30, [.agg [.sym 21, .sym 22, .sym 23]], .agg [.sym 27, .sym 28, .sym 29]),
  (31, [.agg [.sym 24, .sym 25, .sym 26], .sym 7, .sym 30], .lit (.bool true)),
  (31, [.agg [.sym 27, .sym 28, .sym 29], .sym 8, .sym 30], .lit (.bool false))]⟩
theorem rFind_no2_r1 : @comes rFind_no2_k Tryz.prog glT 3000 rFind_no2_f rFind_no2_a = some (.lit (.tuple #[.int .i64 0, .int .i64 0, .int .i64 241])) := by kernel_rfl
set_option maxRecDepth 100000 in
set_option maxHeartbeats 4000000 in
theorem rFind_no2 (p q : Dy) (y a b : Int) (g d : Gs) (t x1 t1 : Dy) (w : World) (hp : p.Ok) (hq : q.Ok) (hy : -4096 ≤ y ∧ y ≤ 4096) (ha : 1 ≤ a ∧ a ≤ 65536) (hb : 1 ≤ b ∧ b ≤ 65536) (hg : g.Ok) (HS : ∀ w, Globs glT w → Calls Tryz.prog 29 #[.agg #[.bool g.re.g, .string (natS g.re.n), .int .i64 g.re.x, .bool g.im.g, .string (natS g.im.n), .int .i64 g.im.x], .agg #[.bool (p).g, .string (natS (p).n), .int .i64 (p).x, .bool (q).g, .string (natS (q).n), .int .i64 (q).x]] w fun e w' => e = .returned (.tuple #[.agg #[.bool d.re.g, .string (natS d.re.n), .int .i64 d.re.x, .bool d.im.g, .string (natS d.im.n), .int .i64 d.im.x], .int .i64 0]) ∧ Below w.heap.size w w') (HN : ∀ w, Globs glT w → Calls Tryz.prog 30 #[.agg #[.bool d.im.g, .string (natS d.im.n), .int .i64 d.im.x]] w fun e w' => e = .returned (.agg #[.bool t.g, .string (natS t.n), .int .i64 t.x]) ∧ Below w.heap.size w w') (HX : ∀ w, Globs glT w → Calls Tryz.prog 30 #[.agg #[.bool d.re.g, .string (natS d.re.n), .int .i64 d.re.x]] w fun e w' => e = .returned (.agg #[.bool x1.g, .string (natS x1.n), .int .i64 x1.x]) ∧ Below w.heap.size w w') (HU : ∀ w, Globs glT w → Calls Tryz.prog 30 #[.agg #[.bool t.g, .string (natS t.n), .int .i64 t.x]] w fun e w' => e = .returned (.agg #[.bool t1.g, .string (natS t1.n), .int .i64 t1.x]) ∧ Below w.heap.size w w') (B1 : ∀ w, Globs glT w → Calls Tryz.prog 31 #[.agg #[.bool x1.g, .string (natS x1.n), .int .i64 x1.x], .int .i64 a, .int .i64 (y - 1)] w fun e w' => e = .returned (.bool true) ∧ Below w.heap.size w w') (B2 : ∀ w, Globs glT w → Calls Tryz.prog 31 #[.agg #[.bool t1.g, .string (natS t1.n), .int .i64 t1.x], .int .i64 b, .int .i64 (y - 1)] w fun e w' => e = .returned (.bool false) ∧ Below w.heap.size w w') (hG : Globs glT w) : Calls Tryz.prog 11 #[.agg #[.bool p.g, .string (natS p.n), .int .i64 p.x, .bool q.g, .string (natS q.n), .int .i64 q.x, .int .i64 y, .int .i64 a, .int .i64 b], .agg #[.bool g.re.g, .string (natS g.re.n), .int .i64 g.re.x, .bool g.im.g, .string (natS g.im.n), .int .i64 g.im.x]] w fun e w' => e = .returned (.tuple #[.int .i64 0, .int .i64 0, .int .i64 241]) ∧ Below w.heap.size w w' := by
  letI : Env := mkEnv glT [.bool p.g, .string (natS p.n), .int .i64 p.x, .bool q.g, .string (natS q.n), .int .i64 q.x, .int .i64 y, .int .i64 a, .int .i64 b, .bool g.re.g, .string (natS g.re.n), .int .i64 g.re.x, .bool g.im.g, .string (natS g.im.n), .int .i64 g.im.x, .bool d.re.g, .string (natS d.re.n), .int .i64 d.re.x, .bool d.im.g, .string (natS d.im.n), .int .i64 d.im.x, .bool t.g, .string (natS t.n), .int .i64 t.x, .bool x1.g, .string (natS x1.n), .int .i64 x1.x, .bool t1.g, .string (natS t1.n), .int .i64 t1.x, .int .i64 (y - 1)] rfl
  have hops : OpsT Tryz.prog (@Know.ops rFind_no2_k) := ⟨vopt_sub rfl rfl rfl rfl (by omega) ⟨by omega, by omega⟩,
    trivial⟩
  have hcalls : CallsT Tryz.prog (@Know.calls rFind_no2_k) := ⟨callt rfl rfl fun w hG => HS w hG,
    callt rfl rfl fun w hG => HN w hG,
    callt rfl rfl fun w hG => HX w hG,
    callt rfl rfl fun w hG => HU w hG,
    callt rfl rfl fun w hG => B1 w hG,
    callt rfl rfl fun w hG => B2 w hG,
    trivial⟩
  have fin : ∀ v, @comes rFind_no2_k Tryz.prog glT 3000 rFind_no2_f rFind_no2_a = some v → ground v = true → Ending.returned (gval v) = .returned (.tuple #[.int .i64 0, .int .i64 0, .int .i64 241]) → Calls Tryz.prog 11 #[.agg #[.bool p.g, .string (natS p.n), .int .i64 p.x, .bool q.g, .string (natS q.n), .int .i64 q.x, .int .i64 y, .int .i64 a, .int .i64 b], .agg #[.bool g.re.g, .string (natS g.re.n), .int .i64 g.re.x, .bool g.im.g, .string (natS g.im.n), .int .i64 g.im.x]] w fun e w' => e = .returned (.tuple #[.int .i64 0, .int .i64 0, .int .i64 241]) ∧ Below w.heap.size w w' := fun v h1 h2 h3 => (@sym_ok _ rFind_no2_k _ (@KnowOk.of _ rFind_no2_k _ hops hcalls) (by kernel_rfl) _ _ _ _ h1 rfl h2 _ hG).mono fun e w' h => ⟨h.1.trans h3, h.2⟩
  clear hops hcalls
  exact fin _ (rFind_no2_r1) rfl rfl
@[reducible] def rFind_no3_f : FuncId := 11
@[reducible] def rFind_no3_a : List AV := [.agg [.sym 0, .sym 1, .sym 2, .sym 3, .sym 4, .sym 5, .sym 6, .sym 7, .sym 8], .agg [.sym 9, .sym 10, .sym 11, .sym 12, .sym 13, .sym 14]]
@[reducible] noncomputable def rFind_no3_k : Know := ⟨[([0, 1, 3], [.sym 6, .lit (.int .i64 1)], .sym 30)],
  [(29, [.agg [.sym 9, .sym 10, .sym 11, .sym 12, .sym 13, .sym 14], .agg [.sym 0, .sym 1, .sym 2, .sym 3, .sym 4, .sym 5]], .tup [.agg [.sym 15, .sym 16, .sym 17, .sym 18, .sym 19, .sym 20], .lit (.int .i64 0)]),
  (30, [.agg [.sym 18, .sym 19, .sym 20]], .agg [.sym 21, .sym 22, .sym 23]),
  (30, [.agg [.sym 15, .sym 16, .sym 17]], .agg [.sym 24, .sym 25, .sym 26]),
  (30, [.agg [.sym 21, .sym 22, .sym 23]], .agg [.sym 27, .sym 28, .sym 29]),
  (31, [.agg [.sym 24, .sym 25, .sym 26], .sym 7, .sym 30], .lit (.bool true)),
  (31, [.agg [.sym 27, .sym 28, .sym 29], .sym 8, .sym 30], .lit (.bool true)),
  (31, [.agg [.sym 15, .sym 16, .sym 17], .sym 7, .sym 30], .lit (.bool false))]⟩
theorem rFind_no3_r1 : @comes rFind_no3_k Tryz.prog glT 3000 rFind_no3_f rFind_no3_a = some (.lit (.tuple #[.int .i64 0, .int .i64 0, .int .i64 241])) := by kernel_rfl
set_option maxRecDepth 100000 in
set_option maxHeartbeats 4000000 in
theorem rFind_no3 (p q : Dy) (y a b : Int) (g d : Gs) (t x1 t1 : Dy) (w : World) (hp : p.Ok) (hq : q.Ok) (hy : -4096 ≤ y ∧ y ≤ 4096) (ha : 1 ≤ a ∧ a ≤ 65536) (hb : 1 ≤ b ∧ b ≤ 65536) (hg : g.Ok) (HS : ∀ w, Globs glT w → Calls Tryz.prog 29 #[.agg #[.bool g.re.g, .string (natS g.re.n), .int .i64 g.re.x, .bool g.im.g, .string (natS g.im.n), .int .i64 g.im.x], .agg #[.bool (p).g, .string (natS (p).n), .int .i64 (p).x, .bool (q).g, .string (natS (q).n), .int .i64 (q).x]] w fun e w' => e = .returned (.tuple #[.agg #[.bool d.re.g, .string (natS d.re.n), .int .i64 d.re.x, .bool d.im.g, .string (natS d.im.n), .int .i64 d.im.x], .int .i64 0]) ∧ Below w.heap.size w w') (HN : ∀ w, Globs glT w → Calls Tryz.prog 30 #[.agg #[.bool d.im.g, .string (natS d.im.n), .int .i64 d.im.x]] w fun e w' => e = .returned (.agg #[.bool t.g, .string (natS t.n), .int .i64 t.x]) ∧ Below w.heap.size w w') (HX : ∀ w, Globs glT w → Calls Tryz.prog 30 #[.agg #[.bool d.re.g, .string (natS d.re.n), .int .i64 d.re.x]] w fun e w' => e = .returned (.agg #[.bool x1.g, .string (natS x1.n), .int .i64 x1.x]) ∧ Below w.heap.size w w') (HU : ∀ w, Globs glT w → Calls Tryz.prog 30 #[.agg #[.bool t.g, .string (natS t.n), .int .i64 t.x]] w fun e w' => e = .returned (.agg #[.bool t1.g, .string (natS t1.n), .int .i64 t1.x]) ∧ Below w.heap.size w w') (B1 : ∀ w, Globs glT w → Calls Tryz.prog 31 #[.agg #[.bool x1.g, .string (natS x1.n), .int .i64 x1.x], .int .i64 a, .int .i64 (y - 1)] w fun e w' => e = .returned (.bool true) ∧ Below w.heap.size w w') (B2 : ∀ w, Globs glT w → Calls Tryz.prog 31 #[.agg #[.bool t1.g, .string (natS t1.n), .int .i64 t1.x], .int .i64 b, .int .i64 (y - 1)] w fun e w' => e = .returned (.bool true) ∧ Below w.heap.size w w') (B3 : ∀ w, Globs glT w → Calls Tryz.prog 31 #[.agg #[.bool d.re.g, .string (natS d.re.n), .int .i64 d.re.x], .int .i64 a, .int .i64 (y - 1)] w fun e w' => e = .returned (.bool false) ∧ Below w.heap.size w w') (hG : Globs glT w) : Calls Tryz.prog 11 #[.agg #[.bool p.g, .string (natS p.n), .int .i64 p.x, .bool q.g, .string (natS q.n), .int .i64 q.x, .int .i64 y, .int .i64 a, .int .i64 b], .agg #[.bool g.re.g, .string (natS g.re.n), .int .i64 g.re.x, .bool g.im.g, .string (natS g.im.n), .int .i64 g.im.x]] w fun e w' => e = .returned (.tuple #[.int .i64 0, .int .i64 0, .int .i64 241]) ∧ Below w.heap.size w w' := by
  letI : Env := mkEnv glT [.bool p.g, .string (natS p.n), .int .i64 p.x, .bool q.g, .string (natS q.n), .int .i64 q.x, .int .i64 y, .int .i64 a, .int .i64 b, .bool g.re.g, .string (natS g.re.n), .int .i64 g.re.x, .bool g.im.g, .string (natS g.im.n), .int .i64 g.im.x, .bool d.re.g, .string (natS d.re.n), .int .i64 d.re.x, .bool d.im.g, .string (natS d.im.n), .int .i64 d.im.x, .bool t.g, .string (natS t.n), .int .i64 t.x, .bool x1.g, .string (natS x1.n), .int .i64 x1.x, .bool t1.g, .string (natS t1.n), .int .i64 t1.x, .int .i64 (y - 1)] rfl
  have hops : OpsT Tryz.prog (@Know.ops rFind_no3_k) := ⟨vopt_sub rfl rfl rfl rfl (by omega) ⟨by omega, by omega⟩,
    trivial⟩
  have hcalls : CallsT Tryz.prog (@Know.calls rFind_no3_k) := ⟨callt rfl rfl fun w hG => HS w hG,
    callt rfl rfl fun w hG => HN w hG,
    callt rfl rfl fun w hG => HX w hG,
    callt rfl rfl fun w hG => HU w hG,
    callt rfl rfl fun w hG => B1 w hG,
    callt rfl rfl fun w hG => B2 w hG,
    callt rfl rfl fun w hG => B3 w hG,
    trivial⟩
  have fin : ∀ v, @comes rFind_no3_k Tryz.prog glT 3000 rFind_no3_f rFind_no3_a = some v → ground v = true → Ending.returned (gval v) = .returned (.tuple #[.int .i64 0, .int .i64 0, .int .i64 241]) → Calls Tryz.prog 11 #[.agg #[.bool p.g, .string (natS p.n), .int .i64 p.x, .bool q.g, .string (natS q.n), .int .i64 q.x, .int .i64 y, .int .i64 a, .int .i64 b], .agg #[.bool g.re.g, .string (natS g.re.n), .int .i64 g.re.x, .bool g.im.g, .string (natS g.im.n), .int .i64 g.im.x]] w fun e w' => e = .returned (.tuple #[.int .i64 0, .int .i64 0, .int .i64 241]) ∧ Below w.heap.size w w' := fun v h1 h2 h3 => (@sym_ok _ rFind_no3_k _ (@KnowOk.of _ rFind_no3_k _ hops hcalls) (by kernel_rfl) _ _ _ _ h1 rfl h2 _ hG).mono fun e w' h => ⟨h.1.trans h3, h.2⟩
  clear hops hcalls
  exact fin _ (rFind_no3_r1) rfl rfl
@[reducible] def rFind_no4_f : FuncId := 11
@[reducible] def rFind_no4_a : List AV := [.agg [.sym 0, .sym 1, .sym 2, .sym 3, .sym 4, .sym 5, .sym 6, .sym 7, .sym 8], .agg [.sym 9, .sym 10, .sym 11, .sym 12, .sym 13, .sym 14]]
@[reducible] noncomputable def rFind_no4_k : Know := ⟨[([0, 1, 3], [.sym 6, .lit (.int .i64 1)], .sym 30)],
  [(29, [.agg [.sym 9, .sym 10, .sym 11, .sym 12, .sym 13, .sym 14], .agg [.sym 0, .sym 1, .sym 2, .sym 3, .sym 4, .sym 5]], .tup [.agg [.sym 15, .sym 16, .sym 17, .sym 18, .sym 19, .sym 20], .lit (.int .i64 0)]),
  (30, [.agg [.sym 18, .sym 19, .sym 20]], .agg [.sym 21, .sym 22, .sym 23]),
  (30, [.agg [.sym 15, .sym 16, .sym 17]], .agg [.sym 24, .sym 25, .sym 26]),
  (30, [.agg [.sym 21, .sym 22, .sym 23]], .agg [.sym 27, .sym 28, .sym 29]),
  (31, [.agg [.sym 24, .sym 25, .sym 26], .sym 7, .sym 30], .lit (.bool true)),
  (31, [.agg [.sym 27, .sym 28, .sym 29], .sym 8, .sym 30], .lit (.bool true)),
  (31, [.agg [.sym 15, .sym 16, .sym 17], .sym 7, .sym 30], .lit (.bool true)),
  (31, [.agg [.sym 21, .sym 22, .sym 23], .sym 8, .sym 30], .lit (.bool false))]⟩
theorem rFind_no4_r1 : @comes rFind_no4_k Tryz.prog glT 3000 rFind_no4_f rFind_no4_a = some (.lit (.tuple #[.int .i64 0, .int .i64 0, .int .i64 241])) := by kernel_rfl
set_option maxRecDepth 100000 in
set_option maxHeartbeats 4000000 in
theorem rFind_no4 (p q : Dy) (y a b : Int) (g d : Gs) (t x1 t1 : Dy) (w : World) (hp : p.Ok) (hq : q.Ok) (hy : -4096 ≤ y ∧ y ≤ 4096) (ha : 1 ≤ a ∧ a ≤ 65536) (hb : 1 ≤ b ∧ b ≤ 65536) (hg : g.Ok) (HS : ∀ w, Globs glT w → Calls Tryz.prog 29 #[.agg #[.bool g.re.g, .string (natS g.re.n), .int .i64 g.re.x, .bool g.im.g, .string (natS g.im.n), .int .i64 g.im.x], .agg #[.bool (p).g, .string (natS (p).n), .int .i64 (p).x, .bool (q).g, .string (natS (q).n), .int .i64 (q).x]] w fun e w' => e = .returned (.tuple #[.agg #[.bool d.re.g, .string (natS d.re.n), .int .i64 d.re.x, .bool d.im.g, .string (natS d.im.n), .int .i64 d.im.x], .int .i64 0]) ∧ Below w.heap.size w w') (HN : ∀ w, Globs glT w → Calls Tryz.prog 30 #[.agg #[.bool d.im.g, .string (natS d.im.n), .int .i64 d.im.x]] w fun e w' => e = .returned (.agg #[.bool t.g, .string (natS t.n), .int .i64 t.x]) ∧ Below w.heap.size w w') (HX : ∀ w, Globs glT w → Calls Tryz.prog 30 #[.agg #[.bool d.re.g, .string (natS d.re.n), .int .i64 d.re.x]] w fun e w' => e = .returned (.agg #[.bool x1.g, .string (natS x1.n), .int .i64 x1.x]) ∧ Below w.heap.size w w') (HU : ∀ w, Globs glT w → Calls Tryz.prog 30 #[.agg #[.bool t.g, .string (natS t.n), .int .i64 t.x]] w fun e w' => e = .returned (.agg #[.bool t1.g, .string (natS t1.n), .int .i64 t1.x]) ∧ Below w.heap.size w w') (B1 : ∀ w, Globs glT w → Calls Tryz.prog 31 #[.agg #[.bool x1.g, .string (natS x1.n), .int .i64 x1.x], .int .i64 a, .int .i64 (y - 1)] w fun e w' => e = .returned (.bool true) ∧ Below w.heap.size w w') (B2 : ∀ w, Globs glT w → Calls Tryz.prog 31 #[.agg #[.bool t1.g, .string (natS t1.n), .int .i64 t1.x], .int .i64 b, .int .i64 (y - 1)] w fun e w' => e = .returned (.bool true) ∧ Below w.heap.size w w') (B3 : ∀ w, Globs glT w → Calls Tryz.prog 31 #[.agg #[.bool d.re.g, .string (natS d.re.n), .int .i64 d.re.x], .int .i64 a, .int .i64 (y - 1)] w fun e w' => e = .returned (.bool true) ∧ Below w.heap.size w w') (B4 : ∀ w, Globs glT w → Calls Tryz.prog 31 #[.agg #[.bool t.g, .string (natS t.n), .int .i64 t.x], .int .i64 b, .int .i64 (y - 1)] w fun e w' => e = .returned (.bool false) ∧ Below w.heap.size w w') (hG : Globs glT w) : Calls Tryz.prog 11 #[.agg #[.bool p.g, .string (natS p.n), .int .i64 p.x, .bool q.g, .string (natS q.n), .int .i64 q.x, .int .i64 y, .int .i64 a, .int .i64 b], .agg #[.bool g.re.g, .string (natS g.re.n), .int .i64 g.re.x, .bool g.im.g, .string (natS g.im.n), .int .i64 g.im.x]] w fun e w' => e = .returned (.tuple #[.int .i64 0, .int .i64 0, .int .i64 241]) ∧ Below w.heap.size w w' := by
  letI : Env := mkEnv glT [.bool p.g, .string (natS p.n), .int .i64 p.x, .bool q.g, .string (natS q.n), .int .i64 q.x, .int .i64 y, .int .i64 a, .int .i64 b, .bool g.re.g, .string (natS g.re.n), .int .i64 g.re.x, .bool g.im.g, .string (natS g.im.n), .int .i64 g.im.x, .bool d.re.g, .string (natS d.re.n), .int .i64 d.re.x, .bool d.im.g, .string (natS d.im.n), .int .i64 d.im.x, .bool t.g, .string (natS t.n), .int .i64 t.x, .bool x1.g, .string (natS x1.n), .int .i64 x1.x, .bool t1.g, .string (natS t1.n), .int .i64 t1.x, .int .i64 (y - 1)] rfl
  have hops : OpsT Tryz.prog (@Know.ops rFind_no4_k) := ⟨vopt_sub rfl rfl rfl rfl (by omega) ⟨by omega, by omega⟩,
    trivial⟩
  have hcalls : CallsT Tryz.prog (@Know.calls rFind_no4_k) := ⟨callt rfl rfl fun w hG => HS w hG,
    callt rfl rfl fun w hG => HN w hG,
    callt rfl rfl fun w hG => HX w hG,
    callt rfl rfl fun w hG => HU w hG,
    callt rfl rfl fun w hG => B1 w hG,
    callt rfl rfl fun w hG => B2 w hG,
    callt rfl rfl fun w hG => B3 w hG,
    callt rfl rfl fun w hG => B4 w hG,
    trivial⟩
  have fin : ∀ v, @comes rFind_no4_k Tryz.prog glT 3000 rFind_no4_f rFind_no4_a = some v → ground v = true → Ending.returned (gval v) = .returned (.tuple #[.int .i64 0, .int .i64 0, .int .i64 241]) → Calls Tryz.prog 11 #[.agg #[.bool p.g, .string (natS p.n), .int .i64 p.x, .bool q.g, .string (natS q.n), .int .i64 q.x, .int .i64 y, .int .i64 a, .int .i64 b], .agg #[.bool g.re.g, .string (natS g.re.n), .int .i64 g.re.x, .bool g.im.g, .string (natS g.im.n), .int .i64 g.im.x]] w fun e w' => e = .returned (.tuple #[.int .i64 0, .int .i64 0, .int .i64 241]) ∧ Below w.heap.size w w' := fun v h1 h2 h3 => (@sym_ok _ rFind_no4_k _ (@KnowOk.of _ rFind_no4_k _ hops hcalls) (by kernel_rfl) _ _ _ _ h1 rfl h2 _ hG).mono fun e w' h => ⟨h.1.trans h3, h.2⟩
  clear hops hcalls
  exact fin _ (rFind_no4_r1) rfl rfl
end Go.Proofs.YtamcnnocjelcjaaGreatDoor
namespace Go.Proofs.YtamcnnocjelcjaaGreatDoor
open Go Go.RowKit Nt
theorem SlB.start (w : World) (x : Dy) (n : Nat) (e : Int) : SlB w x n e ((((w.alloc (.cells #[.bool x.g, .string (natS x.n), .int .i64 x.x] 24)).alloc (.cells #[.int .i64 (n : Nat)] 3)).alloc (.cells #[.int .i64 e] 3)).alloc (.cells #[.func (.func 44) #[] #[.pointer (some ⟨w.heap.size, 0, none⟩), .pointer (some ⟨w.heap.size + 1 + 1, 0, none⟩)]] 62)) := by
  refine ⟨?_, ?_, ?_, ?_, ?_⟩
  · exact ((((Below.refl _ _).alloc (Nat.le_refl _) _).alloc (by simp) _).alloc (by simp; omega) _).alloc (by simp; omega) _
  · exact (((Blk.new w _ _).alloc _).alloc _).alloc _
  · have h := Blk.new (w.alloc (.cells #[.bool x.g, .string (natS x.n), .int .i64 x.x] 24)) 3 #[.int .i64 (n : Nat)]
    rw [World.size_alloc] at h
    exact (h.alloc _).alloc _
  · have h := Blk.new ((w.alloc (.cells #[.bool x.g, .string (natS x.n), .int .i64 x.x] 24)).alloc (.cells #[.int .i64 (n : Nat)] 3)) 3 #[.int .i64 e]
    rw [World.size_alloc, World.size_alloc] at h
    exact h.alloc _
  · have h := Blk.new (((w.alloc (.cells #[.bool x.g, .string (natS x.n), .int .i64 x.x] 24)).alloc (.cells #[.int .i64 (n : Nat)] 3)).alloc (.cells #[.int .i64 e] 3)) 62 #[.func (.func 44) #[] #[.pointer (some ⟨w.heap.size, 0, none⟩), .pointer (some ⟨w.heap.size + 1 + 1, 0, none⟩)]]
    rw [World.size_alloc, World.size_alloc, World.size_alloc] at h
    exact h
set_option maxRecDepth 100000 in
set_option maxHeartbeats 4000000 in
theorem slot_w (x : Dy) (n : Nat) (e : Int) (c : Nat) (ok : Bool) (w : World) (hx : x.Ok) (h1 : 1 ≤ n) (hn : n ≤ 65536) (he : -4096 ≤ e ∧ e ≤ 4096)
    (h : (¬ -(n : Int) * hT e ≤ iv x ∧ ok = false ∧ c = 0) ∨ (-(n : Int) * hT e ≤ iv x ∧ ¬ iv x ≤ (n : Int) * hT e ∧ ok = false ∧ c = 0) ∨ (-(n : Int) * hT e ≤ iv x ∧ iv x ≤ (n : Int) * hT e ∧ IsSlot (iv x) (hT e) n c ∧ ok = true)) :
    Calls Tryz.prog 21 #[.agg #[.bool x.g, .string (natS x.n), .int .i64 x.x], .int .i64 (n : Nat), .int .i64 e] w fun r w' => r = .returned (.tuple #[.int .i64 (c : Nat), .bool ok]) ∧ Below w.heap.size w w' := by
  have K1 := Lib.hid (fun w => halves_c (-(n : Int)) e (by omega) (by omega) w)
  have K2 := Lib.hid (fun w => DCmp_c x (hz (-(n : Int)) (e - 1)) w hx (hz_Ok _ _))
  have hcmp : cmpD x (hz (-(n : Int)) (e - 1)) < 0 ↔ iv x < -(n : Int) * hT e := by rw [cmpV_lt hx (hz_Ok _ _), iv_half (by omega) he]
  have hcm2 : cmpD x (hz (n : Int) (e - 1)) ≤ 0 ↔ iv x ≤ (n : Int) * hT e := by rw [cmpV_le hx (hz_Ok _ _), iv_half (by omega) he]
  have HC1 := Lib.hid hcmp
  have HC2 := Lib.hid hcm2
  have HH := Lib.hid h
  have HX := Lib.hid hx
  have HE := Lib.hid he
  have hw : IntKind.i64.wrap (-(n : Int)) = -(n : Int) := IntWalk.i64_in _ (by omega)
  have T0 := SlB.start w x n e
  clear hcmp hcm2 h hx he
  generalize cmpD x (hz (-(n : Int)) (e - 1)) = C1 at *
  generalize hz (-(n : Int)) (e - 1) = D1 at *
  unfold Dy.v at K1
  go_enter Tryz.func21, Tryz.ntmps21
  go_upto_region 2 with fail
  generalize ((((w.alloc (.cells #[.bool x.g, .string (natS x.n), .int .i64 x.x] 24)).alloc (.cells #[.int .i64 (n : Nat)] 3)).alloc (.cells #[.int .i64 e] 3)).alloc (.cells #[.func (.func 44) #[] #[.pointer (some ⟨w.heap.size, 0, none⟩), .pointer (some ⟨w.heap.size + 1 + 1, 0, none⟩)]] 62)) = W4 at *
  have S0 : StV W4 W4 := Below.refl _ _
  have L0 := fun U (s : StV W4 U) => (T0.step s).c0
  have L1 := fun U (s : StV W4 U) => (T0.step s).c1
  have L2 := fun U (s : StV W4 U) => (T0.step s).c2
  have L3 := fun U (s : StV W4 U) => (T0.step s).cn
  have L4 := fun U (s : StV W4 U) => (T0.step s).ce
  go_region_held3 (StV W4) (first | assumption | exact StV.step (by assumption) (by assumption) | exact StV.drew (by assumption) | exact StV.drawn (by assumption) _)
    (first
      | (go_at_call 39; (with_reducible refine (K1.out _).mono ?_); rintro ee w1 ⟨rfl, hb1⟩)
      | (go_at_call 14; (with_reducible refine (K2.out _).mono ?_); rintro ee w2 ⟨rfl, hb2⟩))
  rename_i hHeld
  replace T0 := T0.step hHeld
  clear L0 L1 L2 L3 L4 hb1 hb2 hHeld S0
  have cn := T0.cn
  have cf := T0.cf
  rcases HH.out with ⟨h1, rfl, rfl⟩ | ⟨h1, h2, rfl, rfl⟩ | ⟨h1, h2, h3, rfl⟩
  · have q : C1 < 0 := HC1.out.2 (by omega)
    clear HH h1
    go_wp2_with fail
    go_ret2
    exact ⟨rfl, T0.low⟩
  · have q : ¬ C1 < 0 := fun c => absurd (HC1.out.1 c) (by omega)
    have K3 := T0.upTo (n : Int) HX.out (by omega) (by have := HE.out; omega)
    rw [decide_eq_false (fun c => absurd (HC2.out.1 c) (Int.not_le.2 (by omega)))] at K3
    have K4 := Lib.hid K3
    clear HH h1 h2 K3
    go_wp2_with (first | (go_at_call 44; (with_reducible refine K4.out.mono ?_); rintro ee w3 ⟨rfl, hb⟩; replace T0 := T0.step hb; clear hb))
    go_ret2
    exact ⟨rfl, T0.low⟩
  · have q : ¬ C1 < 0 := fun c => absurd (HC1.out.1 c) (by omega)
    have K3 := T0.upTo (n : Int) HX.out (by omega) (by have := HE.out; omega)
    rw [decide_eq_true (HC2.out.2 h2)] at K3
    have K4 := Lib.hid K3
    have H3 := Lib.hid h3
    have hcn : c ≤ n := Nat.le_of_lt h3.1
    clear HH h1 h2 h3 K3
    go_wp2_with (first | (go_at_call 44; (with_reducible refine K4.out.mono ?_); rintro ee w3 ⟨rfl, hb⟩; replace T0 := T0.step hb; clear hb cn cf; have cn := T0.cn; have cf := T0.cf) | (go_at_call 45; have HK := Search_c T0 c HX.out hn HE.out H3.out; (with_reducible refine HK.mono ?_); clear HK; rintro ee w4 ⟨rfl, hb⟩; replace T0 := T0.step hb; clear hb cn cf))
    go_ret2
    exact ⟨rfl, T0.low⟩
end Go.Proofs.YtamcnnocjelcjaaGreatDoor
namespace Go.Proofs.YtamcnnocjelcjaaGreatDoor
open Go Go.RowKit Nt
set_option maxRecDepth 100000 in
set_option maxHeartbeats 4000000 in
theorem below_c (x : Dy) (k e : Int) (w : World) (hx : x.Ok) (hk : -10000000 ≤ k ∧ k ≤ 10000000) (he : -8000 ≤ e ∧ e ≤ 8000) :
    Calls Tryz.prog 31 #[.agg #[.bool x.g, .string (natS x.n), .int .i64 x.x], .int .i64 k, .int .i64 e] w fun r w' => r = .returned (.bool (decide (cmpD x (hz k e) ≤ 0))) ∧ Below w.heap.size w w' := by
  have K1 := Lib.hid (fun w => rhz_c k e hk (by omega) w)
  have K2 := Lib.hid (fun w => rCmpD3_c x (hz k e) w hx (hz_Ok _ _))
  generalize cmpD x (hz k e) = C at *
  generalize hz k e = D at *
  unfold Dy.v at K1
  have T0 := OB.start w x.t
  unfold Dy.t at T0
  go_enter Tryz.func31, Tryz.ntmps31
  go_upto_region 2 with (first | (go_at_call 52; (with_reducible refine (K1.out _).mono ?_); rintro ee w1 ⟨rfl, hb⟩; replace T0 := (T0.step hb).more (.cells #[.bool D.g, .string (natS D.n), .int .i64 D.x] 24); have TA := OB.start w1 D.t; clear hb))
  unfold Dy.t at TA
  generalize w1.alloc (.cells #[.bool D.g, .string (natS D.n), .int .i64 D.x] 24) = W2 at *
  obtain ⟨r0, r1, r2, r3, r4, r5, r6⟩ := T0.2.facts
  obtain ⟨p0, p1, p2, p3, p4, p5, p6⟩ := TA.2.facts
  go_wp2_with (first | (go_at_call 56; (with_reducible refine (K2.out _).mono ?_); rintro ee w2 ⟨rfl, hb⟩; replace T0 := T0.step hb; clear hb))
  go_ret
  exact ⟨rfl, T0.1⟩
theorem StV.more {w W : World} (h : StV w W) (o : Obj) : StV w (W.alloc o) := Below.alloc h h.size o
theorem box_after {X w3 : World} {B : Nat} {a b c : Value} (hb : Below X.drew.heap.size X.drew w3) (h : Box3 X B a b c) : Box3 w3 B a b c := Box3.step (w := X.drew) (Blk.drew h) hb
theorem box_two (W : World) (o : Obj) : Box3 ((W.alloc o).alloc (.cells #[.bool false, .string ⟨#[]⟩, .int .i64 0] 24)) (W.heap.size + 1) (.bool false) (.string ⟨#[]⟩) (.int .i64 0) := by
  have h := Box3.new (W.alloc o) (.bool false) (.string ⟨#[]⟩) (.int .i64 0)
  rwa [World.size_alloc] at h
theorem StV.put {w W : World} (h : StV w W) {B : Nat} (hB : w.heap.size ≤ B) (x y z : Value) : StV w (((W.setCell ⟨B, 0, none⟩ x).setCell ⟨B, 1, none⟩ y).setCell ⟨B, 2, none⟩ z) := below_put h hB x y z
theorem below_iff {x : Dy} {k e : Int} (hx : x.Ok) (hk : -10000000 ≤ k ∧ k ≤ 10000000) (he : -4096 ≤ e ∧ e ≤ 4096) : cmpD x (hz k (e - 1)) ≤ 0 ↔ iv x ≤ k * hT e := by
  rw [cmpV_le hx (hz_Ok _ _), iv_half hk he]
theorem below_t {x : Dy} {k e : Int} (hx : x.Ok) (hk : -10000000 ≤ k ∧ k ≤ 10000000) (he : -4096 ≤ e ∧ e ≤ 4096) (h : iv x ≤ k * hT e) (w : World) : Calls Tryz.prog 31 #[.agg #[.bool x.g, .string (natS x.n), .int .i64 x.x], .int .i64 k, .int .i64 (e - 1)] w fun r w' => r = .returned (.bool true) ∧ Below w.heap.size w w' := by
  have := below_c x k (e - 1) w hx hk (by omega)
  rwa [decide_eq_true ((below_iff hx hk he).2 h)] at this
theorem below_f {x : Dy} {k e : Int} (hx : x.Ok) (hk : -10000000 ≤ k ∧ k ≤ 10000000) (he : -4096 ≤ e ∧ e ≤ 4096) (h : ¬ iv x ≤ k * hT e) (w : World) : Calls Tryz.prog 31 #[.agg #[.bool x.g, .string (natS x.n), .int .i64 x.x], .int .i64 k, .int .i64 (e - 1)] w fun r w' => r = .returned (.bool false) ∧ Below w.heap.size w w' := by
  have := below_c x k (e - 1) w hx hk (by omega)
  rwa [decide_eq_false (fun c => h ((below_iff hx hk he).1 c))] at this
structure FS (w : World) (uc : Gt) (ue : Int) (na nb : Nat) (x t : Dy) (X Y : Nat) (W : World) : Prop where
  win : WinB w ⟨uc, ue, na, nb⟩ W
  lx : X < W.heap.size
  ly : Y < W.heap.size
  x0 : W.cell? ⟨X, 0, none⟩ = some (.bool x.g)
  x1 : W.cell? ⟨X, 1, none⟩ = some (.string (natS x.n))
  x2 : W.cell? ⟨X, 2, none⟩ = some (.int .i64 x.x)
  y0 : W.cell? ⟨Y, 0, none⟩ = some (.bool t.g)
  y1 : W.cell? ⟨Y, 1, none⟩ = some (.string (natS t.n))
  y2 : W.cell? ⟨Y, 2, none⟩ = some (.int .i64 t.x)
theorem FS.step {w : World} {uc : Gt} {ue : Int} {na nb : Nat} {x t : Dy} {X Y : Nat} {W W' : World} (h : FS w uc ue na nb x t X Y W) (hb : Below W.heap.size W W') : FS w uc ue na nb x t X Y W' :=
  ⟨h.win.step hb, Nat.lt_of_lt_of_le h.lx hb.size, Nat.lt_of_lt_of_le h.ly hb.size, (Below.cell hb (p := ⟨X, 0, none⟩) h.lx).trans h.x0, (Below.cell hb (p := ⟨X, 1, none⟩) h.lx).trans h.x1, (Below.cell hb (p := ⟨X, 2, none⟩) h.lx).trans h.x2, (Below.cell hb (p := ⟨Y, 0, none⟩) h.ly).trans h.y0, (Below.cell hb (p := ⟨Y, 1, none⟩) h.ly).trans h.y1, (Below.cell hb (p := ⟨Y, 2, none⟩) h.ly).trans h.y2⟩
set_option maxRecDepth 100000 in
set_option maxHeartbeats 20000000 in
theorem rFind_yes (uc : Gt) (ue : Int) (gg : Gs) (d : Gs) (t x1 t1 : Dy) (na nb c r : Nat) (w : World) (hd : d.re.Ok) (ht : t.Ok) (hx1 : x1.Ok) (ht1 : t1.Ok)
    (HS : ∀ w, Globs glT w → Calls Tryz.prog 29 #[.agg #[.bool gg.re.g, .string (natS gg.re.n), .int .i64 gg.re.x, .bool gg.im.g, .string (natS gg.im.n), .int .i64 gg.im.x], .agg #[.bool uc.re.g, .string uc.re.s, .int .i64 uc.re.x, .bool uc.im.g, .string uc.im.s, .int .i64 uc.im.x]] w fun e w' => e = .returned (.tuple #[.agg #[.bool d.re.g, .string (natS d.re.n), .int .i64 d.re.x, .bool d.im.g, .string (natS d.im.n), .int .i64 d.im.x], .int .i64 0]) ∧ Below w.heap.size w w')
    (HN : ∀ w, Calls Tryz.prog 30 #[.agg #[.bool d.im.g, .string (natS d.im.n), .int .i64 d.im.x]] w fun e w' => e = .returned (.agg #[.bool t.g, .string (natS t.n), .int .i64 t.x]) ∧ Below w.heap.size w w')
    (HX : ∀ w, Calls Tryz.prog 30 #[.agg #[.bool d.re.g, .string (natS d.re.n), .int .i64 d.re.x]] w fun e w' => e = .returned (.agg #[.bool x1.g, .string (natS x1.n), .int .i64 x1.x]) ∧ Below w.heap.size w w')
    (HU : ∀ w, Calls Tryz.prog 30 #[.agg #[.bool t.g, .string (natS t.n), .int .i64 t.x]] w fun e w' => e = .returned (.agg #[.bool t1.g, .string (natS t1.n), .int .i64 t1.x]) ∧ Below w.heap.size w w')
    (ha : 1 ≤ na ∧ na ≤ 65536) (hb : 1 ≤ nb ∧ nb ≤ 65536) (he : -4096 ≤ ue ∧ ue ≤ 4096)
    (l1 : iv x1 ≤ (na : Int) * hT ue) (l2 : iv t1 ≤ (nb : Int) * hT ue) (l3 : iv d.re ≤ (na : Int) * hT ue) (l4 : iv t ≤ (nb : Int) * hT ue) (sx : IsSlot (iv d.re) (hT ue) na c) (sy : IsSlot (iv t) (hT ue) nb r) (hG : Globs glT w) :
    Calls Tryz.prog 11 #[.agg #[.bool uc.re.g, .string uc.re.s, .int .i64 uc.re.x, .bool uc.im.g, .string uc.im.s, .int .i64 uc.im.x, .int .i64 ue, .int .i64 (na : Int), .int .i64 (nb : Int)], .agg #[.bool gg.re.g, .string (natS gg.re.n), .int .i64 gg.re.x, .bool gg.im.g, .string (natS gg.im.n), .int .i64 gg.im.x]] w fun e w' => e = .returned (.tuple #[.int .i64 (c : Nat), .int .i64 (r : Nat), .int .i64 0]) ∧ Below w.heap.size w w' := by
  have kA : -10000000 ≤ (na : Int) ∧ (na : Int) ≤ 10000000 := by omega
  have kB : -10000000 ≤ (nb : Int) ∧ (nb : Int) ≤ 10000000 := by omega
  have K1 := Lib.hid HS
  have K2 := Lib.hid HN
  have K3 := Lib.hid HX
  have K4 := Lib.hid HU
  have K5 := Lib.hid (fun w => below_t hx1 kA he l1 w)
  have K6 := Lib.hid (fun w => below_t ht1 kB he l2 w)
  have K7 := Lib.hid (fun w => below_t hd kA he l3 w)
  have K8 := Lib.hid (fun w => below_t ht kB he l4 w)
  have KX := Lib.hid (fun (k : Int) (hk : -10000000 ≤ k ∧ k ≤ 10000000) w => And.intro (fun h => below_t hd hk he h w) (fun h => below_f hd hk he h w))
  have KY := Lib.hid (fun (k : Int) (hk : -10000000 ≤ k ∧ k ≤ 10000000) w => And.intro (fun h => below_t ht hk he h w) (fun h => below_f ht hk he h w))
  have SX := Lib.hid sx
  have SY := Lib.hid sy
  have HG := Lib.hid hG
  have hw : IntKind.i64.wrap (ue - 1) = ue - 1 := IntWalk.i64_in _ (by omega)
  have hw2 : wrap64 (ue - 1) = ue - 1 := IntWalk.wrap64_in _ (by omega)
  clear HS HN HX HU l1 l2 l3 l4 sx sy hG hd ht hx1 ht1 kA kB
  have T0 := (WinB.start w ⟨uc, ue, na, nb⟩).more (.cells #[.bool gg.re.g, .string (natS gg.re.n), .int .i64 gg.re.x, .bool gg.im.g, .string (natS gg.im.n), .int .i64 gg.im.x] 26)
  have HW := T0.2.facts
  have HG0 : Blk ((w.alloc (.cells #[.bool uc.re.g, .string uc.re.s, .int .i64 uc.re.x, .bool uc.im.g, .string uc.im.s, .int .i64 uc.im.x, .int .i64 ue, .int .i64 (na : Int), .int .i64 (nb : Int)] 28)).alloc (.cells #[.bool gg.re.g, .string (natS gg.re.n), .int .i64 gg.re.x, .bool gg.im.g, .string (natS gg.im.n), .int .i64 gg.im.x] 26)) (w.heap.size + 1) 26 #[.bool gg.re.g, .string (natS gg.re.n), .int .i64 gg.re.x, .bool gg.im.g, .string (natS gg.im.n), .int .i64 gg.im.x] := by
    have h := Blk.new (w.alloc (.cells #[.bool uc.re.g, .string uc.re.s, .int .i64 uc.re.x, .bool uc.im.g, .string uc.im.s, .int .i64 uc.im.x, .int .i64 ue, .int .i64 (na : Int), .int .i64 (nb : Int)] 28)) 26 #[.bool gg.re.g, .string (natS gg.re.n), .int .i64 gg.re.x, .bool gg.im.g, .string (natS gg.im.n), .int .i64 gg.im.x]
    rwa [World.size_alloc] at h
  go_enter Tryz.func11, Tryz.ntmps11
  go_upto_region 1 with fail
  generalize (w.alloc (.cells #[.bool uc.re.g, .string uc.re.s, .int .i64 uc.re.x, .bool uc.im.g, .string uc.im.s, .int .i64 uc.im.x, .int .i64 ue, .int .i64 (na : Int), .int .i64 (nb : Int)] 28)).alloc (.cells #[.bool gg.re.g, .string (natS gg.re.n), .int .i64 gg.re.x, .bool gg.im.g, .string (natS gg.im.n), .int .i64 gg.im.x] 26) = W1 at *
  obtain ⟨q0, q1, q2, q3, q4, q5, q6, q7, q8, q9⟩ := HW
  have g0 := Blk.lt HG0
  have g1 := (Blk.cell HG0 0).trans rfl
  have g2 := (Blk.cell HG0 1).trans rfl
  have g3 := (Blk.cell HG0 2).trans rfl
  have g4 := (Blk.cell HG0 3).trans rfl
  have g5 := (Blk.cell HG0 4).trans rfl
  have g6 := (Blk.cell HG0 5).trans rfl
  go_upto_region 4 with (first | (go_at_call 29; have HK := K1.out _ (HG.out.below T0.1 (Nat.le_refl _)); (with_reducible refine HK.mono ?_); clear HK; rintro ee w2 ⟨rfl, hb⟩; replace T0 := (T0.step hb).more (.cells #[.bool d.re.g, .string (natS d.re.n), .int .i64 d.re.x, .bool d.im.g, .string (natS d.im.n), .int .i64 d.im.x] 26); have TG : Blk (w2.alloc (.cells #[.bool d.re.g, .string (natS d.re.n), .int .i64 d.re.x, .bool d.im.g, .string (natS d.im.n), .int .i64 d.im.x] 26)) w2.heap.size 26 #[.bool d.re.g, .string (natS d.re.n), .int .i64 d.re.x, .bool d.im.g, .string (natS d.im.n), .int .i64 d.im.x] := Blk.new _ _ _; clear hb q0 q1 q2 q3 q4 q5 q6 q7 q8 q9 g0 g1 g2 g3 g4 g5 g6 HG0))
  generalize w2.alloc (.cells #[.bool d.re.g, .string (natS d.re.n), .int .i64 d.re.x, .bool d.im.g, .string (natS d.im.n), .int .i64 d.im.x] 26) = W2 at *
  generalize w2.heap.size = P at *
  have g0 := Blk.lt TG
  have g1 := (Blk.cell TG 0).trans rfl
  have g2 := (Blk.cell TG 1).trans rfl
  have g3 := (Blk.cell TG 2).trans rfl
  have g4 := (Blk.cell TG 3).trans rfl
  have g5 := (Blk.cell TG 4).trans rfl
  have g6 := (Blk.cell TG 5).trans rfl
  go_cut [9, 10] (fun b9 b10 wc => ∃ X Y : Nat, b9 = .pointer (some ⟨X, 0, none⟩) ∧ b10 = .pointer (some ⟨Y, 0, none⟩) ∧ FS w uc ue na nb d.re t X Y wc)
  case first =>
    have S0 : StV W2 W2 := Below.refl _ _
    have L0 := fun U (s : StV W2 U) => (Below.cell s (p := ⟨P, 0, none⟩) g0).trans g1
    have L1 := fun U (s : StV W2 U) => (Below.cell s (p := ⟨P, 1, none⟩) g0).trans g2
    have L2 := fun U (s : StV W2 U) => (Below.cell s (p := ⟨P, 2, none⟩) g0).trans g3
    have L3 := fun U (s : StV W2 U) => (Below.cell s (p := ⟨P, 3, none⟩) g0).trans g4
    have L4 := fun U (s : StV W2 U) => (Below.cell s (p := ⟨P, 4, none⟩) g0).trans g5
    have L5 := fun U (s : StV W2 U) => (Below.cell s (p := ⟨P, 5, none⟩) g0).trans g6
    go_region_held3 (StV W2) (repeat (first | (with_reducible assumption) | (with_reducible refine StV.more ?_ _) | (with_reducible refine StV.drew ?_) | (with_reducible refine StV.put ?_ ?_ _ _ _) | (simp; done) | (simp; omega)))
      (first
        | (go_at_call 30; (with_reducible refine (K2.out _).mono ?_); rintro ee w3 ⟨rfl, hb3⟩; have SV : StV W2 w3 := StV.step (by assumption) hb3; have hs3 := hb3.size; simp only [World.size_alloc, World.size_drew] at hs3; have BX := box_after hb3 (B := W2.heap.size + 1) (a := .bool false) (b := .string ⟨#[]⟩) (c := .int .i64 0) (box_two W2 (.cells #[.bool false, .string ⟨#[]⟩, .int .i64 0] 24)); have BY := box_after hb3 (B := W2.heap.size) (a := .bool false) (b := .string ⟨#[]⟩) (c := .int .i64 0) ((Box3.new W2 (.bool false) (.string ⟨#[]⟩) (.int .i64 0)).more (.cells #[.bool false, .string ⟨#[]⟩, .int .i64 0] 24)); obtain ⟨u0, u1, u2, u3, u4, u5, u6⟩ := BX.facts; obtain ⟨v0, v1, v2, v3, v4, v5, v6⟩ := BY.facts; have hne : ¬ W2.heap.size = W2.heap.size + 1 := Nat.ne_of_lt (Nat.lt_succ_self _); have hne2 : ¬ W2.heap.size + 1 = W2.heap.size := fun c => hne c.symm; have hle : W2.heap.size ≤ W2.heap.size + 1 := Nat.le_succ _; clear BX BY; generalize W2.heap.size + 1 = B2 at *)
        | (go_at_call 30; (with_reducible refine (K2.out _).mono ?_); rintro ee w3 ⟨rfl, hb3⟩; have SV : StV W2 w3 := StV.step (by assumption) hb3; have hs3 := hb3.size; simp only [World.size_alloc, World.size_drew] at hs3; have BY := box_after hb3 (B := W2.heap.size) (a := .bool false) (b := .string ⟨#[]⟩) (c := .int .i64 0) (Box3.new W2 (.bool false) (.string ⟨#[]⟩) (.int .i64 0)); obtain ⟨v0, v1, v2, v3, v4, v5, v6⟩ := BY.facts)
        | (go_at_call 30; (with_reducible refine (K2.out _).mono ?_); rintro ee w3 ⟨rfl, hb3⟩; have SV : StV W2 w3 := StV.step (by assumption) hb3; have hs3 := hb3.size; simp only [World.size_alloc, World.size_drew] at hs3))
    all_goals
      rename_i hHeld
      clear L0 L1 L2 L3 L4 L5 g1 g2 g3 g4 g5 g6
      go_wp2_with fail
      go_meet
      refine ⟨_, _, rfl, rfl, ⟨T0.step hHeld, ?_, ?_, ?_, ?_, ?_, ?_, ?_, ?_⟩⟩
    all_goals clear hHeld T0
    all_goals first | (simp; done) | (simp; omega) | (simp [go_sem, v0, v1, v2, v3, v4, v5, v6, u0, u1, u2, u3, u4, u5, u6, hne, hne2]; done) | (simp [go_sem, v0, v1, v2, v3, v4, v5, v6]; done) | (simp [go_sem]; done) | skip
    all_goals trace_state
    all_goals sorry
  case rest =>
    obtain ⟨X, Y, rfl, rfl, F0⟩ := hcut
    clear T0 TG g0 g1 g2 g3 g4 g5 g6 K1 K2
    have hcb : c ≤ 65536 := by have := SX.out.1; omega
    have hrb : r ≤ 65536 := by have := SY.out.1; omega
    go_wp2_with fail
    have S0 : StV wc wc := Below.refl _ _
    have L0 := fun U (s : StV wc U) => (F0.step s).x0
    have L1 := fun U (s : StV wc U) => (F0.step s).x1
    have L2 := fun U (s : StV wc U) => (F0.step s).x2
    have L3 := fun U (s : StV wc U) => (F0.step s).y0
    have L4 := fun U (s : StV wc U) => (F0.step s).y1
    have L5 := fun U (s : StV wc U) => (F0.step s).y2
    have L6 := fun U (s : StV wc U) => (F0.step s).win.2.facts.2.2.2.2.2.2.2.1
    have L7 := fun U (s : StV wc U) => (F0.step s).win.2.facts.2.2.2.2.2.2.2.2.1
    have L8 := fun U (s : StV wc U) => (F0.step s).win.2.facts.2.2.2.2.2.2.2.2.2
    go_region_held3 (StV wc) (repeat (first | (with_reducible assumption) | (with_reducible refine StV.more ?_ _) | (with_reducible refine StV.drew ?_) | (with_reducible exact StV.step (by with_reducible assumption) (by with_reducible assumption))))
      (first
        | (go_at_call 30; (with_reducible refine (K3.out _).mono ?_); rintro ee w5 ⟨rfl, hb5⟩; have SV : StV wc w5 := StV.step (by with_reducible assumption) hb5)
        | (go_at_call 30; (with_reducible refine (K4.out _).mono ?_); rintro ee w5 ⟨rfl, hb5⟩; have SV2 : StV wc w5 := StV.step (by with_reducible assumption) hb5)
        | (go_at_call 31; (with_reducible refine (K5.out _).mono ?_); rintro ee w5 ⟨rfl, hb5⟩; have SV3 : StV wc w5 := StV.step (by with_reducible assumption) hb5)
        | (go_at_call 31; (with_reducible refine (K6.out _).mono ?_); rintro ee w5 ⟨rfl, hb5⟩; have SV4 : StV wc w5 := StV.step (by with_reducible assumption) hb5))
    replace F0 := F0.step SV4
    clear L0 L1 L2 L3 L4 L5 L6 L7 L8 S0 SV SV2 SV3 SV4 K3 K4 K5 K6
    have y0 := F0.y0; have y1 := F0.y1; have y2 := F0.y2; have z0 := F0.x0; have z1 := F0.x1; have z2 := F0.x2; have z6 := F0.win.2.facts.2.2.2.2.2.2.2.1; have z7 := F0.win.2.facts.2.2.2.2.2.2.2.2.1; have z8 := F0.win.2.facts.2.2.2.2.2.2.2.2.2
    go_wp2_with (first | (go_at_call 31; (with_reducible refine (K7.out _).mono ?_); rintro ee w6 ⟨rfl, hb6⟩; replace F0 := F0.step hb6; clear hb6; clear y0 y1 y2 z0 z1 z2 z6 z7 z8; have y0 := F0.y0; have y1 := F0.y1; have y2 := F0.y2; have z0 := F0.x0; have z1 := F0.x1; have z2 := F0.x2; have z6 := F0.win.2.facts.2.2.2.2.2.2.2.1; have z7 := F0.win.2.facts.2.2.2.2.2.2.2.2.1; have z8 := F0.win.2.facts.2.2.2.2.2.2.2.2.2) | (go_at_call 31; (with_reducible refine (K8.out _).mono ?_); rintro ee w6 ⟨rfl, hb6⟩; replace F0 := F0.step hb6; clear hb6; clear y0 y1 y2 z0 z1 z2 z6 z7 z8; have y0 := F0.y0; have y1 := F0.y1; have y2 := F0.y2; have z0 := F0.x0; have z1 := F0.x1; have z2 := F0.x2; have z6 := F0.win.2.facts.2.2.2.2.2.2.2.1; have z7 := F0.win.2.facts.2.2.2.2.2.2.2.2.1; have z8 := F0.win.2.facts.2.2.2.2.2.2.2.2.2))
    clear y0 y1 y2 z0 z1 z2 z6 z7 z8
    go_loopw [11] (fun v wr => ∃ i : Nat, v = .int .i64 (i : Nat) ∧ i ≤ c ∧ FS w uc ue na nb d.re t X Y wr) (fun v _ => c - (intOf v).toNat)
    case atStart => exact ⟨0, rfl, Nat.zero_le _, F0⟩
    case round =>
      clear F0
      obtain ⟨i, rfl, hi, F0⟩ := hrel
      have y0 := F0.y0; have y1 := F0.y1; have y2 := F0.y2; have z0 := F0.x0; have z1 := F0.x1; have z2 := F0.x2; have z6 := F0.win.2.facts.2.2.2.2.2.2.2.1; have z7 := F0.win.2.facts.2.2.2.2.2.2.2.2.1; have z8 := F0.win.2.facts.2.2.2.2.2.2.2.2.2
      by_cases hlt : i < c
      · have hsx : ¬ iv d.re ≤ (2 * (i : Int) + 2 - (na : Int)) * hT ue := SX.out.2.2 i hlt
        have K9 := Lib.hid (fun w => (KX.out (2 * (i : Int) + 2 - (na : Int)) (by omega) w).2 (Int.not_le.1 hsx))
        clear hsx
        go_wp2_with (first | (go_at_call 31; (with_reducible refine (K9.out _).mono ?_); rintro ee w6 ⟨rfl, hb6⟩; replace F0 := F0.step hb6; clear hb6; clear y0 y1 y2 z0 z1 z2 z6 z7 z8; have y0 := F0.y0; have y1 := F0.y1; have y2 := F0.y2; have z0 := F0.x0; have z1 := F0.x1; have z2 := F0.x2; have z6 := F0.win.2.facts.2.2.2.2.2.2.2.1; have z7 := F0.win.2.facts.2.2.2.2.2.2.2.2.1; have z8 := F0.win.2.facts.2.2.2.2.2.2.2.2.2))
        clear y0 y1 y2 z0 z1 z2 z6 z7 z8
        go_roundw
        case rel => exact ⟨i + 1, by go_num, by omega, F0⟩
        case measure => simp [intOf]; omega
      · obtain rfl : i = c := by omega
        have hsx : iv d.re ≤ (2 * (i : Int) + 2 - (na : Int)) * hT ue := SX.out.2.1
        have K9 := Lib.hid (fun w => (KX.out (2 * (i : Int) + 2 - (na : Int)) (by omega) w).1 hsx)
        clear hsx hlt
        go_wp2_with (first | (go_at_call 31; (with_reducible refine (K9.out _).mono ?_); rintro ee w6 ⟨rfl, hb6⟩; replace F0 := F0.step hb6; clear hb6; clear y0 y1 y2 z0 z1 z2 z6 z7 z8; have y0 := F0.y0; have y1 := F0.y1; have y2 := F0.y2; have z0 := F0.x0; have z1 := F0.x1; have z2 := F0.x2; have z6 := F0.win.2.facts.2.2.2.2.2.2.2.1; have z7 := F0.win.2.facts.2.2.2.2.2.2.2.2.1; have z8 := F0.win.2.facts.2.2.2.2.2.2.2.2.2))
        clear y0 y1 y2 z0 z1 z2 z6 z7 z8
        clear K9
        go_loopw [12] (fun v wr => ∃ j : Nat, v = .int .i64 (j : Nat) ∧ j ≤ r ∧ FS w uc ue na nb d.re t X Y wr) (fun v _ => r - (intOf v).toNat)
        case atStart => exact ⟨0, rfl, Nat.zero_le _, F0⟩
        case round =>
          clear F0
          obtain ⟨j, rfl, hj, F0⟩ := hrel
          have y0 := F0.y0; have y1 := F0.y1; have y2 := F0.y2; have z0 := F0.x0; have z1 := F0.x1; have z2 := F0.x2; have z6 := F0.win.2.facts.2.2.2.2.2.2.2.1; have z7 := F0.win.2.facts.2.2.2.2.2.2.2.2.1; have z8 := F0.win.2.facts.2.2.2.2.2.2.2.2.2
          by_cases hlt : j < r
          · have hsx : ¬ iv t ≤ (2 * (j : Int) + 2 - (nb : Int)) * hT ue := SY.out.2.2 j hlt
            have K9 := Lib.hid (fun w => (KY.out (2 * (j : Int) + 2 - (nb : Int)) (by omega) w).2 (Int.not_le.1 hsx))
            clear hsx
            go_wp2_with (first | (go_at_call 31; (with_reducible refine (K9.out _).mono ?_); rintro ee w6 ⟨rfl, hb6⟩; replace F0 := F0.step hb6; clear hb6; clear y0 y1 y2 z0 z1 z2 z6 z7 z8; have y0 := F0.y0; have y1 := F0.y1; have y2 := F0.y2; have z0 := F0.x0; have z1 := F0.x1; have z2 := F0.x2; have z6 := F0.win.2.facts.2.2.2.2.2.2.2.1; have z7 := F0.win.2.facts.2.2.2.2.2.2.2.2.1; have z8 := F0.win.2.facts.2.2.2.2.2.2.2.2.2))
            clear y0 y1 y2 z0 z1 z2 z6 z7 z8
            go_roundw
            case rel => exact ⟨j + 1, by go_num, by omega, F0⟩
            case measure => simp [intOf]; omega
          · obtain rfl : j = r := by omega
            have hsx : iv t ≤ (2 * (j : Int) + 2 - (nb : Int)) * hT ue := SY.out.2.1
            have K9 := Lib.hid (fun w => (KY.out (2 * (j : Int) + 2 - (nb : Int)) (by omega) w).1 hsx)
            clear hsx hlt
            go_wp2_with (first | (go_at_call 31; (with_reducible refine (K9.out _).mono ?_); rintro ee w6 ⟨rfl, hb6⟩; replace F0 := F0.step hb6; clear hb6; clear y0 y1 y2 z0 z1 z2 z6 z7 z8; have y0 := F0.y0; have y1 := F0.y1; have y2 := F0.y2; have z0 := F0.x0; have z1 := F0.x1; have z2 := F0.x2; have z6 := F0.win.2.facts.2.2.2.2.2.2.2.1; have z7 := F0.win.2.facts.2.2.2.2.2.2.2.2.1; have z8 := F0.win.2.facts.2.2.2.2.2.2.2.2.2))
            refine bodyPost_ret (v := .tuple #[.int .i64 (i : Nat), .int .i64 (j : Nat), .int .i64 0]) (by simp [results, Tryz.results11, go_sem]) rfl ⟨rfl, F0.win.1⟩
end Go.Proofs.YtamcnnocjelcjaaGreatDoor
namespace Go.Proofs.YtamcnnocjelcjaaGreatDoor
open Go Go.RowKit Nt
@[reducible] noncomputable def GSub_c_k1 : Know := ⟨[([0, 12, 31], [.sym 15, .lit (.int .i64 0)], .lit (.bool false)),
  ([0, 12, 31], [.sym 19, .lit (.int .i64 0)], .lit (.bool false))],
  [(19, [.agg [.sym 0, .sym 1, .sym 2, .sym 3, .sym 4, .sym 5]], .lit (.int .i64 0)),
  (19, [.agg [.sym 6, .sym 7, .sym 8, .sym 9, .sym 10, .sym 11]], .lit (.int .i64 0)),
  (71, [.agg [.sym 0, .sym 1, .sym 2], .agg [.sym 6, .sym 7, .sym 8]], .tup [.agg [.sym 12, .sym 13, .sym 14], .sym 15]),
  (71, [.agg [.sym 3, .sym 4, .sym 5], .agg [.sym 9, .sym 10, .sym 11]], .tup [.agg [.sym 16, .sym 17, .sym 18], .sym 19])]⟩
theorem GSub_c_r1 : @comes GSub_c_k1 Tryz.prog glT 3000 20 [.agg [.sym 0, .sym 1, .sym 2, .sym 3, .sym 4, .sym 5], .agg [.sym 6, .sym 7, .sym 8, .sym 9, .sym 10, .sym 11]] = some (.tup [.agg [.sym 12, .sym 13, .sym 14, .sym 16, .sym 17, .sym 18], .lit (.int .i64 0)]) := by kernel_rfl
@[reducible] noncomputable def GSub_c_k2 : Know := ⟨[([0, 12, 31], [.sym 15, .lit (.int .i64 0)], .lit (.bool false)),
  ([0, 12, 31], [.sym 19, .lit (.int .i64 0)], .lit (.bool true))],
  [(19, [.agg [.sym 0, .sym 1, .sym 2, .sym 3, .sym 4, .sym 5]], .lit (.int .i64 0)),
  (19, [.agg [.sym 6, .sym 7, .sym 8, .sym 9, .sym 10, .sym 11]], .lit (.int .i64 0)),
  (71, [.agg [.sym 0, .sym 1, .sym 2], .agg [.sym 6, .sym 7, .sym 8]], .tup [.agg [.sym 12, .sym 13, .sym 14], .sym 15]),
  (71, [.agg [.sym 3, .sym 4, .sym 5], .agg [.sym 9, .sym 10, .sym 11]], .tup [.agg [.sym 16, .sym 17, .sym 18], .sym 19])]⟩
theorem GSub_c_r2 : @comes GSub_c_k2 Tryz.prog glT 3000 20 [.agg [.sym 0, .sym 1, .sym 2, .sym 3, .sym 4, .sym 5], .agg [.sym 6, .sym 7, .sym 8, .sym 9, .sym 10, .sym 11]] = some (.tup [.lit (.agg #[.bool false, .string ⟨#[]⟩, .int .i64 0, .bool false, .string ⟨#[]⟩, .int .i64 0]), .sym 19]) := by kernel_rfl
@[reducible] noncomputable def GSub_c_k3 : Know := ⟨[([0, 12, 31], [.sym 15, .lit (.int .i64 0)], .lit (.bool true))],
  [(19, [.agg [.sym 0, .sym 1, .sym 2, .sym 3, .sym 4, .sym 5]], .lit (.int .i64 0)),
  (19, [.agg [.sym 6, .sym 7, .sym 8, .sym 9, .sym 10, .sym 11]], .lit (.int .i64 0)),
  (71, [.agg [.sym 0, .sym 1, .sym 2], .agg [.sym 6, .sym 7, .sym 8]], .tup [.agg [.sym 12, .sym 13, .sym 14], .sym 15])]⟩
theorem GSub_c_r3 : @comes GSub_c_k3 Tryz.prog glT 3000 20 [.agg [.sym 0, .sym 1, .sym 2, .sym 3, .sym 4, .sym 5], .agg [.sym 6, .sym 7, .sym 8, .sym 9, .sym 10, .sym 11]] = some (.tup [.lit (.agg #[.bool false, .string ⟨#[]⟩, .int .i64 0, .bool false, .string ⟨#[]⟩, .int .i64 0]), .sym 15]) := by kernel_rfl
set_option maxRecDepth 100000 in
theorem GSub_c (a b : Gs) (w : World) (ha : a.Ok) (hb : b.Ok) (hG : Globs glT w) : Calls Tryz.prog 20 #[.agg #[.bool a.re.g, .string (natS a.re.n), .int .i64 a.re.x, .bool a.im.g, .string (natS a.im.n), .int .i64 a.im.x], .agg #[.bool b.re.g, .string (natS b.re.n), .int .i64 b.re.x, .bool b.im.g, .string (natS b.im.n), .int .i64 b.im.x]] w fun e w' => e = .returned (.tuple #[(gaddD a (neG b)).v, .int .i64 (gaddE a (neG b))]) ∧ Below w.heap.size w w' := by
  by_cases h1 : addE a.re (negD b.re) = 0
  · by_cases h2 : addE a.im (negD b.im) = 0
    · letI : Env := mkEnv glT [.bool a.re.g, .string (natS a.re.n), .int .i64 a.re.x, .bool a.im.g, .string (natS a.im.n), .int .i64 a.im.x, .bool b.re.g, .string (natS b.re.n), .int .i64 b.re.x, .bool b.im.g, .string (natS b.im.n), .int .i64 b.im.x, .bool (addD a.re (negD b.re)).g, .string (natS (addD a.re (negD b.re)).n), .int .i64 (addD a.re (negD b.re)).x, .int .i64 (addE a.re (negD b.re)), .bool (addD a.im (negD b.im)).g, .string (natS (addD a.im (negD b.im)).n), .int .i64 (addD a.im (negD b.im)).x, .int .i64 (addE a.im (negD b.im))] rfl
      have hops : OpsT Tryz.prog (@Know.ops GSub_c_k1) := ⟨opt_neq_f rfl rfl h1, opt_neq_f rfl rfl h2, trivial⟩
      have hcalls : CallsT Tryz.prog (@Know.calls GSub_c_k1) := ⟨callt rfl rfl fun w hG => GCheck_gs a ha w hG, callt rfl rfl fun w hG => GCheck_gs b hb w hG, callt rfl rfl fun w hG => DSub_c a.re b.re w ha.1 hb.1 hG, callt rfl rfl fun w hG => DSub_c a.im b.im w ha.2 hb.2 hG, trivial⟩
      exact (@sym_ok _ GSub_c_k1 _ (@KnowOk.of _ GSub_c_k1 _ hops hcalls) (by kernel_rfl) _ _ _ _ GSub_c_r1 rfl rfl _ hG).mono fun e w' h => ⟨h.1.trans (show Ending.returned (.tuple #[.agg #[.bool (addD a.re (negD b.re)).g, .string (natS (addD a.re (negD b.re)).n), .int .i64 (addD a.re (negD b.re)).x, .bool (addD a.im (negD b.im)).g, .string (natS (addD a.im (negD b.im)).n), .int .i64 (addD a.im (negD b.im)).x], .int .i64 0]) = .returned (.tuple #[(gaddD a (neG b)).v, .int .i64 (gaddE a (neG b))]) from by rw [show gaddD a (neG b) = _ from erG_ok (l := gaddL a (neG b)) (show All0 (gaddL a (neG b)) from ⟨h1, h2, trivial⟩), show gaddE a (neG b) = 0 from erI_ok (l := gaddL a (neG b)) (show All0 (gaddL a (neG b)) from ⟨h1, h2, trivial⟩)]; rfl), h.2⟩
    · letI : Env := mkEnv glT [.bool a.re.g, .string (natS a.re.n), .int .i64 a.re.x, .bool a.im.g, .string (natS a.im.n), .int .i64 a.im.x, .bool b.re.g, .string (natS b.re.n), .int .i64 b.re.x, .bool b.im.g, .string (natS b.im.n), .int .i64 b.im.x, .bool (addD a.re (negD b.re)).g, .string (natS (addD a.re (negD b.re)).n), .int .i64 (addD a.re (negD b.re)).x, .int .i64 (addE a.re (negD b.re)), .bool (addD a.im (negD b.im)).g, .string (natS (addD a.im (negD b.im)).n), .int .i64 (addD a.im (negD b.im)).x, .int .i64 (addE a.im (negD b.im))] rfl
      have hops : OpsT Tryz.prog (@Know.ops GSub_c_k2) := ⟨opt_neq_f rfl rfl h1, opt_neq_t rfl rfl h2, trivial⟩
      have hcalls : CallsT Tryz.prog (@Know.calls GSub_c_k2) := ⟨callt rfl rfl fun w hG => GCheck_gs a ha w hG, callt rfl rfl fun w hG => GCheck_gs b hb w hG, callt rfl rfl fun w hG => DSub_c a.re b.re w ha.1 hb.1 hG, callt rfl rfl fun w hG => DSub_c a.im b.im w ha.2 hb.2 hG, trivial⟩
      exact (@sym_ok _ GSub_c_k2 _ (@KnowOk.of _ GSub_c_k2 _ hops hcalls) (by kernel_rfl) _ _ _ _ GSub_c_r2 rfl rfl _ hG).mono fun e w' h => ⟨h.1.trans (show Ending.returned (.tuple #[.agg #[.bool false, .string ⟨#[]⟩, .int .i64 0, .bool false, .string ⟨#[]⟩, .int .i64 0], .int .i64 (addE a.im (negD b.im))]) = .returned (.tuple #[(gaddD a (neG b)).v, .int .i64 (gaddE a (neG b))]) from by rw [show gaddD a (neG b) = _ from erG_no (l := gaddL a (neG b)) (show ¬ All0 (gaddL a (neG b)) from (fun c => h2 c.2.1)), show gaddE a (neG b) = 4 from erI_no (l := gaddL a (neG b)) (show ¬ All0 (gaddL a (neG b)) from (fun c => h2 c.2.1)), Gs.zero_v, addE4 h2]), h.2⟩
  · letI : Env := mkEnv glT [.bool a.re.g, .string (natS a.re.n), .int .i64 a.re.x, .bool a.im.g, .string (natS a.im.n), .int .i64 a.im.x, .bool b.re.g, .string (natS b.re.n), .int .i64 b.re.x, .bool b.im.g, .string (natS b.im.n), .int .i64 b.im.x, .bool (addD a.re (negD b.re)).g, .string (natS (addD a.re (negD b.re)).n), .int .i64 (addD a.re (negD b.re)).x, .int .i64 (addE a.re (negD b.re))] rfl
    have hops : OpsT Tryz.prog (@Know.ops GSub_c_k3) := ⟨opt_neq_t rfl rfl h1, trivial⟩
    have hcalls : CallsT Tryz.prog (@Know.calls GSub_c_k3) := ⟨callt rfl rfl fun w hG => GCheck_gs a ha w hG, callt rfl rfl fun w hG => GCheck_gs b hb w hG, callt rfl rfl fun w hG => DSub_c a.re b.re w ha.1 hb.1 hG, trivial⟩
    exact (@sym_ok _ GSub_c_k3 _ (@KnowOk.of _ GSub_c_k3 _ hops hcalls) (by kernel_rfl) _ _ _ _ GSub_c_r3 rfl rfl _ hG).mono fun e w' h => ⟨h.1.trans (show Ending.returned (.tuple #[.agg #[.bool false, .string ⟨#[]⟩, .int .i64 0, .bool false, .string ⟨#[]⟩, .int .i64 0], .int .i64 (addE a.re (negD b.re))]) = .returned (.tuple #[(gaddD a (neG b)).v, .int .i64 (gaddE a (neG b))]) from by rw [show gaddD a (neG b) = _ from erG_no (l := gaddL a (neG b)) (show ¬ All0 (gaddL a (neG b)) from (fun c => h1 c.1)), show gaddE a (neG b) = 4 from erI_no (l := gaddL a (neG b)) (show ¬ All0 (gaddL a (neG b)) from (fun c => h1 c.1)), Gs.zero_v, addE4 h1]), h.2⟩
end Go.Proofs.YtamcnnocjelcjaaGreatDoor
namespace Go.Proofs.YtamcnnocjelcjaaGreatDoor
open Go Go.RowKit Nt
@[reducible] noncomputable def rGSub_c_k1 : Know := ⟨[([0, 12, 3], [.sym 21, .lit (.int .i64 0)], .lit (.bool false)),
  ([0, 12, 3], [.sym 25, .lit (.int .i64 0)], .lit (.bool false))],
  [(30, [.agg [.sym 6, .sym 7, .sym 8]], .agg [.sym 12, .sym 13, .sym 14]),
  (30, [.agg [.sym 9, .sym 10, .sym 11]], .agg [.sym 15, .sym 16, .sym 17]),
  (53, [.agg [.sym 0, .sym 1, .sym 2], .agg [.sym 12, .sym 13, .sym 14]], .tup [.agg [.sym 18, .sym 19, .sym 20], .sym 21]),
  (53, [.agg [.sym 3, .sym 4, .sym 5], .agg [.sym 15, .sym 16, .sym 17]], .tup [.agg [.sym 22, .sym 23, .sym 24], .sym 25])]⟩
theorem rGSub_c_r1 : @comes rGSub_c_k1 Tryz.prog glT 3000 29 [.agg [.sym 0, .sym 1, .sym 2, .sym 3, .sym 4, .sym 5], .agg [.sym 6, .sym 7, .sym 8, .sym 9, .sym 10, .sym 11]] = some (.tup [.agg [.sym 18, .sym 19, .sym 20, .sym 22, .sym 23, .sym 24], .lit (.int .i64 0)]) := by kernel_rfl
@[reducible] noncomputable def rGSub_c_k2 : Know := ⟨[([0, 12, 3], [.sym 21, .lit (.int .i64 0)], .lit (.bool false)),
  ([0, 12, 3], [.sym 25, .lit (.int .i64 0)], .lit (.bool true))],
  [(30, [.agg [.sym 6, .sym 7, .sym 8]], .agg [.sym 12, .sym 13, .sym 14]),
  (30, [.agg [.sym 9, .sym 10, .sym 11]], .agg [.sym 15, .sym 16, .sym 17]),
  (53, [.agg [.sym 0, .sym 1, .sym 2], .agg [.sym 12, .sym 13, .sym 14]], .tup [.agg [.sym 18, .sym 19, .sym 20], .sym 21]),
  (53, [.agg [.sym 3, .sym 4, .sym 5], .agg [.sym 15, .sym 16, .sym 17]], .tup [.agg [.sym 22, .sym 23, .sym 24], .sym 25])]⟩
theorem rGSub_c_r2 : @comes rGSub_c_k2 Tryz.prog glT 3000 29 [.agg [.sym 0, .sym 1, .sym 2, .sym 3, .sym 4, .sym 5], .agg [.sym 6, .sym 7, .sym 8, .sym 9, .sym 10, .sym 11]] = some (.lit (.tuple #[.agg #[.bool false, .string ⟨#[]⟩, .int .i64 0, .bool false, .string ⟨#[]⟩, .int .i64 0], .int .i64 4])) := by kernel_rfl
@[reducible] noncomputable def rGSub_c_k3 : Know := ⟨[([0, 12, 3], [.sym 21, .lit (.int .i64 0)], .lit (.bool true))],
  [(30, [.agg [.sym 6, .sym 7, .sym 8]], .agg [.sym 12, .sym 13, .sym 14]),
  (30, [.agg [.sym 9, .sym 10, .sym 11]], .agg [.sym 15, .sym 16, .sym 17]),
  (53, [.agg [.sym 0, .sym 1, .sym 2], .agg [.sym 12, .sym 13, .sym 14]], .tup [.agg [.sym 18, .sym 19, .sym 20], .sym 21]),
  (53, [.agg [.sym 3, .sym 4, .sym 5], .agg [.sym 15, .sym 16, .sym 17]], .tup [.agg [.sym 22, .sym 23, .sym 24], .sym 25])]⟩
theorem rGSub_c_r3 : @comes rGSub_c_k3 Tryz.prog glT 3000 29 [.agg [.sym 0, .sym 1, .sym 2, .sym 3, .sym 4, .sym 5], .agg [.sym 6, .sym 7, .sym 8, .sym 9, .sym 10, .sym 11]] = some (.lit (.tuple #[.agg #[.bool false, .string ⟨#[]⟩, .int .i64 0, .bool false, .string ⟨#[]⟩, .int .i64 0], .int .i64 4])) := by kernel_rfl
set_option maxRecDepth 100000 in
theorem rGSub_c (a b : Gs) (w : World) (ha : a.Ok) (hb : b.Ok) (hG : Globs glT w) : Calls Tryz.prog 29 #[.agg #[.bool a.re.g, .string (natS a.re.n), .int .i64 a.re.x, .bool a.im.g, .string (natS a.im.n), .int .i64 a.im.x], .agg #[.bool b.re.g, .string (natS b.re.n), .int .i64 b.re.x, .bool b.im.g, .string (natS b.im.n), .int .i64 b.im.x]] w fun e w' => e = .returned (.tuple #[(gaddD a (neG b)).v, .int .i64 (gaddE a (neG b))]) ∧ Below w.heap.size w w' := by
  by_cases h1 : addE a.re (negD b.re) = 0
  · by_cases h2 : addE a.im (negD b.im) = 0
    · letI : Env := mkEnv glT [.bool a.re.g, .string (natS a.re.n), .int .i64 a.re.x, .bool a.im.g, .string (natS a.im.n), .int .i64 a.im.x, .bool b.re.g, .string (natS b.re.n), .int .i64 b.re.x, .bool b.im.g, .string (natS b.im.n), .int .i64 b.im.x, .bool (negD b.re).g, .string (natS (negD b.re).n), .int .i64 (negD b.re).x, .bool (negD b.im).g, .string (natS (negD b.im).n), .int .i64 (negD b.im).x, .bool (addD a.re (negD b.re)).g, .string (natS (addD a.re (negD b.re)).n), .int .i64 (addD a.re (negD b.re)).x, .int .i64 (addE a.re (negD b.re)), .bool (addD a.im (negD b.im)).g, .string (natS (addD a.im (negD b.im)).n), .int .i64 (addD a.im (negD b.im)).x, .int .i64 (addE a.im (negD b.im))] rfl
      have hops : OpsT Tryz.prog (@Know.ops rGSub_c_k1) := ⟨opt_neq_f rfl rfl h1, opt_neq_f rfl rfl h2, trivial⟩
      have hcalls : CallsT Tryz.prog (@Know.calls rGSub_c_k1) := ⟨callt rfl rfl fun w hG => rNegD3_c b.re w hb.1, callt rfl rfl fun w hG => rNegD3_c b.im w hb.2, callt rfl rfl fun w hG => rAdd3_c a.re (negD b.re) w ha.1 (negD_Ok hb.1), callt rfl rfl fun w hG => rAdd3_c a.im (negD b.im) w ha.2 (negD_Ok hb.2), trivial⟩
      exact (@sym_ok _ rGSub_c_k1 _ (@KnowOk.of _ rGSub_c_k1 _ hops hcalls) (by kernel_rfl) _ _ _ _ rGSub_c_r1 rfl rfl _ hG).mono fun e w' h => ⟨h.1.trans (show Ending.returned (.tuple #[.agg #[.bool (addD a.re (negD b.re)).g, .string (natS (addD a.re (negD b.re)).n), .int .i64 (addD a.re (negD b.re)).x, .bool (addD a.im (negD b.im)).g, .string (natS (addD a.im (negD b.im)).n), .int .i64 (addD a.im (negD b.im)).x], .int .i64 0]) = .returned (.tuple #[(gaddD a (neG b)).v, .int .i64 (gaddE a (neG b))]) from by rw [show gaddD a (neG b) = _ from erG_ok (l := gaddL a (neG b)) (show All0 (gaddL a (neG b)) from ⟨h1, h2, trivial⟩), show gaddE a (neG b) = 0 from erI_ok (l := gaddL a (neG b)) (show All0 (gaddL a (neG b)) from ⟨h1, h2, trivial⟩)]; rfl), h.2⟩
    · letI : Env := mkEnv glT [.bool a.re.g, .string (natS a.re.n), .int .i64 a.re.x, .bool a.im.g, .string (natS a.im.n), .int .i64 a.im.x, .bool b.re.g, .string (natS b.re.n), .int .i64 b.re.x, .bool b.im.g, .string (natS b.im.n), .int .i64 b.im.x, .bool (negD b.re).g, .string (natS (negD b.re).n), .int .i64 (negD b.re).x, .bool (negD b.im).g, .string (natS (negD b.im).n), .int .i64 (negD b.im).x, .bool (addD a.re (negD b.re)).g, .string (natS (addD a.re (negD b.re)).n), .int .i64 (addD a.re (negD b.re)).x, .int .i64 (addE a.re (negD b.re)), .bool (addD a.im (negD b.im)).g, .string (natS (addD a.im (negD b.im)).n), .int .i64 (addD a.im (negD b.im)).x, .int .i64 (addE a.im (negD b.im))] rfl
      have hops : OpsT Tryz.prog (@Know.ops rGSub_c_k2) := ⟨opt_neq_f rfl rfl h1, opt_neq_t rfl rfl h2, trivial⟩
      have hcalls : CallsT Tryz.prog (@Know.calls rGSub_c_k2) := ⟨callt rfl rfl fun w hG => rNegD3_c b.re w hb.1, callt rfl rfl fun w hG => rNegD3_c b.im w hb.2, callt rfl rfl fun w hG => rAdd3_c a.re (negD b.re) w ha.1 (negD_Ok hb.1), callt rfl rfl fun w hG => rAdd3_c a.im (negD b.im) w ha.2 (negD_Ok hb.2), trivial⟩
      exact (@sym_ok _ rGSub_c_k2 _ (@KnowOk.of _ rGSub_c_k2 _ hops hcalls) (by kernel_rfl) _ _ _ _ rGSub_c_r2 rfl rfl _ hG).mono fun e w' h => ⟨h.1.trans (show Ending.returned (.tuple #[.agg #[.bool false, .string ⟨#[]⟩, .int .i64 0, .bool false, .string ⟨#[]⟩, .int .i64 0], .int .i64 4]) = .returned (.tuple #[(gaddD a (neG b)).v, .int .i64 (gaddE a (neG b))]) from by rw [show gaddD a (neG b) = _ from erG_no (l := gaddL a (neG b)) (show ¬ All0 (gaddL a (neG b)) from (fun c => h2 c.2.1)), show gaddE a (neG b) = 4 from erI_no (l := gaddL a (neG b)) (show ¬ All0 (gaddL a (neG b)) from (fun c => h2 c.2.1)), Gs.zero_v]), h.2⟩
  · letI : Env := mkEnv glT [.bool a.re.g, .string (natS a.re.n), .int .i64 a.re.x, .bool a.im.g, .string (natS a.im.n), .int .i64 a.im.x, .bool b.re.g, .string (natS b.re.n), .int .i64 b.re.x, .bool b.im.g, .string (natS b.im.n), .int .i64 b.im.x, .bool (negD b.re).g, .string (natS (negD b.re).n), .int .i64 (negD b.re).x, .bool (negD b.im).g, .string (natS (negD b.im).n), .int .i64 (negD b.im).x, .bool (addD a.re (negD b.re)).g, .string (natS (addD a.re (negD b.re)).n), .int .i64 (addD a.re (negD b.re)).x, .int .i64 (addE a.re (negD b.re)), .bool (addD a.im (negD b.im)).g, .string (natS (addD a.im (negD b.im)).n), .int .i64 (addD a.im (negD b.im)).x, .int .i64 (addE a.im (negD b.im))] rfl
    have hops : OpsT Tryz.prog (@Know.ops rGSub_c_k3) := ⟨opt_neq_t rfl rfl h1, trivial⟩
    have hcalls : CallsT Tryz.prog (@Know.calls rGSub_c_k3) := ⟨callt rfl rfl fun w hG => rNegD3_c b.re w hb.1, callt rfl rfl fun w hG => rNegD3_c b.im w hb.2, callt rfl rfl fun w hG => rAdd3_c a.re (negD b.re) w ha.1 (negD_Ok hb.1), callt rfl rfl fun w hG => rAdd3_c a.im (negD b.im) w ha.2 (negD_Ok hb.2), trivial⟩
    exact (@sym_ok _ rGSub_c_k3 _ (@KnowOk.of _ rGSub_c_k3 _ hops hcalls) (by kernel_rfl) _ _ _ _ rGSub_c_r3 rfl rfl _ hG).mono fun e w' h => ⟨h.1.trans (show Ending.returned (.tuple #[.agg #[.bool false, .string ⟨#[]⟩, .int .i64 0, .bool false, .string ⟨#[]⟩, .int .i64 0], .int .i64 4]) = .returned (.tuple #[(gaddD a (neG b)).v, .int .i64 (gaddE a (neG b))]) from by rw [show gaddD a (neG b) = _ from erG_no (l := gaddL a (neG b)) (show ¬ All0 (gaddL a (neG b)) from (fun c => h1 c.1)), show gaddE a (neG b) = 4 from erI_no (l := gaddL a (neG b)) (show ¬ All0 (gaddL a (neG b)) from (fun c => h1 c.1)), Gs.zero_v]), h.2⟩
end Go.Proofs.YtamcnnocjelcjaaGreatDoor
namespace Go.Proofs.YtamcnnocjelcjaaGreatDoor
open Go Go.RowKit Nt
open Classical in
@[irreducible] noncomputable def Dt.d (t : Dt) : Dy := if h : t.Ok then Classical.choose (Dt.dy h) else Dy.zero
noncomputable def Gt.s (a : Gt) : Gs := ⟨a.re.d, a.im.d⟩
end Go.Proofs.YtamcnnocjelcjaaGreatDoor
namespace Go.Proofs.YtamcnnocjelcjaaGreatDoor
open Go Go.RowKit Nt
theorem gaddE4 {a b : Gs} (h : ¬ gaddE a b = 0) : gaddE a b = 4 := by
  unfold gaddE at h ⊢
  by_cases c : All0 (gaddL a b)
  · exact absurd (erI_ok c) h
  · exact erI_no c
theorem slot_f (x : Dy) (n : Nat) (e : Int) (w : World) (hx : x.Ok) (h1 : 1 ≤ n) (hn : n ≤ 65536) (he : -4096 ≤ e ∧ e ≤ 4096) (h : ¬ (-(n : Int) * hT e ≤ iv x ∧ iv x ≤ (n : Int) * hT e)) :
    Calls Tryz.prog 21 #[.agg #[.bool x.g, .string (natS x.n), .int .i64 x.x], .int .i64 (n : Nat), .int .i64 e] w fun r w' => r = .returned (.tuple #[.int .i64 0, .bool false]) ∧ Below w.heap.size w w' := by
  by_cases hl : -(n : Int) * hT e ≤ iv x
  · exact slot_w x n e 0 false w hx h1 hn he (Or.inr (Or.inl ⟨hl, fun c => h ⟨hl, c⟩, rfl, rfl⟩))
  · exact slot_w x n e 0 false w hx h1 hn he (Or.inl ⟨hl, rfl, rfl⟩)
theorem slot_t (x : Dy) (n : Nat) (e : Int) (c : Nat) (w : World) (hx : x.Ok) (h1 : 1 ≤ n) (hn : n ≤ 65536) (he : -4096 ≤ e ∧ e ≤ 4096) (hl : -(n : Int) * hT e ≤ iv x) (hu : iv x ≤ (n : Int) * hT e) (hs : IsSlot (iv x) (hT e) n c) :
    Calls Tryz.prog 21 #[.agg #[.bool x.g, .string (natS x.n), .int .i64 x.x], .int .i64 (n : Nat), .int .i64 e] w fun r w' => r = .returned (.tuple #[.int .i64 (c : Nat), .bool true]) ∧ Below w.heap.size w w' :=
  slot_w x n e c true w hx h1 hn he (Or.inr (Or.inr ⟨hl, hu, hs, rfl⟩))
theorem Find_same (p q : Dy) (y : Int) (na nb : Nat) (g : Gs) (hp : p.Ok) (hq : q.Ok) (hy : -4096 ≤ y ∧ y ≤ 4096) (ha : 1 ≤ na ∧ na ≤ 65536) (hb : 1 ≤ nb ∧ nb ≤ 65536) (hg : g.Ok) :
    ∃ m n k : Int, (∀ w, Globs glT w → Calls Tryz.prog 6 #[.agg #[.bool p.g, .string (natS p.n), .int .i64 p.x, .bool q.g, .string (natS q.n), .int .i64 q.x, .int .i64 y, .int .i64 (na : Int), .int .i64 (nb : Int)], .agg #[.bool g.re.g, .string (natS g.re.n), .int .i64 g.re.x, .bool g.im.g, .string (natS g.im.n), .int .i64 g.im.x]] w fun e w' => e = .returned (.tuple #[.int .i64 m, .int .i64 n, .int .i64 k]) ∧ Below w.heap.size w w') ∧
      (∀ w, Globs glT w → Calls Tryz.prog 11 #[.agg #[.bool p.g, .string (natS p.n), .int .i64 p.x, .bool q.g, .string (natS q.n), .int .i64 q.x, .int .i64 y, .int .i64 (na : Int), .int .i64 (nb : Int)], .agg #[.bool g.re.g, .string (natS g.re.n), .int .i64 g.re.x, .bool g.im.g, .string (natS g.im.n), .int .i64 g.im.x]] w fun e w' => e = .returned (.tuple #[.int .i64 m, .int .i64 n, .int .i64 k]) ∧ Below w.heap.size w w') := by
  have HS := fun w (hG : Globs glT w) => GSub_c g ⟨p, q⟩ w hg ⟨hp, hq⟩ hG
  have HR := fun w (hG : Globs glT w) => rGSub_c g ⟨p, q⟩ w hg ⟨hp, hq⟩ hG
  have hd : (gaddD g (neG ⟨p, q⟩)).Ok := gaddD_Ok hg (neG_Ok ⟨hp, hq⟩)
  have ha' : 1 ≤ (na : Int) ∧ (na : Int) ≤ 65536 := by omega
  have hb' : 1 ≤ (nb : Int) ∧ (nb : Int) ≤ 65536 := by omega
  by_cases hk : gaddE g (neG ⟨p, q⟩) = 0
  · rw [hk] at HS HR
    generalize gaddD g (neG ⟨p, q⟩) = d at *
    obtain ⟨hr, hi⟩ := hd
    have ht := negD_Ok hi
    have HN := fun w (_ : Globs glT w) => DNeg_c d.im w hi
    have RN0 := fun w => rNegD3_c d.im w hi
    have RX0 := fun w => rNegD3_c d.re w hr
    have ivx := iv_neg d.re
    have hx1 := negD_Ok hr
    generalize negD d.im = t at *
    have RU0 := fun w => rNegD3_c t w ht
    have ivt := iv_neg t
    have ht1 := negD_Ok ht
    generalize negD d.re = x1 at *
    generalize negD t = t1 at *
    have RN := fun w (_ : Globs glT w) => RN0 w
    have RX := fun w (_ : Globs glT w) => RX0 w
    have RU := fun w (_ : Globs glT w) => RU0 w
    have kA : -10000000 ≤ (na : Int) ∧ (na : Int) ≤ 10000000 := by omega
    have kB : -10000000 ≤ (nb : Int) ∧ (nb : Int) ≤ 10000000 := by omega
    have nA : -(na : Int) * hT y = -((na : Int) * hT y) := Int.neg_mul _ _
    have nB : -(nb : Int) * hT y = -((nb : Int) * hT y) := Int.neg_mul _ _
    by_cases l1 : iv x1 ≤ (na : Int) * hT y
    · have B1 := fun w (_ : Globs glT w) => below_t hx1 kA hy l1 w
      by_cases l2 : iv t1 ≤ (nb : Int) * hT y
      · have B2 := fun w (_ : Globs glT w) => below_t ht1 kB hy l2 w
        by_cases l3 : iv d.re ≤ (na : Int) * hT y
        · have B3 := fun w (_ : Globs glT w) => below_t hr kA hy l3 w
          obtain ⟨c, hc⟩ := slot_ex (by omega) l3
          have HL := fun w (_ : Globs glT w) => slot_t d.re na y c w hr ha.1 ha.2 hy (by omega) l3 hc
          by_cases l4 : iv t ≤ (nb : Int) * hT y
          · obtain ⟨r, hrr⟩ := slot_ex (by omega) l4
            have HT := fun w (_ : Globs glT w) => slot_t t nb y r w ht hb.1 hb.2 hy (by omega) l4 hrr
            refine ⟨c, r, 0, fun w hG => VFind_yes p q y na nb g d t c r w hp hq hy ha' hb' hg HS HL HN HT hG, fun w hG => ?_⟩
            exact rFind_yes ⟨p.t, q.t⟩ y g d t x1 t1 na nb c r w hr ht hx1 ht1 HR RN0 RX0 RU0 ha hb hy l1 l2 l3 l4 hc hrr hG
          · have B4 := fun w (_ : Globs glT w) => below_f ht kB hy l4 w
            have HT := fun w (_ : Globs glT w) => slot_f t nb y w ht hb.1 hb.2 hy (fun c => l4 c.2)
            exact ⟨0, 0, 241, fun w hG => VFind_no2 p q y na nb g d t c 0 w hp hq hy ha' hb' hg HS HL HN HT hG, fun w hG => rFind_no4 p q y na nb g d t x1 t1 w hp hq hy ha' hb' hg HR RN RX RU B1 B2 B3 B4 hG⟩
        · have B3 := fun w (_ : Globs glT w) => below_f hr kA hy l3 w
          have HL := fun w (_ : Globs glT w) => slot_f d.re na y w hr ha.1 ha.2 hy (fun c => l3 c.2)
          refine ⟨0, 0, 241, fun w hG => ?_, fun w hG => rFind_no3 p q y na nb g d t x1 t1 w hp hq hy ha' hb' hg HR RN RX RU B1 B2 B3 hG⟩
          by_cases l5 : -(nb : Int) * hT y ≤ iv t ∧ iv t ≤ (nb : Int) * hT y
          · obtain ⟨r, hrr⟩ := slot_ex (by omega) l5.2
            exact VFind_no1t p q y na nb g d t 0 r w hp hq hy ha' hb' hg HS HL HN (fun w _ => slot_t t nb y r w ht hb.1 hb.2 hy l5.1 l5.2 hrr) hG
          · exact VFind_no1f p q y na nb g d t 0 0 w hp hq hy ha' hb' hg HS HL HN (fun w _ => slot_f t nb y w ht hb.1 hb.2 hy l5) hG
      · have B2 := fun w (_ : Globs glT w) => below_f ht1 kB hy l2 w
        have HT := fun w (_ : Globs glT w) => slot_f t nb y w ht hb.1 hb.2 hy (fun c => l2 (by omega))
        refine ⟨0, 0, 241, fun w hG => ?_, fun w hG => rFind_no2 p q y na nb g d t x1 t1 w hp hq hy ha' hb' hg HR RN RX RU B1 B2 hG⟩
        by_cases l5 : -(na : Int) * hT y ≤ iv d.re ∧ iv d.re ≤ (na : Int) * hT y
        · obtain ⟨c, hc⟩ := slot_ex (by omega) l5.2
          exact VFind_no2 p q y na nb g d t c 0 w hp hq hy ha' hb' hg HS (fun w _ => slot_t d.re na y c w hr ha.1 ha.2 hy l5.1 l5.2 hc) HN HT hG
        · exact VFind_no1f p q y na nb g d t 0 0 w hp hq hy ha' hb' hg HS (fun w _ => slot_f d.re na y w hr ha.1 ha.2 hy l5) HN HT hG
    · have B1 := fun w (_ : Globs glT w) => below_f hx1 kA hy l1 w
      have HL := fun w (_ : Globs glT w) => slot_f d.re na y w hr ha.1 ha.2 hy (fun c => l1 (by omega))
      refine ⟨0, 0, 241, fun w hG => ?_, fun w hG => rFind_no1 p q y na nb g d t x1 t1 w hp hq hy ha' hb' hg HR RN RX RU B1 hG⟩
      by_cases l5 : -(nb : Int) * hT y ≤ iv t ∧ iv t ≤ (nb : Int) * hT y
      · obtain ⟨r, hrr⟩ := slot_ex (by omega) l5.2
        exact VFind_no1t p q y na nb g d t 0 r w hp hq hy ha' hb' hg HS HL HN (fun w _ => slot_t t nb y r w ht hb.1 hb.2 hy l5.1 l5.2 hrr) hG
      · exact VFind_no1f p q y na nb g d t 0 0 w hp hq hy ha' hb' hg HS HL HN (fun w _ => slot_f t nb y w ht hb.1 hb.2 hy l5) hG
  · refine ⟨0, 0, 4, fun w hG => ?_, fun w hG => rFind_sub p q y na nb g _ _ w hp hq hy ha' hb' hg HR hk hG⟩
    have h := VFind_sub p q y na nb g _ _ w hp hq hy ha' hb' hg HS hk hG
    rwa [gaddE4 hk] at h
end Go.Proofs.YtamcnnocjelcjaaGreatDoor
namespace Go.Proofs.YtamcnnocjelcjaaGreatDoor
open Go Go.RowKit Nt
theorem ViewCells_law (p q : Dt) (y a b c r : Int) (g : Gt) (w : World) (zp : p.s.size ≤ 9223372036854775807) (zq : q.s.size ≤ 9223372036854775807) (zg : g.Small) (hG : Globs glT w) :
    Calls Tryz.prog 3 #[.agg #[.bool p.g, .string p.s, .int .i64 p.x, .bool q.g, .string q.s, .int .i64 q.x, .int .i64 y, .int .i64 a, .int .i64 b], .int .i64 c, .int .i64 r, .agg #[.bool g.re.g, .string g.re.s, .int .i64 g.re.x, .bool g.im.g, .string g.im.s, .int .i64 g.im.x]] w fun e w' => e = .returned (.bool true) ∧ Below w.heap.size w w' := by
  by_cases hw : (⟨⟨p, q⟩, y, a, b⟩ : WinT).Ok
  · obtain ⟨⟨h1, h2⟩, hy, ha, hb⟩ := hw
    obtain ⟨p, hp, rfl⟩ := Dt.dy h1
    obtain ⟨q, hq, rfl⟩ := Dt.dy h2
    replace hy : -4096 ≤ y ∧ y ≤ 4096 := hy
    replace ha : 1 ≤ a ∧ a ≤ 65536 := ha
    replace hb : 1 ≤ b ∧ b ≤ 65536 := hb
    by_cases hg : g.Ok
    · obtain ⟨g', hg', rfl⟩ := Gt.gs hg
      obtain ⟨na, rfl⟩ := Int.eq_ofNat_of_zero_le (a := a) (by omega)
      obtain ⟨nb, rfl⟩ := Int.eq_ofNat_of_zero_le (a := b) (by omega)
      obtain ⟨m, n, k, HF, HR⟩ := Find_same p q y na nb g' hp hq hy (by omega) (by omega) hg'
      by_cases hi : 0 ≤ c ∧ c ≤ (na : Int) - 1 ∧ 0 ≤ r ∧ r ≤ (nb : Int) - 1
      · exact ViewCells_a_in p q y na nb c r g' m n k w hp hq hy ha hb hg' HF HR hi.1 hi.2.1 hi.2.2.1 hi.2.2.2 hG
      · exact ViewCells_a_out p q y na nb c r g' m n k w hp hq hy ha hb hg' HF HR hi hG
    · have HF := fun w (hG : Globs glT w) => VFind_g p q y a b g w hp hq hy ha hb zg hg hG
      by_cases hi : 0 ≤ c ∧ c ≤ a - 1 ∧ 0 ≤ r ∧ r ≤ b - 1
      · exact ViewCells_c_in p q y a b c r g w hp hq hy ha hb zg hg HF hi.1 hi.2.1 hi.2.2.1 hi.2.2.2 hG
      · exact ViewCells_c_out p q y a b c r g w hp hq hy ha hb zg hg HF hi hG
  · have HC : ∀ w, Globs glT w → Calls Tryz.prog 15 #[.agg #[.bool p.g, .string p.s, .int .i64 p.x, .bool q.g, .string q.s, .int .i64 q.x, .int .i64 y, .int .i64 a, .int .i64 b]] w fun e w' => e = .returned (.int .i64 240) ∧ Below w.heap.size w w' := fun w hG => by
      have h := VCheck_c ⟨⟨p, q⟩, y, a, b⟩ w ⟨zp, zq⟩ hG
      rwa [wE_no hw] at h
    have HM := fun w (_ : Globs glT w) => rMay24_c ⟨⟨p, q⟩, y, a, b⟩ w ⟨zp, zq⟩ false ⟨fun c => absurd c Bool.false_ne_true, fun c => absurd c hw⟩
    have HF := fun w (hG : Globs glT w) => VFind_w p q y a b g w trivial HC hG
    exact ViewCells_b p q y a b c r g w trivial HC HM HF hG
end Go.Proofs.YtamcnnocjelcjaaGreatDoor
namespace Go.Proofs.YtamcnnocjelcjaaGreatDoor
open Go Go.RowKit Go.WideShapes Go.ChangeShapes
variable {H : Type} {enc : TypeId × Value → H} {P : Program}
theorem postBelow {f : Func} {s : ChangeSpec} {apart fresh handsOn again : Bool} {W W' : World} {args : Array Value} {v : Value} {ds gs : List (DataW H)} {places pa pv : List MemPlace}
    (whole : DataW.Whole enc P f.params.toList s.vars apart W args.toList ds gs places)
    (res : ∀ (b : Nat) (sp : Nat → Bool) (hd : Bool), DataW.TrodAll enc P W' b sp hd f.resultTypes.toList (v.resultList f.resultTypes.size) (s.fn H (ds ++ gs)).results [])
    (left : ∀ sp : Nat → Bool, (∀ p ∈ places, sp p.block = true) → DataW.TrodAll enc P W' 0 sp true f.params.toList args.toList (s.fn H (ds ++ gs)).args pa)
    (vars : ∀ sp : Nat → Bool, (∀ p ∈ places, sp p.block = true) → DataW.TrodVars enc P W' sp s.vars (s.fn H (ds ++ gs)).vars pv)
    (split : places = pa ++ pv) (below : Below W.heap.size W W')
    (ok : ∀ (j : Nat) (t : TypeId) (r : Value), f.resultTypes[j]? = some t → (v.resultList f.resultTypes.size)[j]? = some r → Value.okWide P W' .any 0 t r) :
    s.post enc P f apart fresh handsOn again W args v W' := by
  have old : ∀ p ∈ places, p.block < W.heap.size := fun p hp => whole.lt p hp
  have same : ∀ p ∈ places, (fun b => decide (b < W.heap.size)) p.block = true := fun p hp => decide_eq_true (old p hp)
  have kept : W.keptBut W' (fun p => p ∈ places ∧ p ∈ pa ++ pv) :=
    World.keptBut_mono (fun p hp => ⟨hp, split ▸ hp⟩) (below.frame (· ∈ places))
  have free : ∀ b off, MemPlace.cell b off ∈ pa ++ pv → W'.frozen? ⟨b, off, none⟩ = false := fun b off hp => by
    have hin : MemPlace.cell b off ∈ places := split ▸ hp
    rw [below.frozen (p := ⟨b, off, none⟩) (old _ hin)]
    obtain ⟨_, _, _, _, _, hz, _⟩ := whole
    exact hz b off hin
  have apartNow : apart = true → (pa ++ pv).Nodup := fun ha => by
    obtain ⟨_, _, _, _, _, _, hn⟩ := whole
    exact split ▸ hn ha
  refine ⟨ds, gs, places, [], pa, pv, whole, res _ _ _, left _ same, vars _ same, ?_, fun _ => ⟨ok, _, _, ([] ++ pa) ++ pv, ⟨[] ++ pa, pv, trodAll_append (left _ (fun _ _ => rfl)) (res _ _ _), vars _ (fun _ _ => rfl), rfl, ?_, ?_⟩, ?_⟩⟩
  · exact World.keptBut_mono (fun p hp => ⟨hp.1, Or.inr (List.mem_append.1 hp.2)⟩) kept
  · intro b off hp; exact free b off (by simpa using hp)
  · intro ha; simpa using apartNow ha
  · intro p hp _; rw [split]; simpa using hp
end Go.Proofs.YtamcnnocjelcjaaGreatDoor
namespace Go.Proofs.YtamcnnocjelcjaaGreatDoor
open Go.ChangeShapes Go.WideShapes Go.ChangeAt Go.RowKit Go.Joins
variable {H : Type} {enc : TypeId × Value → H}
def dyadD (H : Type) (g : Bool) (s : ByteArray) (x : Int) : DataW H := .agg [.lit (.bool g), .lit (.string s.data.toList), .lit (.int .i64 x)]
end Go.Proofs.YtamcnnocjelcjaaGreatDoor
namespace Go.Proofs.YtamcnnocjelcjaaGreatDoor
open Go.ChangeShapes Go.WideShapes Go.ChangeAt Go.RowKit Go.Joins Go.Deep Go.ChangeMaps
variable {H : Type} {enc : TypeId × Value → H}
def gaussD (H : Type) (g : Bool) (s : ByteArray) (x : Int) (k : Bool) (r : ByteArray) (y : Int) : DataW H := .agg [dyadD H g s x, dyadD H k r y]
theorem array6 {α : Type} {cs : Array α} (h : cs.size = 6) : ∃ c0 c1 c2 c3 c4 c5, cs = #[c0, c1, c2, c3, c4, c5] := by
  obtain ⟨l⟩ := cs
  match l, h with
  | [c0, c1, c2, c3, c4, c5], _ => exact ⟨c0, c1, c2, c3, c4, c5, rfl⟩
theorem cDyad : Tryz.prog.cellsOf 24 = 3 := by kernel_rfl
theorem cGauss : Tryz.prog.cellsOf 26 = 6 := by kernel_rfl
theorem cBool1 : Tryz.prog.cellsOf 4 = 1 := by kernel_rfl
theorem cNat1 : Tryz.prog.cellsOf 22 = 1 := by kernel_rfl
theorem cInt1 : Tryz.prog.cellsOf 3 = 1 := by kernel_rfl
set_option maxRecDepth 100000 in
theorem trod_dyad {w : World} {base : Nat} {spare : Nat → Bool} {held : Bool} {n : Nat} {c0 c1 c2 : Value} {y : DataW H × List MemPlace} (h : DataW.trod enc Tryz.prog w base spare held n 24 [c0, c1, c2] = some y) :
    ∃ (g : Bool) (s : ByteArray) (x : Int), c0 = .bool g ∧ c1 = .string s ∧ c2 = .int .i64 x ∧ y = (dyadD H g s x, []) ∧ s.size ≤ maxLen ∧ (Lit.int .i64 x).wf = true := by
  obtain ⟨y0, y1, y2, m, rfl, _, h0, h1, h2⟩ := trod_struct3 Tryz.underlying24 h
  simp only [cBool1, cNat1, cInt1, List.drop_zero, List.take_succ_cons, List.take_zero, List.drop_succ_cons] at h0 h1 h2
  obtain ⟨g, e0, rfl⟩ := DataW.trod_bool Tryz.underlying4 h0
  obtain ⟨s, e1, rfl, hs⟩ := DataW.trod_string Tryz.underlying22 h1
  obtain ⟨x, e2, rfl, wx⟩ := DataW.trod_int Tryz.underlying3 h2
  simp at e0 e1 e2
  subst e0 e1 e2
  exact ⟨g, s, x, rfl, rfl, rfl, rfl, hs, wx⟩
set_option maxRecDepth 100000 in
theorem open_gauss {w : World} {base : Nat} {spare : Nat → Bool} {held : Bool} {r : Go.Reach} {b0 : Nat} {v : Value} {d : DataW H} {p : List MemPlace}
    (hv : Value.okWide Tryz.prog w r b0 26 v) (h : DataW.Trod enc Tryz.prog w base spare held 26 v d p) :
    ∃ (g : Bool) (s : ByteArray) (x : Int) (k : Bool) (q : ByteArray) (y : Int), v = .agg #[.bool g, .string s, .int .i64 x, .bool k, .string q, .int .i64 y] ∧ d = gaussD H g s x k q y ∧ p = [] ∧ (s.size ≤ maxLen ∧ (Lit.int .i64 x).wf = true) ∧ (q.size ≤ maxLen ∧ (Lit.int .i64 y).wf = true) := by
  obtain ⟨cs, rfl, hsz⟩ := okWide_struct Tryz.underlying26 hv
  obtain ⟨c0, c1, c2, c3, c4, c5, rfl⟩ := array6 (hsz.trans cGauss)
  obtain ⟨fuel, hf⟩ := h
  obtain ⟨y0, y1, n, hx, _, h0, h1⟩ := trod_struct2 Tryz.underlying26 hf
  simp only [Value.cells, cDyad, List.drop_zero, List.take_succ_cons, List.take_zero, List.drop_succ_cons] at h0 h1
  obtain ⟨g, s, x, rfl, rfl, rfl, rfl, hs, wx⟩ := trod_dyad h0
  obtain ⟨k, q, y, rfl, rfl, rfl, rfl, hq, wy⟩ := trod_dyad h1
  simp only [Prod.mk.injEq] at hx
  obtain ⟨hd, hp⟩ := hx
  exact ⟨g, s, x, k, q, y, rfl, hd, hp, ⟨hs, wx⟩, ⟨hq, wy⟩⟩
theorem shut_trod_dyad {W' : World} {b : Nat} {sp : Nat → Bool} {hd : Bool} {g : Bool} {s : ByteArray} {x : Int} (hs : s.size ≤ maxLen) (wx : (Lit.int .i64 x).wf = true) (n : Nat) :
    DataW.trod enc Tryz.prog W' b sp hd (n + 2) 24 [.bool g, .string s, .int .i64 x] = some (dyadD H g s x, []) := by
  have := trod_struct3_mk (enc := enc) (w := W') (base := b) (spare := sp) (held := hd) (n := n + 1) (cs := [.bool g, .string s, .int .i64 x]) (y0 := (.lit (.bool g), [])) (y1 := (.lit (.string s.data.toList), [])) (y2 := (.lit (.int .i64 x), [])) Tryz.underlying24 (by rw [cDyad]; rfl)
    (by simp [cBool1, DataW.trod, Tryz.underlying4]) (by simp [cNat1, DataW.trod, Tryz.underlying22, hs]) (by simp [cInt1, DataW.trod, Tryz.underlying3, wx])
  simpa [dyadD] using this
set_option maxRecDepth 100000 in
theorem shut_gauss {W' : World} {b : Nat} {sp : Nat → Bool} {hd : Bool} {g : Bool} {s : ByteArray} {x : Int} {k : Bool} {q : ByteArray} {y : Int} (h1 : s.size ≤ maxLen ∧ (Lit.int .i64 x).wf = true) (h2 : q.size ≤ maxLen ∧ (Lit.int .i64 y).wf = true) :
    DataW.Trod enc Tryz.prog W' b sp hd 26 (.agg #[.bool g, .string s, .int .i64 x, .bool k, .string q, .int .i64 y]) (gaussD H g s x k q y) [] := by
  refine ⟨3, ?_⟩
  have := trod_struct2_mk (enc := enc) (w := W') (base := b) (spare := sp) (held := hd) (n := 2) (cs := [.bool g, .string s, .int .i64 x, .bool k, .string q, .int .i64 y]) (y0 := (dyadD H g s x, [])) (y1 := (dyadD H k q y, [])) Tryz.underlying26 (by rw [cGauss]; rfl)
    (by simp only [cDyad, List.drop_zero, List.take_succ_cons, List.take_zero, List.drop_succ_cons]; exact shut_trod_dyad h1.1 h1.2 0) (by simp only [cDyad, List.drop_zero, List.take_succ_cons, List.take_zero, List.drop_succ_cons]; exact shut_trod_dyad h2.1 h2.2 0)
  simpa [gaussD, Value.cells] using this
end Go.Proofs.YtamcnnocjelcjaaGreatDoor
namespace Go.Proofs.YtamcnnocjelcjaaGreatDoor
open Go.ChangeShapes Go.WideShapes Go.ChangeAt Go.RowKit Go.Joins Go.Deep Go.ChangeMaps
variable {H : Type} {enc : TypeId × Value → H}
theorem array9w {α : Type} {cs : Array α} (h : cs.size = 9) : ∃ c0 c1 c2 c3 c4 c5 c6 c7 c8, cs = #[c0, c1, c2, c3, c4, c5, c6, c7, c8] := by
  obtain ⟨l⟩ := cs
  match l, h with
  | [c0, c1, c2, c3, c4, c5, c6, c7, c8], _ => exact ⟨c0, c1, c2, c3, c4, c5, c6, c7, c8, rfl⟩
theorem cWindow : Tryz.prog.cellsOf 28 = 9 := by kernel_rfl
theorem laidOutW : laidOutB Tryz.prog = true := by kernel_rfl
set_option maxRecDepth 100000 in
theorem trod_gauss {w : World} {base : Nat} {spare : Nat → Bool} {held : Bool} {n : Nat} {c0 c1 c2 c3 c4 c5 : Value} {y : DataW H × List MemPlace} (h : DataW.trod enc Tryz.prog w base spare held n 26 [c0, c1, c2, c3, c4, c5] = some y) :
    ∃ (g : Bool) (s : ByteArray) (x : Int) (k : Bool) (q : ByteArray) (z : Int), c0 = .bool g ∧ c1 = .string s ∧ c2 = .int .i64 x ∧ c3 = .bool k ∧ c4 = .string q ∧ c5 = .int .i64 z ∧ y.2 = [] ∧ s.size ≤ maxLen ∧ q.size ≤ maxLen := by
  obtain ⟨y0, y1, n, hx, _, h0, h1⟩ := trod_struct2 Tryz.underlying26 h
  simp only [Value.cells, cDyad, List.drop_zero, List.take_succ_cons, List.take_zero, List.drop_succ_cons] at h0 h1
  obtain ⟨g, s, x, rfl, rfl, rfl, rfl, hs, wx⟩ := trod_dyad h0
  obtain ⟨k, q, z, rfl, rfl, rfl, rfl, hq, wy⟩ := trod_dyad h1
  simp only [hx]
  exact ⟨g, s, x, k, q, z, rfl, rfl, rfl, rfl, rfl, rfl, rfl, hs, hq⟩
set_option maxRecDepth 100000 in
theorem open_window {w : World} {base : Nat} {spare : Nat → Bool} {held : Bool} {r : Go.Reach} {b0 : Nat} {v : Value} {d : DataW H} {p : List MemPlace}
    (hv : Value.okWide Tryz.prog w r b0 28 v) (h : DataW.Trod enc Tryz.prog w base spare held 28 v d p) :
    ∃ (g : Bool) (s : ByteArray) (x : Int) (k : Bool) (q : ByteArray) (y e a b : Int), v = .agg #[.bool g, .string s, .int .i64 x, .bool k, .string q, .int .i64 y, .int .i64 e, .int .i64 a, .int .i64 b] ∧ s.size ≤ maxLen ∧ q.size ≤ maxLen := by
  obtain ⟨cs, rfl, hsz⟩ := okWide_struct Tryz.underlying28 hv
  obtain ⟨c0, c1, c2, c3, c4, c5, c6, c7, c8, rfl⟩ := array9w (hsz.trans cWindow)
  obtain ⟨fuel, hf⟩ := h
  obtain ⟨xs, n, _, _, _, hl, hall⟩ := DataW.trod_struct Tryz.underlying28 hf
  have hl4 : xs.length = 4 := hl
  match xs, hl4, hall with
  | [x0, x1, x2, x3], _, hall =>
    have h0 := hall 0 _ rfl
    have h1 := hall 1 _ rfl
    have h2 := hall 2 _ rfl
    have h3 := hall 3 _ rfl
    simp only [Value.cells, cGauss, cInt1, List.drop_zero, List.take_succ_cons, List.take_zero, List.drop_succ_cons] at h0 h1 h2 h3
    obtain ⟨g, s, x, k, q, z, rfl, rfl, rfl, rfl, rfl, rfl, _, hs, hq⟩ := trod_gauss h0
    obtain ⟨e, e1, _, _⟩ := DataW.trod_int Tryz.underlying3 h1
    obtain ⟨a, e2, _, _⟩ := DataW.trod_int Tryz.underlying3 h2
    obtain ⟨b, e3, _, _⟩ := DataW.trod_int Tryz.underlying3 h3
    simp [cInt1] at e1 e2 e3
    subst e1 e2 e3
    exact ⟨g, s, x, k, q, z, e, a, b, rfl, hs, hq⟩
end Go.Proofs.YtamcnnocjelcjaaGreatDoor
