/- Texts put together: G5 G6 G7 Post DP GP G8 Al06 G9. -/
import Derived.Test.YtciidbldnjfooaaDoorQ5
import Derived.Test.YtciidbldnjfooaaDoorQ2
import Derived.Below
import Derived.ChangeSame
import Derived.Test.YtciidbldnjfooaaDoorRows
import Derived.ProofKit
import Derived.Lib.SmallJoins
import Derived.OpenShut
import Derived.ShutString
import Derived.Deep.Strs
import Derived.Test.YtciidbldnjfooaaDoorQ4
set_option linter.unusedVariables false
set_option linter.unusedSimpArgs false
namespace Go.Proofs.YtciidbldnjfooaaDoor
open Go Go.RowKit Nt


@[reducible] noncomputable def rGAdd_c_k1 : Know := ⟨[([0, 12, 3], [.sym 15, .lit (.int .i64 0)], .lit (.bool false)),
  ([0, 12, 3], [.sym 19, .lit (.int .i64 0)], .lit (.bool false))],
  [(40, [.agg [.sym 0, .sym 1, .sym 2], .agg [.sym 6, .sym 7, .sym 8]], .tup [.agg [.sym 12, .sym 13, .sym 14], .sym 15]),
  (40, [.agg [.sym 3, .sym 4, .sym 5], .agg [.sym 9, .sym 10, .sym 11]], .tup [.agg [.sym 16, .sym 17, .sym 18], .sym 19])]⟩
theorem rGAdd_c_r1 : @comes rGAdd_c_k1 Tryd.prog glT 3000 17 [.agg [.sym 0, .sym 1, .sym 2, .sym 3, .sym 4, .sym 5], .agg [.sym 6, .sym 7, .sym 8, .sym 9, .sym 10, .sym 11]] = some (.tup [.agg [.sym 12, .sym 13, .sym 14, .sym 16, .sym 17, .sym 18], .lit (.int .i64 0)]) := by kernel_rfl
@[reducible] noncomputable def rGAdd_c_k2 : Know := ⟨[([0, 12, 3], [.sym 15, .lit (.int .i64 0)], .lit (.bool false)),
  ([0, 12, 3], [.sym 19, .lit (.int .i64 0)], .lit (.bool true))],
  [(40, [.agg [.sym 0, .sym 1, .sym 2], .agg [.sym 6, .sym 7, .sym 8]], .tup [.agg [.sym 12, .sym 13, .sym 14], .sym 15]),
  (40, [.agg [.sym 3, .sym 4, .sym 5], .agg [.sym 9, .sym 10, .sym 11]], .tup [.agg [.sym 16, .sym 17, .sym 18], .sym 19])]⟩
theorem rGAdd_c_r2 : @comes rGAdd_c_k2 Tryd.prog glT 3000 17 [.agg [.sym 0, .sym 1, .sym 2, .sym 3, .sym 4, .sym 5], .agg [.sym 6, .sym 7, .sym 8, .sym 9, .sym 10, .sym 11]] = some (.lit (.tuple #[.agg #[.bool false, .string ⟨#[]⟩, .int .i64 0, .bool false, .string ⟨#[]⟩, .int .i64 0], .int .i64 4])) := by kernel_rfl
@[reducible] noncomputable def rGAdd_c_k3 : Know := ⟨[([0, 12, 3], [.sym 15, .lit (.int .i64 0)], .lit (.bool true))],
  [(40, [.agg [.sym 0, .sym 1, .sym 2], .agg [.sym 6, .sym 7, .sym 8]], .tup [.agg [.sym 12, .sym 13, .sym 14], .sym 15]),
  (40, [.agg [.sym 3, .sym 4, .sym 5], .agg [.sym 9, .sym 10, .sym 11]], .tup [.agg [.sym 16, .sym 17, .sym 18], .sym 19])]⟩
theorem rGAdd_c_r3 : @comes rGAdd_c_k3 Tryd.prog glT 3000 17 [.agg [.sym 0, .sym 1, .sym 2, .sym 3, .sym 4, .sym 5], .agg [.sym 6, .sym 7, .sym 8, .sym 9, .sym 10, .sym 11]] = some (.lit (.tuple #[.agg #[.bool false, .string ⟨#[]⟩, .int .i64 0, .bool false, .string ⟨#[]⟩, .int .i64 0], .int .i64 4])) := by kernel_rfl

set_option maxRecDepth 100000 in
theorem rGAdd_c (a b : Gs) (w : World) (ha : a.Ok) (hb : b.Ok) (hG : Globs glT w) : Calls Tryd.prog 17 #[.agg #[.bool a.re.g, .string (natS a.re.n), .int .i64 a.re.x, .bool a.im.g, .string (natS a.im.n), .int .i64 a.im.x], .agg #[.bool b.re.g, .string (natS b.re.n), .int .i64 b.re.x, .bool b.im.g, .string (natS b.im.n), .int .i64 b.im.x]] w fun e w' => e = .returned (.tuple #[(gaddD a b).v, .int .i64 (gaddE a b)]) ∧ Below w.heap.size w w' := by
  by_cases h1 : addE a.re b.re = 0
  · by_cases h2 : addE a.im b.im = 0
    · letI : Env := mkEnv glT [.bool a.re.g, .string (natS a.re.n), .int .i64 a.re.x, .bool a.im.g, .string (natS a.im.n), .int .i64 a.im.x, .bool b.re.g, .string (natS b.re.n), .int .i64 b.re.x, .bool b.im.g, .string (natS b.im.n), .int .i64 b.im.x, .bool (addD a.re b.re).g, .string (natS (addD a.re b.re).n), .int .i64 (addD a.re b.re).x, .int .i64 (addE a.re b.re), .bool (addD a.im b.im).g, .string (natS (addD a.im b.im).n), .int .i64 (addD a.im b.im).x, .int .i64 (addE a.im b.im)] rfl
      have hops : OpsT Tryd.prog (@Know.ops rGAdd_c_k1) := ⟨opt_neq_f rfl rfl h1, opt_neq_f rfl rfl h2, trivial⟩
      have hcalls : CallsT Tryd.prog (@Know.calls rGAdd_c_k1) := ⟨callt rfl rfl fun w hG => rAdd3_c a.re b.re w ha.1 hb.1, callt rfl rfl fun w hG => rAdd3_c a.im b.im w ha.2 hb.2, trivial⟩
      exact (@sym_ok _ rGAdd_c_k1 _ (@KnowOk.of _ rGAdd_c_k1 _ hops hcalls) (by kernel_rfl) _ _ _ _ rGAdd_c_r1 rfl rfl _ hG).mono fun e w' h => ⟨h.1.trans (show Ending.returned (.tuple #[.agg #[.bool (addD a.re b.re).g, .string (natS (addD a.re b.re).n), .int .i64 (addD a.re b.re).x, .bool (addD a.im b.im).g, .string (natS (addD a.im b.im).n), .int .i64 (addD a.im b.im).x], .int .i64 0]) = .returned (.tuple #[(gaddD a b).v, .int .i64 (gaddE a b)]) from by rw [show gaddD a b = _ from erG_ok (l := gaddL a b) (show All0 (gaddL a b) from ⟨h1, h2, trivial⟩), show gaddE a b = 0 from erI_ok (l := gaddL a b) (show All0 (gaddL a b) from ⟨h1, h2, trivial⟩)]; rfl), h.2⟩
    · letI : Env := mkEnv glT [.bool a.re.g, .string (natS a.re.n), .int .i64 a.re.x, .bool a.im.g, .string (natS a.im.n), .int .i64 a.im.x, .bool b.re.g, .string (natS b.re.n), .int .i64 b.re.x, .bool b.im.g, .string (natS b.im.n), .int .i64 b.im.x, .bool (addD a.re b.re).g, .string (natS (addD a.re b.re).n), .int .i64 (addD a.re b.re).x, .int .i64 (addE a.re b.re), .bool (addD a.im b.im).g, .string (natS (addD a.im b.im).n), .int .i64 (addD a.im b.im).x, .int .i64 (addE a.im b.im)] rfl
      have hops : OpsT Tryd.prog (@Know.ops rGAdd_c_k2) := ⟨opt_neq_f rfl rfl h1, opt_neq_t rfl rfl h2, trivial⟩
      have hcalls : CallsT Tryd.prog (@Know.calls rGAdd_c_k2) := ⟨callt rfl rfl fun w hG => rAdd3_c a.re b.re w ha.1 hb.1, callt rfl rfl fun w hG => rAdd3_c a.im b.im w ha.2 hb.2, trivial⟩
      exact (@sym_ok _ rGAdd_c_k2 _ (@KnowOk.of _ rGAdd_c_k2 _ hops hcalls) (by kernel_rfl) _ _ _ _ rGAdd_c_r2 rfl rfl _ hG).mono fun e w' h => ⟨h.1.trans (show Ending.returned (.tuple #[.agg #[.bool false, .string ⟨#[]⟩, .int .i64 0, .bool false, .string ⟨#[]⟩, .int .i64 0], .int .i64 4]) = .returned (.tuple #[(gaddD a b).v, .int .i64 (gaddE a b)]) from by rw [show gaddD a b = _ from erG_no (l := gaddL a b) (show ¬ All0 (gaddL a b) from (fun c => h2 c.2.1)), show gaddE a b = 4 from erI_no (l := gaddL a b) (show ¬ All0 (gaddL a b) from (fun c => h2 c.2.1)), Gs.zero_v]), h.2⟩
  · letI : Env := mkEnv glT [.bool a.re.g, .string (natS a.re.n), .int .i64 a.re.x, .bool a.im.g, .string (natS a.im.n), .int .i64 a.im.x, .bool b.re.g, .string (natS b.re.n), .int .i64 b.re.x, .bool b.im.g, .string (natS b.im.n), .int .i64 b.im.x, .bool (addD a.re b.re).g, .string (natS (addD a.re b.re).n), .int .i64 (addD a.re b.re).x, .int .i64 (addE a.re b.re), .bool (addD a.im b.im).g, .string (natS (addD a.im b.im).n), .int .i64 (addD a.im b.im).x, .int .i64 (addE a.im b.im)] rfl
    have hops : OpsT Tryd.prog (@Know.ops rGAdd_c_k3) := ⟨opt_neq_t rfl rfl h1, trivial⟩
    have hcalls : CallsT Tryd.prog (@Know.calls rGAdd_c_k3) := ⟨callt rfl rfl fun w hG => rAdd3_c a.re b.re w ha.1 hb.1, callt rfl rfl fun w hG => rAdd3_c a.im b.im w ha.2 hb.2, trivial⟩
    exact (@sym_ok _ rGAdd_c_k3 _ (@KnowOk.of _ rGAdd_c_k3 _ hops hcalls) (by kernel_rfl) _ _ _ _ rGAdd_c_r3 rfl rfl _ hG).mono fun e w' h => ⟨h.1.trans (show Ending.returned (.tuple #[.agg #[.bool false, .string ⟨#[]⟩, .int .i64 0, .bool false, .string ⟨#[]⟩, .int .i64 0], .int .i64 4]) = .returned (.tuple #[(gaddD a b).v, .int .i64 (gaddE a b)]) from by rw [show gaddD a b = _ from erG_no (l := gaddL a b) (show ¬ All0 (gaddL a b) from (fun c => h1 c.1)), show gaddE a b = 4 from erI_no (l := gaddL a b) (show ¬ All0 (gaddL a b) from (fun c => h1 c.1)), Gs.zero_v]), h.2⟩

@[reducible] noncomputable def rGSub_c_k1 : Know := ⟨[([0, 12, 3], [.sym 21, .lit (.int .i64 0)], .lit (.bool false)),
  ([0, 12, 3], [.sym 25, .lit (.int .i64 0)], .lit (.bool false))],
  [(72, [.agg [.sym 6, .sym 7, .sym 8]], .agg [.sym 12, .sym 13, .sym 14]),
  (72, [.agg [.sym 9, .sym 10, .sym 11]], .agg [.sym 15, .sym 16, .sym 17]),
  (40, [.agg [.sym 0, .sym 1, .sym 2], .agg [.sym 12, .sym 13, .sym 14]], .tup [.agg [.sym 18, .sym 19, .sym 20], .sym 21]),
  (40, [.agg [.sym 3, .sym 4, .sym 5], .agg [.sym 15, .sym 16, .sym 17]], .tup [.agg [.sym 22, .sym 23, .sym 24], .sym 25])]⟩
theorem rGSub_c_r1 : @comes rGSub_c_k1 Tryd.prog glT 3000 18 [.agg [.sym 0, .sym 1, .sym 2, .sym 3, .sym 4, .sym 5], .agg [.sym 6, .sym 7, .sym 8, .sym 9, .sym 10, .sym 11]] = some (.tup [.agg [.sym 18, .sym 19, .sym 20, .sym 22, .sym 23, .sym 24], .lit (.int .i64 0)]) := by kernel_rfl
@[reducible] noncomputable def rGSub_c_k2 : Know := ⟨[([0, 12, 3], [.sym 21, .lit (.int .i64 0)], .lit (.bool false)),
  ([0, 12, 3], [.sym 25, .lit (.int .i64 0)], .lit (.bool true))],
  [(72, [.agg [.sym 6, .sym 7, .sym 8]], .agg [.sym 12, .sym 13, .sym 14]),
  (72, [.agg [.sym 9, .sym 10, .sym 11]], .agg [.sym 15, .sym 16, .sym 17]),
  (40, [.agg [.sym 0, .sym 1, .sym 2], .agg [.sym 12, .sym 13, .sym 14]], .tup [.agg [.sym 18, .sym 19, .sym 20], .sym 21]),
  (40, [.agg [.sym 3, .sym 4, .sym 5], .agg [.sym 15, .sym 16, .sym 17]], .tup [.agg [.sym 22, .sym 23, .sym 24], .sym 25])]⟩
theorem rGSub_c_r2 : @comes rGSub_c_k2 Tryd.prog glT 3000 18 [.agg [.sym 0, .sym 1, .sym 2, .sym 3, .sym 4, .sym 5], .agg [.sym 6, .sym 7, .sym 8, .sym 9, .sym 10, .sym 11]] = some (.lit (.tuple #[.agg #[.bool false, .string ⟨#[]⟩, .int .i64 0, .bool false, .string ⟨#[]⟩, .int .i64 0], .int .i64 4])) := by kernel_rfl
@[reducible] noncomputable def rGSub_c_k3 : Know := ⟨[([0, 12, 3], [.sym 21, .lit (.int .i64 0)], .lit (.bool true))],
  [(72, [.agg [.sym 6, .sym 7, .sym 8]], .agg [.sym 12, .sym 13, .sym 14]),
  (72, [.agg [.sym 9, .sym 10, .sym 11]], .agg [.sym 15, .sym 16, .sym 17]),
  (40, [.agg [.sym 0, .sym 1, .sym 2], .agg [.sym 12, .sym 13, .sym 14]], .tup [.agg [.sym 18, .sym 19, .sym 20], .sym 21]),
  (40, [.agg [.sym 3, .sym 4, .sym 5], .agg [.sym 15, .sym 16, .sym 17]], .tup [.agg [.sym 22, .sym 23, .sym 24], .sym 25])]⟩
theorem rGSub_c_r3 : @comes rGSub_c_k3 Tryd.prog glT 3000 18 [.agg [.sym 0, .sym 1, .sym 2, .sym 3, .sym 4, .sym 5], .agg [.sym 6, .sym 7, .sym 8, .sym 9, .sym 10, .sym 11]] = some (.lit (.tuple #[.agg #[.bool false, .string ⟨#[]⟩, .int .i64 0, .bool false, .string ⟨#[]⟩, .int .i64 0], .int .i64 4])) := by kernel_rfl

set_option maxRecDepth 100000 in
theorem rGSub_c (a b : Gs) (w : World) (ha : a.Ok) (hb : b.Ok) (hG : Globs glT w) : Calls Tryd.prog 18 #[.agg #[.bool a.re.g, .string (natS a.re.n), .int .i64 a.re.x, .bool a.im.g, .string (natS a.im.n), .int .i64 a.im.x], .agg #[.bool b.re.g, .string (natS b.re.n), .int .i64 b.re.x, .bool b.im.g, .string (natS b.im.n), .int .i64 b.im.x]] w fun e w' => e = .returned (.tuple #[(gaddD a (neG b)).v, .int .i64 (gaddE a (neG b))]) ∧ Below w.heap.size w w' := by
  by_cases h1 : addE a.re (negD b.re) = 0
  · by_cases h2 : addE a.im (negD b.im) = 0
    · letI : Env := mkEnv glT [.bool a.re.g, .string (natS a.re.n), .int .i64 a.re.x, .bool a.im.g, .string (natS a.im.n), .int .i64 a.im.x, .bool b.re.g, .string (natS b.re.n), .int .i64 b.re.x, .bool b.im.g, .string (natS b.im.n), .int .i64 b.im.x, .bool (negD b.re).g, .string (natS (negD b.re).n), .int .i64 (negD b.re).x, .bool (negD b.im).g, .string (natS (negD b.im).n), .int .i64 (negD b.im).x, .bool (addD a.re (negD b.re)).g, .string (natS (addD a.re (negD b.re)).n), .int .i64 (addD a.re (negD b.re)).x, .int .i64 (addE a.re (negD b.re)), .bool (addD a.im (negD b.im)).g, .string (natS (addD a.im (negD b.im)).n), .int .i64 (addD a.im (negD b.im)).x, .int .i64 (addE a.im (negD b.im))] rfl
      have hops : OpsT Tryd.prog (@Know.ops rGSub_c_k1) := ⟨opt_neq_f rfl rfl h1, opt_neq_f rfl rfl h2, trivial⟩
      have hcalls : CallsT Tryd.prog (@Know.calls rGSub_c_k1) := ⟨callt rfl rfl fun w hG => rNegD3_c b.re w hb.1, callt rfl rfl fun w hG => rNegD3_c b.im w hb.2, callt rfl rfl fun w hG => rAdd3_c a.re (negD b.re) w ha.1 (negD_Ok hb.1), callt rfl rfl fun w hG => rAdd3_c a.im (negD b.im) w ha.2 (negD_Ok hb.2), trivial⟩
      exact (@sym_ok _ rGSub_c_k1 _ (@KnowOk.of _ rGSub_c_k1 _ hops hcalls) (by kernel_rfl) _ _ _ _ rGSub_c_r1 rfl rfl _ hG).mono fun e w' h => ⟨h.1.trans (show Ending.returned (.tuple #[.agg #[.bool (addD a.re (negD b.re)).g, .string (natS (addD a.re (negD b.re)).n), .int .i64 (addD a.re (negD b.re)).x, .bool (addD a.im (negD b.im)).g, .string (natS (addD a.im (negD b.im)).n), .int .i64 (addD a.im (negD b.im)).x], .int .i64 0]) = .returned (.tuple #[(gaddD a (neG b)).v, .int .i64 (gaddE a (neG b))]) from by rw [show gaddD a (neG b) = _ from erG_ok (l := gaddL a (neG b)) (show All0 (gaddL a (neG b)) from ⟨h1, h2, trivial⟩), show gaddE a (neG b) = 0 from erI_ok (l := gaddL a (neG b)) (show All0 (gaddL a (neG b)) from ⟨h1, h2, trivial⟩)]; rfl), h.2⟩
    · letI : Env := mkEnv glT [.bool a.re.g, .string (natS a.re.n), .int .i64 a.re.x, .bool a.im.g, .string (natS a.im.n), .int .i64 a.im.x, .bool b.re.g, .string (natS b.re.n), .int .i64 b.re.x, .bool b.im.g, .string (natS b.im.n), .int .i64 b.im.x, .bool (negD b.re).g, .string (natS (negD b.re).n), .int .i64 (negD b.re).x, .bool (negD b.im).g, .string (natS (negD b.im).n), .int .i64 (negD b.im).x, .bool (addD a.re (negD b.re)).g, .string (natS (addD a.re (negD b.re)).n), .int .i64 (addD a.re (negD b.re)).x, .int .i64 (addE a.re (negD b.re)), .bool (addD a.im (negD b.im)).g, .string (natS (addD a.im (negD b.im)).n), .int .i64 (addD a.im (negD b.im)).x, .int .i64 (addE a.im (negD b.im))] rfl
      have hops : OpsT Tryd.prog (@Know.ops rGSub_c_k2) := ⟨opt_neq_f rfl rfl h1, opt_neq_t rfl rfl h2, trivial⟩
      have hcalls : CallsT Tryd.prog (@Know.calls rGSub_c_k2) := ⟨callt rfl rfl fun w hG => rNegD3_c b.re w hb.1, callt rfl rfl fun w hG => rNegD3_c b.im w hb.2, callt rfl rfl fun w hG => rAdd3_c a.re (negD b.re) w ha.1 (negD_Ok hb.1), callt rfl rfl fun w hG => rAdd3_c a.im (negD b.im) w ha.2 (negD_Ok hb.2), trivial⟩
      exact (@sym_ok _ rGSub_c_k2 _ (@KnowOk.of _ rGSub_c_k2 _ hops hcalls) (by kernel_rfl) _ _ _ _ rGSub_c_r2 rfl rfl _ hG).mono fun e w' h => ⟨h.1.trans (show Ending.returned (.tuple #[.agg #[.bool false, .string ⟨#[]⟩, .int .i64 0, .bool false, .string ⟨#[]⟩, .int .i64 0], .int .i64 4]) = .returned (.tuple #[(gaddD a (neG b)).v, .int .i64 (gaddE a (neG b))]) from by rw [show gaddD a (neG b) = _ from erG_no (l := gaddL a (neG b)) (show ¬ All0 (gaddL a (neG b)) from (fun c => h2 c.2.1)), show gaddE a (neG b) = 4 from erI_no (l := gaddL a (neG b)) (show ¬ All0 (gaddL a (neG b)) from (fun c => h2 c.2.1)), Gs.zero_v]), h.2⟩
  · letI : Env := mkEnv glT [.bool a.re.g, .string (natS a.re.n), .int .i64 a.re.x, .bool a.im.g, .string (natS a.im.n), .int .i64 a.im.x, .bool b.re.g, .string (natS b.re.n), .int .i64 b.re.x, .bool b.im.g, .string (natS b.im.n), .int .i64 b.im.x, .bool (negD b.re).g, .string (natS (negD b.re).n), .int .i64 (negD b.re).x, .bool (negD b.im).g, .string (natS (negD b.im).n), .int .i64 (negD b.im).x, .bool (addD a.re (negD b.re)).g, .string (natS (addD a.re (negD b.re)).n), .int .i64 (addD a.re (negD b.re)).x, .int .i64 (addE a.re (negD b.re)), .bool (addD a.im (negD b.im)).g, .string (natS (addD a.im (negD b.im)).n), .int .i64 (addD a.im (negD b.im)).x, .int .i64 (addE a.im (negD b.im))] rfl
    have hops : OpsT Tryd.prog (@Know.ops rGSub_c_k3) := ⟨opt_neq_t rfl rfl h1, trivial⟩
    have hcalls : CallsT Tryd.prog (@Know.calls rGSub_c_k3) := ⟨callt rfl rfl fun w hG => rNegD3_c b.re w hb.1, callt rfl rfl fun w hG => rNegD3_c b.im w hb.2, callt rfl rfl fun w hG => rAdd3_c a.re (negD b.re) w ha.1 (negD_Ok hb.1), callt rfl rfl fun w hG => rAdd3_c a.im (negD b.im) w ha.2 (negD_Ok hb.2), trivial⟩
    exact (@sym_ok _ rGSub_c_k3 _ (@KnowOk.of _ rGSub_c_k3 _ hops hcalls) (by kernel_rfl) _ _ _ _ rGSub_c_r3 rfl rfl _ hG).mono fun e w' h => ⟨h.1.trans (show Ending.returned (.tuple #[.agg #[.bool false, .string ⟨#[]⟩, .int .i64 0, .bool false, .string ⟨#[]⟩, .int .i64 0], .int .i64 4]) = .returned (.tuple #[(gaddD a (neG b)).v, .int .i64 (gaddE a (neG b))]) from by rw [show gaddD a (neG b) = _ from erG_no (l := gaddL a (neG b)) (show ¬ All0 (gaddL a (neG b)) from (fun c => h1 c.1)), show gaddE a (neG b) = 4 from erI_no (l := gaddL a (neG b)) (show ¬ All0 (gaddL a (neG b)) from (fun c => h1 c.1)), Gs.zero_v]), h.2⟩

@[reducible] noncomputable def rGMul_c_k1 : Know := ⟨[([0, 12, 3], [.sym 15, .lit (.int .i64 0)], .lit (.bool false)),
  ([0, 12, 3], [.sym 19, .lit (.int .i64 0)], .lit (.bool false)),
  ([0, 12, 3], [.sym 30, .lit (.int .i64 0)], .lit (.bool false)),
  ([0, 12, 3], [.sym 34, .lit (.int .i64 0)], .lit (.bool false)),
  ([0, 12, 3], [.sym 26, .lit (.int .i64 0)], .lit (.bool false)),
  ([0, 12, 3], [.sym 38, .lit (.int .i64 0)], .lit (.bool false))],
  [(37, [.agg [.sym 0, .sym 1, .sym 2], .agg [.sym 6, .sym 7, .sym 8]], .tup [.agg [.sym 12, .sym 13, .sym 14], .sym 15]),
  (37, [.agg [.sym 3, .sym 4, .sym 5], .agg [.sym 9, .sym 10, .sym 11]], .tup [.agg [.sym 16, .sym 17, .sym 18], .sym 19]),
  (72, [.agg [.sym 16, .sym 17, .sym 18]], .agg [.sym 20, .sym 21, .sym 22]),
  (40, [.agg [.sym 12, .sym 13, .sym 14], .agg [.sym 20, .sym 21, .sym 22]], .tup [.agg [.sym 23, .sym 24, .sym 25], .sym 26]),
  (37, [.agg [.sym 0, .sym 1, .sym 2], .agg [.sym 9, .sym 10, .sym 11]], .tup [.agg [.sym 27, .sym 28, .sym 29], .sym 30]),
  (37, [.agg [.sym 3, .sym 4, .sym 5], .agg [.sym 6, .sym 7, .sym 8]], .tup [.agg [.sym 31, .sym 32, .sym 33], .sym 34]),
  (40, [.agg [.sym 27, .sym 28, .sym 29], .agg [.sym 31, .sym 32, .sym 33]], .tup [.agg [.sym 35, .sym 36, .sym 37], .sym 38])]⟩
theorem rGMul_c_r1 : @comes rGMul_c_k1 Tryd.prog glT 3000 19 [.agg [.sym 0, .sym 1, .sym 2, .sym 3, .sym 4, .sym 5], .agg [.sym 6, .sym 7, .sym 8, .sym 9, .sym 10, .sym 11]] = some (.tup [.agg [.sym 23, .sym 24, .sym 25, .sym 35, .sym 36, .sym 37], .lit (.int .i64 0)]) := by kernel_rfl
@[reducible] noncomputable def rGMul_c_k2 : Know := ⟨[([0, 12, 3], [.sym 15, .lit (.int .i64 0)], .lit (.bool false)),
  ([0, 12, 3], [.sym 19, .lit (.int .i64 0)], .lit (.bool false)),
  ([0, 12, 3], [.sym 30, .lit (.int .i64 0)], .lit (.bool false)),
  ([0, 12, 3], [.sym 34, .lit (.int .i64 0)], .lit (.bool false)),
  ([0, 12, 3], [.sym 26, .lit (.int .i64 0)], .lit (.bool false)),
  ([0, 12, 3], [.sym 38, .lit (.int .i64 0)], .lit (.bool true))],
  [(37, [.agg [.sym 0, .sym 1, .sym 2], .agg [.sym 6, .sym 7, .sym 8]], .tup [.agg [.sym 12, .sym 13, .sym 14], .sym 15]),
  (37, [.agg [.sym 3, .sym 4, .sym 5], .agg [.sym 9, .sym 10, .sym 11]], .tup [.agg [.sym 16, .sym 17, .sym 18], .sym 19]),
  (72, [.agg [.sym 16, .sym 17, .sym 18]], .agg [.sym 20, .sym 21, .sym 22]),
  (40, [.agg [.sym 12, .sym 13, .sym 14], .agg [.sym 20, .sym 21, .sym 22]], .tup [.agg [.sym 23, .sym 24, .sym 25], .sym 26]),
  (37, [.agg [.sym 0, .sym 1, .sym 2], .agg [.sym 9, .sym 10, .sym 11]], .tup [.agg [.sym 27, .sym 28, .sym 29], .sym 30]),
  (37, [.agg [.sym 3, .sym 4, .sym 5], .agg [.sym 6, .sym 7, .sym 8]], .tup [.agg [.sym 31, .sym 32, .sym 33], .sym 34]),
  (40, [.agg [.sym 27, .sym 28, .sym 29], .agg [.sym 31, .sym 32, .sym 33]], .tup [.agg [.sym 35, .sym 36, .sym 37], .sym 38])]⟩
theorem rGMul_c_r2 : @comes rGMul_c_k2 Tryd.prog glT 3000 19 [.agg [.sym 0, .sym 1, .sym 2, .sym 3, .sym 4, .sym 5], .agg [.sym 6, .sym 7, .sym 8, .sym 9, .sym 10, .sym 11]] = some (.lit (.tuple #[.agg #[.bool false, .string ⟨#[]⟩, .int .i64 0, .bool false, .string ⟨#[]⟩, .int .i64 0], .int .i64 4])) := by kernel_rfl
@[reducible] noncomputable def rGMul_c_k3 : Know := ⟨[([0, 12, 3], [.sym 15, .lit (.int .i64 0)], .lit (.bool false)),
  ([0, 12, 3], [.sym 19, .lit (.int .i64 0)], .lit (.bool false)),
  ([0, 12, 3], [.sym 30, .lit (.int .i64 0)], .lit (.bool false)),
  ([0, 12, 3], [.sym 34, .lit (.int .i64 0)], .lit (.bool false)),
  ([0, 12, 3], [.sym 26, .lit (.int .i64 0)], .lit (.bool true))],
  [(37, [.agg [.sym 0, .sym 1, .sym 2], .agg [.sym 6, .sym 7, .sym 8]], .tup [.agg [.sym 12, .sym 13, .sym 14], .sym 15]),
  (37, [.agg [.sym 3, .sym 4, .sym 5], .agg [.sym 9, .sym 10, .sym 11]], .tup [.agg [.sym 16, .sym 17, .sym 18], .sym 19]),
  (72, [.agg [.sym 16, .sym 17, .sym 18]], .agg [.sym 20, .sym 21, .sym 22]),
  (40, [.agg [.sym 12, .sym 13, .sym 14], .agg [.sym 20, .sym 21, .sym 22]], .tup [.agg [.sym 23, .sym 24, .sym 25], .sym 26]),
  (37, [.agg [.sym 0, .sym 1, .sym 2], .agg [.sym 9, .sym 10, .sym 11]], .tup [.agg [.sym 27, .sym 28, .sym 29], .sym 30]),
  (37, [.agg [.sym 3, .sym 4, .sym 5], .agg [.sym 6, .sym 7, .sym 8]], .tup [.agg [.sym 31, .sym 32, .sym 33], .sym 34]),
  (40, [.agg [.sym 27, .sym 28, .sym 29], .agg [.sym 31, .sym 32, .sym 33]], .tup [.agg [.sym 35, .sym 36, .sym 37], .sym 38])]⟩
theorem rGMul_c_r3 : @comes rGMul_c_k3 Tryd.prog glT 3000 19 [.agg [.sym 0, .sym 1, .sym 2, .sym 3, .sym 4, .sym 5], .agg [.sym 6, .sym 7, .sym 8, .sym 9, .sym 10, .sym 11]] = some (.lit (.tuple #[.agg #[.bool false, .string ⟨#[]⟩, .int .i64 0, .bool false, .string ⟨#[]⟩, .int .i64 0], .int .i64 4])) := by kernel_rfl
@[reducible] noncomputable def rGMul_c_k4 : Know := ⟨[([0, 12, 3], [.sym 15, .lit (.int .i64 0)], .lit (.bool false)),
  ([0, 12, 3], [.sym 19, .lit (.int .i64 0)], .lit (.bool false)),
  ([0, 12, 3], [.sym 30, .lit (.int .i64 0)], .lit (.bool false)),
  ([0, 12, 3], [.sym 34, .lit (.int .i64 0)], .lit (.bool true)),
  ([0, 12, 3], [.sym 26, .lit (.int .i64 0)], .lit (.bool false))],
  [(37, [.agg [.sym 0, .sym 1, .sym 2], .agg [.sym 6, .sym 7, .sym 8]], .tup [.agg [.sym 12, .sym 13, .sym 14], .sym 15]),
  (37, [.agg [.sym 3, .sym 4, .sym 5], .agg [.sym 9, .sym 10, .sym 11]], .tup [.agg [.sym 16, .sym 17, .sym 18], .sym 19]),
  (72, [.agg [.sym 16, .sym 17, .sym 18]], .agg [.sym 20, .sym 21, .sym 22]),
  (40, [.agg [.sym 12, .sym 13, .sym 14], .agg [.sym 20, .sym 21, .sym 22]], .tup [.agg [.sym 23, .sym 24, .sym 25], .sym 26]),
  (37, [.agg [.sym 0, .sym 1, .sym 2], .agg [.sym 9, .sym 10, .sym 11]], .tup [.agg [.sym 27, .sym 28, .sym 29], .sym 30]),
  (37, [.agg [.sym 3, .sym 4, .sym 5], .agg [.sym 6, .sym 7, .sym 8]], .tup [.agg [.sym 31, .sym 32, .sym 33], .sym 34])]⟩
theorem rGMul_c_r4 : @comes rGMul_c_k4 Tryd.prog glT 3000 19 [.agg [.sym 0, .sym 1, .sym 2, .sym 3, .sym 4, .sym 5], .agg [.sym 6, .sym 7, .sym 8, .sym 9, .sym 10, .sym 11]] = some (.lit (.tuple #[.agg #[.bool false, .string ⟨#[]⟩, .int .i64 0, .bool false, .string ⟨#[]⟩, .int .i64 0], .int .i64 4])) := by kernel_rfl
@[reducible] noncomputable def rGMul_c_k5 : Know := ⟨[([0, 12, 3], [.sym 15, .lit (.int .i64 0)], .lit (.bool false)),
  ([0, 12, 3], [.sym 19, .lit (.int .i64 0)], .lit (.bool false)),
  ([0, 12, 3], [.sym 30, .lit (.int .i64 0)], .lit (.bool false)),
  ([0, 12, 3], [.sym 34, .lit (.int .i64 0)], .lit (.bool true)),
  ([0, 12, 3], [.sym 26, .lit (.int .i64 0)], .lit (.bool true))],
  [(37, [.agg [.sym 0, .sym 1, .sym 2], .agg [.sym 6, .sym 7, .sym 8]], .tup [.agg [.sym 12, .sym 13, .sym 14], .sym 15]),
  (37, [.agg [.sym 3, .sym 4, .sym 5], .agg [.sym 9, .sym 10, .sym 11]], .tup [.agg [.sym 16, .sym 17, .sym 18], .sym 19]),
  (72, [.agg [.sym 16, .sym 17, .sym 18]], .agg [.sym 20, .sym 21, .sym 22]),
  (40, [.agg [.sym 12, .sym 13, .sym 14], .agg [.sym 20, .sym 21, .sym 22]], .tup [.agg [.sym 23, .sym 24, .sym 25], .sym 26]),
  (37, [.agg [.sym 0, .sym 1, .sym 2], .agg [.sym 9, .sym 10, .sym 11]], .tup [.agg [.sym 27, .sym 28, .sym 29], .sym 30]),
  (37, [.agg [.sym 3, .sym 4, .sym 5], .agg [.sym 6, .sym 7, .sym 8]], .tup [.agg [.sym 31, .sym 32, .sym 33], .sym 34])]⟩
theorem rGMul_c_r5 : @comes rGMul_c_k5 Tryd.prog glT 3000 19 [.agg [.sym 0, .sym 1, .sym 2, .sym 3, .sym 4, .sym 5], .agg [.sym 6, .sym 7, .sym 8, .sym 9, .sym 10, .sym 11]] = some (.lit (.tuple #[.agg #[.bool false, .string ⟨#[]⟩, .int .i64 0, .bool false, .string ⟨#[]⟩, .int .i64 0], .int .i64 4])) := by kernel_rfl
@[reducible] noncomputable def rGMul_c_k6 : Know := ⟨[([0, 12, 3], [.sym 15, .lit (.int .i64 0)], .lit (.bool false)),
  ([0, 12, 3], [.sym 19, .lit (.int .i64 0)], .lit (.bool false)),
  ([0, 12, 3], [.sym 30, .lit (.int .i64 0)], .lit (.bool true)),
  ([0, 12, 3], [.sym 26, .lit (.int .i64 0)], .lit (.bool false))],
  [(37, [.agg [.sym 0, .sym 1, .sym 2], .agg [.sym 6, .sym 7, .sym 8]], .tup [.agg [.sym 12, .sym 13, .sym 14], .sym 15]),
  (37, [.agg [.sym 3, .sym 4, .sym 5], .agg [.sym 9, .sym 10, .sym 11]], .tup [.agg [.sym 16, .sym 17, .sym 18], .sym 19]),
  (72, [.agg [.sym 16, .sym 17, .sym 18]], .agg [.sym 20, .sym 21, .sym 22]),
  (40, [.agg [.sym 12, .sym 13, .sym 14], .agg [.sym 20, .sym 21, .sym 22]], .tup [.agg [.sym 23, .sym 24, .sym 25], .sym 26]),
  (37, [.agg [.sym 0, .sym 1, .sym 2], .agg [.sym 9, .sym 10, .sym 11]], .tup [.agg [.sym 27, .sym 28, .sym 29], .sym 30]),
  (37, [.agg [.sym 3, .sym 4, .sym 5], .agg [.sym 6, .sym 7, .sym 8]], .tup [.agg [.sym 31, .sym 32, .sym 33], .sym 34])]⟩
theorem rGMul_c_r6 : @comes rGMul_c_k6 Tryd.prog glT 3000 19 [.agg [.sym 0, .sym 1, .sym 2, .sym 3, .sym 4, .sym 5], .agg [.sym 6, .sym 7, .sym 8, .sym 9, .sym 10, .sym 11]] = some (.lit (.tuple #[.agg #[.bool false, .string ⟨#[]⟩, .int .i64 0, .bool false, .string ⟨#[]⟩, .int .i64 0], .int .i64 4])) := by kernel_rfl
@[reducible] noncomputable def rGMul_c_k7 : Know := ⟨[([0, 12, 3], [.sym 15, .lit (.int .i64 0)], .lit (.bool false)),
  ([0, 12, 3], [.sym 19, .lit (.int .i64 0)], .lit (.bool false)),
  ([0, 12, 3], [.sym 30, .lit (.int .i64 0)], .lit (.bool true)),
  ([0, 12, 3], [.sym 26, .lit (.int .i64 0)], .lit (.bool true))],
  [(37, [.agg [.sym 0, .sym 1, .sym 2], .agg [.sym 6, .sym 7, .sym 8]], .tup [.agg [.sym 12, .sym 13, .sym 14], .sym 15]),
  (37, [.agg [.sym 3, .sym 4, .sym 5], .agg [.sym 9, .sym 10, .sym 11]], .tup [.agg [.sym 16, .sym 17, .sym 18], .sym 19]),
  (72, [.agg [.sym 16, .sym 17, .sym 18]], .agg [.sym 20, .sym 21, .sym 22]),
  (40, [.agg [.sym 12, .sym 13, .sym 14], .agg [.sym 20, .sym 21, .sym 22]], .tup [.agg [.sym 23, .sym 24, .sym 25], .sym 26]),
  (37, [.agg [.sym 0, .sym 1, .sym 2], .agg [.sym 9, .sym 10, .sym 11]], .tup [.agg [.sym 27, .sym 28, .sym 29], .sym 30]),
  (37, [.agg [.sym 3, .sym 4, .sym 5], .agg [.sym 6, .sym 7, .sym 8]], .tup [.agg [.sym 31, .sym 32, .sym 33], .sym 34])]⟩
theorem rGMul_c_r7 : @comes rGMul_c_k7 Tryd.prog glT 3000 19 [.agg [.sym 0, .sym 1, .sym 2, .sym 3, .sym 4, .sym 5], .agg [.sym 6, .sym 7, .sym 8, .sym 9, .sym 10, .sym 11]] = some (.lit (.tuple #[.agg #[.bool false, .string ⟨#[]⟩, .int .i64 0, .bool false, .string ⟨#[]⟩, .int .i64 0], .int .i64 4])) := by kernel_rfl
@[reducible] noncomputable def rGMul_c_k8 : Know := ⟨[([0, 12, 3], [.sym 15, .lit (.int .i64 0)], .lit (.bool false)),
  ([0, 12, 3], [.sym 19, .lit (.int .i64 0)], .lit (.bool true)),
  ([0, 12, 3], [.sym 23, .lit (.int .i64 0)], .lit (.bool false)),
  ([0, 12, 3], [.sym 27, .lit (.int .i64 0)], .lit (.bool false))],
  [(37, [.agg [.sym 0, .sym 1, .sym 2], .agg [.sym 6, .sym 7, .sym 8]], .tup [.agg [.sym 12, .sym 13, .sym 14], .sym 15]),
  (37, [.agg [.sym 3, .sym 4, .sym 5], .agg [.sym 9, .sym 10, .sym 11]], .tup [.agg [.sym 16, .sym 17, .sym 18], .sym 19]),
  (37, [.agg [.sym 0, .sym 1, .sym 2], .agg [.sym 9, .sym 10, .sym 11]], .tup [.agg [.sym 20, .sym 21, .sym 22], .sym 23]),
  (37, [.agg [.sym 3, .sym 4, .sym 5], .agg [.sym 6, .sym 7, .sym 8]], .tup [.agg [.sym 24, .sym 25, .sym 26], .sym 27]),
  (40, [.agg [.sym 20, .sym 21, .sym 22], .agg [.sym 24, .sym 25, .sym 26]], .tup [.agg [.sym 28, .sym 29, .sym 30], .sym 31])]⟩
theorem rGMul_c_r8 : @comes rGMul_c_k8 Tryd.prog glT 3000 19 [.agg [.sym 0, .sym 1, .sym 2, .sym 3, .sym 4, .sym 5], .agg [.sym 6, .sym 7, .sym 8, .sym 9, .sym 10, .sym 11]] = some (.lit (.tuple #[.agg #[.bool false, .string ⟨#[]⟩, .int .i64 0, .bool false, .string ⟨#[]⟩, .int .i64 0], .int .i64 4])) := by kernel_rfl
@[reducible] noncomputable def rGMul_c_k9 : Know := ⟨[([0, 12, 3], [.sym 15, .lit (.int .i64 0)], .lit (.bool false)),
  ([0, 12, 3], [.sym 19, .lit (.int .i64 0)], .lit (.bool true)),
  ([0, 12, 3], [.sym 23, .lit (.int .i64 0)], .lit (.bool false)),
  ([0, 12, 3], [.sym 27, .lit (.int .i64 0)], .lit (.bool true))],
  [(37, [.agg [.sym 0, .sym 1, .sym 2], .agg [.sym 6, .sym 7, .sym 8]], .tup [.agg [.sym 12, .sym 13, .sym 14], .sym 15]),
  (37, [.agg [.sym 3, .sym 4, .sym 5], .agg [.sym 9, .sym 10, .sym 11]], .tup [.agg [.sym 16, .sym 17, .sym 18], .sym 19]),
  (37, [.agg [.sym 0, .sym 1, .sym 2], .agg [.sym 9, .sym 10, .sym 11]], .tup [.agg [.sym 20, .sym 21, .sym 22], .sym 23]),
  (37, [.agg [.sym 3, .sym 4, .sym 5], .agg [.sym 6, .sym 7, .sym 8]], .tup [.agg [.sym 24, .sym 25, .sym 26], .sym 27])]⟩
theorem rGMul_c_r9 : @comes rGMul_c_k9 Tryd.prog glT 3000 19 [.agg [.sym 0, .sym 1, .sym 2, .sym 3, .sym 4, .sym 5], .agg [.sym 6, .sym 7, .sym 8, .sym 9, .sym 10, .sym 11]] = some (.lit (.tuple #[.agg #[.bool false, .string ⟨#[]⟩, .int .i64 0, .bool false, .string ⟨#[]⟩, .int .i64 0], .int .i64 4])) := by kernel_rfl
@[reducible] noncomputable def rGMul_c_k10 : Know := ⟨[([0, 12, 3], [.sym 15, .lit (.int .i64 0)], .lit (.bool false)),
  ([0, 12, 3], [.sym 19, .lit (.int .i64 0)], .lit (.bool true)),
  ([0, 12, 3], [.sym 23, .lit (.int .i64 0)], .lit (.bool true))],
  [(37, [.agg [.sym 0, .sym 1, .sym 2], .agg [.sym 6, .sym 7, .sym 8]], .tup [.agg [.sym 12, .sym 13, .sym 14], .sym 15]),
  (37, [.agg [.sym 3, .sym 4, .sym 5], .agg [.sym 9, .sym 10, .sym 11]], .tup [.agg [.sym 16, .sym 17, .sym 18], .sym 19]),
  (37, [.agg [.sym 0, .sym 1, .sym 2], .agg [.sym 9, .sym 10, .sym 11]], .tup [.agg [.sym 20, .sym 21, .sym 22], .sym 23]),
  (37, [.agg [.sym 3, .sym 4, .sym 5], .agg [.sym 6, .sym 7, .sym 8]], .tup [.agg [.sym 24, .sym 25, .sym 26], .sym 27])]⟩
theorem rGMul_c_r10 : @comes rGMul_c_k10 Tryd.prog glT 3000 19 [.agg [.sym 0, .sym 1, .sym 2, .sym 3, .sym 4, .sym 5], .agg [.sym 6, .sym 7, .sym 8, .sym 9, .sym 10, .sym 11]] = some (.lit (.tuple #[.agg #[.bool false, .string ⟨#[]⟩, .int .i64 0, .bool false, .string ⟨#[]⟩, .int .i64 0], .int .i64 4])) := by kernel_rfl
@[reducible] noncomputable def rGMul_c_k11 : Know := ⟨[([0, 12, 3], [.sym 15, .lit (.int .i64 0)], .lit (.bool true)),
  ([0, 12, 3], [.sym 23, .lit (.int .i64 0)], .lit (.bool false)),
  ([0, 12, 3], [.sym 27, .lit (.int .i64 0)], .lit (.bool false))],
  [(37, [.agg [.sym 0, .sym 1, .sym 2], .agg [.sym 6, .sym 7, .sym 8]], .tup [.agg [.sym 12, .sym 13, .sym 14], .sym 15]),
  (37, [.agg [.sym 3, .sym 4, .sym 5], .agg [.sym 9, .sym 10, .sym 11]], .tup [.agg [.sym 16, .sym 17, .sym 18], .sym 19]),
  (37, [.agg [.sym 0, .sym 1, .sym 2], .agg [.sym 9, .sym 10, .sym 11]], .tup [.agg [.sym 20, .sym 21, .sym 22], .sym 23]),
  (37, [.agg [.sym 3, .sym 4, .sym 5], .agg [.sym 6, .sym 7, .sym 8]], .tup [.agg [.sym 24, .sym 25, .sym 26], .sym 27]),
  (40, [.agg [.sym 20, .sym 21, .sym 22], .agg [.sym 24, .sym 25, .sym 26]], .tup [.agg [.sym 28, .sym 29, .sym 30], .sym 31])]⟩
theorem rGMul_c_r11 : @comes rGMul_c_k11 Tryd.prog glT 3000 19 [.agg [.sym 0, .sym 1, .sym 2, .sym 3, .sym 4, .sym 5], .agg [.sym 6, .sym 7, .sym 8, .sym 9, .sym 10, .sym 11]] = some (.lit (.tuple #[.agg #[.bool false, .string ⟨#[]⟩, .int .i64 0, .bool false, .string ⟨#[]⟩, .int .i64 0], .int .i64 4])) := by kernel_rfl
@[reducible] noncomputable def rGMul_c_k12 : Know := ⟨[([0, 12, 3], [.sym 15, .lit (.int .i64 0)], .lit (.bool true)),
  ([0, 12, 3], [.sym 23, .lit (.int .i64 0)], .lit (.bool false)),
  ([0, 12, 3], [.sym 27, .lit (.int .i64 0)], .lit (.bool true))],
  [(37, [.agg [.sym 0, .sym 1, .sym 2], .agg [.sym 6, .sym 7, .sym 8]], .tup [.agg [.sym 12, .sym 13, .sym 14], .sym 15]),
  (37, [.agg [.sym 3, .sym 4, .sym 5], .agg [.sym 9, .sym 10, .sym 11]], .tup [.agg [.sym 16, .sym 17, .sym 18], .sym 19]),
  (37, [.agg [.sym 0, .sym 1, .sym 2], .agg [.sym 9, .sym 10, .sym 11]], .tup [.agg [.sym 20, .sym 21, .sym 22], .sym 23]),
  (37, [.agg [.sym 3, .sym 4, .sym 5], .agg [.sym 6, .sym 7, .sym 8]], .tup [.agg [.sym 24, .sym 25, .sym 26], .sym 27])]⟩
theorem rGMul_c_r12 : @comes rGMul_c_k12 Tryd.prog glT 3000 19 [.agg [.sym 0, .sym 1, .sym 2, .sym 3, .sym 4, .sym 5], .agg [.sym 6, .sym 7, .sym 8, .sym 9, .sym 10, .sym 11]] = some (.lit (.tuple #[.agg #[.bool false, .string ⟨#[]⟩, .int .i64 0, .bool false, .string ⟨#[]⟩, .int .i64 0], .int .i64 4])) := by kernel_rfl
@[reducible] noncomputable def rGMul_c_k13 : Know := ⟨[([0, 12, 3], [.sym 15, .lit (.int .i64 0)], .lit (.bool true)),
  ([0, 12, 3], [.sym 23, .lit (.int .i64 0)], .lit (.bool true))],
  [(37, [.agg [.sym 0, .sym 1, .sym 2], .agg [.sym 6, .sym 7, .sym 8]], .tup [.agg [.sym 12, .sym 13, .sym 14], .sym 15]),
  (37, [.agg [.sym 3, .sym 4, .sym 5], .agg [.sym 9, .sym 10, .sym 11]], .tup [.agg [.sym 16, .sym 17, .sym 18], .sym 19]),
  (37, [.agg [.sym 0, .sym 1, .sym 2], .agg [.sym 9, .sym 10, .sym 11]], .tup [.agg [.sym 20, .sym 21, .sym 22], .sym 23]),
  (37, [.agg [.sym 3, .sym 4, .sym 5], .agg [.sym 6, .sym 7, .sym 8]], .tup [.agg [.sym 24, .sym 25, .sym 26], .sym 27])]⟩
theorem rGMul_c_r13 : @comes rGMul_c_k13 Tryd.prog glT 3000 19 [.agg [.sym 0, .sym 1, .sym 2, .sym 3, .sym 4, .sym 5], .agg [.sym 6, .sym 7, .sym 8, .sym 9, .sym 10, .sym 11]] = some (.lit (.tuple #[.agg #[.bool false, .string ⟨#[]⟩, .int .i64 0, .bool false, .string ⟨#[]⟩, .int .i64 0], .int .i64 4])) := by kernel_rfl

set_option maxRecDepth 100000 in
theorem rGMul_c (a b : Gs) (w : World) (ha : a.Ok) (hb : b.Ok) (hG : Globs glT w) : Calls Tryd.prog 19 #[.agg #[.bool a.re.g, .string (natS a.re.n), .int .i64 a.re.x, .bool a.im.g, .string (natS a.im.n), .int .i64 a.im.x], .agg #[.bool b.re.g, .string (natS b.re.n), .int .i64 b.re.x, .bool b.im.g, .string (natS b.im.n), .int .i64 b.im.x]] w fun e w' => e = .returned (.tuple #[(gmulD a b).v, .int .i64 (gmulE a b)]) ∧ Below w.heap.size w w' := by
  by_cases h1 : mulE a.re b.re = 0
  · by_cases h2 : mulE a.im b.im = 0
    · by_cases h3 : mulE a.re b.im = 0
      · by_cases h4 : mulE a.im b.re = 0
        · by_cases h5 : addE (mulD a.re b.re) (negD (mulD a.im b.im)) = 0
          · by_cases h6 : addE (mulD a.re b.im) (mulD a.im b.re) = 0
            · letI : Env := mkEnv glT [.bool a.re.g, .string (natS a.re.n), .int .i64 a.re.x, .bool a.im.g, .string (natS a.im.n), .int .i64 a.im.x, .bool b.re.g, .string (natS b.re.n), .int .i64 b.re.x, .bool b.im.g, .string (natS b.im.n), .int .i64 b.im.x, .bool (mulD a.re b.re).g, .string (natS (mulD a.re b.re).n), .int .i64 (mulD a.re b.re).x, .int .i64 (mulE a.re b.re), .bool (mulD a.im b.im).g, .string (natS (mulD a.im b.im).n), .int .i64 (mulD a.im b.im).x, .int .i64 (mulE a.im b.im), .bool (negD (mulD a.im b.im)).g, .string (natS (negD (mulD a.im b.im)).n), .int .i64 (negD (mulD a.im b.im)).x, .bool (addD (mulD a.re b.re) (negD (mulD a.im b.im))).g, .string (natS (addD (mulD a.re b.re) (negD (mulD a.im b.im))).n), .int .i64 (addD (mulD a.re b.re) (negD (mulD a.im b.im))).x, .int .i64 (addE (mulD a.re b.re) (negD (mulD a.im b.im))), .bool (mulD a.re b.im).g, .string (natS (mulD a.re b.im).n), .int .i64 (mulD a.re b.im).x, .int .i64 (mulE a.re b.im), .bool (mulD a.im b.re).g, .string (natS (mulD a.im b.re).n), .int .i64 (mulD a.im b.re).x, .int .i64 (mulE a.im b.re), .bool (addD (mulD a.re b.im) (mulD a.im b.re)).g, .string (natS (addD (mulD a.re b.im) (mulD a.im b.re)).n), .int .i64 (addD (mulD a.re b.im) (mulD a.im b.re)).x, .int .i64 (addE (mulD a.re b.im) (mulD a.im b.re))] rfl
              have hops : OpsT Tryd.prog (@Know.ops rGMul_c_k1) := ⟨opt_neq_f rfl rfl h1, opt_neq_f rfl rfl h2, opt_neq_f rfl rfl h3, opt_neq_f rfl rfl h4, opt_neq_f rfl rfl h5, opt_neq_f rfl rfl h6, trivial⟩
              have hcalls : CallsT Tryd.prog (@Know.calls rGMul_c_k1) := ⟨callt rfl rfl fun w hG => rMul3_c a.re b.re w ha.1 hb.1, callt rfl rfl fun w hG => rMul3_c a.im b.im w ha.2 hb.2, callt rfl rfl fun w hG => rNegD3_c (mulD a.im b.im) w (mulD_Ok a.im b.im), callt rfl rfl fun w hG => rAdd3_c (mulD a.re b.re) (negD (mulD a.im b.im)) w (mulD_Ok a.re b.re) (negD_Ok (mulD_Ok a.im b.im)), callt rfl rfl fun w hG => rMul3_c a.re b.im w ha.1 hb.2, callt rfl rfl fun w hG => rMul3_c a.im b.re w ha.2 hb.1, callt rfl rfl fun w hG => rAdd3_c (mulD a.re b.im) (mulD a.im b.re) w (mulD_Ok a.re b.im) (mulD_Ok a.im b.re), trivial⟩
              exact (@sym_ok _ rGMul_c_k1 _ (@KnowOk.of _ rGMul_c_k1 _ hops hcalls) (by kernel_rfl) _ _ _ _ rGMul_c_r1 rfl rfl _ hG).mono fun e w' h => ⟨h.1.trans (show Ending.returned (.tuple #[.agg #[.bool (addD (mulD a.re b.re) (negD (mulD a.im b.im))).g, .string (natS (addD (mulD a.re b.re) (negD (mulD a.im b.im))).n), .int .i64 (addD (mulD a.re b.re) (negD (mulD a.im b.im))).x, .bool (addD (mulD a.re b.im) (mulD a.im b.re)).g, .string (natS (addD (mulD a.re b.im) (mulD a.im b.re)).n), .int .i64 (addD (mulD a.re b.im) (mulD a.im b.re)).x], .int .i64 0]) = .returned (.tuple #[(gmulD a b).v, .int .i64 (gmulE a b)]) from by rw [show gmulD a b = _ from erG_ok (l := gmulL a b) (show All0 (gmulL a b) from ⟨h1, h2, h5, h3, h4, h6, trivial⟩), show gmulE a b = 0 from erI_ok (l := gmulL a b) (show All0 (gmulL a b) from ⟨h1, h2, h5, h3, h4, h6, trivial⟩)]; rfl), h.2⟩
            · letI : Env := mkEnv glT [.bool a.re.g, .string (natS a.re.n), .int .i64 a.re.x, .bool a.im.g, .string (natS a.im.n), .int .i64 a.im.x, .bool b.re.g, .string (natS b.re.n), .int .i64 b.re.x, .bool b.im.g, .string (natS b.im.n), .int .i64 b.im.x, .bool (mulD a.re b.re).g, .string (natS (mulD a.re b.re).n), .int .i64 (mulD a.re b.re).x, .int .i64 (mulE a.re b.re), .bool (mulD a.im b.im).g, .string (natS (mulD a.im b.im).n), .int .i64 (mulD a.im b.im).x, .int .i64 (mulE a.im b.im), .bool (negD (mulD a.im b.im)).g, .string (natS (negD (mulD a.im b.im)).n), .int .i64 (negD (mulD a.im b.im)).x, .bool (addD (mulD a.re b.re) (negD (mulD a.im b.im))).g, .string (natS (addD (mulD a.re b.re) (negD (mulD a.im b.im))).n), .int .i64 (addD (mulD a.re b.re) (negD (mulD a.im b.im))).x, .int .i64 (addE (mulD a.re b.re) (negD (mulD a.im b.im))), .bool (mulD a.re b.im).g, .string (natS (mulD a.re b.im).n), .int .i64 (mulD a.re b.im).x, .int .i64 (mulE a.re b.im), .bool (mulD a.im b.re).g, .string (natS (mulD a.im b.re).n), .int .i64 (mulD a.im b.re).x, .int .i64 (mulE a.im b.re), .bool (addD (mulD a.re b.im) (mulD a.im b.re)).g, .string (natS (addD (mulD a.re b.im) (mulD a.im b.re)).n), .int .i64 (addD (mulD a.re b.im) (mulD a.im b.re)).x, .int .i64 (addE (mulD a.re b.im) (mulD a.im b.re))] rfl
              have hops : OpsT Tryd.prog (@Know.ops rGMul_c_k2) := ⟨opt_neq_f rfl rfl h1, opt_neq_f rfl rfl h2, opt_neq_f rfl rfl h3, opt_neq_f rfl rfl h4, opt_neq_f rfl rfl h5, opt_neq_t rfl rfl h6, trivial⟩
              have hcalls : CallsT Tryd.prog (@Know.calls rGMul_c_k2) := ⟨callt rfl rfl fun w hG => rMul3_c a.re b.re w ha.1 hb.1, callt rfl rfl fun w hG => rMul3_c a.im b.im w ha.2 hb.2, callt rfl rfl fun w hG => rNegD3_c (mulD a.im b.im) w (mulD_Ok a.im b.im), callt rfl rfl fun w hG => rAdd3_c (mulD a.re b.re) (negD (mulD a.im b.im)) w (mulD_Ok a.re b.re) (negD_Ok (mulD_Ok a.im b.im)), callt rfl rfl fun w hG => rMul3_c a.re b.im w ha.1 hb.2, callt rfl rfl fun w hG => rMul3_c a.im b.re w ha.2 hb.1, callt rfl rfl fun w hG => rAdd3_c (mulD a.re b.im) (mulD a.im b.re) w (mulD_Ok a.re b.im) (mulD_Ok a.im b.re), trivial⟩
              exact (@sym_ok _ rGMul_c_k2 _ (@KnowOk.of _ rGMul_c_k2 _ hops hcalls) (by kernel_rfl) _ _ _ _ rGMul_c_r2 rfl rfl _ hG).mono fun e w' h => ⟨h.1.trans (show Ending.returned (.tuple #[.agg #[.bool false, .string ⟨#[]⟩, .int .i64 0, .bool false, .string ⟨#[]⟩, .int .i64 0], .int .i64 4]) = .returned (.tuple #[(gmulD a b).v, .int .i64 (gmulE a b)]) from by rw [show gmulD a b = _ from erG_no (l := gmulL a b) (show ¬ All0 (gmulL a b) from (fun c => h6 c.2.2.2.2.2.1)), show gmulE a b = 4 from erI_no (l := gmulL a b) (show ¬ All0 (gmulL a b) from (fun c => h6 c.2.2.2.2.2.1)), Gs.zero_v]), h.2⟩
          · letI : Env := mkEnv glT [.bool a.re.g, .string (natS a.re.n), .int .i64 a.re.x, .bool a.im.g, .string (natS a.im.n), .int .i64 a.im.x, .bool b.re.g, .string (natS b.re.n), .int .i64 b.re.x, .bool b.im.g, .string (natS b.im.n), .int .i64 b.im.x, .bool (mulD a.re b.re).g, .string (natS (mulD a.re b.re).n), .int .i64 (mulD a.re b.re).x, .int .i64 (mulE a.re b.re), .bool (mulD a.im b.im).g, .string (natS (mulD a.im b.im).n), .int .i64 (mulD a.im b.im).x, .int .i64 (mulE a.im b.im), .bool (negD (mulD a.im b.im)).g, .string (natS (negD (mulD a.im b.im)).n), .int .i64 (negD (mulD a.im b.im)).x, .bool (addD (mulD a.re b.re) (negD (mulD a.im b.im))).g, .string (natS (addD (mulD a.re b.re) (negD (mulD a.im b.im))).n), .int .i64 (addD (mulD a.re b.re) (negD (mulD a.im b.im))).x, .int .i64 (addE (mulD a.re b.re) (negD (mulD a.im b.im))), .bool (mulD a.re b.im).g, .string (natS (mulD a.re b.im).n), .int .i64 (mulD a.re b.im).x, .int .i64 (mulE a.re b.im), .bool (mulD a.im b.re).g, .string (natS (mulD a.im b.re).n), .int .i64 (mulD a.im b.re).x, .int .i64 (mulE a.im b.re), .bool (addD (mulD a.re b.im) (mulD a.im b.re)).g, .string (natS (addD (mulD a.re b.im) (mulD a.im b.re)).n), .int .i64 (addD (mulD a.re b.im) (mulD a.im b.re)).x, .int .i64 (addE (mulD a.re b.im) (mulD a.im b.re))] rfl
            have hops : OpsT Tryd.prog (@Know.ops rGMul_c_k3) := ⟨opt_neq_f rfl rfl h1, opt_neq_f rfl rfl h2, opt_neq_f rfl rfl h3, opt_neq_f rfl rfl h4, opt_neq_t rfl rfl h5, trivial⟩
            have hcalls : CallsT Tryd.prog (@Know.calls rGMul_c_k3) := ⟨callt rfl rfl fun w hG => rMul3_c a.re b.re w ha.1 hb.1, callt rfl rfl fun w hG => rMul3_c a.im b.im w ha.2 hb.2, callt rfl rfl fun w hG => rNegD3_c (mulD a.im b.im) w (mulD_Ok a.im b.im), callt rfl rfl fun w hG => rAdd3_c (mulD a.re b.re) (negD (mulD a.im b.im)) w (mulD_Ok a.re b.re) (negD_Ok (mulD_Ok a.im b.im)), callt rfl rfl fun w hG => rMul3_c a.re b.im w ha.1 hb.2, callt rfl rfl fun w hG => rMul3_c a.im b.re w ha.2 hb.1, callt rfl rfl fun w hG => rAdd3_c (mulD a.re b.im) (mulD a.im b.re) w (mulD_Ok a.re b.im) (mulD_Ok a.im b.re), trivial⟩
            exact (@sym_ok _ rGMul_c_k3 _ (@KnowOk.of _ rGMul_c_k3 _ hops hcalls) (by kernel_rfl) _ _ _ _ rGMul_c_r3 rfl rfl _ hG).mono fun e w' h => ⟨h.1.trans (show Ending.returned (.tuple #[.agg #[.bool false, .string ⟨#[]⟩, .int .i64 0, .bool false, .string ⟨#[]⟩, .int .i64 0], .int .i64 4]) = .returned (.tuple #[(gmulD a b).v, .int .i64 (gmulE a b)]) from by rw [show gmulD a b = _ from erG_no (l := gmulL a b) (show ¬ All0 (gmulL a b) from (fun c => h5 c.2.2.1)), show gmulE a b = 4 from erI_no (l := gmulL a b) (show ¬ All0 (gmulL a b) from (fun c => h5 c.2.2.1)), Gs.zero_v]), h.2⟩
        · by_cases h5 : addE (mulD a.re b.re) (negD (mulD a.im b.im)) = 0
          · letI : Env := mkEnv glT [.bool a.re.g, .string (natS a.re.n), .int .i64 a.re.x, .bool a.im.g, .string (natS a.im.n), .int .i64 a.im.x, .bool b.re.g, .string (natS b.re.n), .int .i64 b.re.x, .bool b.im.g, .string (natS b.im.n), .int .i64 b.im.x, .bool (mulD a.re b.re).g, .string (natS (mulD a.re b.re).n), .int .i64 (mulD a.re b.re).x, .int .i64 (mulE a.re b.re), .bool (mulD a.im b.im).g, .string (natS (mulD a.im b.im).n), .int .i64 (mulD a.im b.im).x, .int .i64 (mulE a.im b.im), .bool (negD (mulD a.im b.im)).g, .string (natS (negD (mulD a.im b.im)).n), .int .i64 (negD (mulD a.im b.im)).x, .bool (addD (mulD a.re b.re) (negD (mulD a.im b.im))).g, .string (natS (addD (mulD a.re b.re) (negD (mulD a.im b.im))).n), .int .i64 (addD (mulD a.re b.re) (negD (mulD a.im b.im))).x, .int .i64 (addE (mulD a.re b.re) (negD (mulD a.im b.im))), .bool (mulD a.re b.im).g, .string (natS (mulD a.re b.im).n), .int .i64 (mulD a.re b.im).x, .int .i64 (mulE a.re b.im), .bool (mulD a.im b.re).g, .string (natS (mulD a.im b.re).n), .int .i64 (mulD a.im b.re).x, .int .i64 (mulE a.im b.re)] rfl
            have hops : OpsT Tryd.prog (@Know.ops rGMul_c_k4) := ⟨opt_neq_f rfl rfl h1, opt_neq_f rfl rfl h2, opt_neq_f rfl rfl h3, opt_neq_t rfl rfl h4, opt_neq_f rfl rfl h5, trivial⟩
            have hcalls : CallsT Tryd.prog (@Know.calls rGMul_c_k4) := ⟨callt rfl rfl fun w hG => rMul3_c a.re b.re w ha.1 hb.1, callt rfl rfl fun w hG => rMul3_c a.im b.im w ha.2 hb.2, callt rfl rfl fun w hG => rNegD3_c (mulD a.im b.im) w (mulD_Ok a.im b.im), callt rfl rfl fun w hG => rAdd3_c (mulD a.re b.re) (negD (mulD a.im b.im)) w (mulD_Ok a.re b.re) (negD_Ok (mulD_Ok a.im b.im)), callt rfl rfl fun w hG => rMul3_c a.re b.im w ha.1 hb.2, callt rfl rfl fun w hG => rMul3_c a.im b.re w ha.2 hb.1, trivial⟩
            exact (@sym_ok _ rGMul_c_k4 _ (@KnowOk.of _ rGMul_c_k4 _ hops hcalls) (by kernel_rfl) _ _ _ _ rGMul_c_r4 rfl rfl _ hG).mono fun e w' h => ⟨h.1.trans (show Ending.returned (.tuple #[.agg #[.bool false, .string ⟨#[]⟩, .int .i64 0, .bool false, .string ⟨#[]⟩, .int .i64 0], .int .i64 4]) = .returned (.tuple #[(gmulD a b).v, .int .i64 (gmulE a b)]) from by rw [show gmulD a b = _ from erG_no (l := gmulL a b) (show ¬ All0 (gmulL a b) from (fun c => h4 c.2.2.2.2.1)), show gmulE a b = 4 from erI_no (l := gmulL a b) (show ¬ All0 (gmulL a b) from (fun c => h4 c.2.2.2.2.1)), Gs.zero_v]), h.2⟩
          · letI : Env := mkEnv glT [.bool a.re.g, .string (natS a.re.n), .int .i64 a.re.x, .bool a.im.g, .string (natS a.im.n), .int .i64 a.im.x, .bool b.re.g, .string (natS b.re.n), .int .i64 b.re.x, .bool b.im.g, .string (natS b.im.n), .int .i64 b.im.x, .bool (mulD a.re b.re).g, .string (natS (mulD a.re b.re).n), .int .i64 (mulD a.re b.re).x, .int .i64 (mulE a.re b.re), .bool (mulD a.im b.im).g, .string (natS (mulD a.im b.im).n), .int .i64 (mulD a.im b.im).x, .int .i64 (mulE a.im b.im), .bool (negD (mulD a.im b.im)).g, .string (natS (negD (mulD a.im b.im)).n), .int .i64 (negD (mulD a.im b.im)).x, .bool (addD (mulD a.re b.re) (negD (mulD a.im b.im))).g, .string (natS (addD (mulD a.re b.re) (negD (mulD a.im b.im))).n), .int .i64 (addD (mulD a.re b.re) (negD (mulD a.im b.im))).x, .int .i64 (addE (mulD a.re b.re) (negD (mulD a.im b.im))), .bool (mulD a.re b.im).g, .string (natS (mulD a.re b.im).n), .int .i64 (mulD a.re b.im).x, .int .i64 (mulE a.re b.im), .bool (mulD a.im b.re).g, .string (natS (mulD a.im b.re).n), .int .i64 (mulD a.im b.re).x, .int .i64 (mulE a.im b.re)] rfl
            have hops : OpsT Tryd.prog (@Know.ops rGMul_c_k5) := ⟨opt_neq_f rfl rfl h1, opt_neq_f rfl rfl h2, opt_neq_f rfl rfl h3, opt_neq_t rfl rfl h4, opt_neq_t rfl rfl h5, trivial⟩
            have hcalls : CallsT Tryd.prog (@Know.calls rGMul_c_k5) := ⟨callt rfl rfl fun w hG => rMul3_c a.re b.re w ha.1 hb.1, callt rfl rfl fun w hG => rMul3_c a.im b.im w ha.2 hb.2, callt rfl rfl fun w hG => rNegD3_c (mulD a.im b.im) w (mulD_Ok a.im b.im), callt rfl rfl fun w hG => rAdd3_c (mulD a.re b.re) (negD (mulD a.im b.im)) w (mulD_Ok a.re b.re) (negD_Ok (mulD_Ok a.im b.im)), callt rfl rfl fun w hG => rMul3_c a.re b.im w ha.1 hb.2, callt rfl rfl fun w hG => rMul3_c a.im b.re w ha.2 hb.1, trivial⟩
            exact (@sym_ok _ rGMul_c_k5 _ (@KnowOk.of _ rGMul_c_k5 _ hops hcalls) (by kernel_rfl) _ _ _ _ rGMul_c_r5 rfl rfl _ hG).mono fun e w' h => ⟨h.1.trans (show Ending.returned (.tuple #[.agg #[.bool false, .string ⟨#[]⟩, .int .i64 0, .bool false, .string ⟨#[]⟩, .int .i64 0], .int .i64 4]) = .returned (.tuple #[(gmulD a b).v, .int .i64 (gmulE a b)]) from by rw [show gmulD a b = _ from erG_no (l := gmulL a b) (show ¬ All0 (gmulL a b) from (fun c => h5 c.2.2.1)), show gmulE a b = 4 from erI_no (l := gmulL a b) (show ¬ All0 (gmulL a b) from (fun c => h5 c.2.2.1)), Gs.zero_v]), h.2⟩
      · by_cases h4 : addE (mulD a.re b.re) (negD (mulD a.im b.im)) = 0
        · letI : Env := mkEnv glT [.bool a.re.g, .string (natS a.re.n), .int .i64 a.re.x, .bool a.im.g, .string (natS a.im.n), .int .i64 a.im.x, .bool b.re.g, .string (natS b.re.n), .int .i64 b.re.x, .bool b.im.g, .string (natS b.im.n), .int .i64 b.im.x, .bool (mulD a.re b.re).g, .string (natS (mulD a.re b.re).n), .int .i64 (mulD a.re b.re).x, .int .i64 (mulE a.re b.re), .bool (mulD a.im b.im).g, .string (natS (mulD a.im b.im).n), .int .i64 (mulD a.im b.im).x, .int .i64 (mulE a.im b.im), .bool (negD (mulD a.im b.im)).g, .string (natS (negD (mulD a.im b.im)).n), .int .i64 (negD (mulD a.im b.im)).x, .bool (addD (mulD a.re b.re) (negD (mulD a.im b.im))).g, .string (natS (addD (mulD a.re b.re) (negD (mulD a.im b.im))).n), .int .i64 (addD (mulD a.re b.re) (negD (mulD a.im b.im))).x, .int .i64 (addE (mulD a.re b.re) (negD (mulD a.im b.im))), .bool (mulD a.re b.im).g, .string (natS (mulD a.re b.im).n), .int .i64 (mulD a.re b.im).x, .int .i64 (mulE a.re b.im), .bool (mulD a.im b.re).g, .string (natS (mulD a.im b.re).n), .int .i64 (mulD a.im b.re).x, .int .i64 (mulE a.im b.re)] rfl
          have hops : OpsT Tryd.prog (@Know.ops rGMul_c_k6) := ⟨opt_neq_f rfl rfl h1, opt_neq_f rfl rfl h2, opt_neq_t rfl rfl h3, opt_neq_f rfl rfl h4, trivial⟩
          have hcalls : CallsT Tryd.prog (@Know.calls rGMul_c_k6) := ⟨callt rfl rfl fun w hG => rMul3_c a.re b.re w ha.1 hb.1, callt rfl rfl fun w hG => rMul3_c a.im b.im w ha.2 hb.2, callt rfl rfl fun w hG => rNegD3_c (mulD a.im b.im) w (mulD_Ok a.im b.im), callt rfl rfl fun w hG => rAdd3_c (mulD a.re b.re) (negD (mulD a.im b.im)) w (mulD_Ok a.re b.re) (negD_Ok (mulD_Ok a.im b.im)), callt rfl rfl fun w hG => rMul3_c a.re b.im w ha.1 hb.2, callt rfl rfl fun w hG => rMul3_c a.im b.re w ha.2 hb.1, trivial⟩
          exact (@sym_ok _ rGMul_c_k6 _ (@KnowOk.of _ rGMul_c_k6 _ hops hcalls) (by kernel_rfl) _ _ _ _ rGMul_c_r6 rfl rfl _ hG).mono fun e w' h => ⟨h.1.trans (show Ending.returned (.tuple #[.agg #[.bool false, .string ⟨#[]⟩, .int .i64 0, .bool false, .string ⟨#[]⟩, .int .i64 0], .int .i64 4]) = .returned (.tuple #[(gmulD a b).v, .int .i64 (gmulE a b)]) from by rw [show gmulD a b = _ from erG_no (l := gmulL a b) (show ¬ All0 (gmulL a b) from (fun c => h3 c.2.2.2.1)), show gmulE a b = 4 from erI_no (l := gmulL a b) (show ¬ All0 (gmulL a b) from (fun c => h3 c.2.2.2.1)), Gs.zero_v]), h.2⟩
        · letI : Env := mkEnv glT [.bool a.re.g, .string (natS a.re.n), .int .i64 a.re.x, .bool a.im.g, .string (natS a.im.n), .int .i64 a.im.x, .bool b.re.g, .string (natS b.re.n), .int .i64 b.re.x, .bool b.im.g, .string (natS b.im.n), .int .i64 b.im.x, .bool (mulD a.re b.re).g, .string (natS (mulD a.re b.re).n), .int .i64 (mulD a.re b.re).x, .int .i64 (mulE a.re b.re), .bool (mulD a.im b.im).g, .string (natS (mulD a.im b.im).n), .int .i64 (mulD a.im b.im).x, .int .i64 (mulE a.im b.im), .bool (negD (mulD a.im b.im)).g, .string (natS (negD (mulD a.im b.im)).n), .int .i64 (negD (mulD a.im b.im)).x, .bool (addD (mulD a.re b.re) (negD (mulD a.im b.im))).g, .string (natS (addD (mulD a.re b.re) (negD (mulD a.im b.im))).n), .int .i64 (addD (mulD a.re b.re) (negD (mulD a.im b.im))).x, .int .i64 (addE (mulD a.re b.re) (negD (mulD a.im b.im))), .bool (mulD a.re b.im).g, .string (natS (mulD a.re b.im).n), .int .i64 (mulD a.re b.im).x, .int .i64 (mulE a.re b.im), .bool (mulD a.im b.re).g, .string (natS (mulD a.im b.re).n), .int .i64 (mulD a.im b.re).x, .int .i64 (mulE a.im b.re)] rfl
          have hops : OpsT Tryd.prog (@Know.ops rGMul_c_k7) := ⟨opt_neq_f rfl rfl h1, opt_neq_f rfl rfl h2, opt_neq_t rfl rfl h3, opt_neq_t rfl rfl h4, trivial⟩
          have hcalls : CallsT Tryd.prog (@Know.calls rGMul_c_k7) := ⟨callt rfl rfl fun w hG => rMul3_c a.re b.re w ha.1 hb.1, callt rfl rfl fun w hG => rMul3_c a.im b.im w ha.2 hb.2, callt rfl rfl fun w hG => rNegD3_c (mulD a.im b.im) w (mulD_Ok a.im b.im), callt rfl rfl fun w hG => rAdd3_c (mulD a.re b.re) (negD (mulD a.im b.im)) w (mulD_Ok a.re b.re) (negD_Ok (mulD_Ok a.im b.im)), callt rfl rfl fun w hG => rMul3_c a.re b.im w ha.1 hb.2, callt rfl rfl fun w hG => rMul3_c a.im b.re w ha.2 hb.1, trivial⟩
          exact (@sym_ok _ rGMul_c_k7 _ (@KnowOk.of _ rGMul_c_k7 _ hops hcalls) (by kernel_rfl) _ _ _ _ rGMul_c_r7 rfl rfl _ hG).mono fun e w' h => ⟨h.1.trans (show Ending.returned (.tuple #[.agg #[.bool false, .string ⟨#[]⟩, .int .i64 0, .bool false, .string ⟨#[]⟩, .int .i64 0], .int .i64 4]) = .returned (.tuple #[(gmulD a b).v, .int .i64 (gmulE a b)]) from by rw [show gmulD a b = _ from erG_no (l := gmulL a b) (show ¬ All0 (gmulL a b) from (fun c => h4 c.2.2.1)), show gmulE a b = 4 from erI_no (l := gmulL a b) (show ¬ All0 (gmulL a b) from (fun c => h4 c.2.2.1)), Gs.zero_v]), h.2⟩
    · by_cases h3 : mulE a.re b.im = 0
      · by_cases h4 : mulE a.im b.re = 0
        · letI : Env := mkEnv glT [.bool a.re.g, .string (natS a.re.n), .int .i64 a.re.x, .bool a.im.g, .string (natS a.im.n), .int .i64 a.im.x, .bool b.re.g, .string (natS b.re.n), .int .i64 b.re.x, .bool b.im.g, .string (natS b.im.n), .int .i64 b.im.x, .bool (mulD a.re b.re).g, .string (natS (mulD a.re b.re).n), .int .i64 (mulD a.re b.re).x, .int .i64 (mulE a.re b.re), .bool (mulD a.im b.im).g, .string (natS (mulD a.im b.im).n), .int .i64 (mulD a.im b.im).x, .int .i64 (mulE a.im b.im), .bool (mulD a.re b.im).g, .string (natS (mulD a.re b.im).n), .int .i64 (mulD a.re b.im).x, .int .i64 (mulE a.re b.im), .bool (mulD a.im b.re).g, .string (natS (mulD a.im b.re).n), .int .i64 (mulD a.im b.re).x, .int .i64 (mulE a.im b.re), .bool (addD (mulD a.re b.im) (mulD a.im b.re)).g, .string (natS (addD (mulD a.re b.im) (mulD a.im b.re)).n), .int .i64 (addD (mulD a.re b.im) (mulD a.im b.re)).x, .int .i64 (addE (mulD a.re b.im) (mulD a.im b.re))] rfl
          have hops : OpsT Tryd.prog (@Know.ops rGMul_c_k8) := ⟨opt_neq_f rfl rfl h1, opt_neq_t rfl rfl h2, opt_neq_f rfl rfl h3, opt_neq_f rfl rfl h4, trivial⟩
          have hcalls : CallsT Tryd.prog (@Know.calls rGMul_c_k8) := ⟨callt rfl rfl fun w hG => rMul3_c a.re b.re w ha.1 hb.1, callt rfl rfl fun w hG => rMul3_c a.im b.im w ha.2 hb.2, callt rfl rfl fun w hG => rMul3_c a.re b.im w ha.1 hb.2, callt rfl rfl fun w hG => rMul3_c a.im b.re w ha.2 hb.1, callt rfl rfl fun w hG => rAdd3_c (mulD a.re b.im) (mulD a.im b.re) w (mulD_Ok a.re b.im) (mulD_Ok a.im b.re), trivial⟩
          exact (@sym_ok _ rGMul_c_k8 _ (@KnowOk.of _ rGMul_c_k8 _ hops hcalls) (by kernel_rfl) _ _ _ _ rGMul_c_r8 rfl rfl _ hG).mono fun e w' h => ⟨h.1.trans (show Ending.returned (.tuple #[.agg #[.bool false, .string ⟨#[]⟩, .int .i64 0, .bool false, .string ⟨#[]⟩, .int .i64 0], .int .i64 4]) = .returned (.tuple #[(gmulD a b).v, .int .i64 (gmulE a b)]) from by rw [show gmulD a b = _ from erG_no (l := gmulL a b) (show ¬ All0 (gmulL a b) from (fun c => h2 c.2.1)), show gmulE a b = 4 from erI_no (l := gmulL a b) (show ¬ All0 (gmulL a b) from (fun c => h2 c.2.1)), Gs.zero_v]), h.2⟩
        · letI : Env := mkEnv glT [.bool a.re.g, .string (natS a.re.n), .int .i64 a.re.x, .bool a.im.g, .string (natS a.im.n), .int .i64 a.im.x, .bool b.re.g, .string (natS b.re.n), .int .i64 b.re.x, .bool b.im.g, .string (natS b.im.n), .int .i64 b.im.x, .bool (mulD a.re b.re).g, .string (natS (mulD a.re b.re).n), .int .i64 (mulD a.re b.re).x, .int .i64 (mulE a.re b.re), .bool (mulD a.im b.im).g, .string (natS (mulD a.im b.im).n), .int .i64 (mulD a.im b.im).x, .int .i64 (mulE a.im b.im), .bool (mulD a.re b.im).g, .string (natS (mulD a.re b.im).n), .int .i64 (mulD a.re b.im).x, .int .i64 (mulE a.re b.im), .bool (mulD a.im b.re).g, .string (natS (mulD a.im b.re).n), .int .i64 (mulD a.im b.re).x, .int .i64 (mulE a.im b.re)] rfl
          have hops : OpsT Tryd.prog (@Know.ops rGMul_c_k9) := ⟨opt_neq_f rfl rfl h1, opt_neq_t rfl rfl h2, opt_neq_f rfl rfl h3, opt_neq_t rfl rfl h4, trivial⟩
          have hcalls : CallsT Tryd.prog (@Know.calls rGMul_c_k9) := ⟨callt rfl rfl fun w hG => rMul3_c a.re b.re w ha.1 hb.1, callt rfl rfl fun w hG => rMul3_c a.im b.im w ha.2 hb.2, callt rfl rfl fun w hG => rMul3_c a.re b.im w ha.1 hb.2, callt rfl rfl fun w hG => rMul3_c a.im b.re w ha.2 hb.1, trivial⟩
          exact (@sym_ok _ rGMul_c_k9 _ (@KnowOk.of _ rGMul_c_k9 _ hops hcalls) (by kernel_rfl) _ _ _ _ rGMul_c_r9 rfl rfl _ hG).mono fun e w' h => ⟨h.1.trans (show Ending.returned (.tuple #[.agg #[.bool false, .string ⟨#[]⟩, .int .i64 0, .bool false, .string ⟨#[]⟩, .int .i64 0], .int .i64 4]) = .returned (.tuple #[(gmulD a b).v, .int .i64 (gmulE a b)]) from by rw [show gmulD a b = _ from erG_no (l := gmulL a b) (show ¬ All0 (gmulL a b) from (fun c => h2 c.2.1)), show gmulE a b = 4 from erI_no (l := gmulL a b) (show ¬ All0 (gmulL a b) from (fun c => h2 c.2.1)), Gs.zero_v]), h.2⟩
      · letI : Env := mkEnv glT [.bool a.re.g, .string (natS a.re.n), .int .i64 a.re.x, .bool a.im.g, .string (natS a.im.n), .int .i64 a.im.x, .bool b.re.g, .string (natS b.re.n), .int .i64 b.re.x, .bool b.im.g, .string (natS b.im.n), .int .i64 b.im.x, .bool (mulD a.re b.re).g, .string (natS (mulD a.re b.re).n), .int .i64 (mulD a.re b.re).x, .int .i64 (mulE a.re b.re), .bool (mulD a.im b.im).g, .string (natS (mulD a.im b.im).n), .int .i64 (mulD a.im b.im).x, .int .i64 (mulE a.im b.im), .bool (mulD a.re b.im).g, .string (natS (mulD a.re b.im).n), .int .i64 (mulD a.re b.im).x, .int .i64 (mulE a.re b.im), .bool (mulD a.im b.re).g, .string (natS (mulD a.im b.re).n), .int .i64 (mulD a.im b.re).x, .int .i64 (mulE a.im b.re)] rfl
        have hops : OpsT Tryd.prog (@Know.ops rGMul_c_k10) := ⟨opt_neq_f rfl rfl h1, opt_neq_t rfl rfl h2, opt_neq_t rfl rfl h3, trivial⟩
        have hcalls : CallsT Tryd.prog (@Know.calls rGMul_c_k10) := ⟨callt rfl rfl fun w hG => rMul3_c a.re b.re w ha.1 hb.1, callt rfl rfl fun w hG => rMul3_c a.im b.im w ha.2 hb.2, callt rfl rfl fun w hG => rMul3_c a.re b.im w ha.1 hb.2, callt rfl rfl fun w hG => rMul3_c a.im b.re w ha.2 hb.1, trivial⟩
        exact (@sym_ok _ rGMul_c_k10 _ (@KnowOk.of _ rGMul_c_k10 _ hops hcalls) (by kernel_rfl) _ _ _ _ rGMul_c_r10 rfl rfl _ hG).mono fun e w' h => ⟨h.1.trans (show Ending.returned (.tuple #[.agg #[.bool false, .string ⟨#[]⟩, .int .i64 0, .bool false, .string ⟨#[]⟩, .int .i64 0], .int .i64 4]) = .returned (.tuple #[(gmulD a b).v, .int .i64 (gmulE a b)]) from by rw [show gmulD a b = _ from erG_no (l := gmulL a b) (show ¬ All0 (gmulL a b) from (fun c => h2 c.2.1)), show gmulE a b = 4 from erI_no (l := gmulL a b) (show ¬ All0 (gmulL a b) from (fun c => h2 c.2.1)), Gs.zero_v]), h.2⟩
  · by_cases h2 : mulE a.re b.im = 0
    · by_cases h3 : mulE a.im b.re = 0
      · letI : Env := mkEnv glT [.bool a.re.g, .string (natS a.re.n), .int .i64 a.re.x, .bool a.im.g, .string (natS a.im.n), .int .i64 a.im.x, .bool b.re.g, .string (natS b.re.n), .int .i64 b.re.x, .bool b.im.g, .string (natS b.im.n), .int .i64 b.im.x, .bool (mulD a.re b.re).g, .string (natS (mulD a.re b.re).n), .int .i64 (mulD a.re b.re).x, .int .i64 (mulE a.re b.re), .bool (mulD a.im b.im).g, .string (natS (mulD a.im b.im).n), .int .i64 (mulD a.im b.im).x, .int .i64 (mulE a.im b.im), .bool (mulD a.re b.im).g, .string (natS (mulD a.re b.im).n), .int .i64 (mulD a.re b.im).x, .int .i64 (mulE a.re b.im), .bool (mulD a.im b.re).g, .string (natS (mulD a.im b.re).n), .int .i64 (mulD a.im b.re).x, .int .i64 (mulE a.im b.re), .bool (addD (mulD a.re b.im) (mulD a.im b.re)).g, .string (natS (addD (mulD a.re b.im) (mulD a.im b.re)).n), .int .i64 (addD (mulD a.re b.im) (mulD a.im b.re)).x, .int .i64 (addE (mulD a.re b.im) (mulD a.im b.re))] rfl
        have hops : OpsT Tryd.prog (@Know.ops rGMul_c_k11) := ⟨opt_neq_t rfl rfl h1, opt_neq_f rfl rfl h2, opt_neq_f rfl rfl h3, trivial⟩
        have hcalls : CallsT Tryd.prog (@Know.calls rGMul_c_k11) := ⟨callt rfl rfl fun w hG => rMul3_c a.re b.re w ha.1 hb.1, callt rfl rfl fun w hG => rMul3_c a.im b.im w ha.2 hb.2, callt rfl rfl fun w hG => rMul3_c a.re b.im w ha.1 hb.2, callt rfl rfl fun w hG => rMul3_c a.im b.re w ha.2 hb.1, callt rfl rfl fun w hG => rAdd3_c (mulD a.re b.im) (mulD a.im b.re) w (mulD_Ok a.re b.im) (mulD_Ok a.im b.re), trivial⟩
        exact (@sym_ok _ rGMul_c_k11 _ (@KnowOk.of _ rGMul_c_k11 _ hops hcalls) (by kernel_rfl) _ _ _ _ rGMul_c_r11 rfl rfl _ hG).mono fun e w' h => ⟨h.1.trans (show Ending.returned (.tuple #[.agg #[.bool false, .string ⟨#[]⟩, .int .i64 0, .bool false, .string ⟨#[]⟩, .int .i64 0], .int .i64 4]) = .returned (.tuple #[(gmulD a b).v, .int .i64 (gmulE a b)]) from by rw [show gmulD a b = _ from erG_no (l := gmulL a b) (show ¬ All0 (gmulL a b) from (fun c => h1 c.1)), show gmulE a b = 4 from erI_no (l := gmulL a b) (show ¬ All0 (gmulL a b) from (fun c => h1 c.1)), Gs.zero_v]), h.2⟩
      · letI : Env := mkEnv glT [.bool a.re.g, .string (natS a.re.n), .int .i64 a.re.x, .bool a.im.g, .string (natS a.im.n), .int .i64 a.im.x, .bool b.re.g, .string (natS b.re.n), .int .i64 b.re.x, .bool b.im.g, .string (natS b.im.n), .int .i64 b.im.x, .bool (mulD a.re b.re).g, .string (natS (mulD a.re b.re).n), .int .i64 (mulD a.re b.re).x, .int .i64 (mulE a.re b.re), .bool (mulD a.im b.im).g, .string (natS (mulD a.im b.im).n), .int .i64 (mulD a.im b.im).x, .int .i64 (mulE a.im b.im), .bool (mulD a.re b.im).g, .string (natS (mulD a.re b.im).n), .int .i64 (mulD a.re b.im).x, .int .i64 (mulE a.re b.im), .bool (mulD a.im b.re).g, .string (natS (mulD a.im b.re).n), .int .i64 (mulD a.im b.re).x, .int .i64 (mulE a.im b.re)] rfl
        have hops : OpsT Tryd.prog (@Know.ops rGMul_c_k12) := ⟨opt_neq_t rfl rfl h1, opt_neq_f rfl rfl h2, opt_neq_t rfl rfl h3, trivial⟩
        have hcalls : CallsT Tryd.prog (@Know.calls rGMul_c_k12) := ⟨callt rfl rfl fun w hG => rMul3_c a.re b.re w ha.1 hb.1, callt rfl rfl fun w hG => rMul3_c a.im b.im w ha.2 hb.2, callt rfl rfl fun w hG => rMul3_c a.re b.im w ha.1 hb.2, callt rfl rfl fun w hG => rMul3_c a.im b.re w ha.2 hb.1, trivial⟩
        exact (@sym_ok _ rGMul_c_k12 _ (@KnowOk.of _ rGMul_c_k12 _ hops hcalls) (by kernel_rfl) _ _ _ _ rGMul_c_r12 rfl rfl _ hG).mono fun e w' h => ⟨h.1.trans (show Ending.returned (.tuple #[.agg #[.bool false, .string ⟨#[]⟩, .int .i64 0, .bool false, .string ⟨#[]⟩, .int .i64 0], .int .i64 4]) = .returned (.tuple #[(gmulD a b).v, .int .i64 (gmulE a b)]) from by rw [show gmulD a b = _ from erG_no (l := gmulL a b) (show ¬ All0 (gmulL a b) from (fun c => h1 c.1)), show gmulE a b = 4 from erI_no (l := gmulL a b) (show ¬ All0 (gmulL a b) from (fun c => h1 c.1)), Gs.zero_v]), h.2⟩
    · letI : Env := mkEnv glT [.bool a.re.g, .string (natS a.re.n), .int .i64 a.re.x, .bool a.im.g, .string (natS a.im.n), .int .i64 a.im.x, .bool b.re.g, .string (natS b.re.n), .int .i64 b.re.x, .bool b.im.g, .string (natS b.im.n), .int .i64 b.im.x, .bool (mulD a.re b.re).g, .string (natS (mulD a.re b.re).n), .int .i64 (mulD a.re b.re).x, .int .i64 (mulE a.re b.re), .bool (mulD a.im b.im).g, .string (natS (mulD a.im b.im).n), .int .i64 (mulD a.im b.im).x, .int .i64 (mulE a.im b.im), .bool (mulD a.re b.im).g, .string (natS (mulD a.re b.im).n), .int .i64 (mulD a.re b.im).x, .int .i64 (mulE a.re b.im), .bool (mulD a.im b.re).g, .string (natS (mulD a.im b.re).n), .int .i64 (mulD a.im b.re).x, .int .i64 (mulE a.im b.re)] rfl
      have hops : OpsT Tryd.prog (@Know.ops rGMul_c_k13) := ⟨opt_neq_t rfl rfl h1, opt_neq_t rfl rfl h2, trivial⟩
      have hcalls : CallsT Tryd.prog (@Know.calls rGMul_c_k13) := ⟨callt rfl rfl fun w hG => rMul3_c a.re b.re w ha.1 hb.1, callt rfl rfl fun w hG => rMul3_c a.im b.im w ha.2 hb.2, callt rfl rfl fun w hG => rMul3_c a.re b.im w ha.1 hb.2, callt rfl rfl fun w hG => rMul3_c a.im b.re w ha.2 hb.1, trivial⟩
      exact (@sym_ok _ rGMul_c_k13 _ (@KnowOk.of _ rGMul_c_k13 _ hops hcalls) (by kernel_rfl) _ _ _ _ rGMul_c_r13 rfl rfl _ hG).mono fun e w' h => ⟨h.1.trans (show Ending.returned (.tuple #[.agg #[.bool false, .string ⟨#[]⟩, .int .i64 0, .bool false, .string ⟨#[]⟩, .int .i64 0], .int .i64 4]) = .returned (.tuple #[(gmulD a b).v, .int .i64 (gmulE a b)]) from by rw [show gmulD a b = _ from erG_no (l := gmulL a b) (show ¬ All0 (gmulL a b) from (fun c => h1 c.1)), show gmulE a b = 4 from erI_no (l := gmulL a b) (show ¬ All0 (gmulL a b) from (fun c => h1 c.1)), Gs.zero_v]), h.2⟩

@[reducible] noncomputable def rGScale_c_k1 : Know := ⟨[([0, 12, 3], [.sym 12, .lit (.int .i64 0)], .lit (.bool false)),
  ([0, 12, 3], [.sym 16, .lit (.int .i64 0)], .lit (.bool false))],
  [(37, [.agg [.sym 0, .sym 1, .sym 2], .agg [.sym 6, .sym 7, .sym 8]], .tup [.agg [.sym 9, .sym 10, .sym 11], .sym 12]),
  (37, [.agg [.sym 3, .sym 4, .sym 5], .agg [.sym 6, .sym 7, .sym 8]], .tup [.agg [.sym 13, .sym 14, .sym 15], .sym 16])]⟩
theorem rGScale_c_r1 : @comes rGScale_c_k1 Tryd.prog glT 3000 14 [.agg [.sym 0, .sym 1, .sym 2, .sym 3, .sym 4, .sym 5], .agg [.sym 6, .sym 7, .sym 8]] = some (.tup [.agg [.sym 9, .sym 10, .sym 11, .sym 13, .sym 14, .sym 15], .lit (.int .i64 0)]) := by kernel_rfl
@[reducible] noncomputable def rGScale_c_k2 : Know := ⟨[([0, 12, 3], [.sym 12, .lit (.int .i64 0)], .lit (.bool false)),
  ([0, 12, 3], [.sym 16, .lit (.int .i64 0)], .lit (.bool true))],
  [(37, [.agg [.sym 0, .sym 1, .sym 2], .agg [.sym 6, .sym 7, .sym 8]], .tup [.agg [.sym 9, .sym 10, .sym 11], .sym 12]),
  (37, [.agg [.sym 3, .sym 4, .sym 5], .agg [.sym 6, .sym 7, .sym 8]], .tup [.agg [.sym 13, .sym 14, .sym 15], .sym 16])]⟩
theorem rGScale_c_r2 : @comes rGScale_c_k2 Tryd.prog glT 3000 14 [.agg [.sym 0, .sym 1, .sym 2, .sym 3, .sym 4, .sym 5], .agg [.sym 6, .sym 7, .sym 8]] = some (.lit (.tuple #[.agg #[.bool false, .string ⟨#[]⟩, .int .i64 0, .bool false, .string ⟨#[]⟩, .int .i64 0], .int .i64 4])) := by kernel_rfl
@[reducible] noncomputable def rGScale_c_k3 : Know := ⟨[([0, 12, 3], [.sym 12, .lit (.int .i64 0)], .lit (.bool true))],
  [(37, [.agg [.sym 0, .sym 1, .sym 2], .agg [.sym 6, .sym 7, .sym 8]], .tup [.agg [.sym 9, .sym 10, .sym 11], .sym 12]),
  (37, [.agg [.sym 3, .sym 4, .sym 5], .agg [.sym 6, .sym 7, .sym 8]], .tup [.agg [.sym 13, .sym 14, .sym 15], .sym 16])]⟩
theorem rGScale_c_r3 : @comes rGScale_c_k3 Tryd.prog glT 3000 14 [.agg [.sym 0, .sym 1, .sym 2, .sym 3, .sym 4, .sym 5], .agg [.sym 6, .sym 7, .sym 8]] = some (.lit (.tuple #[.agg #[.bool false, .string ⟨#[]⟩, .int .i64 0, .bool false, .string ⟨#[]⟩, .int .i64 0], .int .i64 4])) := by kernel_rfl

set_option maxRecDepth 100000 in
theorem rGScale_c (a : Gs) (d : Dy) (w : World) (ha : a.Ok) (hd : d.Ok) (hG : Globs glT w) : Calls Tryd.prog 14 #[.agg #[.bool a.re.g, .string (natS a.re.n), .int .i64 a.re.x, .bool a.im.g, .string (natS a.im.n), .int .i64 a.im.x], .agg #[.bool d.g, .string (natS d.n), .int .i64 d.x]] w fun e w' => e = .returned (.tuple #[(gscD a d).v, .int .i64 (gscE a d)]) ∧ Below w.heap.size w w' := by
  by_cases h1 : mulE a.re d = 0
  · by_cases h2 : mulE a.im d = 0
    · letI : Env := mkEnv glT [.bool a.re.g, .string (natS a.re.n), .int .i64 a.re.x, .bool a.im.g, .string (natS a.im.n), .int .i64 a.im.x, .bool d.g, .string (natS d.n), .int .i64 d.x, .bool (mulD a.re d).g, .string (natS (mulD a.re d).n), .int .i64 (mulD a.re d).x, .int .i64 (mulE a.re d), .bool (mulD a.im d).g, .string (natS (mulD a.im d).n), .int .i64 (mulD a.im d).x, .int .i64 (mulE a.im d)] rfl
      have hops : OpsT Tryd.prog (@Know.ops rGScale_c_k1) := ⟨opt_neq_f rfl rfl h1, opt_neq_f rfl rfl h2, trivial⟩
      have hcalls : CallsT Tryd.prog (@Know.calls rGScale_c_k1) := ⟨callt rfl rfl fun w hG => rMul3_c a.re d w ha.1 hd, callt rfl rfl fun w hG => rMul3_c a.im d w ha.2 hd, trivial⟩
      exact (@sym_ok _ rGScale_c_k1 _ (@KnowOk.of _ rGScale_c_k1 _ hops hcalls) (by kernel_rfl) _ _ _ _ rGScale_c_r1 rfl rfl _ hG).mono fun e w' h => ⟨h.1.trans (show Ending.returned (.tuple #[.agg #[.bool (mulD a.re d).g, .string (natS (mulD a.re d).n), .int .i64 (mulD a.re d).x, .bool (mulD a.im d).g, .string (natS (mulD a.im d).n), .int .i64 (mulD a.im d).x], .int .i64 0]) = .returned (.tuple #[(gscD a d).v, .int .i64 (gscE a d)]) from by rw [show gscD a d = _ from erG_ok (l := gscL a d) (show All0 (gscL a d) from ⟨h1, h2, trivial⟩), show gscE a d = 0 from erI_ok (l := gscL a d) (show All0 (gscL a d) from ⟨h1, h2, trivial⟩)]; rfl), h.2⟩
    · letI : Env := mkEnv glT [.bool a.re.g, .string (natS a.re.n), .int .i64 a.re.x, .bool a.im.g, .string (natS a.im.n), .int .i64 a.im.x, .bool d.g, .string (natS d.n), .int .i64 d.x, .bool (mulD a.re d).g, .string (natS (mulD a.re d).n), .int .i64 (mulD a.re d).x, .int .i64 (mulE a.re d), .bool (mulD a.im d).g, .string (natS (mulD a.im d).n), .int .i64 (mulD a.im d).x, .int .i64 (mulE a.im d)] rfl
      have hops : OpsT Tryd.prog (@Know.ops rGScale_c_k2) := ⟨opt_neq_f rfl rfl h1, opt_neq_t rfl rfl h2, trivial⟩
      have hcalls : CallsT Tryd.prog (@Know.calls rGScale_c_k2) := ⟨callt rfl rfl fun w hG => rMul3_c a.re d w ha.1 hd, callt rfl rfl fun w hG => rMul3_c a.im d w ha.2 hd, trivial⟩
      exact (@sym_ok _ rGScale_c_k2 _ (@KnowOk.of _ rGScale_c_k2 _ hops hcalls) (by kernel_rfl) _ _ _ _ rGScale_c_r2 rfl rfl _ hG).mono fun e w' h => ⟨h.1.trans (show Ending.returned (.tuple #[.agg #[.bool false, .string ⟨#[]⟩, .int .i64 0, .bool false, .string ⟨#[]⟩, .int .i64 0], .int .i64 4]) = .returned (.tuple #[(gscD a d).v, .int .i64 (gscE a d)]) from by rw [show gscD a d = _ from erG_no (l := gscL a d) (show ¬ All0 (gscL a d) from (fun c => h2 c.2.1)), show gscE a d = 4 from erI_no (l := gscL a d) (show ¬ All0 (gscL a d) from (fun c => h2 c.2.1)), Gs.zero_v]), h.2⟩
  · letI : Env := mkEnv glT [.bool a.re.g, .string (natS a.re.n), .int .i64 a.re.x, .bool a.im.g, .string (natS a.im.n), .int .i64 a.im.x, .bool d.g, .string (natS d.n), .int .i64 d.x, .bool (mulD a.re d).g, .string (natS (mulD a.re d).n), .int .i64 (mulD a.re d).x, .int .i64 (mulE a.re d), .bool (mulD a.im d).g, .string (natS (mulD a.im d).n), .int .i64 (mulD a.im d).x, .int .i64 (mulE a.im d)] rfl
    have hops : OpsT Tryd.prog (@Know.ops rGScale_c_k3) := ⟨opt_neq_t rfl rfl h1, trivial⟩
    have hcalls : CallsT Tryd.prog (@Know.calls rGScale_c_k3) := ⟨callt rfl rfl fun w hG => rMul3_c a.re d w ha.1 hd, callt rfl rfl fun w hG => rMul3_c a.im d w ha.2 hd, trivial⟩
    exact (@sym_ok _ rGScale_c_k3 _ (@KnowOk.of _ rGScale_c_k3 _ hops hcalls) (by kernel_rfl) _ _ _ _ rGScale_c_r3 rfl rfl _ hG).mono fun e w' h => ⟨h.1.trans (show Ending.returned (.tuple #[.agg #[.bool false, .string ⟨#[]⟩, .int .i64 0, .bool false, .string ⟨#[]⟩, .int .i64 0], .int .i64 4]) = .returned (.tuple #[(gscD a d).v, .int .i64 (gscE a d)]) from by rw [show gscD a d = _ from erG_no (l := gscL a d) (show ¬ All0 (gscL a d) from (fun c => h1 c.1)), show gscE a d = 4 from erI_no (l := gscL a d) (show ¬ All0 (gscL a d) from (fun c => h1 c.1)), Gs.zero_v]), h.2⟩

@[reducible] noncomputable def rGNeg_c_k1 : Know := ⟨[],
  [(72, [.agg [.sym 0, .sym 1, .sym 2]], .agg [.sym 6, .sym 7, .sym 8]),
  (72, [.agg [.sym 3, .sym 4, .sym 5]], .agg [.sym 9, .sym 10, .sym 11])]⟩
theorem rGNeg_c_r1 : @comes rGNeg_c_k1 Tryd.prog glT 3000 41 [.agg [.sym 0, .sym 1, .sym 2, .sym 3, .sym 4, .sym 5]] = some (.agg [.sym 6, .sym 7, .sym 8, .sym 9, .sym 10, .sym 11]) := by kernel_rfl

set_option maxRecDepth 100000 in
theorem rGNeg_c (a : Gs) (w : World) (ha : a.Ok) (hG : Globs glT w) : Calls Tryd.prog 41 #[.agg #[.bool a.re.g, .string (natS a.re.n), .int .i64 a.re.x, .bool a.im.g, .string (natS a.im.n), .int .i64 a.im.x]] w fun e w' => e = .returned ((neG a).v) ∧ Below w.heap.size w w' := by
  letI : Env := mkEnv glT [.bool a.re.g, .string (natS a.re.n), .int .i64 a.re.x, .bool a.im.g, .string (natS a.im.n), .int .i64 a.im.x, .bool (negD a.re).g, .string (natS (negD a.re).n), .int .i64 (negD a.re).x, .bool (negD a.im).g, .string (natS (negD a.im).n), .int .i64 (negD a.im).x] rfl
  have hops : OpsT Tryd.prog (@Know.ops rGNeg_c_k1) := trivial
  have hcalls : CallsT Tryd.prog (@Know.calls rGNeg_c_k1) := ⟨callt rfl rfl fun w hG => rNegD3_c a.re w ha.1, callt rfl rfl fun w hG => rNegD3_c a.im w ha.2, trivial⟩
  exact (@sym_ok _ rGNeg_c_k1 _ (@KnowOk.of _ rGNeg_c_k1 _ hops hcalls) (by kernel_rfl) _ _ _ _ rGNeg_c_r1 rfl rfl _ hG).mono fun e w' h => ⟨h.1.trans (show Ending.returned (.agg #[.bool (negD a.re).g, .string (natS (negD a.re).n), .int .i64 (negD a.re).x, .bool (negD a.im).g, .string (natS (negD a.im).n), .int .i64 (negD a.im).x]) = .returned ((neG a).v) from rfl), h.2⟩

end Go.Proofs.YtciidbldnjfooaaDoor
set_option linter.unusedVariables false
set_option linter.unusedSimpArgs false
namespace Go.Proofs.YtciidbldnjfooaaDoor
open Go Go.RowKit Nt


theorem Dt.t_s {t : Dt} (h : t.Ok) : ∃ d : Dy, d.Ok ∧ t = d.t := Dt.dy h
open Classical in
/-- The number of one that may be. -/
@[irreducible] noncomputable def Dt.d (t : Dt) : Dy := if h : t.Ok then Classical.choose (Dt.dy h) else Dy.zero
theorem Dt.d_ok {t : Dt} (h : t.Ok) : t.d.Ok ∧ t = t.d.t := by unfold Dt.d; rw [dif_pos h]; exact Classical.choose_spec (Dt.dy h)
theorem Dt.d_t {d : Dy} (h : d.Ok) : d.t.d = d := by
  have h2 := (Dt.d_ok (Dy.ok_t h)).2
  generalize d.t.d = q at h2 ⊢
  unfold Dy.t at h2
  injection h2 with e1 e2 e3
  have e4 := natS_inj.1 e2
  obtain ⟨g, n, x⟩ := d
  obtain ⟨g', n', x'⟩ := q
  simp only at e1 e3 e4
  rw [e1, e3, e4]
noncomputable def Gt.s (a : Gt) : Gs := ⟨a.re.d, a.im.d⟩
theorem Gt.s_ok {a : Gt} (h : a.Ok) : a.s.Ok ∧ a = a.s.t := ⟨⟨(Dt.d_ok h.1).1, (Dt.d_ok h.2).1⟩, by
  obtain ⟨r, i⟩ := a
  show Gt.mk r i = Gt.mk r.d.t i.d.t
  rw [← (Dt.d_ok h.1).2, ← (Dt.d_ok h.2).2]⟩
theorem Gt.s_t {a : Gs} (h : a.Ok) : a.t.s = a := by
  obtain ⟨r, i⟩ := a
  show Gs.mk r.t.d i.t.d = _
  rw [Dt.d_t h.1, Dt.d_t h.2]
open Classical in
@[irreducible] noncomputable def orZ (p : Prop) (a : Gs) : Gs := if p then a else Gs.zero
open Classical in
@[irreducible] noncomputable def orZD (p : Prop) (a : Dy) : Dy := if p then a else Dy.zero
open Classical in
@[irreducible] noncomputable def or2 (p : Prop) (e : Int) : Int := if p then e else 2
open Classical in
@[irreducible] noncomputable def or0 (p : Prop) (e : Int) : Int := if p then e else 0
theorem orZ_ok {p : Prop} (h : p) (a : Gs) : orZ p a = a := by unfold orZ; rw [if_pos h]
theorem orZ_no {p : Prop} (h : ¬ p) (a : Gs) : orZ p a = Gs.zero := by unfold orZ; rw [if_neg h]
theorem orZD_ok {p : Prop} (h : p) (a : Dy) : orZD p a = a := by unfold orZD; rw [if_pos h]
theorem orZD_no {p : Prop} (h : ¬ p) (a : Dy) : orZD p a = Dy.zero := by unfold orZD; rw [if_neg h]
theorem or2_ok {p : Prop} (h : p) (e : Int) : or2 p e = e := by unfold or2; rw [if_pos h]
theorem or2_no {p : Prop} (h : ¬ p) (e : Int) : or2 p e = 2 := by unfold or2; rw [if_neg h]
theorem or0_ok {p : Prop} (h : p) (e : Int) : or0 p e = e := by unfold or0; rw [if_pos h]
theorem or0_no {p : Prop} (h : ¬ p) (e : Int) : or0 p e = 0 := by unfold or0; rw [if_neg h]

@[reducible] noncomputable def GAdd_bad_k1 : Know := ⟨[([0, 12, 27], [.sym 12, .lit (.int .i64 0)], .lit (.bool false)),
  ([0, 12, 27], [.sym 13, .lit (.int .i64 0)], .lit (.bool true))],
  [(21, [.agg [.sym 0, .sym 1, .sym 2, .sym 3, .sym 4, .sym 5]], .sym 12),
  (21, [.agg [.sym 6, .sym 7, .sym 8, .sym 9, .sym 10, .sym 11]], .sym 13)]⟩
theorem GAdd_bad_r1 : @comes GAdd_bad_k1 Tryd.prog glT 3000 7 [.agg [.sym 0, .sym 1, .sym 2, .sym 3, .sym 4, .sym 5], .agg [.sym 6, .sym 7, .sym 8, .sym 9, .sym 10, .sym 11]] = some (.tup [.lit (.agg #[.bool false, .string ⟨#[]⟩, .int .i64 0, .bool false, .string ⟨#[]⟩, .int .i64 0]), .sym 13]) := by kernel_rfl
@[reducible] noncomputable def GAdd_bad_k2 : Know := ⟨[([0, 12, 27], [.sym 12, .lit (.int .i64 0)], .lit (.bool true))],
  [(21, [.agg [.sym 0, .sym 1, .sym 2, .sym 3, .sym 4, .sym 5]], .sym 12)]⟩
theorem GAdd_bad_r2 : @comes GAdd_bad_k2 Tryd.prog glT 3000 7 [.agg [.sym 0, .sym 1, .sym 2, .sym 3, .sym 4, .sym 5], .agg [.sym 6, .sym 7, .sym 8, .sym 9, .sym 10, .sym 11]] = some (.tup [.lit (.agg #[.bool false, .string ⟨#[]⟩, .int .i64 0, .bool false, .string ⟨#[]⟩, .int .i64 0]), .sym 12]) := by kernel_rfl

set_option maxRecDepth 100000 in
theorem GAdd_bad (a b : Gt) (w : World) (za : a.Small) (zb : b.Small) (hn : ¬ (a.Ok ∧ b.Ok)) (hG : Globs glT w) : Calls Tryd.prog 7 #[.agg #[.bool a.re.g, .string a.re.s, .int .i64 a.re.x, .bool a.im.g, .string a.im.s, .int .i64 a.im.x], .agg #[.bool b.re.g, .string b.re.s, .int .i64 b.re.x, .bool b.im.g, .string b.im.s, .int .i64 b.im.x]] w fun e w' => e = .returned (.tuple #[.agg #[.bool false, .string ⟨#[]⟩, .int .i64 0, .bool false, .string ⟨#[]⟩, .int .i64 0], .int .i64 2]) ∧ Below w.heap.size w w' := by
  by_cases h1 : gE a = 0
  · have h2 : ¬ (gE b = 0) := fun c => hn ⟨gE0.1 h1, gE0.1 c⟩
    letI : Env := mkEnv glT [.bool a.re.g, .string a.re.s, .int .i64 a.re.x, .bool a.im.g, .string a.im.s, .int .i64 a.im.x, .bool b.re.g, .string b.re.s, .int .i64 b.re.x, .bool b.im.g, .string b.im.s, .int .i64 b.im.x, .int .i64 (gE a), .int .i64 (gE b)] rfl
    have hops : OpsT Tryd.prog (@Know.ops GAdd_bad_k1) := ⟨opt_neq_f rfl rfl h1, opt_neq_t rfl rfl h2, trivial⟩
    have hcalls : CallsT Tryd.prog (@Know.calls GAdd_bad_k1) := ⟨callt rfl rfl fun w hG => GCheck_all a za w hG, callt rfl rfl fun w hG => GCheck_all b zb w hG, trivial⟩
    exact (@sym_ok _ GAdd_bad_k1 _ (@KnowOk.of _ GAdd_bad_k1 _ hops hcalls) (by kernel_rfl) _ _ _ _ GAdd_bad_r1 rfl rfl _ hG).mono fun e w' h => ⟨h.1.trans (show Ending.returned (.tuple #[.agg #[.bool false, .string ⟨#[]⟩, .int .i64 0, .bool false, .string ⟨#[]⟩, .int .i64 0], .int .i64 (gE b)]) = .returned (.tuple #[.agg #[.bool false, .string ⟨#[]⟩, .int .i64 0, .bool false, .string ⟨#[]⟩, .int .i64 0], .int .i64 2]) from by rw [gE_no (fun c => h2 (gE0.2 c))]), h.2⟩
  · letI : Env := mkEnv glT [.bool a.re.g, .string a.re.s, .int .i64 a.re.x, .bool a.im.g, .string a.im.s, .int .i64 a.im.x, .bool b.re.g, .string b.re.s, .int .i64 b.re.x, .bool b.im.g, .string b.im.s, .int .i64 b.im.x, .int .i64 (gE a)] rfl
    have hops : OpsT Tryd.prog (@Know.ops GAdd_bad_k2) := ⟨opt_neq_t rfl rfl h1, trivial⟩
    have hcalls : CallsT Tryd.prog (@Know.calls GAdd_bad_k2) := ⟨callt rfl rfl fun w hG => GCheck_all a za w hG, trivial⟩
    exact (@sym_ok _ GAdd_bad_k2 _ (@KnowOk.of _ GAdd_bad_k2 _ hops hcalls) (by kernel_rfl) _ _ _ _ GAdd_bad_r2 rfl rfl _ hG).mono fun e w' h => ⟨h.1.trans (show Ending.returned (.tuple #[.agg #[.bool false, .string ⟨#[]⟩, .int .i64 0, .bool false, .string ⟨#[]⟩, .int .i64 0], .int .i64 (gE a)]) = .returned (.tuple #[.agg #[.bool false, .string ⟨#[]⟩, .int .i64 0, .bool false, .string ⟨#[]⟩, .int .i64 0], .int .i64 2]) from by rw [gE_no (fun c => h1 (gE0.2 c))]), h.2⟩

@[reducible] noncomputable def GSub_bad_k1 : Know := ⟨[([0, 12, 27], [.sym 12, .lit (.int .i64 0)], .lit (.bool false)),
  ([0, 12, 27], [.sym 13, .lit (.int .i64 0)], .lit (.bool true))],
  [(21, [.agg [.sym 0, .sym 1, .sym 2, .sym 3, .sym 4, .sym 5]], .sym 12),
  (21, [.agg [.sym 6, .sym 7, .sym 8, .sym 9, .sym 10, .sym 11]], .sym 13)]⟩
theorem GSub_bad_r1 : @comes GSub_bad_k1 Tryd.prog glT 3000 8 [.agg [.sym 0, .sym 1, .sym 2, .sym 3, .sym 4, .sym 5], .agg [.sym 6, .sym 7, .sym 8, .sym 9, .sym 10, .sym 11]] = some (.tup [.lit (.agg #[.bool false, .string ⟨#[]⟩, .int .i64 0, .bool false, .string ⟨#[]⟩, .int .i64 0]), .sym 13]) := by kernel_rfl
@[reducible] noncomputable def GSub_bad_k2 : Know := ⟨[([0, 12, 27], [.sym 12, .lit (.int .i64 0)], .lit (.bool true))],
  [(21, [.agg [.sym 0, .sym 1, .sym 2, .sym 3, .sym 4, .sym 5]], .sym 12)]⟩
theorem GSub_bad_r2 : @comes GSub_bad_k2 Tryd.prog glT 3000 8 [.agg [.sym 0, .sym 1, .sym 2, .sym 3, .sym 4, .sym 5], .agg [.sym 6, .sym 7, .sym 8, .sym 9, .sym 10, .sym 11]] = some (.tup [.lit (.agg #[.bool false, .string ⟨#[]⟩, .int .i64 0, .bool false, .string ⟨#[]⟩, .int .i64 0]), .sym 12]) := by kernel_rfl

set_option maxRecDepth 100000 in
theorem GSub_bad (a b : Gt) (w : World) (za : a.Small) (zb : b.Small) (hn : ¬ (a.Ok ∧ b.Ok)) (hG : Globs glT w) : Calls Tryd.prog 8 #[.agg #[.bool a.re.g, .string a.re.s, .int .i64 a.re.x, .bool a.im.g, .string a.im.s, .int .i64 a.im.x], .agg #[.bool b.re.g, .string b.re.s, .int .i64 b.re.x, .bool b.im.g, .string b.im.s, .int .i64 b.im.x]] w fun e w' => e = .returned (.tuple #[.agg #[.bool false, .string ⟨#[]⟩, .int .i64 0, .bool false, .string ⟨#[]⟩, .int .i64 0], .int .i64 2]) ∧ Below w.heap.size w w' := by
  by_cases h1 : gE a = 0
  · have h2 : ¬ (gE b = 0) := fun c => hn ⟨gE0.1 h1, gE0.1 c⟩
    letI : Env := mkEnv glT [.bool a.re.g, .string a.re.s, .int .i64 a.re.x, .bool a.im.g, .string a.im.s, .int .i64 a.im.x, .bool b.re.g, .string b.re.s, .int .i64 b.re.x, .bool b.im.g, .string b.im.s, .int .i64 b.im.x, .int .i64 (gE a), .int .i64 (gE b)] rfl
    have hops : OpsT Tryd.prog (@Know.ops GSub_bad_k1) := ⟨opt_neq_f rfl rfl h1, opt_neq_t rfl rfl h2, trivial⟩
    have hcalls : CallsT Tryd.prog (@Know.calls GSub_bad_k1) := ⟨callt rfl rfl fun w hG => GCheck_all a za w hG, callt rfl rfl fun w hG => GCheck_all b zb w hG, trivial⟩
    exact (@sym_ok _ GSub_bad_k1 _ (@KnowOk.of _ GSub_bad_k1 _ hops hcalls) (by kernel_rfl) _ _ _ _ GSub_bad_r1 rfl rfl _ hG).mono fun e w' h => ⟨h.1.trans (show Ending.returned (.tuple #[.agg #[.bool false, .string ⟨#[]⟩, .int .i64 0, .bool false, .string ⟨#[]⟩, .int .i64 0], .int .i64 (gE b)]) = .returned (.tuple #[.agg #[.bool false, .string ⟨#[]⟩, .int .i64 0, .bool false, .string ⟨#[]⟩, .int .i64 0], .int .i64 2]) from by rw [gE_no (fun c => h2 (gE0.2 c))]), h.2⟩
  · letI : Env := mkEnv glT [.bool a.re.g, .string a.re.s, .int .i64 a.re.x, .bool a.im.g, .string a.im.s, .int .i64 a.im.x, .bool b.re.g, .string b.re.s, .int .i64 b.re.x, .bool b.im.g, .string b.im.s, .int .i64 b.im.x, .int .i64 (gE a)] rfl
    have hops : OpsT Tryd.prog (@Know.ops GSub_bad_k2) := ⟨opt_neq_t rfl rfl h1, trivial⟩
    have hcalls : CallsT Tryd.prog (@Know.calls GSub_bad_k2) := ⟨callt rfl rfl fun w hG => GCheck_all a za w hG, trivial⟩
    exact (@sym_ok _ GSub_bad_k2 _ (@KnowOk.of _ GSub_bad_k2 _ hops hcalls) (by kernel_rfl) _ _ _ _ GSub_bad_r2 rfl rfl _ hG).mono fun e w' h => ⟨h.1.trans (show Ending.returned (.tuple #[.agg #[.bool false, .string ⟨#[]⟩, .int .i64 0, .bool false, .string ⟨#[]⟩, .int .i64 0], .int .i64 (gE a)]) = .returned (.tuple #[.agg #[.bool false, .string ⟨#[]⟩, .int .i64 0, .bool false, .string ⟨#[]⟩, .int .i64 0], .int .i64 2]) from by rw [gE_no (fun c => h1 (gE0.2 c))]), h.2⟩

@[reducible] noncomputable def GMul_bad_k1 : Know := ⟨[([0, 12, 27], [.sym 12, .lit (.int .i64 0)], .lit (.bool false)),
  ([0, 12, 27], [.sym 13, .lit (.int .i64 0)], .lit (.bool true))],
  [(21, [.agg [.sym 0, .sym 1, .sym 2, .sym 3, .sym 4, .sym 5]], .sym 12),
  (21, [.agg [.sym 6, .sym 7, .sym 8, .sym 9, .sym 10, .sym 11]], .sym 13)]⟩
theorem GMul_bad_r1 : @comes GMul_bad_k1 Tryd.prog glT 3000 9 [.agg [.sym 0, .sym 1, .sym 2, .sym 3, .sym 4, .sym 5], .agg [.sym 6, .sym 7, .sym 8, .sym 9, .sym 10, .sym 11]] = some (.tup [.lit (.agg #[.bool false, .string ⟨#[]⟩, .int .i64 0, .bool false, .string ⟨#[]⟩, .int .i64 0]), .sym 13]) := by kernel_rfl
@[reducible] noncomputable def GMul_bad_k2 : Know := ⟨[([0, 12, 27], [.sym 12, .lit (.int .i64 0)], .lit (.bool true))],
  [(21, [.agg [.sym 0, .sym 1, .sym 2, .sym 3, .sym 4, .sym 5]], .sym 12)]⟩
theorem GMul_bad_r2 : @comes GMul_bad_k2 Tryd.prog glT 3000 9 [.agg [.sym 0, .sym 1, .sym 2, .sym 3, .sym 4, .sym 5], .agg [.sym 6, .sym 7, .sym 8, .sym 9, .sym 10, .sym 11]] = some (.tup [.lit (.agg #[.bool false, .string ⟨#[]⟩, .int .i64 0, .bool false, .string ⟨#[]⟩, .int .i64 0]), .sym 12]) := by kernel_rfl

set_option maxRecDepth 100000 in
theorem GMul_bad (a b : Gt) (w : World) (za : a.Small) (zb : b.Small) (hn : ¬ (a.Ok ∧ b.Ok)) (hG : Globs glT w) : Calls Tryd.prog 9 #[.agg #[.bool a.re.g, .string a.re.s, .int .i64 a.re.x, .bool a.im.g, .string a.im.s, .int .i64 a.im.x], .agg #[.bool b.re.g, .string b.re.s, .int .i64 b.re.x, .bool b.im.g, .string b.im.s, .int .i64 b.im.x]] w fun e w' => e = .returned (.tuple #[.agg #[.bool false, .string ⟨#[]⟩, .int .i64 0, .bool false, .string ⟨#[]⟩, .int .i64 0], .int .i64 2]) ∧ Below w.heap.size w w' := by
  by_cases h1 : gE a = 0
  · have h2 : ¬ (gE b = 0) := fun c => hn ⟨gE0.1 h1, gE0.1 c⟩
    letI : Env := mkEnv glT [.bool a.re.g, .string a.re.s, .int .i64 a.re.x, .bool a.im.g, .string a.im.s, .int .i64 a.im.x, .bool b.re.g, .string b.re.s, .int .i64 b.re.x, .bool b.im.g, .string b.im.s, .int .i64 b.im.x, .int .i64 (gE a), .int .i64 (gE b)] rfl
    have hops : OpsT Tryd.prog (@Know.ops GMul_bad_k1) := ⟨opt_neq_f rfl rfl h1, opt_neq_t rfl rfl h2, trivial⟩
    have hcalls : CallsT Tryd.prog (@Know.calls GMul_bad_k1) := ⟨callt rfl rfl fun w hG => GCheck_all a za w hG, callt rfl rfl fun w hG => GCheck_all b zb w hG, trivial⟩
    exact (@sym_ok _ GMul_bad_k1 _ (@KnowOk.of _ GMul_bad_k1 _ hops hcalls) (by kernel_rfl) _ _ _ _ GMul_bad_r1 rfl rfl _ hG).mono fun e w' h => ⟨h.1.trans (show Ending.returned (.tuple #[.agg #[.bool false, .string ⟨#[]⟩, .int .i64 0, .bool false, .string ⟨#[]⟩, .int .i64 0], .int .i64 (gE b)]) = .returned (.tuple #[.agg #[.bool false, .string ⟨#[]⟩, .int .i64 0, .bool false, .string ⟨#[]⟩, .int .i64 0], .int .i64 2]) from by rw [gE_no (fun c => h2 (gE0.2 c))]), h.2⟩
  · letI : Env := mkEnv glT [.bool a.re.g, .string a.re.s, .int .i64 a.re.x, .bool a.im.g, .string a.im.s, .int .i64 a.im.x, .bool b.re.g, .string b.re.s, .int .i64 b.re.x, .bool b.im.g, .string b.im.s, .int .i64 b.im.x, .int .i64 (gE a)] rfl
    have hops : OpsT Tryd.prog (@Know.ops GMul_bad_k2) := ⟨opt_neq_t rfl rfl h1, trivial⟩
    have hcalls : CallsT Tryd.prog (@Know.calls GMul_bad_k2) := ⟨callt rfl rfl fun w hG => GCheck_all a za w hG, trivial⟩
    exact (@sym_ok _ GMul_bad_k2 _ (@KnowOk.of _ GMul_bad_k2 _ hops hcalls) (by kernel_rfl) _ _ _ _ GMul_bad_r2 rfl rfl _ hG).mono fun e w' h => ⟨h.1.trans (show Ending.returned (.tuple #[.agg #[.bool false, .string ⟨#[]⟩, .int .i64 0, .bool false, .string ⟨#[]⟩, .int .i64 0], .int .i64 (gE a)]) = .returned (.tuple #[.agg #[.bool false, .string ⟨#[]⟩, .int .i64 0, .bool false, .string ⟨#[]⟩, .int .i64 0], .int .i64 2]) from by rw [gE_no (fun c => h1 (gE0.2 c))]), h.2⟩

@[reducible] noncomputable def GScale_bad_k1 : Know := ⟨[([0, 12, 27], [.sym 9, .lit (.int .i64 0)], .lit (.bool false)),
  ([0, 12, 27], [.sym 10, .lit (.int .i64 0)], .lit (.bool true))],
  [(21, [.agg [.sym 0, .sym 1, .sym 2, .sym 3, .sym 4, .sym 5]], .sym 9),
  (21, [.agg [.sym 6, .sym 7, .sym 8, .lit (.bool false), .lit (.string ⟨#[]⟩), .lit (.int .i64 0)]], .sym 10)]⟩
theorem GScale_bad_r1 : @comes GScale_bad_k1 Tryd.prog glT 3000 10 [.agg [.sym 0, .sym 1, .sym 2, .sym 3, .sym 4, .sym 5], .agg [.sym 6, .sym 7, .sym 8]] = some (.tup [.lit (.agg #[.bool false, .string ⟨#[]⟩, .int .i64 0, .bool false, .string ⟨#[]⟩, .int .i64 0]), .sym 10]) := by kernel_rfl
@[reducible] noncomputable def GScale_bad_k2 : Know := ⟨[([0, 12, 27], [.sym 9, .lit (.int .i64 0)], .lit (.bool true))],
  [(21, [.agg [.sym 0, .sym 1, .sym 2, .sym 3, .sym 4, .sym 5]], .sym 9)]⟩
theorem GScale_bad_r2 : @comes GScale_bad_k2 Tryd.prog glT 3000 10 [.agg [.sym 0, .sym 1, .sym 2, .sym 3, .sym 4, .sym 5], .agg [.sym 6, .sym 7, .sym 8]] = some (.tup [.lit (.agg #[.bool false, .string ⟨#[]⟩, .int .i64 0, .bool false, .string ⟨#[]⟩, .int .i64 0]), .sym 9]) := by kernel_rfl

set_option maxRecDepth 100000 in
theorem GScale_bad (a : Gt) (d : Dt) (w : World) (za : a.Small) (zd : d.s.size ≤ 9223372036854775807) (hn : ¬ (a.Ok ∧ d.Ok)) (hG : Globs glT w) : Calls Tryd.prog 10 #[.agg #[.bool a.re.g, .string a.re.s, .int .i64 a.re.x, .bool a.im.g, .string a.im.s, .int .i64 a.im.x], .agg #[.bool d.g, .string d.s, .int .i64 d.x]] w fun e w' => e = .returned (.tuple #[.agg #[.bool false, .string ⟨#[]⟩, .int .i64 0, .bool false, .string ⟨#[]⟩, .int .i64 0], .int .i64 2]) ∧ Below w.heap.size w w' := by
  by_cases h1 : gE a = 0
  · have h2 : ¬ (gE (⟨d, Dt.zero⟩) = 0) := fun c => hn ⟨gE0.1 h1, (gE0.1 c).1⟩
    letI : Env := mkEnv glT [.bool a.re.g, .string a.re.s, .int .i64 a.re.x, .bool a.im.g, .string a.im.s, .int .i64 a.im.x, .bool d.g, .string d.s, .int .i64 d.x, .int .i64 (gE a), .int .i64 (gE (⟨d, Dt.zero⟩))] rfl
    have hops : OpsT Tryd.prog (@Know.ops GScale_bad_k1) := ⟨opt_neq_f rfl rfl h1, opt_neq_t rfl rfl h2, trivial⟩
    have hcalls : CallsT Tryd.prog (@Know.calls GScale_bad_k1) := ⟨callt rfl rfl fun w hG => GCheck_all a za w hG, callt rfl rfl fun w hG => GCheck_all (⟨d, Dt.zero⟩) ⟨zd, Nat.zero_le _⟩ w hG, trivial⟩
    exact (@sym_ok _ GScale_bad_k1 _ (@KnowOk.of _ GScale_bad_k1 _ hops hcalls) (by kernel_rfl) _ _ _ _ GScale_bad_r1 rfl rfl _ hG).mono fun e w' h => ⟨h.1.trans (show Ending.returned (.tuple #[.agg #[.bool false, .string ⟨#[]⟩, .int .i64 0, .bool false, .string ⟨#[]⟩, .int .i64 0], .int .i64 (gE (⟨d, Dt.zero⟩))]) = .returned (.tuple #[.agg #[.bool false, .string ⟨#[]⟩, .int .i64 0, .bool false, .string ⟨#[]⟩, .int .i64 0], .int .i64 2]) from by rw [gE_no (fun c => h2 (gE0.2 c))]), h.2⟩
  · letI : Env := mkEnv glT [.bool a.re.g, .string a.re.s, .int .i64 a.re.x, .bool a.im.g, .string a.im.s, .int .i64 a.im.x, .bool d.g, .string d.s, .int .i64 d.x, .int .i64 (gE a)] rfl
    have hops : OpsT Tryd.prog (@Know.ops GScale_bad_k2) := ⟨opt_neq_t rfl rfl h1, trivial⟩
    have hcalls : CallsT Tryd.prog (@Know.calls GScale_bad_k2) := ⟨callt rfl rfl fun w hG => GCheck_all a za w hG, trivial⟩
    exact (@sym_ok _ GScale_bad_k2 _ (@KnowOk.of _ GScale_bad_k2 _ hops hcalls) (by kernel_rfl) _ _ _ _ GScale_bad_r2 rfl rfl _ hG).mono fun e w' h => ⟨h.1.trans (show Ending.returned (.tuple #[.agg #[.bool false, .string ⟨#[]⟩, .int .i64 0, .bool false, .string ⟨#[]⟩, .int .i64 0], .int .i64 (gE a)]) = .returned (.tuple #[.agg #[.bool false, .string ⟨#[]⟩, .int .i64 0, .bool false, .string ⟨#[]⟩, .int .i64 0], .int .i64 2]) from by rw [gE_no (fun c => h1 (gE0.2 c))]), h.2⟩

theorem strip {s : ByteArray} {n : Nat} (h : s = natS n) : natS n = s := h.symm

theorem GAdd_ok (a : Gt) (b : Gt) (w : World) (ha : a.Ok) (hb : b.Ok) (hG : Globs glT w) : Calls Tryd.prog 7 #[.agg #[.bool a.re.g, .string a.re.s, .int .i64 a.re.x, .bool a.im.g, .string a.im.s, .int .i64 a.im.x], .agg #[.bool b.re.g, .string b.re.s, .int .i64 b.re.x, .bool b.im.g, .string b.im.s, .int .i64 b.im.x]] w fun e w' => e = .returned (.tuple #[(gaddD a.s b.s).v, .int .i64 (gaddE a.s b.s)]) ∧ Below w.heap.size w w' := by
  have h := GAdd_c a.s b.s w (Gt.s_ok ha).1 (Gt.s_ok hb).1 hG
  have ea : ∀ (c : Gs), a = c.t → (a.re.g = c.re.g ∧ a.re.s = natS c.re.n ∧ a.re.x = c.re.x) ∧ (a.im.g = c.im.g ∧ a.im.s = natS c.im.n ∧ a.im.x = c.im.x) := fun c e => by rw [e]; exact ⟨⟨rfl, rfl, rfl⟩, ⟨rfl, rfl, rfl⟩⟩
  obtain ⟨⟨pa1, pa2, pa3⟩, ⟨pa4, pa5, pa6⟩⟩ := ea _ (Gt.s_ok ha).2
  have eb : ∀ (c : Gs), b = c.t → (b.re.g = c.re.g ∧ b.re.s = natS c.re.n ∧ b.re.x = c.re.x) ∧ (b.im.g = c.im.g ∧ b.im.s = natS c.im.n ∧ b.im.x = c.im.x) := fun c e => by rw [e]; exact ⟨⟨rfl, rfl, rfl⟩, ⟨rfl, rfl, rfl⟩⟩
  obtain ⟨⟨pb1, pb2, pb3⟩, ⟨pb4, pb5, pb6⟩⟩ := eb _ (Gt.s_ok hb).2
  rw [pa1, pa2, pa3, pa4, pa5, pa6, pb1, pb2, pb3, pb4, pb5, pb6]
  exact h
theorem GAdd_t (a : Gt) (b : Gt) (w : World) (za : a.Small) (zb : b.Small) (hG : Globs glT w) : Calls Tryd.prog 7 #[.agg #[.bool a.re.g, .string a.re.s, .int .i64 a.re.x, .bool a.im.g, .string a.im.s, .int .i64 a.im.x], .agg #[.bool b.re.g, .string b.re.s, .int .i64 b.re.x, .bool b.im.g, .string b.im.s, .int .i64 b.im.x]] w fun e w' => e = .returned (.tuple #[(orZ (a.Ok ∧ b.Ok) (gaddD a.s b.s)).v, .int .i64 (or2 (a.Ok ∧ b.Ok) (gaddE a.s b.s))]) ∧ Below w.heap.size w w' := by
  by_cases h : a.Ok ∧ b.Ok
  · rw [orZ_ok h, or2_ok h]
    exact GAdd_ok a b w h.1 h.2 hG
  · rw [orZ_no h, or2_no h, Gs.zero_v]
    exact GAdd_bad a b w za zb h hG
theorem GSub_ok (a : Gt) (b : Gt) (w : World) (ha : a.Ok) (hb : b.Ok) (hG : Globs glT w) : Calls Tryd.prog 8 #[.agg #[.bool a.re.g, .string a.re.s, .int .i64 a.re.x, .bool a.im.g, .string a.im.s, .int .i64 a.im.x], .agg #[.bool b.re.g, .string b.re.s, .int .i64 b.re.x, .bool b.im.g, .string b.im.s, .int .i64 b.im.x]] w fun e w' => e = .returned (.tuple #[(gaddD a.s (neG b.s)).v, .int .i64 (gaddE a.s (neG b.s))]) ∧ Below w.heap.size w w' := by
  have h := GSub_c a.s b.s w (Gt.s_ok ha).1 (Gt.s_ok hb).1 hG
  have ea : ∀ (c : Gs), a = c.t → (a.re.g = c.re.g ∧ a.re.s = natS c.re.n ∧ a.re.x = c.re.x) ∧ (a.im.g = c.im.g ∧ a.im.s = natS c.im.n ∧ a.im.x = c.im.x) := fun c e => by rw [e]; exact ⟨⟨rfl, rfl, rfl⟩, ⟨rfl, rfl, rfl⟩⟩
  obtain ⟨⟨pa1, pa2, pa3⟩, ⟨pa4, pa5, pa6⟩⟩ := ea _ (Gt.s_ok ha).2
  have eb : ∀ (c : Gs), b = c.t → (b.re.g = c.re.g ∧ b.re.s = natS c.re.n ∧ b.re.x = c.re.x) ∧ (b.im.g = c.im.g ∧ b.im.s = natS c.im.n ∧ b.im.x = c.im.x) := fun c e => by rw [e]; exact ⟨⟨rfl, rfl, rfl⟩, ⟨rfl, rfl, rfl⟩⟩
  obtain ⟨⟨pb1, pb2, pb3⟩, ⟨pb4, pb5, pb6⟩⟩ := eb _ (Gt.s_ok hb).2
  rw [pa1, pa2, pa3, pa4, pa5, pa6, pb1, pb2, pb3, pb4, pb5, pb6]
  exact h
theorem GSub_t (a : Gt) (b : Gt) (w : World) (za : a.Small) (zb : b.Small) (hG : Globs glT w) : Calls Tryd.prog 8 #[.agg #[.bool a.re.g, .string a.re.s, .int .i64 a.re.x, .bool a.im.g, .string a.im.s, .int .i64 a.im.x], .agg #[.bool b.re.g, .string b.re.s, .int .i64 b.re.x, .bool b.im.g, .string b.im.s, .int .i64 b.im.x]] w fun e w' => e = .returned (.tuple #[(orZ (a.Ok ∧ b.Ok) (gaddD a.s (neG b.s))).v, .int .i64 (or2 (a.Ok ∧ b.Ok) (gaddE a.s (neG b.s)))]) ∧ Below w.heap.size w w' := by
  by_cases h : a.Ok ∧ b.Ok
  · rw [orZ_ok h, or2_ok h]
    exact GSub_ok a b w h.1 h.2 hG
  · rw [orZ_no h, or2_no h, Gs.zero_v]
    exact GSub_bad a b w za zb h hG
theorem GMul_ok (a : Gt) (b : Gt) (w : World) (ha : a.Ok) (hb : b.Ok) (hG : Globs glT w) : Calls Tryd.prog 9 #[.agg #[.bool a.re.g, .string a.re.s, .int .i64 a.re.x, .bool a.im.g, .string a.im.s, .int .i64 a.im.x], .agg #[.bool b.re.g, .string b.re.s, .int .i64 b.re.x, .bool b.im.g, .string b.im.s, .int .i64 b.im.x]] w fun e w' => e = .returned (.tuple #[(gmulD a.s b.s).v, .int .i64 (gmulE a.s b.s)]) ∧ Below w.heap.size w w' := by
  have h := GMul_c a.s b.s w (Gt.s_ok ha).1 (Gt.s_ok hb).1 hG
  have ea : ∀ (c : Gs), a = c.t → (a.re.g = c.re.g ∧ a.re.s = natS c.re.n ∧ a.re.x = c.re.x) ∧ (a.im.g = c.im.g ∧ a.im.s = natS c.im.n ∧ a.im.x = c.im.x) := fun c e => by rw [e]; exact ⟨⟨rfl, rfl, rfl⟩, ⟨rfl, rfl, rfl⟩⟩
  obtain ⟨⟨pa1, pa2, pa3⟩, ⟨pa4, pa5, pa6⟩⟩ := ea _ (Gt.s_ok ha).2
  have eb : ∀ (c : Gs), b = c.t → (b.re.g = c.re.g ∧ b.re.s = natS c.re.n ∧ b.re.x = c.re.x) ∧ (b.im.g = c.im.g ∧ b.im.s = natS c.im.n ∧ b.im.x = c.im.x) := fun c e => by rw [e]; exact ⟨⟨rfl, rfl, rfl⟩, ⟨rfl, rfl, rfl⟩⟩
  obtain ⟨⟨pb1, pb2, pb3⟩, ⟨pb4, pb5, pb6⟩⟩ := eb _ (Gt.s_ok hb).2
  rw [pa1, pa2, pa3, pa4, pa5, pa6, pb1, pb2, pb3, pb4, pb5, pb6]
  exact h
theorem GMul_t (a : Gt) (b : Gt) (w : World) (za : a.Small) (zb : b.Small) (hG : Globs glT w) : Calls Tryd.prog 9 #[.agg #[.bool a.re.g, .string a.re.s, .int .i64 a.re.x, .bool a.im.g, .string a.im.s, .int .i64 a.im.x], .agg #[.bool b.re.g, .string b.re.s, .int .i64 b.re.x, .bool b.im.g, .string b.im.s, .int .i64 b.im.x]] w fun e w' => e = .returned (.tuple #[(orZ (a.Ok ∧ b.Ok) (gmulD a.s b.s)).v, .int .i64 (or2 (a.Ok ∧ b.Ok) (gmulE a.s b.s))]) ∧ Below w.heap.size w w' := by
  by_cases h : a.Ok ∧ b.Ok
  · rw [orZ_ok h, or2_ok h]
    exact GMul_ok a b w h.1 h.2 hG
  · rw [orZ_no h, or2_no h, Gs.zero_v]
    exact GMul_bad a b w za zb h hG
theorem GScale_ok (a : Gt) (d : Dt) (w : World) (ha : a.Ok) (hd : d.Ok) (hG : Globs glT w) : Calls Tryd.prog 10 #[.agg #[.bool a.re.g, .string a.re.s, .int .i64 a.re.x, .bool a.im.g, .string a.im.s, .int .i64 a.im.x], .agg #[.bool d.g, .string d.s, .int .i64 d.x]] w fun e w' => e = .returned (.tuple #[(gscD a.s d.d).v, .int .i64 (gscE a.s d.d)]) ∧ Below w.heap.size w w' := by
  have h := GScale_c a.s d.d w (Gt.s_ok ha).1 (Dt.d_ok hd).1 hG
  have ea : ∀ (c : Gs), a = c.t → (a.re.g = c.re.g ∧ a.re.s = natS c.re.n ∧ a.re.x = c.re.x) ∧ (a.im.g = c.im.g ∧ a.im.s = natS c.im.n ∧ a.im.x = c.im.x) := fun c e => by rw [e]; exact ⟨⟨rfl, rfl, rfl⟩, ⟨rfl, rfl, rfl⟩⟩
  obtain ⟨⟨pa1, pa2, pa3⟩, ⟨pa4, pa5, pa6⟩⟩ := ea _ (Gt.s_ok ha).2
  have ed : ∀ (c : Dy), d = c.t → (d.g = c.g ∧ d.s = natS c.n ∧ d.x = c.x) := fun c e => by rw [e]; exact ⟨rfl, rfl, rfl⟩
  obtain ⟨pd1, pd2, pd3⟩ := ed _ (Dt.d_ok hd).2
  rw [pa1, pa2, pa3, pa4, pa5, pa6, pd1, pd2, pd3]
  exact h
theorem GScale_t (a : Gt) (d : Dt) (w : World) (za : a.Small) (zd : d.s.size ≤ 9223372036854775807) (hG : Globs glT w) : Calls Tryd.prog 10 #[.agg #[.bool a.re.g, .string a.re.s, .int .i64 a.re.x, .bool a.im.g, .string a.im.s, .int .i64 a.im.x], .agg #[.bool d.g, .string d.s, .int .i64 d.x]] w fun e w' => e = .returned (.tuple #[(orZ (a.Ok ∧ d.Ok) (gscD a.s d.d)).v, .int .i64 (or2 (a.Ok ∧ d.Ok) (gscE a.s d.d))]) ∧ Below w.heap.size w w' := by
  by_cases h : a.Ok ∧ d.Ok
  · rw [orZ_ok h, or2_ok h]
    exact GScale_ok a d w h.1 h.2 hG
  · rw [orZ_no h, or2_no h, Gs.zero_v]
    exact GScale_bad a d w za zd h hG
theorem rGAdd_ok (a : Gt) (b : Gt) (w : World) (ha : a.Ok) (hb : b.Ok) (hG : Globs glT w) : Calls Tryd.prog 17 #[.agg #[.bool a.re.g, .string a.re.s, .int .i64 a.re.x, .bool a.im.g, .string a.im.s, .int .i64 a.im.x], .agg #[.bool b.re.g, .string b.re.s, .int .i64 b.re.x, .bool b.im.g, .string b.im.s, .int .i64 b.im.x]] w fun e w' => e = .returned (.tuple #[(gaddD a.s b.s).v, .int .i64 (gaddE a.s b.s)]) ∧ Below w.heap.size w w' := by
  have h := rGAdd_c a.s b.s w (Gt.s_ok ha).1 (Gt.s_ok hb).1 hG
  have ea : ∀ (c : Gs), a = c.t → (a.re.g = c.re.g ∧ a.re.s = natS c.re.n ∧ a.re.x = c.re.x) ∧ (a.im.g = c.im.g ∧ a.im.s = natS c.im.n ∧ a.im.x = c.im.x) := fun c e => by rw [e]; exact ⟨⟨rfl, rfl, rfl⟩, ⟨rfl, rfl, rfl⟩⟩
  obtain ⟨⟨pa1, pa2, pa3⟩, ⟨pa4, pa5, pa6⟩⟩ := ea _ (Gt.s_ok ha).2
  have eb : ∀ (c : Gs), b = c.t → (b.re.g = c.re.g ∧ b.re.s = natS c.re.n ∧ b.re.x = c.re.x) ∧ (b.im.g = c.im.g ∧ b.im.s = natS c.im.n ∧ b.im.x = c.im.x) := fun c e => by rw [e]; exact ⟨⟨rfl, rfl, rfl⟩, ⟨rfl, rfl, rfl⟩⟩
  obtain ⟨⟨pb1, pb2, pb3⟩, ⟨pb4, pb5, pb6⟩⟩ := eb _ (Gt.s_ok hb).2
  rw [pa1, pa2, pa3, pa4, pa5, pa6, pb1, pb2, pb3, pb4, pb5, pb6]
  exact h
theorem rGSub_ok (a : Gt) (b : Gt) (w : World) (ha : a.Ok) (hb : b.Ok) (hG : Globs glT w) : Calls Tryd.prog 18 #[.agg #[.bool a.re.g, .string a.re.s, .int .i64 a.re.x, .bool a.im.g, .string a.im.s, .int .i64 a.im.x], .agg #[.bool b.re.g, .string b.re.s, .int .i64 b.re.x, .bool b.im.g, .string b.im.s, .int .i64 b.im.x]] w fun e w' => e = .returned (.tuple #[(gaddD a.s (neG b.s)).v, .int .i64 (gaddE a.s (neG b.s))]) ∧ Below w.heap.size w w' := by
  have h := rGSub_c a.s b.s w (Gt.s_ok ha).1 (Gt.s_ok hb).1 hG
  have ea : ∀ (c : Gs), a = c.t → (a.re.g = c.re.g ∧ a.re.s = natS c.re.n ∧ a.re.x = c.re.x) ∧ (a.im.g = c.im.g ∧ a.im.s = natS c.im.n ∧ a.im.x = c.im.x) := fun c e => by rw [e]; exact ⟨⟨rfl, rfl, rfl⟩, ⟨rfl, rfl, rfl⟩⟩
  obtain ⟨⟨pa1, pa2, pa3⟩, ⟨pa4, pa5, pa6⟩⟩ := ea _ (Gt.s_ok ha).2
  have eb : ∀ (c : Gs), b = c.t → (b.re.g = c.re.g ∧ b.re.s = natS c.re.n ∧ b.re.x = c.re.x) ∧ (b.im.g = c.im.g ∧ b.im.s = natS c.im.n ∧ b.im.x = c.im.x) := fun c e => by rw [e]; exact ⟨⟨rfl, rfl, rfl⟩, ⟨rfl, rfl, rfl⟩⟩
  obtain ⟨⟨pb1, pb2, pb3⟩, ⟨pb4, pb5, pb6⟩⟩ := eb _ (Gt.s_ok hb).2
  rw [pa1, pa2, pa3, pa4, pa5, pa6, pb1, pb2, pb3, pb4, pb5, pb6]
  exact h
theorem rGMul_ok (a : Gt) (b : Gt) (w : World) (ha : a.Ok) (hb : b.Ok) (hG : Globs glT w) : Calls Tryd.prog 19 #[.agg #[.bool a.re.g, .string a.re.s, .int .i64 a.re.x, .bool a.im.g, .string a.im.s, .int .i64 a.im.x], .agg #[.bool b.re.g, .string b.re.s, .int .i64 b.re.x, .bool b.im.g, .string b.im.s, .int .i64 b.im.x]] w fun e w' => e = .returned (.tuple #[(gmulD a.s b.s).v, .int .i64 (gmulE a.s b.s)]) ∧ Below w.heap.size w w' := by
  have h := rGMul_c a.s b.s w (Gt.s_ok ha).1 (Gt.s_ok hb).1 hG
  have ea : ∀ (c : Gs), a = c.t → (a.re.g = c.re.g ∧ a.re.s = natS c.re.n ∧ a.re.x = c.re.x) ∧ (a.im.g = c.im.g ∧ a.im.s = natS c.im.n ∧ a.im.x = c.im.x) := fun c e => by rw [e]; exact ⟨⟨rfl, rfl, rfl⟩, ⟨rfl, rfl, rfl⟩⟩
  obtain ⟨⟨pa1, pa2, pa3⟩, ⟨pa4, pa5, pa6⟩⟩ := ea _ (Gt.s_ok ha).2
  have eb : ∀ (c : Gs), b = c.t → (b.re.g = c.re.g ∧ b.re.s = natS c.re.n ∧ b.re.x = c.re.x) ∧ (b.im.g = c.im.g ∧ b.im.s = natS c.im.n ∧ b.im.x = c.im.x) := fun c e => by rw [e]; exact ⟨⟨rfl, rfl, rfl⟩, ⟨rfl, rfl, rfl⟩⟩
  obtain ⟨⟨pb1, pb2, pb3⟩, ⟨pb4, pb5, pb6⟩⟩ := eb _ (Gt.s_ok hb).2
  rw [pa1, pa2, pa3, pa4, pa5, pa6, pb1, pb2, pb3, pb4, pb5, pb6]
  exact h
theorem rGScale_ok (a : Gt) (d : Dt) (w : World) (ha : a.Ok) (hd : d.Ok) (hG : Globs glT w) : Calls Tryd.prog 14 #[.agg #[.bool a.re.g, .string a.re.s, .int .i64 a.re.x, .bool a.im.g, .string a.im.s, .int .i64 a.im.x], .agg #[.bool d.g, .string d.s, .int .i64 d.x]] w fun e w' => e = .returned (.tuple #[(gscD a.s d.d).v, .int .i64 (gscE a.s d.d)]) ∧ Below w.heap.size w w' := by
  have h := rGScale_c a.s d.d w (Gt.s_ok ha).1 (Dt.d_ok hd).1 hG
  have ea : ∀ (c : Gs), a = c.t → (a.re.g = c.re.g ∧ a.re.s = natS c.re.n ∧ a.re.x = c.re.x) ∧ (a.im.g = c.im.g ∧ a.im.s = natS c.im.n ∧ a.im.x = c.im.x) := fun c e => by rw [e]; exact ⟨⟨rfl, rfl, rfl⟩, ⟨rfl, rfl, rfl⟩⟩
  obtain ⟨⟨pa1, pa2, pa3⟩, ⟨pa4, pa5, pa6⟩⟩ := ea _ (Gt.s_ok ha).2
  have ed : ∀ (c : Dy), d = c.t → (d.g = c.g ∧ d.s = natS c.n ∧ d.x = c.x) := fun c e => by rw [e]; exact ⟨rfl, rfl, rfl⟩
  obtain ⟨pd1, pd2, pd3⟩ := ed _ (Dt.d_ok hd).2
  rw [pa1, pa2, pa3, pa4, pa5, pa6, pd1, pd2, pd3]
  exact h
end Go.Proofs.YtciidbldnjfooaaDoor
set_option linter.unusedVariables false
set_option linter.unusedSimpArgs false
namespace Go.Proofs.YtciidbldnjfooaaDoor
open Go Go.RowKit Nt


theorem gs_small {a : Gs} (h : a.Ok) : a.t.Small := ⟨by have := Dy.small h.1; show (natS a.re.n).size ≤ _; omega, by have := Dy.small h.2; show (natS a.im.n).size ≤ _; omega⟩
theorem dy_small {a : Dy} (h : a.Ok) : a.t.s.size ≤ 9223372036854775807 := by have := Dy.small h; show (natS a.n).size ≤ _; omega
theorem rMay_i (t : Dt) (w : World) (hs : t.s.size ≤ 9223372036854775807) {c : Bool} (h : c = true ↔ t.Ok) : Calls Tryd.prog 12 #[.agg #[.bool t.g, .string t.s, .int .i64 t.x]] w fun e w' => e = .returned (.bool c) ∧ Below w.heap.size w w' := by
  by_cases ho : t.Ok
  · rw [h.2 ho]
    obtain ⟨d, h1, rfl⟩ := Dt.dy ho
    exact rMayT_ok d w h1
  · rw [show c = false by cases c <;> first | rfl | exact absurd (h.1 rfl) ho]
    exact rMayT_no t w hs ho

@[reducible] noncomputable def GaussSums_s1_k : Know := ⟨[([0, 11, 26], [.agg [.sym 36, .sym 37, .sym 38, .sym 39, .sym 40, .sym 41], .agg [.sym 36, .sym 37, .sym 38, .sym 39, .sym 40, .sym 41]], .lit (.bool true)),
  ([0, 11, 3], [.sym 42, .sym 42], .lit (.bool true)),
  ([0, 11, 26], [.agg [.sym 15, .sym 16, .sym 17, .sym 18, .sym 19, .sym 20], .agg [.sym 15, .sym 16, .sym 17, .sym 18, .sym 19, .sym 20]], .lit (.bool true)),
  ([0, 11, 3], [.sym 21, .sym 21], .lit (.bool true)),
  ([0, 11, 26], [.agg [.sym 22, .sym 23, .sym 24, .sym 25, .sym 26, .sym 27], .agg [.sym 22, .sym 23, .sym 24, .sym 25, .sym 26, .sym 27]], .lit (.bool true)),
  ([0, 11, 3], [.sym 28, .sym 28], .lit (.bool true)),
  ([0, 11, 26], [.agg [.sym 29, .sym 30, .sym 31, .sym 32, .sym 33, .sym 34], .agg [.sym 29, .sym 30, .sym 31, .sym 32, .sym 33, .sym 34]], .lit (.bool true)),
  ([0, 11, 3], [.sym 35, .sym 35], .lit (.bool true))],
  [(7, [.agg [.sym 0, .sym 1, .sym 2, .sym 3, .sym 4, .sym 5], .agg [.sym 6, .sym 7, .sym 8, .sym 9, .sym 10, .sym 11]], .tup [.agg [.sym 15, .sym 16, .sym 17, .sym 18, .sym 19, .sym 20], .sym 21]),
  (8, [.agg [.sym 0, .sym 1, .sym 2, .sym 3, .sym 4, .sym 5], .agg [.sym 6, .sym 7, .sym 8, .sym 9, .sym 10, .sym 11]], .tup [.agg [.sym 22, .sym 23, .sym 24, .sym 25, .sym 26, .sym 27], .sym 28]),
  (9, [.agg [.sym 0, .sym 1, .sym 2, .sym 3, .sym 4, .sym 5], .agg [.sym 6, .sym 7, .sym 8, .sym 9, .sym 10, .sym 11]], .tup [.agg [.sym 29, .sym 30, .sym 31, .sym 32, .sym 33, .sym 34], .sym 35]),
  (10, [.agg [.sym 0, .sym 1, .sym 2, .sym 3, .sym 4, .sym 5], .agg [.sym 12, .sym 13, .sym 14]], .tup [.agg [.sym 36, .sym 37, .sym 38, .sym 39, .sym 40, .sym 41], .sym 42]),
  (12, [.agg [.sym 0, .sym 1, .sym 2]], .lit (.bool true)),
  (12, [.agg [.sym 3, .sym 4, .sym 5]], .lit (.bool true)),
  (12, [.agg [.sym 12, .sym 13, .sym 14]], .lit (.bool true)),
  (14, [.agg [.sym 0, .sym 1, .sym 2, .sym 3, .sym 4, .sym 5], .agg [.sym 12, .sym 13, .sym 14]], .tup [.agg [.sym 36, .sym 37, .sym 38, .sym 39, .sym 40, .sym 41], .sym 42]),
  (12, [.agg [.sym 6, .sym 7, .sym 8]], .lit (.bool true)),
  (12, [.agg [.sym 9, .sym 10, .sym 11]], .lit (.bool true)),
  (17, [.agg [.sym 0, .sym 1, .sym 2, .sym 3, .sym 4, .sym 5], .agg [.sym 6, .sym 7, .sym 8, .sym 9, .sym 10, .sym 11]], .tup [.agg [.sym 15, .sym 16, .sym 17, .sym 18, .sym 19, .sym 20], .sym 21]),
  (18, [.agg [.sym 0, .sym 1, .sym 2, .sym 3, .sym 4, .sym 5], .agg [.sym 6, .sym 7, .sym 8, .sym 9, .sym 10, .sym 11]], .tup [.agg [.sym 22, .sym 23, .sym 24, .sym 25, .sym 26, .sym 27], .sym 28]),
  (19, [.agg [.sym 0, .sym 1, .sym 2, .sym 3, .sym 4, .sym 5], .agg [.sym 6, .sym 7, .sym 8, .sym 9, .sym 10, .sym 11]], .tup [.agg [.sym 29, .sym 30, .sym 31, .sym 32, .sym 33, .sym 34], .sym 35]),
  (16, [], .lit (.bool true))]⟩
theorem GaussSums_s1_r1 : @comes GaussSums_s1_k Tryd.prog glT 3000 3 [.agg [.sym 0, .sym 1, .sym 2, .sym 3, .sym 4, .sym 5], .agg [.sym 6, .sym 7, .sym 8, .sym 9, .sym 10, .sym 11], .agg [.sym 12, .sym 13, .sym 14]] = some (.lit (.bool true)) := by kernel_rfl
set_option maxRecDepth 100000 in
theorem GaussSums_s1 (a : Gs) (b : Gs) (d : Dy) (w : World) (oa : a.Ok) (ob : b.Ok) (od : d.Ok) (hG : Globs glT w) : Calls Tryd.prog 3 #[.agg #[.bool a.re.g, .string (natS a.re.n), .int .i64 a.re.x, .bool a.im.g, .string (natS a.im.n), .int .i64 a.im.x], .agg #[.bool b.re.g, .string (natS b.re.n), .int .i64 b.re.x, .bool b.im.g, .string (natS b.im.n), .int .i64 b.im.x], .agg #[.bool d.g, .string (natS d.n), .int .i64 d.x]] w fun e w' => e = .returned (.bool true) ∧ Below w.heap.size w w' := by
  letI : Env := mkEnv glT [.bool a.re.g, .string (natS a.re.n), .int .i64 a.re.x, .bool a.im.g, .string (natS a.im.n), .int .i64 a.im.x, .bool b.re.g, .string (natS b.re.n), .int .i64 b.re.x, .bool b.im.g, .string (natS b.im.n), .int .i64 b.im.x, .bool d.g, .string (natS d.n), .int .i64 d.x, .bool ((gaddD a b).re).g, .string (natS ((gaddD a b).re).n), .int .i64 ((gaddD a b).re).x, .bool ((gaddD a b).im).g, .string (natS ((gaddD a b).im).n), .int .i64 ((gaddD a b).im).x, .int .i64 (gaddE a b), .bool ((gaddD a (neG b)).re).g, .string (natS ((gaddD a (neG b)).re).n), .int .i64 ((gaddD a (neG b)).re).x, .bool ((gaddD a (neG b)).im).g, .string (natS ((gaddD a (neG b)).im).n), .int .i64 ((gaddD a (neG b)).im).x, .int .i64 (gaddE a (neG b)), .bool ((gmulD a b).re).g, .string (natS ((gmulD a b).re).n), .int .i64 ((gmulD a b).re).x, .bool ((gmulD a b).im).g, .string (natS ((gmulD a b).im).n), .int .i64 ((gmulD a b).im).x, .int .i64 (gmulE a b), .bool ((gscD a d).re).g, .string (natS ((gscD a d).re).n), .int .i64 ((gscD a d).re).x, .bool ((gscD a d).im).g, .string (natS ((gscD a d).im).n), .int .i64 ((gscD a d).im).x, .int .i64 (gscE a d)] rfl
  have hops : OpsT Tryd.prog (@Know.ops GaussSums_s1_k) := ⟨optG_eql_t (a := gscD a d) (b := gscD a d) rfl rfl rfl,
    opt_eql_t rfl rfl rfl,
    optG_eql_t (a := gaddD a b) (b := gaddD a b) rfl rfl rfl,
    opt_eql_t rfl rfl rfl,
    optG_eql_t (a := gaddD a (neG b)) (b := gaddD a (neG b)) rfl rfl rfl,
    opt_eql_t rfl rfl rfl,
    optG_eql_t (a := gmulD a b) (b := gmulD a b) rfl rfl rfl,
    opt_eql_t rfl rfl rfl,
    trivial⟩
  have hcalls : CallsT Tryd.prog (@Know.calls GaussSums_s1_k) := ⟨callt rfl rfl fun w hG => GAdd_c a b w oa ob hG,
    callt rfl rfl fun w hG => GSub_c a b w oa ob hG,
    callt rfl rfl fun w hG => GMul_c a b w oa ob hG,
    callt rfl rfl fun w hG => GScale_c a d w oa od hG,
    callt rfl rfl fun w hG => rMayT_ok a.re w oa.1,
    callt rfl rfl fun w hG => rMayT_ok a.im w oa.2,
    callt rfl rfl fun w hG => rMayT_ok d w od,
    callt rfl rfl fun w hG => rGScale_c a d w oa od hG,
    callt rfl rfl fun w hG => rMayT_ok b.re w ob.1,
    callt rfl rfl fun w hG => rMayT_ok b.im w ob.2,
    callt rfl rfl fun w hG => rGAdd_c a b w oa ob hG,
    callt rfl rfl fun w hG => rGSub_c a b w oa ob hG,
    callt rfl rfl fun w hG => rGMul_c a b w oa ob hG,
    callt rfl rfl fun w hG => awake6_c w hG,
    trivial⟩
  have fin : ∀ v, @comes GaussSums_s1_k Tryd.prog glT 3000 3 [.agg [.sym 0, .sym 1, .sym 2, .sym 3, .sym 4, .sym 5], .agg [.sym 6, .sym 7, .sym 8, .sym 9, .sym 10, .sym 11], .agg [.sym 12, .sym 13, .sym 14]] = some v → ground v = true → Ending.returned (gval v) = .returned (.bool true) → Calls Tryd.prog 3 #[.agg #[.bool a.re.g, .string (natS a.re.n), .int .i64 a.re.x, .bool a.im.g, .string (natS a.im.n), .int .i64 a.im.x], .agg #[.bool b.re.g, .string (natS b.re.n), .int .i64 b.re.x, .bool b.im.g, .string (natS b.im.n), .int .i64 b.im.x], .agg #[.bool d.g, .string (natS d.n), .int .i64 d.x]] w fun e w' => e = .returned (.bool true) ∧ Below w.heap.size w w' := fun v h1 h2 h3 => (@sym_ok _ GaussSums_s1_k _ (@KnowOk.of _ GaussSums_s1_k _ hops hcalls) (by kernel_rfl) _ _ _ _ h1 rfl h2 _ hG).mono fun e w' h => ⟨h.1.trans h3, h.2⟩
  clear hops hcalls
  exact fin _ (GaussSums_s1_r1) rfl rfl

@[reducible] noncomputable def GaussSums_s2_k : Know := ⟨[([0, 11, 26], [.agg [.sym 15, .sym 16, .sym 17, .sym 18, .sym 19, .sym 20], .agg [.sym 15, .sym 16, .sym 17, .sym 18, .sym 19, .sym 20]], .lit (.bool true)),
  ([0, 11, 3], [.sym 21, .sym 21], .lit (.bool true)),
  ([0, 11, 26], [.agg [.sym 22, .sym 23, .sym 24, .sym 25, .sym 26, .sym 27], .agg [.sym 22, .sym 23, .sym 24, .sym 25, .sym 26, .sym 27]], .lit (.bool true)),
  ([0, 11, 3], [.sym 28, .sym 28], .lit (.bool true)),
  ([0, 11, 26], [.agg [.sym 29, .sym 30, .sym 31, .sym 32, .sym 33, .sym 34], .agg [.sym 29, .sym 30, .sym 31, .sym 32, .sym 33, .sym 34]], .lit (.bool true)),
  ([0, 11, 3], [.sym 35, .sym 35], .lit (.bool true))],
  [(7, [.agg [.sym 0, .sym 1, .sym 2, .sym 3, .sym 4, .sym 5], .agg [.sym 6, .sym 7, .sym 8, .sym 9, .sym 10, .sym 11]], .tup [.agg [.sym 15, .sym 16, .sym 17, .sym 18, .sym 19, .sym 20], .sym 21]),
  (8, [.agg [.sym 0, .sym 1, .sym 2, .sym 3, .sym 4, .sym 5], .agg [.sym 6, .sym 7, .sym 8, .sym 9, .sym 10, .sym 11]], .tup [.agg [.sym 22, .sym 23, .sym 24, .sym 25, .sym 26, .sym 27], .sym 28]),
  (9, [.agg [.sym 0, .sym 1, .sym 2, .sym 3, .sym 4, .sym 5], .agg [.sym 6, .sym 7, .sym 8, .sym 9, .sym 10, .sym 11]], .tup [.agg [.sym 29, .sym 30, .sym 31, .sym 32, .sym 33, .sym 34], .sym 35]),
  (10, [.agg [.sym 0, .sym 1, .sym 2, .sym 3, .sym 4, .sym 5], .agg [.sym 12, .sym 13, .sym 14]], .lit (.tuple #[.agg #[.bool false, .string ⟨#[]⟩, .int .i64 0, .bool false, .string ⟨#[]⟩, .int .i64 0], .int .i64 2])),
  (12, [.agg [.sym 0, .sym 1, .sym 2]], .lit (.bool true)),
  (12, [.agg [.sym 3, .sym 4, .sym 5]], .lit (.bool true)),
  (12, [.agg [.sym 12, .sym 13, .sym 14]], .lit (.bool false)),
  (12, [.agg [.sym 6, .sym 7, .sym 8]], .lit (.bool true)),
  (12, [.agg [.sym 9, .sym 10, .sym 11]], .lit (.bool true)),
  (17, [.agg [.sym 0, .sym 1, .sym 2, .sym 3, .sym 4, .sym 5], .agg [.sym 6, .sym 7, .sym 8, .sym 9, .sym 10, .sym 11]], .tup [.agg [.sym 15, .sym 16, .sym 17, .sym 18, .sym 19, .sym 20], .sym 21]),
  (18, [.agg [.sym 0, .sym 1, .sym 2, .sym 3, .sym 4, .sym 5], .agg [.sym 6, .sym 7, .sym 8, .sym 9, .sym 10, .sym 11]], .tup [.agg [.sym 22, .sym 23, .sym 24, .sym 25, .sym 26, .sym 27], .sym 28]),
  (19, [.agg [.sym 0, .sym 1, .sym 2, .sym 3, .sym 4, .sym 5], .agg [.sym 6, .sym 7, .sym 8, .sym 9, .sym 10, .sym 11]], .tup [.agg [.sym 29, .sym 30, .sym 31, .sym 32, .sym 33, .sym 34], .sym 35]),
  (16, [], .lit (.bool true))]⟩
theorem GaussSums_s2_r1 : @comes GaussSums_s2_k Tryd.prog glT 3000 3 [.agg [.sym 0, .sym 1, .sym 2, .sym 3, .sym 4, .sym 5], .agg [.sym 6, .sym 7, .sym 8, .sym 9, .sym 10, .sym 11], .agg [.sym 12, .sym 13, .sym 14]] = some (.lit (.bool true)) := by kernel_rfl
set_option maxRecDepth 100000 in
theorem GaussSums_s2 (a : Gs) (b : Gs) (d : Dt) (w : World) (oa : a.Ok) (ob : b.Ok) (zd : d.s.size ≤ 9223372036854775807) (nd : ¬ d.Ok) (hG : Globs glT w) : Calls Tryd.prog 3 #[.agg #[.bool a.re.g, .string (natS a.re.n), .int .i64 a.re.x, .bool a.im.g, .string (natS a.im.n), .int .i64 a.im.x], .agg #[.bool b.re.g, .string (natS b.re.n), .int .i64 b.re.x, .bool b.im.g, .string (natS b.im.n), .int .i64 b.im.x], .agg #[.bool d.g, .string d.s, .int .i64 d.x]] w fun e w' => e = .returned (.bool true) ∧ Below w.heap.size w w' := by
  letI : Env := mkEnv glT [.bool a.re.g, .string (natS a.re.n), .int .i64 a.re.x, .bool a.im.g, .string (natS a.im.n), .int .i64 a.im.x, .bool b.re.g, .string (natS b.re.n), .int .i64 b.re.x, .bool b.im.g, .string (natS b.im.n), .int .i64 b.im.x, .bool d.g, .string d.s, .int .i64 d.x, .bool ((gaddD a b).re).g, .string (natS ((gaddD a b).re).n), .int .i64 ((gaddD a b).re).x, .bool ((gaddD a b).im).g, .string (natS ((gaddD a b).im).n), .int .i64 ((gaddD a b).im).x, .int .i64 (gaddE a b), .bool ((gaddD a (neG b)).re).g, .string (natS ((gaddD a (neG b)).re).n), .int .i64 ((gaddD a (neG b)).re).x, .bool ((gaddD a (neG b)).im).g, .string (natS ((gaddD a (neG b)).im).n), .int .i64 ((gaddD a (neG b)).im).x, .int .i64 (gaddE a (neG b)), .bool ((gmulD a b).re).g, .string (natS ((gmulD a b).re).n), .int .i64 ((gmulD a b).re).x, .bool ((gmulD a b).im).g, .string (natS ((gmulD a b).im).n), .int .i64 ((gmulD a b).im).x, .int .i64 (gmulE a b)] rfl
  have hops : OpsT Tryd.prog (@Know.ops GaussSums_s2_k) := ⟨optG_eql_t (a := gaddD a b) (b := gaddD a b) rfl rfl rfl,
    opt_eql_t rfl rfl rfl,
    optG_eql_t (a := gaddD a (neG b)) (b := gaddD a (neG b)) rfl rfl rfl,
    opt_eql_t rfl rfl rfl,
    optG_eql_t (a := gmulD a b) (b := gmulD a b) rfl rfl rfl,
    opt_eql_t rfl rfl rfl,
    trivial⟩
  have hcalls : CallsT Tryd.prog (@Know.calls GaussSums_s2_k) := ⟨callt rfl rfl fun w hG => GAdd_c a b w oa ob hG,
    callt rfl rfl fun w hG => GSub_c a b w oa ob hG,
    callt rfl rfl fun w hG => GMul_c a b w oa ob hG,
    callt rfl rfl fun w hG => GScale_bad a.t d w (gs_small oa) zd (fun c => nd c.2) hG,
    callt rfl rfl fun w hG => rMayT_ok a.re w oa.1,
    callt rfl rfl fun w hG => rMayT_ok a.im w oa.2,
    callt rfl rfl fun w hG => rMayT_no d w zd nd,
    callt rfl rfl fun w hG => rMayT_ok b.re w ob.1,
    callt rfl rfl fun w hG => rMayT_ok b.im w ob.2,
    callt rfl rfl fun w hG => rGAdd_c a b w oa ob hG,
    callt rfl rfl fun w hG => rGSub_c a b w oa ob hG,
    callt rfl rfl fun w hG => rGMul_c a b w oa ob hG,
    callt rfl rfl fun w hG => awake6_c w hG,
    trivial⟩
  have fin : ∀ v, @comes GaussSums_s2_k Tryd.prog glT 3000 3 [.agg [.sym 0, .sym 1, .sym 2, .sym 3, .sym 4, .sym 5], .agg [.sym 6, .sym 7, .sym 8, .sym 9, .sym 10, .sym 11], .agg [.sym 12, .sym 13, .sym 14]] = some v → ground v = true → Ending.returned (gval v) = .returned (.bool true) → Calls Tryd.prog 3 #[.agg #[.bool a.re.g, .string (natS a.re.n), .int .i64 a.re.x, .bool a.im.g, .string (natS a.im.n), .int .i64 a.im.x], .agg #[.bool b.re.g, .string (natS b.re.n), .int .i64 b.re.x, .bool b.im.g, .string (natS b.im.n), .int .i64 b.im.x], .agg #[.bool d.g, .string d.s, .int .i64 d.x]] w fun e w' => e = .returned (.bool true) ∧ Below w.heap.size w w' := fun v h1 h2 h3 => (@sym_ok _ GaussSums_s2_k _ (@KnowOk.of _ GaussSums_s2_k _ hops hcalls) (by kernel_rfl) _ _ _ _ h1 rfl h2 _ hG).mono fun e w' h => ⟨h.1.trans h3, h.2⟩
  clear hops hcalls
  exact fin _ (GaussSums_s2_r1) rfl rfl

@[reducible] noncomputable def GaussSums_s3_k (b1 b2 : Bool) : Know := ⟨[([0, 11, 26], [.agg [.sym 15, .sym 16, .sym 17, .sym 18, .sym 19, .sym 20], .agg [.sym 15, .sym 16, .sym 17, .sym 18, .sym 19, .sym 20]], .lit (.bool true)),
  ([0, 11, 3], [.sym 21, .sym 21], .lit (.bool true))],
  [(7, [.agg [.sym 0, .sym 1, .sym 2, .sym 3, .sym 4, .sym 5], .agg [.sym 6, .sym 7, .sym 8, .sym 9, .sym 10, .sym 11]], .lit (.tuple #[.agg #[.bool false, .string ⟨#[]⟩, .int .i64 0, .bool false, .string ⟨#[]⟩, .int .i64 0], .int .i64 2])),
  (8, [.agg [.sym 0, .sym 1, .sym 2, .sym 3, .sym 4, .sym 5], .agg [.sym 6, .sym 7, .sym 8, .sym 9, .sym 10, .sym 11]], .lit (.tuple #[.agg #[.bool false, .string ⟨#[]⟩, .int .i64 0, .bool false, .string ⟨#[]⟩, .int .i64 0], .int .i64 2])),
  (9, [.agg [.sym 0, .sym 1, .sym 2, .sym 3, .sym 4, .sym 5], .agg [.sym 6, .sym 7, .sym 8, .sym 9, .sym 10, .sym 11]], .lit (.tuple #[.agg #[.bool false, .string ⟨#[]⟩, .int .i64 0, .bool false, .string ⟨#[]⟩, .int .i64 0], .int .i64 2])),
  (10, [.agg [.sym 0, .sym 1, .sym 2, .sym 3, .sym 4, .sym 5], .agg [.sym 12, .sym 13, .sym 14]], .tup [.agg [.sym 15, .sym 16, .sym 17, .sym 18, .sym 19, .sym 20], .sym 21]),
  (12, [.agg [.sym 0, .sym 1, .sym 2]], .lit (.bool true)),
  (12, [.agg [.sym 3, .sym 4, .sym 5]], .lit (.bool true)),
  (12, [.agg [.sym 12, .sym 13, .sym 14]], .lit (.bool true)),
  (14, [.agg [.sym 0, .sym 1, .sym 2, .sym 3, .sym 4, .sym 5], .agg [.sym 12, .sym 13, .sym 14]], .tup [.agg [.sym 15, .sym 16, .sym 17, .sym 18, .sym 19, .sym 20], .sym 21]),
  (12, [.agg [.sym 6, .sym 7, .sym 8]], .lit (.bool b1)),
  (12, [.agg [.sym 9, .sym 10, .sym 11]], .lit (.bool b2)),
  (16, [], .lit (.bool true))]⟩
theorem GaussSums_s3_r1 : @comes (GaussSums_s3_k true false) Tryd.prog glT 3000 3 [.agg [.sym 0, .sym 1, .sym 2, .sym 3, .sym 4, .sym 5], .agg [.sym 6, .sym 7, .sym 8, .sym 9, .sym 10, .sym 11], .agg [.sym 12, .sym 13, .sym 14]] = some (.lit (.bool true)) := by kernel_rfl
theorem GaussSums_s3_r2 (b2 : Bool) : @comes (GaussSums_s3_k false b2) Tryd.prog glT 3000 3 [.agg [.sym 0, .sym 1, .sym 2, .sym 3, .sym 4, .sym 5], .agg [.sym 6, .sym 7, .sym 8, .sym 9, .sym 10, .sym 11], .agg [.sym 12, .sym 13, .sym 14]] = some (.lit (.bool true)) := by kernel_rfl
set_option maxRecDepth 100000 in
theorem GaussSums_s3 (a : Gs) (b : Gt) (d : Dy) (w : World) (oa : a.Ok) (zb : b.Small) (nb : ¬ b.Ok) (od : d.Ok) (hG : Globs glT w) : Calls Tryd.prog 3 #[.agg #[.bool a.re.g, .string (natS a.re.n), .int .i64 a.re.x, .bool a.im.g, .string (natS a.im.n), .int .i64 a.im.x], .agg #[.bool b.re.g, .string b.re.s, .int .i64 b.re.x, .bool b.im.g, .string b.im.s, .int .i64 b.im.x], .agg #[.bool d.g, .string (natS d.n), .int .i64 d.x]] w fun e w' => e = .returned (.bool true) ∧ Below w.heap.size w w' := by
  obtain ⟨b1, i1⟩ := bex (b.re.Ok)
  obtain ⟨b2, i2⟩ := bex (b.im.Ok)
  letI : Env := mkEnv glT [.bool a.re.g, .string (natS a.re.n), .int .i64 a.re.x, .bool a.im.g, .string (natS a.im.n), .int .i64 a.im.x, .bool b.re.g, .string b.re.s, .int .i64 b.re.x, .bool b.im.g, .string b.im.s, .int .i64 b.im.x, .bool d.g, .string (natS d.n), .int .i64 d.x, .bool ((gscD a d).re).g, .string (natS ((gscD a d).re).n), .int .i64 ((gscD a d).re).x, .bool ((gscD a d).im).g, .string (natS ((gscD a d).im).n), .int .i64 ((gscD a d).im).x, .int .i64 (gscE a d)] rfl
  have hops : OpsT Tryd.prog (@Know.ops (GaussSums_s3_k b1 b2)) := ⟨optG_eql_t (a := gscD a d) (b := gscD a d) rfl rfl rfl,
    opt_eql_t rfl rfl rfl,
    trivial⟩
  have hcalls : CallsT Tryd.prog (@Know.calls (GaussSums_s3_k b1 b2)) := ⟨callt rfl rfl fun w hG => GAdd_bad a.t b w (gs_small oa) zb (fun c => nb c.2) hG,
    callt rfl rfl fun w hG => GSub_bad a.t b w (gs_small oa) zb (fun c => nb c.2) hG,
    callt rfl rfl fun w hG => GMul_bad a.t b w (gs_small oa) zb (fun c => nb c.2) hG,
    callt rfl rfl fun w hG => GScale_c a d w oa od hG,
    callt rfl rfl fun w hG => rMayT_ok a.re w oa.1,
    callt rfl rfl fun w hG => rMayT_ok a.im w oa.2,
    callt rfl rfl fun w hG => rMayT_ok d w od,
    callt rfl rfl fun w hG => rGScale_c a d w oa od hG,
    callt rfl rfl fun w hG => rMay_i b.re w zb.1 i1,
    callt rfl rfl fun w hG => rMay_i b.im w zb.2 i2,
    callt rfl rfl fun w hG => awake6_c w hG,
    trivial⟩
  have fin : ∀ v, @comes (GaussSums_s3_k b1 b2) Tryd.prog glT 3000 3 [.agg [.sym 0, .sym 1, .sym 2, .sym 3, .sym 4, .sym 5], .agg [.sym 6, .sym 7, .sym 8, .sym 9, .sym 10, .sym 11], .agg [.sym 12, .sym 13, .sym 14]] = some v → ground v = true → Ending.returned (gval v) = .returned (.bool true) → Calls Tryd.prog 3 #[.agg #[.bool a.re.g, .string (natS a.re.n), .int .i64 a.re.x, .bool a.im.g, .string (natS a.im.n), .int .i64 a.im.x], .agg #[.bool b.re.g, .string b.re.s, .int .i64 b.re.x, .bool b.im.g, .string b.im.s, .int .i64 b.im.x], .agg #[.bool d.g, .string (natS d.n), .int .i64 d.x]] w fun e w' => e = .returned (.bool true) ∧ Below w.heap.size w w' := fun v h1 h2 h3 => (@sym_ok _ (GaussSums_s3_k b1 b2) _ (@KnowOk.of _ (GaussSums_s3_k b1 b2) _ hops hcalls) (by kernel_rfl) _ _ _ _ h1 rfl h2 _ hG).mono fun e w' h => ⟨h.1.trans h3, h.2⟩
  clear hops hcalls
  cases b1 with
  | true =>
    have h1 : b.re.Ok := i1.1 rfl
    cases b2 with
    | true =>
      exact absurd (i2.1 rfl) (fun c => nb ⟨h1, c⟩)
    | false =>
      have h2 : ¬ (b.im.Ok) := fun c => Bool.false_ne_true (i2.2 c)
      exact fin _ (GaussSums_s3_r1) rfl rfl
  | false =>
    have h1 : ¬ (b.re.Ok) := fun c => Bool.false_ne_true (i1.2 c)
    exact fin _ (GaussSums_s3_r2 b2) rfl rfl

@[reducible] noncomputable def GaussSums_s4_k (b1 b2 : Bool) : Know := ⟨[],
  [(7, [.agg [.sym 0, .sym 1, .sym 2, .sym 3, .sym 4, .sym 5], .agg [.sym 6, .sym 7, .sym 8, .sym 9, .sym 10, .sym 11]], .lit (.tuple #[.agg #[.bool false, .string ⟨#[]⟩, .int .i64 0, .bool false, .string ⟨#[]⟩, .int .i64 0], .int .i64 2])),
  (8, [.agg [.sym 0, .sym 1, .sym 2, .sym 3, .sym 4, .sym 5], .agg [.sym 6, .sym 7, .sym 8, .sym 9, .sym 10, .sym 11]], .lit (.tuple #[.agg #[.bool false, .string ⟨#[]⟩, .int .i64 0, .bool false, .string ⟨#[]⟩, .int .i64 0], .int .i64 2])),
  (9, [.agg [.sym 0, .sym 1, .sym 2, .sym 3, .sym 4, .sym 5], .agg [.sym 6, .sym 7, .sym 8, .sym 9, .sym 10, .sym 11]], .lit (.tuple #[.agg #[.bool false, .string ⟨#[]⟩, .int .i64 0, .bool false, .string ⟨#[]⟩, .int .i64 0], .int .i64 2])),
  (10, [.agg [.sym 0, .sym 1, .sym 2, .sym 3, .sym 4, .sym 5], .agg [.sym 12, .sym 13, .sym 14]], .lit (.tuple #[.agg #[.bool false, .string ⟨#[]⟩, .int .i64 0, .bool false, .string ⟨#[]⟩, .int .i64 0], .int .i64 2])),
  (12, [.agg [.sym 0, .sym 1, .sym 2]], .lit (.bool true)),
  (12, [.agg [.sym 3, .sym 4, .sym 5]], .lit (.bool true)),
  (12, [.agg [.sym 12, .sym 13, .sym 14]], .lit (.bool false)),
  (12, [.agg [.sym 6, .sym 7, .sym 8]], .lit (.bool b1)),
  (12, [.agg [.sym 9, .sym 10, .sym 11]], .lit (.bool b2)),
  (16, [], .lit (.bool true))]⟩
theorem GaussSums_s4_r1 : @comes (GaussSums_s4_k true false) Tryd.prog glT 3000 3 [.agg [.sym 0, .sym 1, .sym 2, .sym 3, .sym 4, .sym 5], .agg [.sym 6, .sym 7, .sym 8, .sym 9, .sym 10, .sym 11], .agg [.sym 12, .sym 13, .sym 14]] = some (.lit (.bool true)) := by kernel_rfl
theorem GaussSums_s4_r2 (b2 : Bool) : @comes (GaussSums_s4_k false b2) Tryd.prog glT 3000 3 [.agg [.sym 0, .sym 1, .sym 2, .sym 3, .sym 4, .sym 5], .agg [.sym 6, .sym 7, .sym 8, .sym 9, .sym 10, .sym 11], .agg [.sym 12, .sym 13, .sym 14]] = some (.lit (.bool true)) := by kernel_rfl
set_option maxRecDepth 100000 in
theorem GaussSums_s4 (a : Gs) (b : Gt) (d : Dt) (w : World) (oa : a.Ok) (zb : b.Small) (nb : ¬ b.Ok) (zd : d.s.size ≤ 9223372036854775807) (nd : ¬ d.Ok) (hG : Globs glT w) : Calls Tryd.prog 3 #[.agg #[.bool a.re.g, .string (natS a.re.n), .int .i64 a.re.x, .bool a.im.g, .string (natS a.im.n), .int .i64 a.im.x], .agg #[.bool b.re.g, .string b.re.s, .int .i64 b.re.x, .bool b.im.g, .string b.im.s, .int .i64 b.im.x], .agg #[.bool d.g, .string d.s, .int .i64 d.x]] w fun e w' => e = .returned (.bool true) ∧ Below w.heap.size w w' := by
  obtain ⟨b1, i1⟩ := bex (b.re.Ok)
  obtain ⟨b2, i2⟩ := bex (b.im.Ok)
  letI : Env := mkEnv glT [.bool a.re.g, .string (natS a.re.n), .int .i64 a.re.x, .bool a.im.g, .string (natS a.im.n), .int .i64 a.im.x, .bool b.re.g, .string b.re.s, .int .i64 b.re.x, .bool b.im.g, .string b.im.s, .int .i64 b.im.x, .bool d.g, .string d.s, .int .i64 d.x] rfl
  have hops : OpsT Tryd.prog (@Know.ops (GaussSums_s4_k b1 b2)) := trivial
  have hcalls : CallsT Tryd.prog (@Know.calls (GaussSums_s4_k b1 b2)) := ⟨callt rfl rfl fun w hG => GAdd_bad a.t b w (gs_small oa) zb (fun c => nb c.2) hG,
    callt rfl rfl fun w hG => GSub_bad a.t b w (gs_small oa) zb (fun c => nb c.2) hG,
    callt rfl rfl fun w hG => GMul_bad a.t b w (gs_small oa) zb (fun c => nb c.2) hG,
    callt rfl rfl fun w hG => GScale_bad a.t d w (gs_small oa) zd (fun c => nd c.2) hG,
    callt rfl rfl fun w hG => rMayT_ok a.re w oa.1,
    callt rfl rfl fun w hG => rMayT_ok a.im w oa.2,
    callt rfl rfl fun w hG => rMayT_no d w zd nd,
    callt rfl rfl fun w hG => rMay_i b.re w zb.1 i1,
    callt rfl rfl fun w hG => rMay_i b.im w zb.2 i2,
    callt rfl rfl fun w hG => awake6_c w hG,
    trivial⟩
  have fin : ∀ v, @comes (GaussSums_s4_k b1 b2) Tryd.prog glT 3000 3 [.agg [.sym 0, .sym 1, .sym 2, .sym 3, .sym 4, .sym 5], .agg [.sym 6, .sym 7, .sym 8, .sym 9, .sym 10, .sym 11], .agg [.sym 12, .sym 13, .sym 14]] = some v → ground v = true → Ending.returned (gval v) = .returned (.bool true) → Calls Tryd.prog 3 #[.agg #[.bool a.re.g, .string (natS a.re.n), .int .i64 a.re.x, .bool a.im.g, .string (natS a.im.n), .int .i64 a.im.x], .agg #[.bool b.re.g, .string b.re.s, .int .i64 b.re.x, .bool b.im.g, .string b.im.s, .int .i64 b.im.x], .agg #[.bool d.g, .string d.s, .int .i64 d.x]] w fun e w' => e = .returned (.bool true) ∧ Below w.heap.size w w' := fun v h1 h2 h3 => (@sym_ok _ (GaussSums_s4_k b1 b2) _ (@KnowOk.of _ (GaussSums_s4_k b1 b2) _ hops hcalls) (by kernel_rfl) _ _ _ _ h1 rfl h2 _ hG).mono fun e w' h => ⟨h.1.trans h3, h.2⟩
  clear hops hcalls
  cases b1 with
  | true =>
    have h1 : b.re.Ok := i1.1 rfl
    cases b2 with
    | true =>
      exact absurd (i2.1 rfl) (fun c => nb ⟨h1, c⟩)
    | false =>
      have h2 : ¬ (b.im.Ok) := fun c => Bool.false_ne_true (i2.2 c)
      exact fin _ (GaussSums_s4_r1) rfl rfl
  | false =>
    have h1 : ¬ (b.re.Ok) := fun c => Bool.false_ne_true (i1.2 c)
    exact fin _ (GaussSums_s4_r2 b2) rfl rfl

@[reducible] noncomputable def GaussSums_s5_k (b1 b2 : Bool) : Know := ⟨[],
  [(7, [.agg [.sym 0, .sym 1, .sym 2, .sym 3, .sym 4, .sym 5], .agg [.sym 6, .sym 7, .sym 8, .sym 9, .sym 10, .sym 11]], .lit (.tuple #[.agg #[.bool false, .string ⟨#[]⟩, .int .i64 0, .bool false, .string ⟨#[]⟩, .int .i64 0], .int .i64 2])),
  (8, [.agg [.sym 0, .sym 1, .sym 2, .sym 3, .sym 4, .sym 5], .agg [.sym 6, .sym 7, .sym 8, .sym 9, .sym 10, .sym 11]], .lit (.tuple #[.agg #[.bool false, .string ⟨#[]⟩, .int .i64 0, .bool false, .string ⟨#[]⟩, .int .i64 0], .int .i64 2])),
  (9, [.agg [.sym 0, .sym 1, .sym 2, .sym 3, .sym 4, .sym 5], .agg [.sym 6, .sym 7, .sym 8, .sym 9, .sym 10, .sym 11]], .lit (.tuple #[.agg #[.bool false, .string ⟨#[]⟩, .int .i64 0, .bool false, .string ⟨#[]⟩, .int .i64 0], .int .i64 2])),
  (10, [.agg [.sym 0, .sym 1, .sym 2, .sym 3, .sym 4, .sym 5], .agg [.sym 12, .sym 13, .sym 14]], .lit (.tuple #[.agg #[.bool false, .string ⟨#[]⟩, .int .i64 0, .bool false, .string ⟨#[]⟩, .int .i64 0], .int .i64 2])),
  (12, [.agg [.sym 0, .sym 1, .sym 2]], .lit (.bool b1)),
  (12, [.agg [.sym 3, .sym 4, .sym 5]], .lit (.bool b2)),
  (16, [], .lit (.bool true))]⟩
theorem GaussSums_s5_r1 : @comes (GaussSums_s5_k true false) Tryd.prog glT 3000 3 [.agg [.sym 0, .sym 1, .sym 2, .sym 3, .sym 4, .sym 5], .agg [.sym 6, .sym 7, .sym 8, .sym 9, .sym 10, .sym 11], .agg [.sym 12, .sym 13, .sym 14]] = some (.lit (.bool true)) := by kernel_rfl
theorem GaussSums_s5_r2 (b2 : Bool) : @comes (GaussSums_s5_k false b2) Tryd.prog glT 3000 3 [.agg [.sym 0, .sym 1, .sym 2, .sym 3, .sym 4, .sym 5], .agg [.sym 6, .sym 7, .sym 8, .sym 9, .sym 10, .sym 11], .agg [.sym 12, .sym 13, .sym 14]] = some (.lit (.bool true)) := by kernel_rfl
set_option maxRecDepth 100000 in
theorem GaussSums_s5 (a : Gt) (b : Gt) (d : Dt) (w : World) (za : a.Small) (na : ¬ a.Ok) (zb : b.Small) (zd : d.s.size ≤ 9223372036854775807) (hG : Globs glT w) : Calls Tryd.prog 3 #[.agg #[.bool a.re.g, .string a.re.s, .int .i64 a.re.x, .bool a.im.g, .string a.im.s, .int .i64 a.im.x], .agg #[.bool b.re.g, .string b.re.s, .int .i64 b.re.x, .bool b.im.g, .string b.im.s, .int .i64 b.im.x], .agg #[.bool d.g, .string d.s, .int .i64 d.x]] w fun e w' => e = .returned (.bool true) ∧ Below w.heap.size w w' := by
  obtain ⟨b1, i1⟩ := bex (a.re.Ok)
  obtain ⟨b2, i2⟩ := bex (a.im.Ok)
  letI : Env := mkEnv glT [.bool a.re.g, .string a.re.s, .int .i64 a.re.x, .bool a.im.g, .string a.im.s, .int .i64 a.im.x, .bool b.re.g, .string b.re.s, .int .i64 b.re.x, .bool b.im.g, .string b.im.s, .int .i64 b.im.x, .bool d.g, .string d.s, .int .i64 d.x] rfl
  have hops : OpsT Tryd.prog (@Know.ops (GaussSums_s5_k b1 b2)) := trivial
  have hcalls : CallsT Tryd.prog (@Know.calls (GaussSums_s5_k b1 b2)) := ⟨callt rfl rfl fun w hG => GAdd_bad a b w za zb (fun c => na c.1) hG,
    callt rfl rfl fun w hG => GSub_bad a b w za zb (fun c => na c.1) hG,
    callt rfl rfl fun w hG => GMul_bad a b w za zb (fun c => na c.1) hG,
    callt rfl rfl fun w hG => GScale_bad a d w za zd (fun c => na c.1) hG,
    callt rfl rfl fun w hG => rMay_i a.re w za.1 i1,
    callt rfl rfl fun w hG => rMay_i a.im w za.2 i2,
    callt rfl rfl fun w hG => awake6_c w hG,
    trivial⟩
  have fin : ∀ v, @comes (GaussSums_s5_k b1 b2) Tryd.prog glT 3000 3 [.agg [.sym 0, .sym 1, .sym 2, .sym 3, .sym 4, .sym 5], .agg [.sym 6, .sym 7, .sym 8, .sym 9, .sym 10, .sym 11], .agg [.sym 12, .sym 13, .sym 14]] = some v → ground v = true → Ending.returned (gval v) = .returned (.bool true) → Calls Tryd.prog 3 #[.agg #[.bool a.re.g, .string a.re.s, .int .i64 a.re.x, .bool a.im.g, .string a.im.s, .int .i64 a.im.x], .agg #[.bool b.re.g, .string b.re.s, .int .i64 b.re.x, .bool b.im.g, .string b.im.s, .int .i64 b.im.x], .agg #[.bool d.g, .string d.s, .int .i64 d.x]] w fun e w' => e = .returned (.bool true) ∧ Below w.heap.size w w' := fun v h1 h2 h3 => (@sym_ok _ (GaussSums_s5_k b1 b2) _ (@KnowOk.of _ (GaussSums_s5_k b1 b2) _ hops hcalls) (by kernel_rfl) _ _ _ _ h1 rfl h2 _ hG).mono fun e w' h => ⟨h.1.trans h3, h.2⟩
  clear hops hcalls
  cases b1 with
  | true =>
    have h1 : a.re.Ok := i1.1 rfl
    cases b2 with
    | true =>
      exact absurd (i2.1 rfl) (fun c => na ⟨h1, c⟩)
    | false =>
      have h2 : ¬ (a.im.Ok) := fun c => Bool.false_ne_true (i2.2 c)
      exact fin _ (GaussSums_s5_r1) rfl rfl
  | false =>
    have h1 : ¬ (a.re.Ok) := fun c => Bool.false_ne_true (i1.2 c)
    exact fin _ (GaussSums_s5_r2 b2) rfl rfl

theorem GaussSums_law (a b : Gt) (d : Dt) (w : World) (za : a.Small) (zb : b.Small) (zd : d.s.size ≤ 9223372036854775807) (hG : Globs glT w) : Calls Tryd.prog 3 #[.agg #[.bool a.re.g, .string a.re.s, .int .i64 a.re.x, .bool a.im.g, .string a.im.s, .int .i64 a.im.x], .agg #[.bool b.re.g, .string b.re.s, .int .i64 b.re.x, .bool b.im.g, .string b.im.s, .int .i64 b.im.x], .agg #[.bool d.g, .string d.s, .int .i64 d.x]] w fun e w' => e = .returned (.bool true) ∧ Below w.heap.size w w' := by
  by_cases ha : a.Ok
  · obtain ⟨a, oa, rfl⟩ := Gt.gs ha
    by_cases hb : b.Ok
    · obtain ⟨b, ob, rfl⟩ := Gt.gs hb
      by_cases hd : d.Ok
      · obtain ⟨d, od, rfl⟩ := Dt.dy hd
        exact GaussSums_s1 a b d w oa ob od hG
      · exact GaussSums_s2 a b d w oa ob zd hd hG
    · by_cases hd : d.Ok
      · obtain ⟨d, od, rfl⟩ := Dt.dy hd
        exact GaussSums_s3 a b d w oa zb hb od hG
      · exact GaussSums_s4 a b d w oa zb hb zd hd hG
  · exact GaussSums_s5 a b d w za ha zb zd hG
end Go.Proofs.YtciidbldnjfooaaDoor
namespace Go.Proofs.YtciidbldnjfooaaDoor
open Go Go.RowKit Go.WideShapes Go.ChangeShapes
variable {H : Type} {enc : TypeId × Value → H} {P : Program}

theorem postBelow {f : Func} {s : ChangeSpec} {apart fresh handsOn again : Bool} {W W' : World} {args : Array Value} {v : Value} {ds gs : List (DataW H)} {places pa pv : List MemPlace}
    (whole : DataW.Whole enc P f.params.toList s.vars apart W args.toList ds gs places)
    (res : ∀ (b : Nat) (sp : Nat → Bool) (hd : Bool), DataW.TrodAll enc P W' b sp hd f.resultTypes.toList (v.resultList f.resultTypes.size) (s.fn H (ds ++ gs)).results [])
    (left : ∀ sp : Nat → Bool, (∀ p ∈ places, sp p.block = true) → DataW.TrodAll enc P W' 0 sp true f.params.toList args.toList (s.fn H (ds ++ gs)).args pa)
    (vars : ∀ sp : Nat → Bool, (∀ p ∈ places, sp p.block = true) → DataW.TrodVars enc P W' sp s.vars (s.fn H (ds ++ gs)).vars pv)
    (split : places = pa ++ pv) (below : Below W.heap.size W W')
    (ok : ∀ (j : Nat) (t : TypeId) (r : Value), f.resultTypes[j]? = some t → (v.resultList f.resultTypes.size)[j]? = some r → Value.okWide P W' .any 0 t r) :
    s.post enc P f apart fresh handsOn again W args v W' := by
  have old : ∀ p ∈ places, p.block < W.heap.size := fun p hp => whole.lt p hp
  have same : ∀ p ∈ places, (fun b => decide (b < W.heap.size)) p.block = true := fun p hp => decide_eq_true (old p hp)
  have kept : W.keptBut W' (fun p => p ∈ places ∧ p ∈ pa ++ pv) :=
    World.keptBut_mono (fun p hp => ⟨hp, split ▸ hp⟩) (below.frame (· ∈ places))
  have free : ∀ b off, MemPlace.cell b off ∈ pa ++ pv → W'.frozen? ⟨b, off, none⟩ = false := fun b off hp => by
    have hin : MemPlace.cell b off ∈ places := split ▸ hp
    rw [below.frozen (p := ⟨b, off, none⟩) (old _ hin)]
    obtain ⟨_, _, _, _, _, hz, _⟩ := whole
    exact hz b off hin
  have apartNow : apart = true → (pa ++ pv).Nodup := fun ha => by
    obtain ⟨_, _, _, _, _, _, hn⟩ := whole
    exact split ▸ hn ha
  refine ⟨ds, gs, places, [], pa, pv, whole, res _ _ _, left _ same, vars _ same, ?_, fun _ => ⟨ok, _, _, ([] ++ pa) ++ pv, ⟨[] ++ pa, pv, trodAll_append (left _ (fun _ _ => rfl)) (res _ _ _), vars _ (fun _ _ => rfl), rfl, ?_, ?_⟩, ?_⟩⟩
  · exact World.keptBut_mono (fun p hp => ⟨hp.1, Or.inr (List.mem_append.1 hp.2)⟩) kept
  · intro b off hp; exact free b off (by simpa using hp)
  · intro ha; simpa using apartNow ha
  · intro p hp _; rw [split]; simpa using hp
end Go.Proofs.YtciidbldnjfooaaDoor
set_option linter.unusedVariables false
namespace Go.Proofs.YtciidbldnjfooaaDoor
open Go.ChangeShapes Go.WideShapes Go.ChangeAt Go.RowKit Go.Joins
variable {H : Type} {enc : TypeId × Value → H}
/-- A Dyad's datum. -/
def dyadD (H : Type) (g : Bool) (s : ByteArray) (x : Int) : DataW H := .agg [.lit (.bool g), .lit (.string s.data.toList), .lit (.int .i64 x)]
set_option maxRecDepth 100000 in
theorem open_dyad {w : World} {base : Nat} {spare : Nat → Bool} {held : Bool} {r : Go.Reach} {b0 : Nat} {v : Value} {d : DataW H} {p : List MemPlace}
    (hv : Value.okWide Tryd.prog w r b0 24 v) (h : DataW.Trod enc Tryd.prog w base spare held 24 v d p) :
    ∃ (g : Bool) (s : ByteArray) (x : Int), v = .agg #[.bool g, .string s, .int .i64 x] ∧ d = dyadD H g s x ∧ p = [] ∧ s.size ≤ maxLen ∧ (Lit.int .i64 x).wf = true := by
  obtain ⟨c0, c1, c2, y0, y1, y2, m, rfl, rfl, rfl, hy0, hy1, hy2⟩ := open_agg3 Tryd.underlying24 (by kernel_rfl) (by kernel_rfl) hv h
  obtain ⟨g, e0, rfl⟩ := DataW.trod_bool Tryd.underlying4 hy0
  obtain ⟨s, e1, rfl, hs⟩ := DataW.trod_string Tryd.underlying22 hy1
  obtain ⟨x, e2, rfl, wx⟩ := DataW.trod_int Tryd.underlying3 hy2
  simp at e0 e1 e2
  subst e0 e1 e2
  exact ⟨g, s, x, rfl, rfl, rfl, hs, wx⟩
set_option maxRecDepth 100000 in
theorem shut_dyad {W' : World} {b : Nat} {sp : Nat → Bool} {hd : Bool} {g : Bool} {s : ByteArray} {x : Int} (hs : s.size ≤ maxLen) (wx : (Lit.int .i64 x).wf = true) :
    DataW.Trod enc Tryd.prog W' b sp hd 24 (.agg #[.bool g, .string s, .int .i64 x]) (dyadD H g s x) [] := by
  simpa [dyadD] using shut_agg3 (enc := enc) (w := W') (base := b) (spare := sp) (held := hd) (y0 := (.lit (.bool g), [])) (y1 := (.lit (.string s.data.toList), [])) (y2 := (.lit (.int .i64 x), [])) Tryd.underlying24 (by kernel_rfl) (by kernel_rfl) ⟨1, by simp [DataW.trod, Tryd.underlying4]⟩ ⟨1, by simp [DataW.trod, Tryd.underlying22, hs]⟩ ⟨1, by simp [DataW.trod, Tryd.underlying3, wx]⟩
theorem int64_bounds {x : Int} (h : (Lit.int .i64 x).wf = true) : -9223372036854775808 ≤ x ∧ x ≤ 9223372036854775807 := by
  unfold Lit.wf at h
  rw [Bool.and_eq_true, decide_eq_true_iff, decide_eq_true_iff] at h
  exact h
theorem float_bound {b : Nat} (h : (Lit.float .f64 b).wf = true) : b < 18446744073709551616 := by
  unfold Lit.wf at h
  exact of_decide_eq_true h
end Go.Proofs.YtciidbldnjfooaaDoor
set_option linter.unusedVariables false
set_option linter.unusedSimpArgs false
namespace Go.Proofs.YtciidbldnjfooaaDoor
open Go.ChangeShapes Go.WideShapes Go.ChangeAt Go.RowKit Go.Joins Go.Deep Go.ChangeMaps
variable {H : Type} {enc : TypeId × Value → H}
def gaussD (H : Type) (g : Bool) (s : ByteArray) (x : Int) (k : Bool) (r : ByteArray) (y : Int) : DataW H := .agg [dyadD H g s x, dyadD H k r y]
theorem array6 {α : Type} {cs : Array α} (h : cs.size = 6) : ∃ c0 c1 c2 c3 c4 c5, cs = #[c0, c1, c2, c3, c4, c5] := by
  obtain ⟨l⟩ := cs
  match l, h with
  | [c0, c1, c2, c3, c4, c5], _ => exact ⟨c0, c1, c2, c3, c4, c5, rfl⟩
theorem cDyad : Tryd.prog.cellsOf 24 = 3 := by kernel_rfl
theorem cGauss : Tryd.prog.cellsOf 26 = 6 := by kernel_rfl
theorem cBool1 : Tryd.prog.cellsOf 4 = 1 := by kernel_rfl
theorem cNat1 : Tryd.prog.cellsOf 22 = 1 := by kernel_rfl
theorem cInt1 : Tryd.prog.cellsOf 3 = 1 := by kernel_rfl
set_option maxRecDepth 100000 in
theorem trod_dyad {w : World} {base : Nat} {spare : Nat → Bool} {held : Bool} {n : Nat} {c0 c1 c2 : Value} {y : DataW H × List MemPlace} (h : DataW.trod enc Tryd.prog w base spare held n 24 [c0, c1, c2] = some y) :
    ∃ (g : Bool) (s : ByteArray) (x : Int), c0 = .bool g ∧ c1 = .string s ∧ c2 = .int .i64 x ∧ y = (dyadD H g s x, []) ∧ s.size ≤ maxLen ∧ (Lit.int .i64 x).wf = true := by
  obtain ⟨y0, y1, y2, m, rfl, _, h0, h1, h2⟩ := trod_struct3 Tryd.underlying24 h
  simp only [cBool1, cNat1, cInt1, List.drop_zero, List.take_succ_cons, List.take_zero, List.drop_succ_cons] at h0 h1 h2
  obtain ⟨g, e0, rfl⟩ := DataW.trod_bool Tryd.underlying4 h0
  obtain ⟨s, e1, rfl, hs⟩ := DataW.trod_string Tryd.underlying22 h1
  obtain ⟨x, e2, rfl, wx⟩ := DataW.trod_int Tryd.underlying3 h2
  simp at e0 e1 e2
  subst e0 e1 e2
  exact ⟨g, s, x, rfl, rfl, rfl, rfl, hs, wx⟩
set_option maxRecDepth 100000 in
theorem open_gauss {w : World} {base : Nat} {spare : Nat → Bool} {held : Bool} {r : Go.Reach} {b0 : Nat} {v : Value} {d : DataW H} {p : List MemPlace}
    (hv : Value.okWide Tryd.prog w r b0 26 v) (h : DataW.Trod enc Tryd.prog w base spare held 26 v d p) :
    ∃ (g : Bool) (s : ByteArray) (x : Int) (k : Bool) (q : ByteArray) (y : Int), v = .agg #[.bool g, .string s, .int .i64 x, .bool k, .string q, .int .i64 y] ∧ d = gaussD H g s x k q y ∧ p = [] ∧ (s.size ≤ maxLen ∧ (Lit.int .i64 x).wf = true) ∧ (q.size ≤ maxLen ∧ (Lit.int .i64 y).wf = true) := by
  obtain ⟨cs, rfl, hsz⟩ := okWide_struct Tryd.underlying26 hv
  obtain ⟨c0, c1, c2, c3, c4, c5, rfl⟩ := array6 (hsz.trans cGauss)
  obtain ⟨fuel, hf⟩ := h
  obtain ⟨y0, y1, n, hx, _, h0, h1⟩ := trod_struct2 Tryd.underlying26 hf
  simp only [Value.cells, cDyad, List.drop_zero, List.take_succ_cons, List.take_zero, List.drop_succ_cons] at h0 h1
  obtain ⟨g, s, x, rfl, rfl, rfl, rfl, hs, wx⟩ := trod_dyad h0
  obtain ⟨k, q, y, rfl, rfl, rfl, rfl, hq, wy⟩ := trod_dyad h1
  simp only [Prod.mk.injEq] at hx
  obtain ⟨hd, hp⟩ := hx
  exact ⟨g, s, x, k, q, y, rfl, hd, hp, ⟨hs, wx⟩, ⟨hq, wy⟩⟩
theorem shut_trod_dyad {W' : World} {b : Nat} {sp : Nat → Bool} {hd : Bool} {g : Bool} {s : ByteArray} {x : Int} (hs : s.size ≤ maxLen) (wx : (Lit.int .i64 x).wf = true) (n : Nat) :
    DataW.trod enc Tryd.prog W' b sp hd (n + 2) 24 [.bool g, .string s, .int .i64 x] = some (dyadD H g s x, []) := by
  have := trod_struct3_mk (enc := enc) (w := W') (base := b) (spare := sp) (held := hd) (n := n + 1) (cs := [.bool g, .string s, .int .i64 x]) (y0 := (.lit (.bool g), [])) (y1 := (.lit (.string s.data.toList), [])) (y2 := (.lit (.int .i64 x), [])) Tryd.underlying24 (by rw [cDyad]; rfl)
    (by simp [cBool1, DataW.trod, Tryd.underlying4]) (by simp [cNat1, DataW.trod, Tryd.underlying22, hs]) (by simp [cInt1, DataW.trod, Tryd.underlying3, wx])
  simpa [dyadD] using this
set_option maxRecDepth 100000 in
theorem shut_gauss {W' : World} {b : Nat} {sp : Nat → Bool} {hd : Bool} {g : Bool} {s : ByteArray} {x : Int} {k : Bool} {q : ByteArray} {y : Int} (h1 : s.size ≤ maxLen ∧ (Lit.int .i64 x).wf = true) (h2 : q.size ≤ maxLen ∧ (Lit.int .i64 y).wf = true) :
    DataW.Trod enc Tryd.prog W' b sp hd 26 (.agg #[.bool g, .string s, .int .i64 x, .bool k, .string q, .int .i64 y]) (gaussD H g s x k q y) [] := by
  refine ⟨3, ?_⟩
  have := trod_struct2_mk (enc := enc) (w := W') (base := b) (spare := sp) (held := hd) (n := 2) (cs := [.bool g, .string s, .int .i64 x, .bool k, .string q, .int .i64 y]) (y0 := (dyadD H g s x, [])) (y1 := (dyadD H k q y, [])) Tryd.underlying26 (by rw [cGauss]; rfl)
    (by simp only [cDyad, List.drop_zero, List.take_succ_cons, List.take_zero, List.drop_succ_cons]; exact shut_trod_dyad h1.1 h1.2 0) (by simp only [cDyad, List.drop_zero, List.take_succ_cons, List.take_zero, List.drop_succ_cons]; exact shut_trod_dyad h2.1 h2.2 0)
  simpa [gaussD, Value.cells] using this
end Go.Proofs.YtciidbldnjfooaaDoor
set_option linter.unusedVariables false
set_option linter.unusedSimpArgs false
namespace Go.Proofs.YtciidbldnjfooaaDoor
open Go Go.RowKit Nt

/-- The unit. -/
@[irreducible] def KK : Int := 2 ^ EE
theorem KK_eq : KK = 2 ^ EE := by unfold KK; rfl
theorem KK_pos : 0 < KK := by rw [KK_eq]; exact Int.pow_pos (by decide)
theorem KK_ne : KK ≠ 0 := by have := KK_pos; omega
theorem iv_mulK {a b : Dy} (ha : a.Ok) (hb : b.Ok) (h : mulE a b = 0) : iv (mulD a b) * KK = iv a * iv b := by rw [KK_eq]; exact iv_mul ha hb h
theorem cancK {x y : Int} (h : x * KK = y * KK) : x = y := Int.eq_of_mul_eq_mul_right KK_ne h
theorem two_iv {a b c d : Dy} (ha : a.Ok) (hb : b.Ok) (hc : c.Ok) (hd : d.Ok) (h : All0 (twoL a b c d)) : iv (twoD a b c d) * KK = iv a * iv b + iv c * iv d := by
  obtain ⟨h1, h2, h3, _⟩ := h
  show iv (addD (mulD a b) (mulD c d)) * KK = _
  rw [iv_add (mulD_Ok _ _) (mulD_Ok _ _) h3, Int.add_mul, iv_mulK ha hb h1, iv_mulK hc hd h2]
theorem les_iv {a b c d : Dy} (ha : a.Ok) (hb : b.Ok) (hc : c.Ok) (hd : d.Ok) (h : All0 (lesL a b c d)) : iv (lesD a b c d) * KK = iv a * iv b - iv c * iv d := by
  obtain ⟨h1, h2, h3, _⟩ := h
  show iv (addD (mulD a b) (negD (mulD c d))) * KK = _
  rw [iv_add (mulD_Ok _ _) (negD_Ok (mulD_Ok _ _)) h3, iv_neg, Int.add_mul, Int.neg_mul, iv_mulK ha hb h1, iv_mulK hc hd h2]
  rfl
theorem all_app {l m : List Int} : All0 (l ++ m) ↔ All0 l ∧ All0 m := by
  induction l with
  | nil => simp [All0]
  | cons t l ih => simp [All0, ih, and_assoc]
theorem er0 {l : List Int} (h : erI l = 0) : All0 l := erI_zero.1 h
theorem gadd_eq {a b : Gs} (h : gaddE a b = 0) : gaddD a b = ⟨addD a.re b.re, addD a.im b.im⟩ ∧ addE a.re b.re = 0 ∧ addE a.im b.im = 0 := by
  have h1 := er0 h
  exact ⟨erG_ok h1, h1.1, h1.2.1⟩
theorem gadd_iv {a b : Gs} (ha : a.Ok) (hb : b.Ok) (h : gaddE a b = 0) : iv (gaddD a b).re = iv a.re + iv b.re ∧ iv (gaddD a b).im = iv a.im + iv b.im := by
  obtain ⟨e, h1, h2⟩ := gadd_eq h
  rw [e]
  exact ⟨iv_add ha.1 hb.1 h1, iv_add ha.2 hb.2 h2⟩
theorem gmul_iv {a b : Gs} (ha : a.Ok) (hb : b.Ok) (h : gmulE a b = 0) : iv (gmulD a b).re * KK = iv a.re * iv b.re - iv a.im * iv b.im ∧ iv (gmulD a b).im * KK = iv a.re * iv b.im + iv a.im * iv b.re := by
  have h1 := er0 h
  have e : gmulD a b = ⟨lesD a.re b.re a.im b.im, twoD a.re b.im a.im b.re⟩ := erG_ok h1
  obtain ⟨h2, h3⟩ := all_app.1 h1
  rw [e]
  exact ⟨les_iv ha.1 hb.1 ha.2 hb.2 h2, two_iv ha.1 hb.2 ha.2 hb.1 h3⟩
theorem dot_iv {a b : Gs} (ha : a.Ok) (hb : b.Ok) (h : dotE a b = 0) : iv (dotD a b) * KK = iv a.re * iv b.re + iv a.im * iv b.im := by
  have h1 := er0 h
  rw [show dotD a b = twoD a.re b.re a.im b.im from erD_ok h1]
  exact two_iv ha.1 hb.1 ha.2 hb.2 h1
theorem cross_iv {a b : Gs} (ha : a.Ok) (hb : b.Ok) (h : crossE a b = 0) : iv (crossD a b) * KK = iv a.re * iv b.im - iv a.im * iv b.re := by
  have h1 := er0 h
  rw [show crossD a b = lesD a.re b.im a.im b.re from erD_ok h1]
  exact les_iv ha.1 hb.2 ha.2 hb.1 h1
theorem gs_inj {a b : Gs} (ha : a.Ok) (hb : b.Ok) (h1 : iv a.re = iv b.re) (h2 : iv a.im = iv b.im) : a = b := by
  obtain ⟨r, i⟩ := a
  obtain ⟨r', i'⟩ := b
  have e1 : r = r' := iv_inj ha.1 hb.1 h1
  have e2 : i = i' := iv_inj ha.2 hb.2 h2
  rw [e1, e2]
theorem er_congr {l m : List Int} {x y : Gs} (h : All0 l ↔ All0 m) (hx : x = y) : erG l x = erG m y ∧ erI l = erI m := by
  subst hx
  by_cases c : All0 l
  · rw [erG_ok c, erG_ok (h.1 c), erI_ok c, erI_ok (h.1 c)]; exact ⟨rfl, rfl⟩
  · rw [erG_no c, erG_no (fun d => c (h.2 d)), erI_no c, erI_no (fun d => c (h.2 d))]; exact ⟨rfl, rfl⟩
theorem gadd_comm {a b : Gs} (ha : a.Ok) (hb : b.Ok) : gaddD a b = gaddD b a ∧ gaddE a b = gaddE b a := by
  have h1 := add_comm3 ha.1 hb.1
  have h2 := add_comm3 ha.2 hb.2
  unfold gaddD gaddE gaddL
  rw [h1.1, h1.2, h2.1, h2.2]
  exact ⟨rfl, rfl⟩
theorem gmul_comm {a b : Gs} (ha : a.Ok) (hb : b.Ok) : gmulD a b = gmulD b a ∧ gmulE a b = gmulE b a := by
  have h1 := mul_comm3 ha.1 hb.1
  have h2 := mul_comm3 ha.2 hb.2
  have h3 := mul_comm3 ha.1 hb.2
  have h4 := mul_comm3 ha.2 hb.1
  have h5 := add_comm3 (mulD_Ok b.im a.re) (mulD_Ok b.re a.im)
  unfold gmulD gmulE
  refine er_congr ?_ ?_
  · unfold gmulL lesL twoL
    rw [h1.1, h1.2, h2.1, h2.2, h3.1, h3.2, h4.1, h4.2, h5.2]
    simp only [List.cons_append, List.nil_append, All0]
    constructor
    · rintro ⟨a1, a2, a3, a4, a5, a6, _⟩; exact ⟨a1, a2, a3, a5, a4, a6, trivial⟩
    · rintro ⟨a1, a2, a3, a4, a5, a6, _⟩; exact ⟨a1, a2, a3, a5, a4, a6, trivial⟩
  · unfold lesD twoD
    rw [h1.1, h2.1, h3.1, h4.1, h5.1]
theorem gmul_assoc {a b c : Gs} (ha : a.Ok) (hb : b.Ok) (hc : c.Ok) (h1 : gmulE a b = 0) (h2 : gmulE (gmulD a b) c = 0) (h3 : gmulE b c = 0) (h4 : gmulE a (gmulD b c) = 0) : gmulD (gmulD a b) c = gmulD a (gmulD b c) := by
  obtain ⟨a1, a2⟩ := gmul_iv ha hb h1
  obtain ⟨b1, b2⟩ := gmul_iv (gmulD_Ok a b) hc h2
  obtain ⟨c1, c2⟩ := gmul_iv hb hc h3
  obtain ⟨d1, d2⟩ := gmul_iv ha (gmulD_Ok b c) h4
  refine gs_inj (gmulD_Ok _ _) (gmulD_Ok _ _) ?_ ?_
  · apply cancK; apply cancK
    generalize KK = K at *
    grind
  · apply cancK; apply cancK
    generalize KK = K at *
    grind
theorem gdistr {a b c : Gs} (ha : a.Ok) (hb : b.Ok) (hc : c.Ok) (h1 : gaddE a b = 0) (h2 : gmulE (gaddD a b) c = 0) (h3 : gmulE a c = 0) (h4 : gmulE b c = 0) (h5 : gaddE (gmulD a c) (gmulD b c) = 0) : gmulD (gaddD a b) c = gaddD (gmulD a c) (gmulD b c) := by
  obtain ⟨a1, a2⟩ := gadd_iv ha hb h1
  obtain ⟨b1, b2⟩ := gmul_iv (gaddD_Ok ha hb) hc h2
  obtain ⟨c1, c2⟩ := gmul_iv ha hc h3
  obtain ⟨d1, d2⟩ := gmul_iv hb hc h4
  obtain ⟨e1, e2⟩ := gadd_iv (gmulD_Ok a c) (gmulD_Ok b c) h5
  refine gs_inj (gmulD_Ok _ _) (gaddD_Ok (gmulD_Ok _ _) (gmulD_Ok _ _)) ?_ ?_
  · apply cancK
    generalize KK = K at *
    grind
  · apply cancK
    generalize KK = K at *
    grind
def Gs.i : Gs := ⟨Dy.zero, Dy.one⟩
theorem Gs.i_Ok : Gs.i.Ok := ⟨Or.inl rfl, Dy.one_Ok⟩
theorem iv_one : iv Dy.one = KK := by
  rw [KK_eq]
  show sgnd false (1 * 2 ^ ((0 : Int) + EE).toNat) = _
  rw [sgnd_f, Int.zero_add, Int.toNat_natCast, Nat.one_mul, Int.natCast_pow]; rfl
theorem gturn {a : Gs} (ha : a.Ok) (h : gmulE a Gs.i = 0) : turnG a = gmulD a Gs.i := by
  obtain ⟨a1, a2⟩ := gmul_iv ha Gs.i_Ok h
  have z1 : iv Gs.i.re = 0 := iv_zero
  have z2 : iv Gs.i.im = KK := iv_one
  rw [z1, z2] at a1 a2
  refine gs_inj (turnG_Ok ha) (gmulD_Ok _ _) ?_ ?_
  · apply cancK
    rw [a1]
    show iv (negD a.im) * KK = _
    rw [iv_neg]
    generalize KK = K at *
    grind
  · apply cancK
    rw [a2]
    show iv a.re * KK = _
    generalize KK = K at *
    grind
theorem neg_neg3 {d : Dy} (h : d.Ok) : negD (negD d) = d := iv_inj (negD_Ok (negD_Ok h)) h (by rw [iv_neg, iv_neg]; omega)
theorem gconj2 {a : Gs} (ha : a.Ok) : conjG (conjG a) = a := by
  obtain ⟨r, i⟩ := a
  show Gs.mk r (negD (negD i)) = _
  have e : negD (negD i) = i := neg_neg3 ha.2
  rw [e]
theorem gconj_mul {a b : Gs} (ha : a.Ok) (hb : b.Ok) (h1 : gmulE a b = 0) (h2 : gmulE (conjG a) (conjG b) = 0) : gmulD (conjG a) (conjG b) = conjG (gmulD a b) := by
  obtain ⟨a1, a2⟩ := gmul_iv ha hb h1
  obtain ⟨b1, b2⟩ := gmul_iv (conjG_Ok ha) (conjG_Ok hb) h2
  have c1 : iv (conjG a).im = - iv a.im := iv_neg _
  have c2 : iv (conjG b).im = - iv b.im := iv_neg _
  have c3 : iv (conjG a).re = iv a.re := rfl
  have c4 : iv (conjG b).re = iv b.re := rfl
  rw [c1, c2, c3, c4] at b1 b2
  refine gs_inj (gmulD_Ok _ _) (conjG_Ok (gmulD_Ok _ _)) ?_ ?_
  · apply cancK
    show _ = iv (gmulD a b).re * KK
    generalize KK = K at *
    grind
  · apply cancK
    show _ = iv (negD (gmulD a b).im) * KK
    rw [iv_neg]
    generalize KK = K at *
    grind
/-- Norms, dots and crosses. -/
theorem norm_mul {a b : Gs} (ha : a.Ok) (hb : b.Ok) (h1 : gmulE a b = 0) (h2 : dotE (gmulD a b) (gmulD a b) = 0) (h3 : dotE a a = 0) (h4 : dotE b b = 0) (h5 : mulE (dotD a a) (dotD b b) = 0) : dotD (gmulD a b) (gmulD a b) = mulD (dotD a a) (dotD b b) := by
  obtain ⟨a1, a2⟩ := gmul_iv ha hb h1
  have b1 := dot_iv (gmulD_Ok a b) (gmulD_Ok a b) h2
  have c1 := dot_iv ha ha h3
  have d1 := dot_iv hb hb h4
  have e1 := iv_mulK (dotD_Ok a a) (dotD_Ok b b) h5
  refine iv_inj (dotD_Ok _ _) (mulD_Ok _ _) ?_
  apply cancK; apply cancK; apply cancK
  generalize KK = K at *
  grind
theorem conj_parts {a b : Gs} (ha : a.Ok) (hb : b.Ok) (h1 : dotE a b = 0) (h2 : crossE a b = 0) (h3 : gmulE (conjG a) b = 0) : gmulD (conjG a) b = ⟨dotD a b, crossD a b⟩ := by
  obtain ⟨a1, a2⟩ := gmul_iv (conjG_Ok ha) hb h3
  have b1 := dot_iv ha hb h1
  have c1 := cross_iv ha hb h2
  have d1 : iv (conjG a).im = - iv a.im := iv_neg _
  have d2 : iv (conjG a).re = iv a.re := rfl
  rw [d1, d2] at a1 a2
  refine gs_inj (gmulD_Ok _ _) ⟨dotD_Ok a b, crossD_Ok a b⟩ ?_ ?_
  · apply cancK
    show _ = iv (dotD a b) * KK
    generalize KK = K at *
    grind
  · apply cancK
    show _ = iv (crossD a b) * KK
    generalize KK = K at *
    grind
theorem squares {a b : Gs} (ha : a.Ok) (hb : b.Ok) (h1 : dotE a b = 0) (h2 : crossE a b = 0) (h3 : mulE (dotD a b) (dotD a b) = 0) (h4 : mulE (crossD a b) (crossD a b) = 0) (h5 : addE (mulD (dotD a b) (dotD a b)) (mulD (crossD a b) (crossD a b)) = 0)
    (h6 : dotE a a = 0) (h7 : dotE b b = 0) (h8 : mulE (dotD a a) (dotD b b) = 0) : addD (mulD (dotD a b) (dotD a b)) (mulD (crossD a b) (crossD a b)) = mulD (dotD a a) (dotD b b) := by
  have a1 := dot_iv ha hb h1
  have a2 := cross_iv ha hb h2
  have a3 := iv_mulK (dotD_Ok a b) (dotD_Ok a b) h3
  have a4 := iv_mulK (crossD_Ok a b) (crossD_Ok a b) h4
  have a5 := iv_add (mulD_Ok (dotD a b) (dotD a b)) (mulD_Ok (crossD a b) (crossD a b)) h5
  have a6 := dot_iv ha ha h6
  have a7 := dot_iv hb hb h7
  have a8 := iv_mulK (dotD_Ok a a) (dotD_Ok b b) h8
  refine iv_inj (add_Ok (mulD_Ok _ _) (mulD_Ok _ _)) (mulD_Ok _ _) ?_
  rw [a5]
  apply cancK; apply cancK; apply cancK
  generalize KK = K at *
  grind
end Go.Proofs.YtciidbldnjfooaaDoor
set_option linter.unusedVariables false
set_option linter.unusedSimpArgs false
namespace Go.Proofs.YtciidbldnjfooaaDoor
open Go Go.RowKit

set_option maxRecDepth 100000 in
set_option maxHeartbeats 1000000 in
theorem lAll06_c (A : Nat) (c : Nat) (l : List Int) (w : World) (hl : l.length ≤ 9223372036854775807) (h : Ers w A l) :
    Calls Tryd.prog 20 #[.slice (some ⟨A, 0, none⟩) l.length c] w fun e w' => e = .returned (.bool (allB l)) ∧ Below w.heap.size w w' := by
  have HD := Lib.hid h
  clear h
  go_enter Tryd.func20, Tryd.ntmps20
  go_wp2
  go_loopw [3] (fun i wr => ∃ k : Nat, k ≤ l.length ∧ i = .int .i64 k ∧ Hid (∀ j (h : j < l.length), j < k → l[j] = 0) ∧ Below w.heap.size w wr) (fun i _ => l.length - (intOf i).toNat)
  case atStart => exact ⟨0, Nat.zero_le _, rfl, Lib.hid (fun j _ h => by omega), Below.refl _ _⟩
  case round =>
    obtain ⟨k, hk, rfl, hok, hb⟩ := hrel
    by_cases hlt : k < l.length
    · have c1 := (HD.out.below hb).2 k hlt
      by_cases hok1 : l[k] = 0
      · have HOK := Lib.hid (show ∀ j (h : j < l.length), j < k + 1 → l[j] = 0 from fun j hj h2 => by
          rcases Nat.lt_or_ge j k with h3 | h3
          · exact hok.out j hj h3
          · obtain rfl : j = k := by omega
            exact hok1)
        rw [hok1] at c1
        clear hok1
        go_wp2_with fail
        go_roundw
        case rel => exact ⟨k + 1, by omega, by go_num, HOK, hb⟩
        case measure => simp [intOf]; omega
      · have HE := Lib.hid (allB_no (l := l) (List.getElem_mem hlt) hok1)
        generalize l[k] = q at *
        have hq : (q == 0) = false := by simpa using hok1
        go_wp2_with fail
        go_ret
        exact ⟨by rw [HE.out]; rfl, hb⟩
    · have HE := Lib.hid (allB_ok (l := l) (fun t ht => by
        obtain ⟨j, hj, rfl⟩ := List.getElem_of_mem ht
        exact hok.out j hj (by omega)))
      go_wp2_with fail
      go_ret
      exact ⟨by rw [HE.out]; rfl, hb⟩
theorem lAll06_i (b c : Nat) (l : List Int) (w : World) (hl : l.length ≤ 9223372036854775807) (he : Ers w b l) {d : Bool} (h : d = true ↔ allB l = true) : Calls Tryd.prog 20 #[.slice (some ⟨b, 0, none⟩) l.length c] w fun e w' => e = .returned (.bool d) ∧ Below w.heap.size w w' := by
  have := lAll06_c b c l w hl he
  rwa [← show d = allB l from by rw [Bool.eq_iff_iff]; exact h] at this
theorem lAll06_t (b c : Nat) (l : List Int) (w : World) (hl : l.length ≤ 9223372036854775807) (he : Ers w b l) (h : allB l = true) : Calls Tryd.prog 20 #[.slice (some ⟨b, 0, none⟩) l.length c] w fun e w' => e = .returned (.bool true) ∧ Below w.heap.size w w' := by
  have := lAll06_c b c l w hl he
  rwa [h] at this
theorem lAll06_f (b c : Nat) (l : List Int) (w : World) (hl : l.length ≤ 9223372036854775807) (he : Ers w b l) (h : ¬ allB l = true) : Calls Tryd.prog 20 #[.slice (some ⟨b, 0, none⟩) l.length c] w fun e w' => e = .returned (.bool false) ∧ Below w.heap.size w w' := by
  have := lAll06_c b c l w hl he
  rwa [Bool.eq_false_iff.2 h] at this
end Go.Proofs.YtciidbldnjfooaaDoor
set_option linter.unusedVariables false
set_option linter.unusedSimpArgs false
namespace Go.Proofs.YtciidbldnjfooaaDoor
open Go Go.RowKit Nt


theorem DSub_z (a : Dy) (w : World) (ha : a.Ok) (hG : Globs glT w) : Calls Tryd.prog 63 #[.agg #[.bool a.g, .string (natS a.n), .int .i64 a.x], .agg #[.bool Dy.zero.g, .string (natS Dy.zero.n), .int .i64 Dy.zero.x]] w fun e w' => e = .returned (.tuple #[a.v, .int .i64 0]) ∧ Below w.heap.size w w' := by
  have h := DSub_c a Dy.zero w ha (Or.inl rfl) hG
  unfold AddPost at h
  rw [negD_zero] at h
  have e : addD a Dy.zero = a ∧ addE a Dy.zero = 0 := by
    by_cases h0 : a.n = 0
    · rw [(add_zl h0).1, (add_zl h0).2]
      rcases ha with rfl | ha
      · exact ⟨rfl, rfl⟩
      · exact absurd h0 (odd_ne ha.2.1)
    · exact add_zr h0 rfl
  rwa [e.1, e.2] at h

@[reducible] noncomputable def GNorm_c_k1 : Know := ⟨[([0, 12, 27], [.sym 15, .lit (.int .i64 0)], .lit (.bool false)),
  ([0, 12, 27], [.sym 19, .lit (.int .i64 0)], .lit (.bool false)),
  ([0, 12, 27], [.sym 23, .lit (.int .i64 0)], .lit (.bool false))],
  [(21, [.agg [.sym 0, .sym 1, .sym 2, .sym 3, .sym 4, .sym 5]], .lit (.int .i64 0)),
  (63, [.agg [.sym 0, .sym 1, .sym 2], .lit (.agg #[.bool false, .string ⟨#[]⟩, .int .i64 0])], .tup [.agg [.sym 6, .sym 7, .sym 8], .lit (.int .i64 0)]),
  (63, [.agg [.sym 3, .sym 4, .sym 5], .lit (.agg #[.bool false, .string ⟨#[]⟩, .int .i64 0])], .tup [.agg [.sym 9, .sym 10, .sym 11], .lit (.int .i64 0)]),
  (26, [.agg [.sym 6, .sym 7, .sym 8], .agg [.sym 6, .sym 7, .sym 8]], .tup [.agg [.sym 12, .sym 13, .sym 14], .sym 15]),
  (26, [.agg [.sym 9, .sym 10, .sym 11], .agg [.sym 9, .sym 10, .sym 11]], .tup [.agg [.sym 16, .sym 17, .sym 18], .sym 19]),
  (29, [.agg [.sym 12, .sym 13, .sym 14], .agg [.sym 16, .sym 17, .sym 18]], .tup [.agg [.sym 20, .sym 21, .sym 22], .sym 23])]⟩
theorem GNorm_c_r1 : @comes GNorm_c_k1 Tryd.prog glT 3000 25 [.agg [.sym 0, .sym 1, .sym 2, .sym 3, .sym 4, .sym 5]] = some (.tup [.agg [.sym 20, .sym 21, .sym 22], .lit (.int .i64 0)]) := by kernel_rfl
@[reducible] noncomputable def GNorm_c_k2 : Know := ⟨[([0, 12, 27], [.sym 15, .lit (.int .i64 0)], .lit (.bool false)),
  ([0, 12, 27], [.sym 19, .lit (.int .i64 0)], .lit (.bool false)),
  ([0, 12, 27], [.sym 23, .lit (.int .i64 0)], .lit (.bool true))],
  [(21, [.agg [.sym 0, .sym 1, .sym 2, .sym 3, .sym 4, .sym 5]], .lit (.int .i64 0)),
  (63, [.agg [.sym 0, .sym 1, .sym 2], .lit (.agg #[.bool false, .string ⟨#[]⟩, .int .i64 0])], .tup [.agg [.sym 6, .sym 7, .sym 8], .lit (.int .i64 0)]),
  (63, [.agg [.sym 3, .sym 4, .sym 5], .lit (.agg #[.bool false, .string ⟨#[]⟩, .int .i64 0])], .tup [.agg [.sym 9, .sym 10, .sym 11], .lit (.int .i64 0)]),
  (26, [.agg [.sym 6, .sym 7, .sym 8], .agg [.sym 6, .sym 7, .sym 8]], .tup [.agg [.sym 12, .sym 13, .sym 14], .sym 15]),
  (26, [.agg [.sym 9, .sym 10, .sym 11], .agg [.sym 9, .sym 10, .sym 11]], .tup [.agg [.sym 16, .sym 17, .sym 18], .sym 19]),
  (29, [.agg [.sym 12, .sym 13, .sym 14], .agg [.sym 16, .sym 17, .sym 18]], .tup [.agg [.sym 20, .sym 21, .sym 22], .sym 23])]⟩
theorem GNorm_c_r2 : @comes GNorm_c_k2 Tryd.prog glT 3000 25 [.agg [.sym 0, .sym 1, .sym 2, .sym 3, .sym 4, .sym 5]] = some (.tup [.lit (.agg #[.bool false, .string ⟨#[]⟩, .int .i64 0]), .sym 23]) := by kernel_rfl
@[reducible] noncomputable def GNorm_c_k3 : Know := ⟨[([0, 12, 27], [.sym 15, .lit (.int .i64 0)], .lit (.bool false)),
  ([0, 12, 27], [.sym 19, .lit (.int .i64 0)], .lit (.bool true))],
  [(21, [.agg [.sym 0, .sym 1, .sym 2, .sym 3, .sym 4, .sym 5]], .lit (.int .i64 0)),
  (63, [.agg [.sym 0, .sym 1, .sym 2], .lit (.agg #[.bool false, .string ⟨#[]⟩, .int .i64 0])], .tup [.agg [.sym 6, .sym 7, .sym 8], .lit (.int .i64 0)]),
  (63, [.agg [.sym 3, .sym 4, .sym 5], .lit (.agg #[.bool false, .string ⟨#[]⟩, .int .i64 0])], .tup [.agg [.sym 9, .sym 10, .sym 11], .lit (.int .i64 0)]),
  (26, [.agg [.sym 6, .sym 7, .sym 8], .agg [.sym 6, .sym 7, .sym 8]], .tup [.agg [.sym 12, .sym 13, .sym 14], .sym 15]),
  (26, [.agg [.sym 9, .sym 10, .sym 11], .agg [.sym 9, .sym 10, .sym 11]], .tup [.agg [.sym 16, .sym 17, .sym 18], .sym 19])]⟩
theorem GNorm_c_r3 : @comes GNorm_c_k3 Tryd.prog glT 3000 25 [.agg [.sym 0, .sym 1, .sym 2, .sym 3, .sym 4, .sym 5]] = some (.tup [.lit (.agg #[.bool false, .string ⟨#[]⟩, .int .i64 0]), .sym 19]) := by kernel_rfl
@[reducible] noncomputable def GNorm_c_k4 : Know := ⟨[([0, 12, 27], [.sym 15, .lit (.int .i64 0)], .lit (.bool true))],
  [(21, [.agg [.sym 0, .sym 1, .sym 2, .sym 3, .sym 4, .sym 5]], .lit (.int .i64 0)),
  (63, [.agg [.sym 0, .sym 1, .sym 2], .lit (.agg #[.bool false, .string ⟨#[]⟩, .int .i64 0])], .tup [.agg [.sym 6, .sym 7, .sym 8], .lit (.int .i64 0)]),
  (63, [.agg [.sym 3, .sym 4, .sym 5], .lit (.agg #[.bool false, .string ⟨#[]⟩, .int .i64 0])], .tup [.agg [.sym 9, .sym 10, .sym 11], .lit (.int .i64 0)]),
  (26, [.agg [.sym 6, .sym 7, .sym 8], .agg [.sym 6, .sym 7, .sym 8]], .tup [.agg [.sym 12, .sym 13, .sym 14], .sym 15])]⟩
theorem GNorm_c_r4 : @comes GNorm_c_k4 Tryd.prog glT 3000 25 [.agg [.sym 0, .sym 1, .sym 2, .sym 3, .sym 4, .sym 5]] = some (.tup [.lit (.agg #[.bool false, .string ⟨#[]⟩, .int .i64 0]), .sym 15]) := by kernel_rfl

set_option maxRecDepth 100000 in
theorem GNorm_c (a : Gs) (w : World) (ha : a.Ok) (hG : Globs glT w) : Calls Tryd.prog 25 #[.agg #[.bool a.re.g, .string (natS a.re.n), .int .i64 a.re.x, .bool a.im.g, .string (natS a.im.n), .int .i64 a.im.x]] w fun e w' => e = .returned (.tuple #[(dotD a a).v, .int .i64 (dotE a a)]) ∧ Below w.heap.size w w' := by
  by_cases h1 : mulE a.re a.re = 0
  · by_cases h2 : mulE a.im a.im = 0
    · by_cases h3 : addE (mulD a.re a.re) (mulD a.im a.im) = 0
      · letI : Env := mkEnv glT [.bool a.re.g, .string (natS a.re.n), .int .i64 a.re.x, .bool a.im.g, .string (natS a.im.n), .int .i64 a.im.x, .bool a.re.g, .string (natS a.re.n), .int .i64 a.re.x, .bool a.im.g, .string (natS a.im.n), .int .i64 a.im.x, .bool (mulD a.re a.re).g, .string (natS (mulD a.re a.re).n), .int .i64 (mulD a.re a.re).x, .int .i64 (mulE a.re a.re), .bool (mulD a.im a.im).g, .string (natS (mulD a.im a.im).n), .int .i64 (mulD a.im a.im).x, .int .i64 (mulE a.im a.im), .bool (addD (mulD a.re a.re) (mulD a.im a.im)).g, .string (natS (addD (mulD a.re a.re) (mulD a.im a.im)).n), .int .i64 (addD (mulD a.re a.re) (mulD a.im a.im)).x, .int .i64 (addE (mulD a.re a.re) (mulD a.im a.im))] rfl
        have hops : OpsT Tryd.prog (@Know.ops GNorm_c_k1) := ⟨opt_neq_f rfl rfl h1, opt_neq_f rfl rfl h2, opt_neq_f rfl rfl h3, trivial⟩
        have hcalls : CallsT Tryd.prog (@Know.calls GNorm_c_k1) := ⟨callt rfl rfl fun w hG => GCheck_gs a ha w hG, callt rfl rfl fun w hG => (by have h := DSub_z a.re w ha.1 hG; rw [natS_dz] at h; exact h), callt rfl rfl fun w hG => (by have h := DSub_z a.im w ha.2 hG; rw [natS_dz] at h; exact h), callt rfl rfl fun w hG => DMul_c a.re a.re w ha.1 ha.1, callt rfl rfl fun w hG => DMul_c a.im a.im w ha.2 ha.2, callt rfl rfl fun w hG => DAdd_c (mulD a.re a.re) (mulD a.im a.im) w (mulD_Ok a.re a.re) (mulD_Ok a.im a.im) hG, trivial⟩
        exact (@sym_ok _ GNorm_c_k1 _ (@KnowOk.of _ GNorm_c_k1 _ hops hcalls) (by kernel_rfl) _ _ _ _ GNorm_c_r1 rfl rfl _ hG).mono fun e w' h => ⟨h.1.trans (show Ending.returned (.tuple #[.agg #[.bool (addD (mulD a.re a.re) (mulD a.im a.im)).g, .string (natS (addD (mulD a.re a.re) (mulD a.im a.im)).n), .int .i64 (addD (mulD a.re a.re) (mulD a.im a.im)).x], .int .i64 0]) = .returned (.tuple #[(dotD a a).v, .int .i64 (dotE a a)]) from by rw [show dotD a a = _ from erD_ok (l := twoL a.re a.re a.im a.im) (show All0 (twoL a.re a.re a.im a.im) from ⟨h1, h2, h3, trivial⟩), show dotE a a = 0 from erI_ok (l := twoL a.re a.re a.im a.im) (show All0 (twoL a.re a.re a.im a.im) from ⟨h1, h2, h3, trivial⟩)]; rfl), h.2⟩
      · letI : Env := mkEnv glT [.bool a.re.g, .string (natS a.re.n), .int .i64 a.re.x, .bool a.im.g, .string (natS a.im.n), .int .i64 a.im.x, .bool a.re.g, .string (natS a.re.n), .int .i64 a.re.x, .bool a.im.g, .string (natS a.im.n), .int .i64 a.im.x, .bool (mulD a.re a.re).g, .string (natS (mulD a.re a.re).n), .int .i64 (mulD a.re a.re).x, .int .i64 (mulE a.re a.re), .bool (mulD a.im a.im).g, .string (natS (mulD a.im a.im).n), .int .i64 (mulD a.im a.im).x, .int .i64 (mulE a.im a.im), .bool (addD (mulD a.re a.re) (mulD a.im a.im)).g, .string (natS (addD (mulD a.re a.re) (mulD a.im a.im)).n), .int .i64 (addD (mulD a.re a.re) (mulD a.im a.im)).x, .int .i64 (addE (mulD a.re a.re) (mulD a.im a.im))] rfl
        have hops : OpsT Tryd.prog (@Know.ops GNorm_c_k2) := ⟨opt_neq_f rfl rfl h1, opt_neq_f rfl rfl h2, opt_neq_t rfl rfl h3, trivial⟩
        have hcalls : CallsT Tryd.prog (@Know.calls GNorm_c_k2) := ⟨callt rfl rfl fun w hG => GCheck_gs a ha w hG, callt rfl rfl fun w hG => (by have h := DSub_z a.re w ha.1 hG; rw [natS_dz] at h; exact h), callt rfl rfl fun w hG => (by have h := DSub_z a.im w ha.2 hG; rw [natS_dz] at h; exact h), callt rfl rfl fun w hG => DMul_c a.re a.re w ha.1 ha.1, callt rfl rfl fun w hG => DMul_c a.im a.im w ha.2 ha.2, callt rfl rfl fun w hG => DAdd_c (mulD a.re a.re) (mulD a.im a.im) w (mulD_Ok a.re a.re) (mulD_Ok a.im a.im) hG, trivial⟩
        exact (@sym_ok _ GNorm_c_k2 _ (@KnowOk.of _ GNorm_c_k2 _ hops hcalls) (by kernel_rfl) _ _ _ _ GNorm_c_r2 rfl rfl _ hG).mono fun e w' h => ⟨h.1.trans (show Ending.returned (.tuple #[.agg #[.bool false, .string ⟨#[]⟩, .int .i64 0], .int .i64 (addE (mulD a.re a.re) (mulD a.im a.im))]) = .returned (.tuple #[(dotD a a).v, .int .i64 (dotE a a)]) from by rw [show dotD a a = _ from erD_no (l := twoL a.re a.re a.im a.im) (show ¬ All0 (twoL a.re a.re a.im a.im) from (fun c => h3 c.2.2.1)), show dotE a a = 4 from erI_no (l := twoL a.re a.re a.im a.im) (show ¬ All0 (twoL a.re a.re a.im a.im) from (fun c => h3 c.2.2.1)), Dy.zero_v, addE4 h3]), h.2⟩
    · letI : Env := mkEnv glT [.bool a.re.g, .string (natS a.re.n), .int .i64 a.re.x, .bool a.im.g, .string (natS a.im.n), .int .i64 a.im.x, .bool a.re.g, .string (natS a.re.n), .int .i64 a.re.x, .bool a.im.g, .string (natS a.im.n), .int .i64 a.im.x, .bool (mulD a.re a.re).g, .string (natS (mulD a.re a.re).n), .int .i64 (mulD a.re a.re).x, .int .i64 (mulE a.re a.re), .bool (mulD a.im a.im).g, .string (natS (mulD a.im a.im).n), .int .i64 (mulD a.im a.im).x, .int .i64 (mulE a.im a.im)] rfl
      have hops : OpsT Tryd.prog (@Know.ops GNorm_c_k3) := ⟨opt_neq_f rfl rfl h1, opt_neq_t rfl rfl h2, trivial⟩
      have hcalls : CallsT Tryd.prog (@Know.calls GNorm_c_k3) := ⟨callt rfl rfl fun w hG => GCheck_gs a ha w hG, callt rfl rfl fun w hG => (by have h := DSub_z a.re w ha.1 hG; rw [natS_dz] at h; exact h), callt rfl rfl fun w hG => (by have h := DSub_z a.im w ha.2 hG; rw [natS_dz] at h; exact h), callt rfl rfl fun w hG => DMul_c a.re a.re w ha.1 ha.1, callt rfl rfl fun w hG => DMul_c a.im a.im w ha.2 ha.2, trivial⟩
      exact (@sym_ok _ GNorm_c_k3 _ (@KnowOk.of _ GNorm_c_k3 _ hops hcalls) (by kernel_rfl) _ _ _ _ GNorm_c_r3 rfl rfl _ hG).mono fun e w' h => ⟨h.1.trans (show Ending.returned (.tuple #[.agg #[.bool false, .string ⟨#[]⟩, .int .i64 0], .int .i64 (mulE a.im a.im)]) = .returned (.tuple #[(dotD a a).v, .int .i64 (dotE a a)]) from by rw [show dotD a a = _ from erD_no (l := twoL a.re a.re a.im a.im) (show ¬ All0 (twoL a.re a.re a.im a.im) from (fun c => h2 c.2.1)), show dotE a a = 4 from erI_no (l := twoL a.re a.re a.im a.im) (show ¬ All0 (twoL a.re a.re a.im a.im) from (fun c => h2 c.2.1)), Dy.zero_v, mulE4 h2]), h.2⟩
  · letI : Env := mkEnv glT [.bool a.re.g, .string (natS a.re.n), .int .i64 a.re.x, .bool a.im.g, .string (natS a.im.n), .int .i64 a.im.x, .bool a.re.g, .string (natS a.re.n), .int .i64 a.re.x, .bool a.im.g, .string (natS a.im.n), .int .i64 a.im.x, .bool (mulD a.re a.re).g, .string (natS (mulD a.re a.re).n), .int .i64 (mulD a.re a.re).x, .int .i64 (mulE a.re a.re)] rfl
    have hops : OpsT Tryd.prog (@Know.ops GNorm_c_k4) := ⟨opt_neq_t rfl rfl h1, trivial⟩
    have hcalls : CallsT Tryd.prog (@Know.calls GNorm_c_k4) := ⟨callt rfl rfl fun w hG => GCheck_gs a ha w hG, callt rfl rfl fun w hG => (by have h := DSub_z a.re w ha.1 hG; rw [natS_dz] at h; exact h), callt rfl rfl fun w hG => (by have h := DSub_z a.im w ha.2 hG; rw [natS_dz] at h; exact h), callt rfl rfl fun w hG => DMul_c a.re a.re w ha.1 ha.1, trivial⟩
    exact (@sym_ok _ GNorm_c_k4 _ (@KnowOk.of _ GNorm_c_k4 _ hops hcalls) (by kernel_rfl) _ _ _ _ GNorm_c_r4 rfl rfl _ hG).mono fun e w' h => ⟨h.1.trans (show Ending.returned (.tuple #[.agg #[.bool false, .string ⟨#[]⟩, .int .i64 0], .int .i64 (mulE a.re a.re)]) = .returned (.tuple #[(dotD a a).v, .int .i64 (dotE a a)]) from by rw [show dotD a a = _ from erD_no (l := twoL a.re a.re a.im a.im) (show ¬ All0 (twoL a.re a.re a.im a.im) from (fun c => h1 c.1)), show dotE a a = 4 from erI_no (l := twoL a.re a.re a.im a.im) (show ¬ All0 (twoL a.re a.re a.im a.im) from (fun c => h1 c.1)), Dy.zero_v, mulE4 h1]), h.2⟩

@[reducible] noncomputable def GNorm_bad_k1 : Know := ⟨[([0, 12, 27], [.sym 6, .lit (.int .i64 0)], .lit (.bool true))],
  [(21, [.agg [.sym 0, .sym 1, .sym 2, .sym 3, .sym 4, .sym 5]], .sym 6)]⟩
theorem GNorm_bad_r1 : @comes GNorm_bad_k1 Tryd.prog glT 3000 25 [.agg [.sym 0, .sym 1, .sym 2, .sym 3, .sym 4, .sym 5]] = some (.tup [.lit (.agg #[.bool false, .string ⟨#[]⟩, .int .i64 0]), .sym 6]) := by kernel_rfl

set_option maxRecDepth 100000 in
theorem GNorm_bad (a : Gt) (w : World) (za : a.Small) (hn : ¬ (a.Ok)) (hG : Globs glT w) : Calls Tryd.prog 25 #[.agg #[.bool a.re.g, .string a.re.s, .int .i64 a.re.x, .bool a.im.g, .string a.im.s, .int .i64 a.im.x]] w fun e w' => e = .returned (.tuple #[.agg #[.bool false, .string ⟨#[]⟩, .int .i64 0], .int .i64 2]) ∧ Below w.heap.size w w' := by
  have h1 : ¬ (gE a = 0) := fun c => hn (gE0.1 c)
  letI : Env := mkEnv glT [.bool a.re.g, .string a.re.s, .int .i64 a.re.x, .bool a.im.g, .string a.im.s, .int .i64 a.im.x, .int .i64 (gE a)] rfl
  have hops : OpsT Tryd.prog (@Know.ops GNorm_bad_k1) := ⟨opt_neq_t rfl rfl h1, trivial⟩
  have hcalls : CallsT Tryd.prog (@Know.calls GNorm_bad_k1) := ⟨callt rfl rfl fun w hG => GCheck_all a za w hG, trivial⟩
  exact (@sym_ok _ GNorm_bad_k1 _ (@KnowOk.of _ GNorm_bad_k1 _ hops hcalls) (by kernel_rfl) _ _ _ _ GNorm_bad_r1 rfl rfl _ hG).mono fun e w' h => ⟨h.1.trans (show Ending.returned (.tuple #[.agg #[.bool false, .string ⟨#[]⟩, .int .i64 0], .int .i64 (gE a)]) = .returned (.tuple #[.agg #[.bool false, .string ⟨#[]⟩, .int .i64 0], .int .i64 2]) from by rw [gE_no (fun c => h1 (gE0.2 c))]), h.2⟩

@[reducible] noncomputable def GDot_bad_k1 : Know := ⟨[([0, 12, 27], [.sym 12, .lit (.int .i64 0)], .lit (.bool false)),
  ([0, 12, 27], [.sym 13, .lit (.int .i64 0)], .lit (.bool true))],
  [(21, [.agg [.sym 0, .sym 1, .sym 2, .sym 3, .sym 4, .sym 5]], .sym 12),
  (21, [.agg [.sym 6, .sym 7, .sym 8, .sym 9, .sym 10, .sym 11]], .sym 13)]⟩
theorem GDot_bad_r1 : @comes GDot_bad_k1 Tryd.prog glT 3000 27 [.agg [.sym 0, .sym 1, .sym 2, .sym 3, .sym 4, .sym 5], .agg [.sym 6, .sym 7, .sym 8, .sym 9, .sym 10, .sym 11]] = some (.tup [.lit (.agg #[.bool false, .string ⟨#[]⟩, .int .i64 0]), .sym 13]) := by kernel_rfl
@[reducible] noncomputable def GDot_bad_k2 : Know := ⟨[([0, 12, 27], [.sym 12, .lit (.int .i64 0)], .lit (.bool true))],
  [(21, [.agg [.sym 0, .sym 1, .sym 2, .sym 3, .sym 4, .sym 5]], .sym 12)]⟩
theorem GDot_bad_r2 : @comes GDot_bad_k2 Tryd.prog glT 3000 27 [.agg [.sym 0, .sym 1, .sym 2, .sym 3, .sym 4, .sym 5], .agg [.sym 6, .sym 7, .sym 8, .sym 9, .sym 10, .sym 11]] = some (.tup [.lit (.agg #[.bool false, .string ⟨#[]⟩, .int .i64 0]), .sym 12]) := by kernel_rfl

set_option maxRecDepth 100000 in
theorem GDot_bad (a b : Gt) (w : World) (za : a.Small) (zb : b.Small) (hn : ¬ (a.Ok ∧ b.Ok)) (hG : Globs glT w) : Calls Tryd.prog 27 #[.agg #[.bool a.re.g, .string a.re.s, .int .i64 a.re.x, .bool a.im.g, .string a.im.s, .int .i64 a.im.x], .agg #[.bool b.re.g, .string b.re.s, .int .i64 b.re.x, .bool b.im.g, .string b.im.s, .int .i64 b.im.x]] w fun e w' => e = .returned (.tuple #[.agg #[.bool false, .string ⟨#[]⟩, .int .i64 0], .int .i64 2]) ∧ Below w.heap.size w w' := by
  by_cases h1 : gE a = 0
  · have h2 : ¬ (gE b = 0) := fun c => hn ⟨gE0.1 h1, gE0.1 c⟩
    letI : Env := mkEnv glT [.bool a.re.g, .string a.re.s, .int .i64 a.re.x, .bool a.im.g, .string a.im.s, .int .i64 a.im.x, .bool b.re.g, .string b.re.s, .int .i64 b.re.x, .bool b.im.g, .string b.im.s, .int .i64 b.im.x, .int .i64 (gE a), .int .i64 (gE b)] rfl
    have hops : OpsT Tryd.prog (@Know.ops GDot_bad_k1) := ⟨opt_neq_f rfl rfl h1, opt_neq_t rfl rfl h2, trivial⟩
    have hcalls : CallsT Tryd.prog (@Know.calls GDot_bad_k1) := ⟨callt rfl rfl fun w hG => GCheck_all a za w hG, callt rfl rfl fun w hG => GCheck_all b zb w hG, trivial⟩
    exact (@sym_ok _ GDot_bad_k1 _ (@KnowOk.of _ GDot_bad_k1 _ hops hcalls) (by kernel_rfl) _ _ _ _ GDot_bad_r1 rfl rfl _ hG).mono fun e w' h => ⟨h.1.trans (show Ending.returned (.tuple #[.agg #[.bool false, .string ⟨#[]⟩, .int .i64 0], .int .i64 (gE b)]) = .returned (.tuple #[.agg #[.bool false, .string ⟨#[]⟩, .int .i64 0], .int .i64 2]) from by rw [gE_no (fun c => h2 (gE0.2 c))]), h.2⟩
  · letI : Env := mkEnv glT [.bool a.re.g, .string a.re.s, .int .i64 a.re.x, .bool a.im.g, .string a.im.s, .int .i64 a.im.x, .bool b.re.g, .string b.re.s, .int .i64 b.re.x, .bool b.im.g, .string b.im.s, .int .i64 b.im.x, .int .i64 (gE a)] rfl
    have hops : OpsT Tryd.prog (@Know.ops GDot_bad_k2) := ⟨opt_neq_t rfl rfl h1, trivial⟩
    have hcalls : CallsT Tryd.prog (@Know.calls GDot_bad_k2) := ⟨callt rfl rfl fun w hG => GCheck_all a za w hG, trivial⟩
    exact (@sym_ok _ GDot_bad_k2 _ (@KnowOk.of _ GDot_bad_k2 _ hops hcalls) (by kernel_rfl) _ _ _ _ GDot_bad_r2 rfl rfl _ hG).mono fun e w' h => ⟨h.1.trans (show Ending.returned (.tuple #[.agg #[.bool false, .string ⟨#[]⟩, .int .i64 0], .int .i64 (gE a)]) = .returned (.tuple #[.agg #[.bool false, .string ⟨#[]⟩, .int .i64 0], .int .i64 2]) from by rw [gE_no (fun c => h1 (gE0.2 c))]), h.2⟩

@[reducible] noncomputable def GCross_bad_k1 : Know := ⟨[([0, 12, 27], [.sym 12, .lit (.int .i64 0)], .lit (.bool false)),
  ([0, 12, 27], [.sym 13, .lit (.int .i64 0)], .lit (.bool true))],
  [(21, [.agg [.sym 0, .sym 1, .sym 2, .sym 3, .sym 4, .sym 5]], .sym 12),
  (21, [.agg [.sym 6, .sym 7, .sym 8, .sym 9, .sym 10, .sym 11]], .sym 13)]⟩
theorem GCross_bad_r1 : @comes GCross_bad_k1 Tryd.prog glT 3000 28 [.agg [.sym 0, .sym 1, .sym 2, .sym 3, .sym 4, .sym 5], .agg [.sym 6, .sym 7, .sym 8, .sym 9, .sym 10, .sym 11]] = some (.tup [.lit (.agg #[.bool false, .string ⟨#[]⟩, .int .i64 0]), .sym 13]) := by kernel_rfl
@[reducible] noncomputable def GCross_bad_k2 : Know := ⟨[([0, 12, 27], [.sym 12, .lit (.int .i64 0)], .lit (.bool true))],
  [(21, [.agg [.sym 0, .sym 1, .sym 2, .sym 3, .sym 4, .sym 5]], .sym 12)]⟩
theorem GCross_bad_r2 : @comes GCross_bad_k2 Tryd.prog glT 3000 28 [.agg [.sym 0, .sym 1, .sym 2, .sym 3, .sym 4, .sym 5], .agg [.sym 6, .sym 7, .sym 8, .sym 9, .sym 10, .sym 11]] = some (.tup [.lit (.agg #[.bool false, .string ⟨#[]⟩, .int .i64 0]), .sym 12]) := by kernel_rfl

set_option maxRecDepth 100000 in
theorem GCross_bad (a b : Gt) (w : World) (za : a.Small) (zb : b.Small) (hn : ¬ (a.Ok ∧ b.Ok)) (hG : Globs glT w) : Calls Tryd.prog 28 #[.agg #[.bool a.re.g, .string a.re.s, .int .i64 a.re.x, .bool a.im.g, .string a.im.s, .int .i64 a.im.x], .agg #[.bool b.re.g, .string b.re.s, .int .i64 b.re.x, .bool b.im.g, .string b.im.s, .int .i64 b.im.x]] w fun e w' => e = .returned (.tuple #[.agg #[.bool false, .string ⟨#[]⟩, .int .i64 0], .int .i64 2]) ∧ Below w.heap.size w w' := by
  by_cases h1 : gE a = 0
  · have h2 : ¬ (gE b = 0) := fun c => hn ⟨gE0.1 h1, gE0.1 c⟩
    letI : Env := mkEnv glT [.bool a.re.g, .string a.re.s, .int .i64 a.re.x, .bool a.im.g, .string a.im.s, .int .i64 a.im.x, .bool b.re.g, .string b.re.s, .int .i64 b.re.x, .bool b.im.g, .string b.im.s, .int .i64 b.im.x, .int .i64 (gE a), .int .i64 (gE b)] rfl
    have hops : OpsT Tryd.prog (@Know.ops GCross_bad_k1) := ⟨opt_neq_f rfl rfl h1, opt_neq_t rfl rfl h2, trivial⟩
    have hcalls : CallsT Tryd.prog (@Know.calls GCross_bad_k1) := ⟨callt rfl rfl fun w hG => GCheck_all a za w hG, callt rfl rfl fun w hG => GCheck_all b zb w hG, trivial⟩
    exact (@sym_ok _ GCross_bad_k1 _ (@KnowOk.of _ GCross_bad_k1 _ hops hcalls) (by kernel_rfl) _ _ _ _ GCross_bad_r1 rfl rfl _ hG).mono fun e w' h => ⟨h.1.trans (show Ending.returned (.tuple #[.agg #[.bool false, .string ⟨#[]⟩, .int .i64 0], .int .i64 (gE b)]) = .returned (.tuple #[.agg #[.bool false, .string ⟨#[]⟩, .int .i64 0], .int .i64 2]) from by rw [gE_no (fun c => h2 (gE0.2 c))]), h.2⟩
  · letI : Env := mkEnv glT [.bool a.re.g, .string a.re.s, .int .i64 a.re.x, .bool a.im.g, .string a.im.s, .int .i64 a.im.x, .bool b.re.g, .string b.re.s, .int .i64 b.re.x, .bool b.im.g, .string b.im.s, .int .i64 b.im.x, .int .i64 (gE a)] rfl
    have hops : OpsT Tryd.prog (@Know.ops GCross_bad_k2) := ⟨opt_neq_t rfl rfl h1, trivial⟩
    have hcalls : CallsT Tryd.prog (@Know.calls GCross_bad_k2) := ⟨callt rfl rfl fun w hG => GCheck_all a za w hG, trivial⟩
    exact (@sym_ok _ GCross_bad_k2 _ (@KnowOk.of _ GCross_bad_k2 _ hops hcalls) (by kernel_rfl) _ _ _ _ GCross_bad_r2 rfl rfl _ hG).mono fun e w' h => ⟨h.1.trans (show Ending.returned (.tuple #[.agg #[.bool false, .string ⟨#[]⟩, .int .i64 0], .int .i64 (gE a)]) = .returned (.tuple #[.agg #[.bool false, .string ⟨#[]⟩, .int .i64 0], .int .i64 2]) from by rw [gE_no (fun c => h1 (gE0.2 c))]), h.2⟩

@[reducible] noncomputable def GTurn_bad_k1 : Know := ⟨[([0, 12, 27], [.sym 6, .lit (.int .i64 0)], .lit (.bool true))],
  [(21, [.agg [.sym 0, .sym 1, .sym 2, .sym 3, .sym 4, .sym 5]], .sym 6)]⟩
theorem GTurn_bad_r1 : @comes GTurn_bad_k1 Tryd.prog glT 3000 22 [.agg [.sym 0, .sym 1, .sym 2, .sym 3, .sym 4, .sym 5]] = some (.lit (.agg #[.bool false, .string ⟨#[]⟩, .int .i64 0, .bool false, .string ⟨#[]⟩, .int .i64 0])) := by kernel_rfl

set_option maxRecDepth 100000 in
theorem GTurn_bad (a : Gt) (w : World) (za : a.Small) (hn : ¬ (a.Ok)) (hG : Globs glT w) : Calls Tryd.prog 22 #[.agg #[.bool a.re.g, .string a.re.s, .int .i64 a.re.x, .bool a.im.g, .string a.im.s, .int .i64 a.im.x]] w fun e w' => e = .returned (.agg #[.bool false, .string ⟨#[]⟩, .int .i64 0, .bool false, .string ⟨#[]⟩, .int .i64 0]) ∧ Below w.heap.size w w' := by
  have h1 : ¬ (gE a = 0) := fun c => hn (gE0.1 c)
  letI : Env := mkEnv glT [.bool a.re.g, .string a.re.s, .int .i64 a.re.x, .bool a.im.g, .string a.im.s, .int .i64 a.im.x, .int .i64 (gE a)] rfl
  have hops : OpsT Tryd.prog (@Know.ops GTurn_bad_k1) := ⟨opt_neq_t rfl rfl h1, trivial⟩
  have hcalls : CallsT Tryd.prog (@Know.calls GTurn_bad_k1) := ⟨callt rfl rfl fun w hG => GCheck_all a za w hG, trivial⟩
  exact (@sym_ok _ GTurn_bad_k1 _ (@KnowOk.of _ GTurn_bad_k1 _ hops hcalls) (by kernel_rfl) _ _ _ _ GTurn_bad_r1 rfl rfl _ hG).mono fun e w' h => ⟨h.1.trans (show Ending.returned (.agg #[.bool false, .string ⟨#[]⟩, .int .i64 0, .bool false, .string ⟨#[]⟩, .int .i64 0]) = .returned (.agg #[.bool false, .string ⟨#[]⟩, .int .i64 0, .bool false, .string ⟨#[]⟩, .int .i64 0]) from rfl), h.2⟩

@[reducible] noncomputable def GNeg_bad_k1 : Know := ⟨[([0, 12, 27], [.sym 6, .lit (.int .i64 0)], .lit (.bool true))],
  [(21, [.agg [.sym 0, .sym 1, .sym 2, .sym 3, .sym 4, .sym 5]], .sym 6)]⟩
theorem GNeg_bad_r1 : @comes GNeg_bad_k1 Tryd.prog glT 3000 23 [.agg [.sym 0, .sym 1, .sym 2, .sym 3, .sym 4, .sym 5]] = some (.lit (.agg #[.bool false, .string ⟨#[]⟩, .int .i64 0, .bool false, .string ⟨#[]⟩, .int .i64 0])) := by kernel_rfl

set_option maxRecDepth 100000 in
theorem GNeg_bad (a : Gt) (w : World) (za : a.Small) (hn : ¬ (a.Ok)) (hG : Globs glT w) : Calls Tryd.prog 23 #[.agg #[.bool a.re.g, .string a.re.s, .int .i64 a.re.x, .bool a.im.g, .string a.im.s, .int .i64 a.im.x]] w fun e w' => e = .returned (.agg #[.bool false, .string ⟨#[]⟩, .int .i64 0, .bool false, .string ⟨#[]⟩, .int .i64 0]) ∧ Below w.heap.size w w' := by
  have h1 : ¬ (gE a = 0) := fun c => hn (gE0.1 c)
  letI : Env := mkEnv glT [.bool a.re.g, .string a.re.s, .int .i64 a.re.x, .bool a.im.g, .string a.im.s, .int .i64 a.im.x, .int .i64 (gE a)] rfl
  have hops : OpsT Tryd.prog (@Know.ops GNeg_bad_k1) := ⟨opt_neq_t rfl rfl h1, trivial⟩
  have hcalls : CallsT Tryd.prog (@Know.calls GNeg_bad_k1) := ⟨callt rfl rfl fun w hG => GCheck_all a za w hG, trivial⟩
  exact (@sym_ok _ GNeg_bad_k1 _ (@KnowOk.of _ GNeg_bad_k1 _ hops hcalls) (by kernel_rfl) _ _ _ _ GNeg_bad_r1 rfl rfl _ hG).mono fun e w' h => ⟨h.1.trans (show Ending.returned (.agg #[.bool false, .string ⟨#[]⟩, .int .i64 0, .bool false, .string ⟨#[]⟩, .int .i64 0]) = .returned (.agg #[.bool false, .string ⟨#[]⟩, .int .i64 0, .bool false, .string ⟨#[]⟩, .int .i64 0]) from rfl), h.2⟩

@[reducible] noncomputable def GConj_bad_k1 : Know := ⟨[([0, 12, 27], [.sym 6, .lit (.int .i64 0)], .lit (.bool true))],
  [(21, [.agg [.sym 0, .sym 1, .sym 2, .sym 3, .sym 4, .sym 5]], .sym 6)]⟩
theorem GConj_bad_r1 : @comes GConj_bad_k1 Tryd.prog glT 3000 24 [.agg [.sym 0, .sym 1, .sym 2, .sym 3, .sym 4, .sym 5]] = some (.lit (.agg #[.bool false, .string ⟨#[]⟩, .int .i64 0, .bool false, .string ⟨#[]⟩, .int .i64 0])) := by kernel_rfl

set_option maxRecDepth 100000 in
theorem GConj_bad (a : Gt) (w : World) (za : a.Small) (hn : ¬ (a.Ok)) (hG : Globs glT w) : Calls Tryd.prog 24 #[.agg #[.bool a.re.g, .string a.re.s, .int .i64 a.re.x, .bool a.im.g, .string a.im.s, .int .i64 a.im.x]] w fun e w' => e = .returned (.agg #[.bool false, .string ⟨#[]⟩, .int .i64 0, .bool false, .string ⟨#[]⟩, .int .i64 0]) ∧ Below w.heap.size w w' := by
  have h1 : ¬ (gE a = 0) := fun c => hn (gE0.1 c)
  letI : Env := mkEnv glT [.bool a.re.g, .string a.re.s, .int .i64 a.re.x, .bool a.im.g, .string a.im.s, .int .i64 a.im.x, .int .i64 (gE a)] rfl
  have hops : OpsT Tryd.prog (@Know.ops GConj_bad_k1) := ⟨opt_neq_t rfl rfl h1, trivial⟩
  have hcalls : CallsT Tryd.prog (@Know.calls GConj_bad_k1) := ⟨callt rfl rfl fun w hG => GCheck_all a za w hG, trivial⟩
  exact (@sym_ok _ GConj_bad_k1 _ (@KnowOk.of _ GConj_bad_k1 _ hops hcalls) (by kernel_rfl) _ _ _ _ GConj_bad_r1 rfl rfl _ hG).mono fun e w' h => ⟨h.1.trans (show Ending.returned (.agg #[.bool false, .string ⟨#[]⟩, .int .i64 0, .bool false, .string ⟨#[]⟩, .int .i64 0]) = .returned (.agg #[.bool false, .string ⟨#[]⟩, .int .i64 0, .bool false, .string ⟨#[]⟩, .int .i64 0]) from rfl), h.2⟩

theorem natS_gzr : natS Gs.zero.re.n = ⟨#[]⟩ := natS_zero
theorem natS_gzi : natS Gs.zero.im.n = ⟨#[]⟩ := natS_zero
theorem natS_ir : natS Gs.i.re.n = ⟨#[]⟩ := natS_zero
theorem natS_ii : natS Gs.i.im.n = ⟨#[1]⟩ := natS_d1

end Go.Proofs.YtciidbldnjfooaaDoor
