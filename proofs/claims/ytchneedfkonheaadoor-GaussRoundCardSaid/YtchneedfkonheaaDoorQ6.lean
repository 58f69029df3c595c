/- Texts put together: G15 G16 G17 Al06 Aw06 G23. -/
import Derived.Test.YtchneedfkonheaaDoorQ5
import Derived.Test.YtchneedfkonheaaDoorQ4
set_option linter.unusedVariables false
set_option linter.unusedSimpArgs false
namespace Go.Proofs.YtchneedfkonheaaDoor
open Go Go.RowKit Nt


@[reducible] def GWithin_p_f : FuncId := 31
@[reducible] def GWithin_p_a : List AV := [.agg [.sym 0, .sym 1, .sym 2, .sym 3, .sym 4, .sym 5], .agg [.lit (.bool false), .sym 6, .sym 7], .agg [.sym 8, .sym 9, .sym 10, .sym 11, .sym 12, .sym 13], .agg [.lit (.bool false), .sym 14, .sym 15]]
@[reducible] noncomputable def GWithin_p_k (b1 b2 b3 b4 b5 b6 b7 b8 b9 : Bool) : Know := ⟨[([0, 15, 3], [.sym 16, .lit (.int .i64 0)], .lit (.bool b1)),
  ([0, 12, 27], [.sym 20, .lit (.int .i64 0)], .lit (.bool (!b2))),
  ([0, 12, 27], [.sym 24, .lit (.int .i64 0)], .lit (.bool (!b3))),
  ([0, 12, 27], [.sym 28, .lit (.int .i64 0)], .lit (.bool (!b4))),
  ([0, 12, 27], [.sym 32, .lit (.int .i64 0)], .lit (.bool (!b5))),
  ([0, 12, 27], [.sym 36, .lit (.int .i64 0)], .lit (.bool (!b6))),
  ([0, 12, 27], [.sym 40, .lit (.int .i64 0)], .lit (.bool (!b7))),
  ([0, 12, 27], [.sym 44, .lit (.int .i64 0)], .lit (.bool (!b8))),
  ([0, 14, 3], [.sym 45, .lit (.int .i64 0)], .lit (.bool b9))],
  [(21, [.agg [.sym 0, .sym 1, .sym 2, .sym 3, .sym 4, .sym 5]], .lit (.int .i64 0)),
  (21, [.agg [.sym 8, .sym 9, .sym 10, .sym 11, .sym 12, .sym 13]], .lit (.int .i64 0)),
  (43, [.agg [.lit (.bool false), .sym 6, .sym 7]], .lit (.int .i64 0)),
  (43, [.agg [.lit (.bool false), .sym 14, .sym 15]], .lit (.int .i64 0)),
  (59, [.agg [.lit (.bool false), .sym 6, .sym 7], .agg [.lit (.bool false), .sym 14, .sym 15]], .tup [.sym 16, .lit (.int .i64 0)]),
  (63, [.agg [.lit (.bool false), .sym 14, .sym 15], .agg [.lit (.bool false), .sym 6, .sym 7]], .tup [.agg [.sym 17, .sym 18, .sym 19], .sym 20]),
  (63, [.agg [.sym 0, .sym 1, .sym 2], .agg [.sym 8, .sym 9, .sym 10]], .tup [.agg [.sym 21, .sym 22, .sym 23], .sym 24]),
  (63, [.agg [.sym 3, .sym 4, .sym 5], .agg [.sym 11, .sym 12, .sym 13]], .tup [.agg [.sym 25, .sym 26, .sym 27], .sym 28]),
  (26, [.agg [.sym 21, .sym 22, .sym 23], .agg [.sym 21, .sym 22, .sym 23]], .tup [.agg [.sym 29, .sym 30, .sym 31], .sym 32]),
  (26, [.agg [.sym 25, .sym 26, .sym 27], .agg [.sym 25, .sym 26, .sym 27]], .tup [.agg [.sym 33, .sym 34, .sym 35], .sym 36]),
  (29, [.agg [.sym 29, .sym 30, .sym 31], .agg [.sym 33, .sym 34, .sym 35]], .tup [.agg [.sym 37, .sym 38, .sym 39], .sym 40]),
  (26, [.agg [.sym 17, .sym 18, .sym 19], .agg [.sym 17, .sym 18, .sym 19]], .tup [.agg [.sym 41, .sym 42, .sym 43], .sym 44]),
  (59, [.agg [.sym 37, .sym 38, .sym 39], .agg [.sym 41, .sym 42, .sym 43]], .tup [.sym 45, .lit (.int .i64 0)])]⟩
theorem GWithin_p_r1 (b2 b3 b4 b5 b6 b7 b8 b9 : Bool) : @comes (GWithin_p_k true b2 b3 b4 b5 b6 b7 b8 b9) Tryd.prog glT 3000 GWithin_p_f GWithin_p_a = some (.lit (.tuple #[.bool false, .int .i64 0])) := by kernel_rfl
theorem GWithin_p_r2 : @comes (GWithin_p_k false true true true true true true true true) Tryd.prog glT 3000 GWithin_p_f GWithin_p_a = some (.lit (.tuple #[.bool true, .int .i64 0])) := by kernel_rfl
theorem GWithin_p_r3 : @comes (GWithin_p_k false true true true true true true true false) Tryd.prog glT 3000 GWithin_p_f GWithin_p_a = some (.lit (.tuple #[.bool false, .int .i64 0])) := by kernel_rfl
theorem GWithin_p_r4 (b9 : Bool) : @comes (GWithin_p_k false true true true true true true false b9) Tryd.prog glT 3000 GWithin_p_f GWithin_p_a = some (.tup [.lit (.bool false), .sym 44]) := by kernel_rfl
theorem GWithin_p_r5 (b8 b9 : Bool) : @comes (GWithin_p_k false true true true true true false b8 b9) Tryd.prog glT 3000 GWithin_p_f GWithin_p_a = some (.tup [.lit (.bool false), .sym 40]) := by kernel_rfl
theorem GWithin_p_r6 (b7 b8 b9 : Bool) : @comes (GWithin_p_k false true true true true false b7 b8 b9) Tryd.prog glT 3000 GWithin_p_f GWithin_p_a = some (.tup [.lit (.bool false), .sym 36]) := by kernel_rfl
theorem GWithin_p_r7 (b6 b7 b8 b9 : Bool) : @comes (GWithin_p_k false true true true false b6 b7 b8 b9) Tryd.prog glT 3000 GWithin_p_f GWithin_p_a = some (.tup [.lit (.bool false), .sym 32]) := by kernel_rfl
theorem GWithin_p_r8 (b5 b6 b7 b8 b9 : Bool) : @comes (GWithin_p_k false true true false b5 b6 b7 b8 b9) Tryd.prog glT 3000 GWithin_p_f GWithin_p_a = some (.tup [.lit (.bool false), .sym 28]) := by kernel_rfl
theorem GWithin_p_r9 (b4 b5 b6 b7 b8 b9 : Bool) : @comes (GWithin_p_k false true false b4 b5 b6 b7 b8 b9) Tryd.prog glT 3000 GWithin_p_f GWithin_p_a = some (.tup [.lit (.bool false), .sym 24]) := by kernel_rfl
theorem GWithin_p_r10 (b3 b4 b5 b6 b7 b8 b9 : Bool) : @comes (GWithin_p_k false false b3 b4 b5 b6 b7 b8 b9) Tryd.prog glT 3000 GWithin_p_f GWithin_p_a = some (.tup [.lit (.bool false), .sym 20]) := by kernel_rfl

set_option maxRecDepth 100000 in
set_option maxHeartbeats 4000000 in
theorem GWithin_p (c : Gs) (rn : Nat) (rx : Int) (d : Gs) (sn : Nat) (sx : Int) (w : World) (hc : c.Ok) (hr : (Dy.mk false rn rx).Ok) (hd : d.Ok) (hs : (Dy.mk false sn sx).Ok) (hG : Globs glT w) : Calls Tryd.prog 31 #[.agg #[.bool c.re.g, .string (natS c.re.n), .int .i64 c.re.x, .bool c.im.g, .string (natS c.im.n), .int .i64 c.im.x], .agg #[.bool false, .string (natS (Dy.mk false rn rx).n), .int .i64 (Dy.mk false rn rx).x], .agg #[.bool d.re.g, .string (natS d.re.n), .int .i64 d.re.x, .bool d.im.g, .string (natS d.im.n), .int .i64 d.im.x], .agg #[.bool false, .string (natS (Dy.mk false sn sx).n), .int .i64 (Dy.mk false sn sx).x]] w fun e w' => e = .returned (.tuple #[.bool (withB c (Dy.mk false rn rx) d (Dy.mk false sn sx)), .int .i64 (withE c (Dy.mk false rn rx) d (Dy.mk false sn sx))]) ∧ Below w.heap.size w w' := by
  obtain ⟨b1, i1⟩ := bex (cmpD (Dy.mk false rn rx) (Dy.mk false sn sx) > 0)
  obtain ⟨b2, i2⟩ := bex (addE (Dy.mk false sn sx) (negD (Dy.mk false rn rx)) = 0)
  obtain ⟨b3, i3⟩ := bex (addE c.re (negD d.re) = 0)
  obtain ⟨b4, i4⟩ := bex (addE c.im (negD d.im) = 0)
  obtain ⟨b5, i5⟩ := bex (mulE (addD c.re (negD d.re)) (addD c.re (negD d.re)) = 0)
  obtain ⟨b6, i6⟩ := bex (mulE (addD c.im (negD d.im)) (addD c.im (negD d.im)) = 0)
  obtain ⟨b7, i7⟩ := bex (addE (mulD (addD c.re (negD d.re)) (addD c.re (negD d.re))) (mulD (addD c.im (negD d.im)) (addD c.im (negD d.im))) = 0)
  obtain ⟨b8, i8⟩ := bex (mulE (addD (Dy.mk false sn sx) (negD (Dy.mk false rn rx))) (addD (Dy.mk false sn sx) (negD (Dy.mk false rn rx))) = 0)
  obtain ⟨b9, i9⟩ := bex (cmpD (addD (mulD (addD c.re (negD d.re)) (addD c.re (negD d.re))) (mulD (addD c.im (negD d.im)) (addD c.im (negD d.im)))) (mulD (addD (Dy.mk false sn sx) (negD (Dy.mk false rn rx))) (addD (Dy.mk false sn sx) (negD (Dy.mk false rn rx)))) ≤ 0)
  letI : Env := mkEnv glT [.bool c.re.g, .string (natS c.re.n), .int .i64 c.re.x, .bool c.im.g, .string (natS c.im.n), .int .i64 c.im.x, .string (natS (Dy.mk false rn rx).n), .int .i64 (Dy.mk false rn rx).x, .bool d.re.g, .string (natS d.re.n), .int .i64 d.re.x, .bool d.im.g, .string (natS d.im.n), .int .i64 d.im.x, .string (natS (Dy.mk false sn sx).n), .int .i64 (Dy.mk false sn sx).x, .int .i64 (cmpD (Dy.mk false rn rx) (Dy.mk false sn sx)), .bool (addD (Dy.mk false sn sx) (negD (Dy.mk false rn rx))).g, .string (natS (addD (Dy.mk false sn sx) (negD (Dy.mk false rn rx))).n), .int .i64 (addD (Dy.mk false sn sx) (negD (Dy.mk false rn rx))).x, .int .i64 (addE (Dy.mk false sn sx) (negD (Dy.mk false rn rx))), .bool (addD c.re (negD d.re)).g, .string (natS (addD c.re (negD d.re)).n), .int .i64 (addD c.re (negD d.re)).x, .int .i64 (addE c.re (negD d.re)), .bool (addD c.im (negD d.im)).g, .string (natS (addD c.im (negD d.im)).n), .int .i64 (addD c.im (negD d.im)).x, .int .i64 (addE c.im (negD d.im)), .bool (mulD (addD c.re (negD d.re)) (addD c.re (negD d.re))).g, .string (natS (mulD (addD c.re (negD d.re)) (addD c.re (negD d.re))).n), .int .i64 (mulD (addD c.re (negD d.re)) (addD c.re (negD d.re))).x, .int .i64 (mulE (addD c.re (negD d.re)) (addD c.re (negD d.re))), .bool (mulD (addD c.im (negD d.im)) (addD c.im (negD d.im))).g, .string (natS (mulD (addD c.im (negD d.im)) (addD c.im (negD d.im))).n), .int .i64 (mulD (addD c.im (negD d.im)) (addD c.im (negD d.im))).x, .int .i64 (mulE (addD c.im (negD d.im)) (addD c.im (negD d.im))), .bool (addD (mulD (addD c.re (negD d.re)) (addD c.re (negD d.re))) (mulD (addD c.im (negD d.im)) (addD c.im (negD d.im)))).g, .string (natS (addD (mulD (addD c.re (negD d.re)) (addD c.re (negD d.re))) (mulD (addD c.im (negD d.im)) (addD c.im (negD d.im)))).n), .int .i64 (addD (mulD (addD c.re (negD d.re)) (addD c.re (negD d.re))) (mulD (addD c.im (negD d.im)) (addD c.im (negD d.im)))).x, .int .i64 (addE (mulD (addD c.re (negD d.re)) (addD c.re (negD d.re))) (mulD (addD c.im (negD d.im)) (addD c.im (negD d.im)))), .bool (mulD (addD (Dy.mk false sn sx) (negD (Dy.mk false rn rx))) (addD (Dy.mk false sn sx) (negD (Dy.mk false rn rx)))).g, .string (natS (mulD (addD (Dy.mk false sn sx) (negD (Dy.mk false rn rx))) (addD (Dy.mk false sn sx) (negD (Dy.mk false rn rx)))).n), .int .i64 (mulD (addD (Dy.mk false sn sx) (negD (Dy.mk false rn rx))) (addD (Dy.mk false sn sx) (negD (Dy.mk false rn rx)))).x, .int .i64 (mulE (addD (Dy.mk false sn sx) (negD (Dy.mk false rn rx))) (addD (Dy.mk false sn sx) (negD (Dy.mk false rn rx)))), .int .i64 (cmpD (addD (mulD (addD c.re (negD d.re)) (addD c.re (negD d.re))) (mulD (addD c.im (negD d.im)) (addD c.im (negD d.im)))) (mulD (addD (Dy.mk false sn sx) (negD (Dy.mk false rn rx))) (addD (Dy.mk false sn sx) (negD (Dy.mk false rn rx)))))] rfl
  have hops : OpsT Tryd.prog (@Know.ops (GWithin_p_k b1 b2 b3 b4 b5 b6 b7 b8 b9)) := ⟨opt_gtr_i rfl rfl i1,
    opt_neq_i rfl rfl i2,
    opt_neq_i rfl rfl i3,
    opt_neq_i rfl rfl i4,
    opt_neq_i rfl rfl i5,
    opt_neq_i rfl rfl i6,
    opt_neq_i rfl rfl i7,
    opt_neq_i rfl rfl i8,
    opt_leq_i rfl rfl i9,
    trivial⟩
  have hcalls : CallsT Tryd.prog (@Know.calls (GWithin_p_k b1 b2 b3 b4 b5 b6 b7 b8 b9)) := ⟨callt rfl rfl fun w hG => GCheck_gs c hc w hG,
    callt rfl rfl fun w hG => GCheck_gs d hd w hG,
    callt rfl rfl fun w hG => DCheck_dy (Dy.mk false rn rx) hr w,
    callt rfl rfl fun w hG => DCheck_dy (Dy.mk false sn sx) hs w,
    callt rfl rfl fun w hG => DCmp_c (Dy.mk false rn rx) (Dy.mk false sn sx) w hr hs,
    callt rfl rfl fun w hG => DSub_c (Dy.mk false sn sx) (Dy.mk false rn rx) w hs hr hG,
    callt rfl rfl fun w hG => DSub_c c.re d.re w hc.1 hd.1 hG,
    callt rfl rfl fun w hG => DSub_c c.im d.im w hc.2 hd.2 hG,
    callt rfl rfl fun w hG => DMul_c (addD c.re (negD d.re)) (addD c.re (negD d.re)) w (add_Ok hc.1 (negD_Ok hd.1)) (add_Ok hc.1 (negD_Ok hd.1)),
    callt rfl rfl fun w hG => DMul_c (addD c.im (negD d.im)) (addD c.im (negD d.im)) w (add_Ok hc.2 (negD_Ok hd.2)) (add_Ok hc.2 (negD_Ok hd.2)),
    callt rfl rfl fun w hG => DAdd_c (mulD (addD c.re (negD d.re)) (addD c.re (negD d.re))) (mulD (addD c.im (negD d.im)) (addD c.im (negD d.im))) w (mulD_Ok (addD c.re (negD d.re)) (addD c.re (negD d.re))) (mulD_Ok (addD c.im (negD d.im)) (addD c.im (negD d.im))) hG,
    callt rfl rfl fun w hG => DMul_c (addD (Dy.mk false sn sx) (negD (Dy.mk false rn rx))) (addD (Dy.mk false sn sx) (negD (Dy.mk false rn rx))) w (add_Ok hs (negD_Ok hr)) (add_Ok hs (negD_Ok hr)),
    callt rfl rfl fun w hG => DCmp_c (addD (mulD (addD c.re (negD d.re)) (addD c.re (negD d.re))) (mulD (addD c.im (negD d.im)) (addD c.im (negD d.im)))) (mulD (addD (Dy.mk false sn sx) (negD (Dy.mk false rn rx))) (addD (Dy.mk false sn sx) (negD (Dy.mk false rn rx)))) w (add_Ok (mulD_Ok (addD c.re (negD d.re)) (addD c.re (negD d.re))) (mulD_Ok (addD c.im (negD d.im)) (addD c.im (negD d.im)))) (mulD_Ok (addD (Dy.mk false sn sx) (negD (Dy.mk false rn rx))) (addD (Dy.mk false sn sx) (negD (Dy.mk false rn rx)))),
    trivial⟩
  have fin : ∀ v, @comes (GWithin_p_k b1 b2 b3 b4 b5 b6 b7 b8 b9) Tryd.prog glT 3000 GWithin_p_f GWithin_p_a = some v → ground v = true → Ending.returned (gval v) = .returned (.tuple #[.bool (withB c (Dy.mk false rn rx) d (Dy.mk false sn sx)), .int .i64 (withE c (Dy.mk false rn rx) d (Dy.mk false sn sx))]) → Calls Tryd.prog 31 #[.agg #[.bool c.re.g, .string (natS c.re.n), .int .i64 c.re.x, .bool c.im.g, .string (natS c.im.n), .int .i64 c.im.x], .agg #[.bool false, .string (natS (Dy.mk false rn rx).n), .int .i64 (Dy.mk false rn rx).x], .agg #[.bool d.re.g, .string (natS d.re.n), .int .i64 d.re.x, .bool d.im.g, .string (natS d.im.n), .int .i64 d.im.x], .agg #[.bool false, .string (natS (Dy.mk false sn sx).n), .int .i64 (Dy.mk false sn sx).x]] w fun e w' => e = .returned (.tuple #[.bool (withB c (Dy.mk false rn rx) d (Dy.mk false sn sx)), .int .i64 (withE c (Dy.mk false rn rx) d (Dy.mk false sn sx))]) ∧ Below w.heap.size w w' := fun v h1 h2 h3 => (@sym_ok _ (GWithin_p_k b1 b2 b3 b4 b5 b6 b7 b8 b9) _ (@KnowOk.of _ (GWithin_p_k b1 b2 b3 b4 b5 b6 b7 b8 b9) _ hops hcalls) (by kernel_rfl) _ _ _ _ h1 rfl h2 _ hG).mono fun e w' h => ⟨h.1.trans h3, h.2⟩
  clear hops hcalls
  cases b1 with
  | true =>
    have h1 : cmpD (Dy.mk false rn rx) (Dy.mk false sn sx) > 0 := i1.1 rfl
    exact fin _ (GWithin_p_r1 b2 b3 b4 b5 b6 b7 b8 b9) rfl (show Ending.returned (.tuple #[.bool false, .int .i64 0]) = .returned (.tuple #[.bool (withB c (Dy.mk false rn rx) d (Dy.mk false sn sx)), .int .i64 (withE c (Dy.mk false rn rx) d (Dy.mk false sn sx))]) from by rw [show withB c (Dy.mk false rn rx) d (Dy.mk false sn sx) = false from by unfold withB; exact dec_f (fun cc => cc.1 h1), show withE c (Dy.mk false rn rx) d (Dy.mk false sn sx) = 0 from by unfold withE; exact if_pos h1])
  | false =>
    have h1 : ¬ (cmpD (Dy.mk false rn rx) (Dy.mk false sn sx) > 0) := fun c => Bool.false_ne_true (i1.2 c)
    cases b2 with
    | true =>
      have h2 : addE (Dy.mk false sn sx) (negD (Dy.mk false rn rx)) = 0 := i2.1 rfl
      cases b3 with
      | true =>
        have h3 : addE c.re (negD d.re) = 0 := i3.1 rfl
        cases b4 with
        | true =>
          have h4 : addE c.im (negD d.im) = 0 := i4.1 rfl
          cases b5 with
          | true =>
            have h5 : mulE (addD c.re (negD d.re)) (addD c.re (negD d.re)) = 0 := i5.1 rfl
            cases b6 with
            | true =>
              have h6 : mulE (addD c.im (negD d.im)) (addD c.im (negD d.im)) = 0 := i6.1 rfl
              cases b7 with
              | true =>
                have h7 : addE (mulD (addD c.re (negD d.re)) (addD c.re (negD d.re))) (mulD (addD c.im (negD d.im)) (addD c.im (negD d.im))) = 0 := i7.1 rfl
                cases b8 with
                | true =>
                  have h8 : mulE (addD (Dy.mk false sn sx) (negD (Dy.mk false rn rx))) (addD (Dy.mk false sn sx) (negD (Dy.mk false rn rx))) = 0 := i8.1 rfl
                  cases b9 with
                  | true =>
                    have h9 : cmpD (addD (mulD (addD c.re (negD d.re)) (addD c.re (negD d.re))) (mulD (addD c.im (negD d.im)) (addD c.im (negD d.im)))) (mulD (addD (Dy.mk false sn sx) (negD (Dy.mk false rn rx))) (addD (Dy.mk false sn sx) (negD (Dy.mk false rn rx)))) ≤ 0 := i9.1 rfl
                    exact fin _ (GWithin_p_r2) rfl (show Ending.returned (.tuple #[.bool true, .int .i64 0]) = .returned (.tuple #[.bool (withB c (Dy.mk false rn rx) d (Dy.mk false sn sx)), .int .i64 (withE c (Dy.mk false rn rx) d (Dy.mk false sn sx))]) from by rw [show withB c (Dy.mk false rn rx) d (Dy.mk false sn sx) = true from by unfold withB; exact dec_t ⟨h1, (show All0 (withL c (Dy.mk false rn rx) d (Dy.mk false sn sx)) from ⟨h2, h3, h4, h5, h6, h7, h8, trivial⟩), h9⟩, show withE c (Dy.mk false rn rx) d (Dy.mk false sn sx) = 0 from by unfold withE; rw [if_neg h1]; exact erI_ok (show All0 (withL c (Dy.mk false rn rx) d (Dy.mk false sn sx)) from ⟨h2, h3, h4, h5, h6, h7, h8, trivial⟩)])
                  | false =>
                    have h9 : ¬ (cmpD (addD (mulD (addD c.re (negD d.re)) (addD c.re (negD d.re))) (mulD (addD c.im (negD d.im)) (addD c.im (negD d.im)))) (mulD (addD (Dy.mk false sn sx) (negD (Dy.mk false rn rx))) (addD (Dy.mk false sn sx) (negD (Dy.mk false rn rx)))) ≤ 0) := fun c => Bool.false_ne_true (i9.2 c)
                    exact fin _ (GWithin_p_r3) rfl (show Ending.returned (.tuple #[.bool false, .int .i64 0]) = .returned (.tuple #[.bool (withB c (Dy.mk false rn rx) d (Dy.mk false sn sx)), .int .i64 (withE c (Dy.mk false rn rx) d (Dy.mk false sn sx))]) from by rw [show withB c (Dy.mk false rn rx) d (Dy.mk false sn sx) = false from by unfold withB; exact dec_f (fun cc => h9 cc.2.2), show withE c (Dy.mk false rn rx) d (Dy.mk false sn sx) = 0 from by unfold withE; rw [if_neg h1]; exact erI_ok (show All0 (withL c (Dy.mk false rn rx) d (Dy.mk false sn sx)) from ⟨h2, h3, h4, h5, h6, h7, h8, trivial⟩)])
                | false =>
                  have h8 : ¬ (mulE (addD (Dy.mk false sn sx) (negD (Dy.mk false rn rx))) (addD (Dy.mk false sn sx) (negD (Dy.mk false rn rx))) = 0) := fun c => Bool.false_ne_true (i8.2 c)
                  exact fin _ (GWithin_p_r4 b9) rfl (show Ending.returned (.tuple #[.bool false, .int .i64 (mulE (addD (Dy.mk false sn sx) (negD (Dy.mk false rn rx))) (addD (Dy.mk false sn sx) (negD (Dy.mk false rn rx))))]) = .returned (.tuple #[.bool (withB c (Dy.mk false rn rx) d (Dy.mk false sn sx)), .int .i64 (withE c (Dy.mk false rn rx) d (Dy.mk false sn sx))]) from by rw [show withB c (Dy.mk false rn rx) d (Dy.mk false sn sx) = false from by unfold withB; exact dec_f (fun cc => (show ¬ All0 (withL c (Dy.mk false rn rx) d (Dy.mk false sn sx)) from fun cc => h8 cc.2.2.2.2.2.2.1) cc.2.1), show withE c (Dy.mk false rn rx) d (Dy.mk false sn sx) = 4 from by unfold withE; rw [if_neg h1]; exact erI_no (show ¬ All0 (withL c (Dy.mk false rn rx) d (Dy.mk false sn sx)) from fun cc => h8 cc.2.2.2.2.2.2.1), mulE4 h8])
              | false =>
                have h7 : ¬ (addE (mulD (addD c.re (negD d.re)) (addD c.re (negD d.re))) (mulD (addD c.im (negD d.im)) (addD c.im (negD d.im))) = 0) := fun c => Bool.false_ne_true (i7.2 c)
                exact fin _ (GWithin_p_r5 b8 b9) rfl (show Ending.returned (.tuple #[.bool false, .int .i64 (addE (mulD (addD c.re (negD d.re)) (addD c.re (negD d.re))) (mulD (addD c.im (negD d.im)) (addD c.im (negD d.im))))]) = .returned (.tuple #[.bool (withB c (Dy.mk false rn rx) d (Dy.mk false sn sx)), .int .i64 (withE c (Dy.mk false rn rx) d (Dy.mk false sn sx))]) from by rw [show withB c (Dy.mk false rn rx) d (Dy.mk false sn sx) = false from by unfold withB; exact dec_f (fun cc => (show ¬ All0 (withL c (Dy.mk false rn rx) d (Dy.mk false sn sx)) from fun cc => h7 cc.2.2.2.2.2.1) cc.2.1), show withE c (Dy.mk false rn rx) d (Dy.mk false sn sx) = 4 from by unfold withE; rw [if_neg h1]; exact erI_no (show ¬ All0 (withL c (Dy.mk false rn rx) d (Dy.mk false sn sx)) from fun cc => h7 cc.2.2.2.2.2.1), addE4 h7])
            | false =>
              have h6 : ¬ (mulE (addD c.im (negD d.im)) (addD c.im (negD d.im)) = 0) := fun c => Bool.false_ne_true (i6.2 c)
              exact fin _ (GWithin_p_r6 b7 b8 b9) rfl (show Ending.returned (.tuple #[.bool false, .int .i64 (mulE (addD c.im (negD d.im)) (addD c.im (negD d.im)))]) = .returned (.tuple #[.bool (withB c (Dy.mk false rn rx) d (Dy.mk false sn sx)), .int .i64 (withE c (Dy.mk false rn rx) d (Dy.mk false sn sx))]) from by rw [show withB c (Dy.mk false rn rx) d (Dy.mk false sn sx) = false from by unfold withB; exact dec_f (fun cc => (show ¬ All0 (withL c (Dy.mk false rn rx) d (Dy.mk false sn sx)) from fun cc => h6 cc.2.2.2.2.1) cc.2.1), show withE c (Dy.mk false rn rx) d (Dy.mk false sn sx) = 4 from by unfold withE; rw [if_neg h1]; exact erI_no (show ¬ All0 (withL c (Dy.mk false rn rx) d (Dy.mk false sn sx)) from fun cc => h6 cc.2.2.2.2.1), mulE4 h6])
          | false =>
            have h5 : ¬ (mulE (addD c.re (negD d.re)) (addD c.re (negD d.re)) = 0) := fun c => Bool.false_ne_true (i5.2 c)
            exact fin _ (GWithin_p_r7 b6 b7 b8 b9) rfl (show Ending.returned (.tuple #[.bool false, .int .i64 (mulE (addD c.re (negD d.re)) (addD c.re (negD d.re)))]) = .returned (.tuple #[.bool (withB c (Dy.mk false rn rx) d (Dy.mk false sn sx)), .int .i64 (withE c (Dy.mk false rn rx) d (Dy.mk false sn sx))]) from by rw [show withB c (Dy.mk false rn rx) d (Dy.mk false sn sx) = false from by unfold withB; exact dec_f (fun cc => (show ¬ All0 (withL c (Dy.mk false rn rx) d (Dy.mk false sn sx)) from fun cc => h5 cc.2.2.2.1) cc.2.1), show withE c (Dy.mk false rn rx) d (Dy.mk false sn sx) = 4 from by unfold withE; rw [if_neg h1]; exact erI_no (show ¬ All0 (withL c (Dy.mk false rn rx) d (Dy.mk false sn sx)) from fun cc => h5 cc.2.2.2.1), mulE4 h5])
        | false =>
          have h4 : ¬ (addE c.im (negD d.im) = 0) := fun c => Bool.false_ne_true (i4.2 c)
          exact fin _ (GWithin_p_r8 b5 b6 b7 b8 b9) rfl (show Ending.returned (.tuple #[.bool false, .int .i64 (addE c.im (negD d.im))]) = .returned (.tuple #[.bool (withB c (Dy.mk false rn rx) d (Dy.mk false sn sx)), .int .i64 (withE c (Dy.mk false rn rx) d (Dy.mk false sn sx))]) from by rw [show withB c (Dy.mk false rn rx) d (Dy.mk false sn sx) = false from by unfold withB; exact dec_f (fun cc => (show ¬ All0 (withL c (Dy.mk false rn rx) d (Dy.mk false sn sx)) from fun cc => h4 cc.2.2.1) cc.2.1), show withE c (Dy.mk false rn rx) d (Dy.mk false sn sx) = 4 from by unfold withE; rw [if_neg h1]; exact erI_no (show ¬ All0 (withL c (Dy.mk false rn rx) d (Dy.mk false sn sx)) from fun cc => h4 cc.2.2.1), addE4 h4])
      | false =>
        have h3 : ¬ (addE c.re (negD d.re) = 0) := fun c => Bool.false_ne_true (i3.2 c)
        exact fin _ (GWithin_p_r9 b4 b5 b6 b7 b8 b9) rfl (show Ending.returned (.tuple #[.bool false, .int .i64 (addE c.re (negD d.re))]) = .returned (.tuple #[.bool (withB c (Dy.mk false rn rx) d (Dy.mk false sn sx)), .int .i64 (withE c (Dy.mk false rn rx) d (Dy.mk false sn sx))]) from by rw [show withB c (Dy.mk false rn rx) d (Dy.mk false sn sx) = false from by unfold withB; exact dec_f (fun cc => (show ¬ All0 (withL c (Dy.mk false rn rx) d (Dy.mk false sn sx)) from fun cc => h3 cc.2.1) cc.2.1), show withE c (Dy.mk false rn rx) d (Dy.mk false sn sx) = 4 from by unfold withE; rw [if_neg h1]; exact erI_no (show ¬ All0 (withL c (Dy.mk false rn rx) d (Dy.mk false sn sx)) from fun cc => h3 cc.2.1), addE4 h3])
    | false =>
      have h2 : ¬ (addE (Dy.mk false sn sx) (negD (Dy.mk false rn rx)) = 0) := fun c => Bool.false_ne_true (i2.2 c)
      exact fin _ (GWithin_p_r10 b3 b4 b5 b6 b7 b8 b9) rfl (show Ending.returned (.tuple #[.bool false, .int .i64 (addE (Dy.mk false sn sx) (negD (Dy.mk false rn rx)))]) = .returned (.tuple #[.bool (withB c (Dy.mk false rn rx) d (Dy.mk false sn sx)), .int .i64 (withE c (Dy.mk false rn rx) d (Dy.mk false sn sx))]) from by rw [show withB c (Dy.mk false rn rx) d (Dy.mk false sn sx) = false from by unfold withB; exact dec_f (fun cc => (show ¬ All0 (withL c (Dy.mk false rn rx) d (Dy.mk false sn sx)) from fun cc => h2 cc.1) cc.2.1), show withE c (Dy.mk false rn rx) d (Dy.mk false sn sx) = 4 from by unfold withE; rw [if_neg h1]; exact erI_no (show ¬ All0 (withL c (Dy.mk false rn rx) d (Dy.mk false sn sx)) from fun cc => h2 cc.1), addE4 h2])

@[reducible] def GWithin_b1_f : FuncId := 31
@[reducible] def GWithin_b1_a : List AV := [.agg [.sym 0, .sym 1, .sym 2, .sym 3, .sym 4, .sym 5], .agg [.lit (.bool false), .sym 6, .sym 7], .agg [.sym 8, .sym 9, .sym 10, .sym 11, .sym 12, .sym 13], .agg [.lit (.bool false), .sym 14, .sym 15]]
@[reducible] noncomputable def GWithin_b1_k (b1 b2 b3 b4 : Bool) : Know := ⟨[([0, 12, 27], [.sym 16, .lit (.int .i64 0)], .lit (.bool (!b1))),
  ([0, 12, 27], [.sym 17, .lit (.int .i64 0)], .lit (.bool (!b2))),
  ([0, 12, 27], [.sym 18, .lit (.int .i64 0)], .lit (.bool (!b3))),
  ([0, 12, 27], [.sym 19, .lit (.int .i64 0)], .lit (.bool (!b4)))],
  [(21, [.agg [.sym 0, .sym 1, .sym 2, .sym 3, .sym 4, .sym 5]], .sym 16),
  (21, [.agg [.sym 8, .sym 9, .sym 10, .sym 11, .sym 12, .sym 13]], .sym 17),
  (43, [.agg [.lit (.bool false), .sym 6, .sym 7]], .sym 18),
  (43, [.agg [.lit (.bool false), .sym 14, .sym 15]], .sym 19)]⟩
theorem GWithin_b1_r1 : @comes (GWithin_b1_k true true true false) Tryd.prog glT 3000 GWithin_b1_f GWithin_b1_a = some (.lit (.tuple #[.bool false, .int .i64 2])) := by kernel_rfl
theorem GWithin_b1_r2 (b4 : Bool) : @comes (GWithin_b1_k true true false b4) Tryd.prog glT 3000 GWithin_b1_f GWithin_b1_a = some (.lit (.tuple #[.bool false, .int .i64 2])) := by kernel_rfl
theorem GWithin_b1_r3 (b3 b4 : Bool) : @comes (GWithin_b1_k true false b3 b4) Tryd.prog glT 3000 GWithin_b1_f GWithin_b1_a = some (.lit (.tuple #[.bool false, .int .i64 2])) := by kernel_rfl
theorem GWithin_b1_r4 (b2 b3 b4 : Bool) : @comes (GWithin_b1_k false b2 b3 b4) Tryd.prog glT 3000 GWithin_b1_f GWithin_b1_a = some (.lit (.tuple #[.bool false, .int .i64 2])) := by kernel_rfl

set_option maxRecDepth 100000 in
set_option maxHeartbeats 4000000 in
theorem GWithin_b1 (c : Gt) (rs : ByteArray) (rx : Int) (d : Gt) (ss : ByteArray) (sx : Int) (w : World) (zc : c.Small) (zr : rs.size ≤ 9223372036854775807) (zd : d.Small) (zs : ss.size ≤ 9223372036854775807) (hn : ¬ (c.Ok ∧ (Dt.mk false rs rx).Ok ∧ d.Ok ∧ (Dt.mk false ss sx).Ok)) (hG : Globs glT w) : Calls Tryd.prog 31 #[.agg #[.bool c.re.g, .string c.re.s, .int .i64 c.re.x, .bool c.im.g, .string c.im.s, .int .i64 c.im.x], .agg #[.bool false, .string rs, .int .i64 rx], .agg #[.bool d.re.g, .string d.re.s, .int .i64 d.re.x, .bool d.im.g, .string d.im.s, .int .i64 d.im.x], .agg #[.bool false, .string ss, .int .i64 sx]] w fun e w' => e = .returned (.tuple #[.bool false, .int .i64 2]) ∧ Below w.heap.size w w' := by
  obtain ⟨b1, i1⟩ := bex (gE c = 0)
  obtain ⟨b2, i2⟩ := bex (gE d = 0)
  obtain ⟨b3, i3⟩ := bex (dE [Dt.mk false rs rx] = 0)
  obtain ⟨b4, i4⟩ := bex (dE [Dt.mk false ss sx] = 0)
  letI : Env := mkEnv glT [.bool c.re.g, .string c.re.s, .int .i64 c.re.x, .bool c.im.g, .string c.im.s, .int .i64 c.im.x, .string rs, .int .i64 rx, .bool d.re.g, .string d.re.s, .int .i64 d.re.x, .bool d.im.g, .string d.im.s, .int .i64 d.im.x, .string ss, .int .i64 sx, .int .i64 (gE c), .int .i64 (gE d), .int .i64 (dE [Dt.mk false rs rx]), .int .i64 (dE [Dt.mk false ss sx])] rfl
  have hops : OpsT Tryd.prog (@Know.ops (GWithin_b1_k b1 b2 b3 b4)) := ⟨opt_neq_i rfl rfl i1,
    opt_neq_i rfl rfl i2,
    opt_neq_i rfl rfl i3,
    opt_neq_i rfl rfl i4,
    trivial⟩
  have hcalls : CallsT Tryd.prog (@Know.calls (GWithin_b1_k b1 b2 b3 b4)) := ⟨callt rfl rfl fun w hG => GCheck_all c zc w hG,
    callt rfl rfl fun w hG => GCheck_all d zd w hG,
    callt rfl rfl fun w hG => DCheck_c (Dt.mk false rs rx) w zr,
    callt rfl rfl fun w hG => DCheck_c (Dt.mk false ss sx) w zs,
    trivial⟩
  have fin : ∀ v, @comes (GWithin_b1_k b1 b2 b3 b4) Tryd.prog glT 3000 GWithin_b1_f GWithin_b1_a = some v → ground v = true → Ending.returned (gval v) = .returned (.tuple #[.bool false, .int .i64 2]) → Calls Tryd.prog 31 #[.agg #[.bool c.re.g, .string c.re.s, .int .i64 c.re.x, .bool c.im.g, .string c.im.s, .int .i64 c.im.x], .agg #[.bool false, .string rs, .int .i64 rx], .agg #[.bool d.re.g, .string d.re.s, .int .i64 d.re.x, .bool d.im.g, .string d.im.s, .int .i64 d.im.x], .agg #[.bool false, .string ss, .int .i64 sx]] w fun e w' => e = .returned (.tuple #[.bool false, .int .i64 2]) ∧ Below w.heap.size w w' := fun v h1 h2 h3 => (@sym_ok _ (GWithin_b1_k b1 b2 b3 b4) _ (@KnowOk.of _ (GWithin_b1_k b1 b2 b3 b4) _ hops hcalls) (by kernel_rfl) _ _ _ _ h1 rfl h2 _ hG).mono fun e w' h => ⟨h.1.trans h3, h.2⟩
  clear hops hcalls
  cases b1 with
  | true =>
    have h1 : gE c = 0 := i1.1 rfl
    cases b2 with
    | true =>
      have h2 : gE d = 0 := i2.1 rfl
      cases b3 with
      | true =>
        have h3 : dE [Dt.mk false rs rx] = 0 := i3.1 rfl
        cases b4 with
        | true =>
          exact absurd (i4.1 rfl) (fun c => hn ⟨gE0.1 h1, dE1.1 h3, gE0.1 h2, dE1.1 c⟩)
        | false =>
          have h4 : ¬ (dE [Dt.mk false ss sx] = 0) := fun c => Bool.false_ne_true (i4.2 c)
          exact fin _ (GWithin_b1_r1) rfl rfl
      | false =>
        have h3 : ¬ (dE [Dt.mk false rs rx] = 0) := fun c => Bool.false_ne_true (i3.2 c)
        exact fin _ (GWithin_b1_r2 b4) rfl rfl
    | false =>
      have h2 : ¬ (gE d = 0) := fun c => Bool.false_ne_true (i2.2 c)
      exact fin _ (GWithin_b1_r3 b3 b4) rfl rfl
  | false =>
    have h1 : ¬ (gE c = 0) := fun c => Bool.false_ne_true (i1.2 c)
    exact fin _ (GWithin_b1_r4 b2 b3 b4) rfl rfl

@[reducible] def GWithin_b2_f : FuncId := 31
@[reducible] def GWithin_b2_a : List AV := [.agg [.sym 0, .sym 1, .sym 2, .sym 3, .sym 4, .sym 5], .agg [.lit (.bool true), .sym 6, .sym 7], .agg [.sym 8, .sym 9, .sym 10, .sym 11, .sym 12, .sym 13], .agg [.sym 14, .sym 15, .sym 16]]
@[reducible] noncomputable def GWithin_b2_k (b1 b2 b3 : Bool) : Know := ⟨[([0, 12, 27], [.sym 17, .lit (.int .i64 0)], .lit (.bool (!b1))),
  ([0, 12, 27], [.sym 18, .lit (.int .i64 0)], .lit (.bool (!b2))),
  ([0, 12, 27], [.sym 19, .lit (.int .i64 0)], .lit (.bool (!b3)))],
  [(21, [.agg [.sym 0, .sym 1, .sym 2, .sym 3, .sym 4, .sym 5]], .sym 17),
  (21, [.agg [.sym 8, .sym 9, .sym 10, .sym 11, .sym 12, .sym 13]], .sym 18),
  (43, [.agg [.lit (.bool true), .sym 6, .sym 7]], .sym 19)]⟩
theorem GWithin_b2_r1 : @comes (GWithin_b2_k true true true) Tryd.prog glT 3000 GWithin_b2_f GWithin_b2_a = some (.lit (.tuple #[.bool false, .int .i64 2])) := by kernel_rfl
theorem GWithin_b2_r2 : @comes (GWithin_b2_k true true false) Tryd.prog glT 3000 GWithin_b2_f GWithin_b2_a = some (.lit (.tuple #[.bool false, .int .i64 2])) := by kernel_rfl
theorem GWithin_b2_r3 (b3 : Bool) : @comes (GWithin_b2_k true false b3) Tryd.prog glT 3000 GWithin_b2_f GWithin_b2_a = some (.lit (.tuple #[.bool false, .int .i64 2])) := by kernel_rfl
theorem GWithin_b2_r4 (b2 b3 : Bool) : @comes (GWithin_b2_k false b2 b3) Tryd.prog glT 3000 GWithin_b2_f GWithin_b2_a = some (.lit (.tuple #[.bool false, .int .i64 2])) := by kernel_rfl

set_option maxRecDepth 100000 in
set_option maxHeartbeats 4000000 in
theorem GWithin_b2 (c : Gt) (rs : ByteArray) (rx : Int) (d : Gt) (s : Dt) (w : World) (zc : c.Small) (zr : rs.size ≤ 9223372036854775807) (zd : d.Small) (zs : s.s.size ≤ 9223372036854775807) (hG : Globs glT w) : Calls Tryd.prog 31 #[.agg #[.bool c.re.g, .string c.re.s, .int .i64 c.re.x, .bool c.im.g, .string c.im.s, .int .i64 c.im.x], .agg #[.bool true, .string rs, .int .i64 rx], .agg #[.bool d.re.g, .string d.re.s, .int .i64 d.re.x, .bool d.im.g, .string d.im.s, .int .i64 d.im.x], .agg #[.bool s.g, .string s.s, .int .i64 s.x]] w fun e w' => e = .returned (.tuple #[.bool false, .int .i64 2]) ∧ Below w.heap.size w w' := by
  obtain ⟨b1, i1⟩ := bex (gE c = 0)
  obtain ⟨b2, i2⟩ := bex (gE d = 0)
  obtain ⟨b3, i3⟩ := bex (dE [Dt.mk true rs rx] = 0)
  letI : Env := mkEnv glT [.bool c.re.g, .string c.re.s, .int .i64 c.re.x, .bool c.im.g, .string c.im.s, .int .i64 c.im.x, .string rs, .int .i64 rx, .bool d.re.g, .string d.re.s, .int .i64 d.re.x, .bool d.im.g, .string d.im.s, .int .i64 d.im.x, .bool s.g, .string s.s, .int .i64 s.x, .int .i64 (gE c), .int .i64 (gE d), .int .i64 (dE [Dt.mk true rs rx])] rfl
  have hops : OpsT Tryd.prog (@Know.ops (GWithin_b2_k b1 b2 b3)) := ⟨opt_neq_i rfl rfl i1,
    opt_neq_i rfl rfl i2,
    opt_neq_i rfl rfl i3,
    trivial⟩
  have hcalls : CallsT Tryd.prog (@Know.calls (GWithin_b2_k b1 b2 b3)) := ⟨callt rfl rfl fun w hG => GCheck_all c zc w hG,
    callt rfl rfl fun w hG => GCheck_all d zd w hG,
    callt rfl rfl fun w hG => DCheck_c (Dt.mk true rs rx) w zr,
    trivial⟩
  have fin : ∀ v, @comes (GWithin_b2_k b1 b2 b3) Tryd.prog glT 3000 GWithin_b2_f GWithin_b2_a = some v → ground v = true → Ending.returned (gval v) = .returned (.tuple #[.bool false, .int .i64 2]) → Calls Tryd.prog 31 #[.agg #[.bool c.re.g, .string c.re.s, .int .i64 c.re.x, .bool c.im.g, .string c.im.s, .int .i64 c.im.x], .agg #[.bool true, .string rs, .int .i64 rx], .agg #[.bool d.re.g, .string d.re.s, .int .i64 d.re.x, .bool d.im.g, .string d.im.s, .int .i64 d.im.x], .agg #[.bool s.g, .string s.s, .int .i64 s.x]] w fun e w' => e = .returned (.tuple #[.bool false, .int .i64 2]) ∧ Below w.heap.size w w' := fun v h1 h2 h3 => (@sym_ok _ (GWithin_b2_k b1 b2 b3) _ (@KnowOk.of _ (GWithin_b2_k b1 b2 b3) _ hops hcalls) (by kernel_rfl) _ _ _ _ h1 rfl h2 _ hG).mono fun e w' h => ⟨h.1.trans h3, h.2⟩
  clear hops hcalls
  cases b1 with
  | true =>
    have h1 : gE c = 0 := i1.1 rfl
    cases b2 with
    | true =>
      have h2 : gE d = 0 := i2.1 rfl
      cases b3 with
      | true =>
        have h3 : dE [Dt.mk true rs rx] = 0 := i3.1 rfl
        exact fin _ (GWithin_b2_r1) rfl rfl
      | false =>
        have h3 : ¬ (dE [Dt.mk true rs rx] = 0) := fun c => Bool.false_ne_true (i3.2 c)
        exact fin _ (GWithin_b2_r2) rfl rfl
    | false =>
      have h2 : ¬ (gE d = 0) := fun c => Bool.false_ne_true (i2.2 c)
      exact fin _ (GWithin_b2_r3 b3) rfl rfl
  | false =>
    have h1 : ¬ (gE c = 0) := fun c => Bool.false_ne_true (i1.2 c)
    exact fin _ (GWithin_b2_r4 b2 b3) rfl rfl

@[reducible] def GWithin_b3_f : FuncId := 31
@[reducible] def GWithin_b3_a : List AV := [.agg [.sym 0, .sym 1, .sym 2, .sym 3, .sym 4, .sym 5], .agg [.lit (.bool false), .sym 6, .sym 7], .agg [.sym 8, .sym 9, .sym 10, .sym 11, .sym 12, .sym 13], .agg [.lit (.bool true), .sym 14, .sym 15]]
@[reducible] noncomputable def GWithin_b3_k (b1 b2 b3 b4 : Bool) : Know := ⟨[([0, 12, 27], [.sym 16, .lit (.int .i64 0)], .lit (.bool (!b1))),
  ([0, 12, 27], [.sym 17, .lit (.int .i64 0)], .lit (.bool (!b2))),
  ([0, 12, 27], [.sym 18, .lit (.int .i64 0)], .lit (.bool (!b3))),
  ([0, 12, 27], [.sym 19, .lit (.int .i64 0)], .lit (.bool (!b4)))],
  [(21, [.agg [.sym 0, .sym 1, .sym 2, .sym 3, .sym 4, .sym 5]], .sym 16),
  (21, [.agg [.sym 8, .sym 9, .sym 10, .sym 11, .sym 12, .sym 13]], .sym 17),
  (43, [.agg [.lit (.bool false), .sym 6, .sym 7]], .sym 18),
  (43, [.agg [.lit (.bool true), .sym 14, .sym 15]], .sym 19)]⟩
theorem GWithin_b3_r1 : @comes (GWithin_b3_k true true true true) Tryd.prog glT 3000 GWithin_b3_f GWithin_b3_a = some (.lit (.tuple #[.bool false, .int .i64 2])) := by kernel_rfl
theorem GWithin_b3_r2 : @comes (GWithin_b3_k true true true false) Tryd.prog glT 3000 GWithin_b3_f GWithin_b3_a = some (.lit (.tuple #[.bool false, .int .i64 2])) := by kernel_rfl
theorem GWithin_b3_r3 (b4 : Bool) : @comes (GWithin_b3_k true true false b4) Tryd.prog glT 3000 GWithin_b3_f GWithin_b3_a = some (.lit (.tuple #[.bool false, .int .i64 2])) := by kernel_rfl
theorem GWithin_b3_r4 (b3 b4 : Bool) : @comes (GWithin_b3_k true false b3 b4) Tryd.prog glT 3000 GWithin_b3_f GWithin_b3_a = some (.lit (.tuple #[.bool false, .int .i64 2])) := by kernel_rfl
theorem GWithin_b3_r5 (b2 b3 b4 : Bool) : @comes (GWithin_b3_k false b2 b3 b4) Tryd.prog glT 3000 GWithin_b3_f GWithin_b3_a = some (.lit (.tuple #[.bool false, .int .i64 2])) := by kernel_rfl

set_option maxRecDepth 100000 in
set_option maxHeartbeats 4000000 in
theorem GWithin_b3 (c : Gt) (rs : ByteArray) (rx : Int) (d : Gt) (ss : ByteArray) (sx : Int) (w : World) (zc : c.Small) (zr : rs.size ≤ 9223372036854775807) (zd : d.Small) (zs : ss.size ≤ 9223372036854775807) (hG : Globs glT w) : Calls Tryd.prog 31 #[.agg #[.bool c.re.g, .string c.re.s, .int .i64 c.re.x, .bool c.im.g, .string c.im.s, .int .i64 c.im.x], .agg #[.bool false, .string rs, .int .i64 rx], .agg #[.bool d.re.g, .string d.re.s, .int .i64 d.re.x, .bool d.im.g, .string d.im.s, .int .i64 d.im.x], .agg #[.bool true, .string ss, .int .i64 sx]] w fun e w' => e = .returned (.tuple #[.bool false, .int .i64 2]) ∧ Below w.heap.size w w' := by
  obtain ⟨b1, i1⟩ := bex (gE c = 0)
  obtain ⟨b2, i2⟩ := bex (gE d = 0)
  obtain ⟨b3, i3⟩ := bex (dE [Dt.mk false rs rx] = 0)
  obtain ⟨b4, i4⟩ := bex (dE [Dt.mk true ss sx] = 0)
  letI : Env := mkEnv glT [.bool c.re.g, .string c.re.s, .int .i64 c.re.x, .bool c.im.g, .string c.im.s, .int .i64 c.im.x, .string rs, .int .i64 rx, .bool d.re.g, .string d.re.s, .int .i64 d.re.x, .bool d.im.g, .string d.im.s, .int .i64 d.im.x, .string ss, .int .i64 sx, .int .i64 (gE c), .int .i64 (gE d), .int .i64 (dE [Dt.mk false rs rx]), .int .i64 (dE [Dt.mk true ss sx])] rfl
  have hops : OpsT Tryd.prog (@Know.ops (GWithin_b3_k b1 b2 b3 b4)) := ⟨opt_neq_i rfl rfl i1,
    opt_neq_i rfl rfl i2,
    opt_neq_i rfl rfl i3,
    opt_neq_i rfl rfl i4,
    trivial⟩
  have hcalls : CallsT Tryd.prog (@Know.calls (GWithin_b3_k b1 b2 b3 b4)) := ⟨callt rfl rfl fun w hG => GCheck_all c zc w hG,
    callt rfl rfl fun w hG => GCheck_all d zd w hG,
    callt rfl rfl fun w hG => DCheck_c (Dt.mk false rs rx) w zr,
    callt rfl rfl fun w hG => DCheck_c (Dt.mk true ss sx) w zs,
    trivial⟩
  have fin : ∀ v, @comes (GWithin_b3_k b1 b2 b3 b4) Tryd.prog glT 3000 GWithin_b3_f GWithin_b3_a = some v → ground v = true → Ending.returned (gval v) = .returned (.tuple #[.bool false, .int .i64 2]) → Calls Tryd.prog 31 #[.agg #[.bool c.re.g, .string c.re.s, .int .i64 c.re.x, .bool c.im.g, .string c.im.s, .int .i64 c.im.x], .agg #[.bool false, .string rs, .int .i64 rx], .agg #[.bool d.re.g, .string d.re.s, .int .i64 d.re.x, .bool d.im.g, .string d.im.s, .int .i64 d.im.x], .agg #[.bool true, .string ss, .int .i64 sx]] w fun e w' => e = .returned (.tuple #[.bool false, .int .i64 2]) ∧ Below w.heap.size w w' := fun v h1 h2 h3 => (@sym_ok _ (GWithin_b3_k b1 b2 b3 b4) _ (@KnowOk.of _ (GWithin_b3_k b1 b2 b3 b4) _ hops hcalls) (by kernel_rfl) _ _ _ _ h1 rfl h2 _ hG).mono fun e w' h => ⟨h.1.trans h3, h.2⟩
  clear hops hcalls
  cases b1 with
  | true =>
    have h1 : gE c = 0 := i1.1 rfl
    cases b2 with
    | true =>
      have h2 : gE d = 0 := i2.1 rfl
      cases b3 with
      | true =>
        have h3 : dE [Dt.mk false rs rx] = 0 := i3.1 rfl
        cases b4 with
        | true =>
          have h4 : dE [Dt.mk true ss sx] = 0 := i4.1 rfl
          exact fin _ (GWithin_b3_r1) rfl rfl
        | false =>
          have h4 : ¬ (dE [Dt.mk true ss sx] = 0) := fun c => Bool.false_ne_true (i4.2 c)
          exact fin _ (GWithin_b3_r2) rfl rfl
      | false =>
        have h3 : ¬ (dE [Dt.mk false rs rx] = 0) := fun c => Bool.false_ne_true (i3.2 c)
        exact fin _ (GWithin_b3_r3 b4) rfl rfl
    | false =>
      have h2 : ¬ (gE d = 0) := fun c => Bool.false_ne_true (i2.2 c)
      exact fin _ (GWithin_b3_r4 b3 b4) rfl rfl
  | false =>
    have h1 : ¬ (gE c = 0) := fun c => Bool.false_ne_true (i1.2 c)
    exact fin _ (GWithin_b3_r5 b2 b3 b4) rfl rfl

end Go.Proofs.YtchneedfkonheaaDoor
set_option linter.unusedVariables false
set_option linter.unusedSimpArgs false
namespace Go.Proofs.YtchneedfkonheaaDoor
open Go Go.RowKit Nt


@[reducible] def GApart_p_f : FuncId := 32
@[reducible] def GApart_p_a : List AV := [.agg [.sym 0, .sym 1, .sym 2, .sym 3, .sym 4, .sym 5], .agg [.lit (.bool false), .sym 6, .sym 7], .agg [.sym 8, .sym 9, .sym 10, .sym 11, .sym 12, .sym 13], .agg [.lit (.bool false), .sym 14, .sym 15]]
@[reducible] noncomputable def GApart_p_k (b1 b2 b3 b4 b5 b6 b7 b8 : Bool) : Know := ⟨[([0, 12, 27], [.sym 19, .lit (.int .i64 0)], .lit (.bool (!b1))),
  ([0, 11, 27], [.sym 19, .lit (.int .i64 0)], .lit (.bool b1)),
  ([0, 12, 27], [.sym 23, .lit (.int .i64 0)], .lit (.bool (!b2))),
  ([0, 11, 27], [.sym 23, .lit (.int .i64 0)], .lit (.bool b2)),
  ([0, 12, 27], [.sym 27, .lit (.int .i64 0)], .lit (.bool (!b3))),
  ([0, 11, 27], [.sym 27, .lit (.int .i64 0)], .lit (.bool b3)),
  ([0, 12, 27], [.sym 31, .lit (.int .i64 0)], .lit (.bool (!b4))),
  ([0, 11, 27], [.sym 31, .lit (.int .i64 0)], .lit (.bool b4)),
  ([0, 12, 27], [.sym 35, .lit (.int .i64 0)], .lit (.bool (!b5))),
  ([0, 11, 27], [.sym 35, .lit (.int .i64 0)], .lit (.bool b5)),
  ([0, 12, 27], [.sym 39, .lit (.int .i64 0)], .lit (.bool (!b6))),
  ([0, 11, 27], [.sym 39, .lit (.int .i64 0)], .lit (.bool b6)),
  ([0, 12, 27], [.sym 43, .lit (.int .i64 0)], .lit (.bool (!b7))),
  ([0, 11, 27], [.sym 43, .lit (.int .i64 0)], .lit (.bool b7)),
  ([0, 14, 3], [.sym 44, .lit (.int .i64 0)], .lit (.bool b8))],
  [(21, [.agg [.sym 0, .sym 1, .sym 2, .sym 3, .sym 4, .sym 5]], .lit (.int .i64 0)),
  (21, [.agg [.sym 8, .sym 9, .sym 10, .sym 11, .sym 12, .sym 13]], .lit (.int .i64 0)),
  (43, [.agg [.lit (.bool false), .sym 6, .sym 7]], .lit (.int .i64 0)),
  (43, [.agg [.lit (.bool false), .sym 14, .sym 15]], .lit (.int .i64 0)),
  (29, [.agg [.lit (.bool false), .sym 6, .sym 7], .agg [.lit (.bool false), .sym 14, .sym 15]], .tup [.agg [.sym 16, .sym 17, .sym 18], .sym 19]),
  (63, [.agg [.sym 0, .sym 1, .sym 2], .agg [.sym 8, .sym 9, .sym 10]], .tup [.agg [.sym 20, .sym 21, .sym 22], .sym 23]),
  (63, [.agg [.sym 3, .sym 4, .sym 5], .agg [.sym 11, .sym 12, .sym 13]], .tup [.agg [.sym 24, .sym 25, .sym 26], .sym 27]),
  (26, [.agg [.sym 20, .sym 21, .sym 22], .agg [.sym 20, .sym 21, .sym 22]], .tup [.agg [.sym 28, .sym 29, .sym 30], .sym 31]),
  (26, [.agg [.sym 24, .sym 25, .sym 26], .agg [.sym 24, .sym 25, .sym 26]], .tup [.agg [.sym 32, .sym 33, .sym 34], .sym 35]),
  (29, [.agg [.sym 28, .sym 29, .sym 30], .agg [.sym 32, .sym 33, .sym 34]], .tup [.agg [.sym 36, .sym 37, .sym 38], .sym 39]),
  (26, [.agg [.sym 16, .sym 17, .sym 18], .agg [.sym 16, .sym 17, .sym 18]], .tup [.agg [.sym 40, .sym 41, .sym 42], .sym 43]),
  (59, [.agg [.sym 36, .sym 37, .sym 38], .agg [.sym 40, .sym 41, .sym 42]], .tup [.sym 44, .lit (.int .i64 0)])]⟩
theorem GApart_p_r1 : @comes (GApart_p_k true true true true true true true true) Tryd.prog glT 3000 GApart_p_f GApart_p_a = some (.lit (.tuple #[.bool false, .int .i64 0])) := by kernel_rfl
theorem GApart_p_r2 : @comes (GApart_p_k true true true true true true true false) Tryd.prog glT 3000 GApart_p_f GApart_p_a = some (.lit (.tuple #[.bool true, .int .i64 0])) := by kernel_rfl
theorem GApart_p_r3 (b8 : Bool) : @comes (GApart_p_k true true true true true true false b8) Tryd.prog glT 3000 GApart_p_f GApart_p_a = some (.tup [.lit (.bool false), .sym 43]) := by kernel_rfl
theorem GApart_p_r4 (b7 b8 : Bool) : @comes (GApart_p_k true true true true true false b7 b8) Tryd.prog glT 3000 GApart_p_f GApart_p_a = some (.tup [.lit (.bool false), .sym 39]) := by kernel_rfl
theorem GApart_p_r5 (b6 b7 b8 : Bool) : @comes (GApart_p_k true true true true false b6 b7 b8) Tryd.prog glT 3000 GApart_p_f GApart_p_a = some (.tup [.lit (.bool false), .sym 35]) := by kernel_rfl
theorem GApart_p_r6 (b5 b6 b7 b8 : Bool) : @comes (GApart_p_k true true true false b5 b6 b7 b8) Tryd.prog glT 3000 GApart_p_f GApart_p_a = some (.tup [.lit (.bool false), .sym 31]) := by kernel_rfl
theorem GApart_p_r7 (b4 b5 b6 b7 b8 : Bool) : @comes (GApart_p_k true true false b4 b5 b6 b7 b8) Tryd.prog glT 3000 GApart_p_f GApart_p_a = some (.tup [.lit (.bool false), .sym 27]) := by kernel_rfl
theorem GApart_p_r8 (b3 b4 b5 b6 b7 b8 : Bool) : @comes (GApart_p_k true false b3 b4 b5 b6 b7 b8) Tryd.prog glT 3000 GApart_p_f GApart_p_a = some (.tup [.lit (.bool false), .sym 23]) := by kernel_rfl
theorem GApart_p_r9 (b2 b3 b4 b5 b6 b7 b8 : Bool) : @comes (GApart_p_k false b2 b3 b4 b5 b6 b7 b8) Tryd.prog glT 3000 GApart_p_f GApart_p_a = some (.tup [.lit (.bool false), .sym 19]) := by kernel_rfl

set_option maxRecDepth 100000 in
set_option maxHeartbeats 4000000 in
theorem GApart_p (c : Gs) (rn : Nat) (rx : Int) (d : Gs) (sn : Nat) (sx : Int) (w : World) (hc : c.Ok) (hr : (Dy.mk false rn rx).Ok) (hd : d.Ok) (hs : (Dy.mk false sn sx).Ok) (hG : Globs glT w) : Calls Tryd.prog 32 #[.agg #[.bool c.re.g, .string (natS c.re.n), .int .i64 c.re.x, .bool c.im.g, .string (natS c.im.n), .int .i64 c.im.x], .agg #[.bool false, .string (natS (Dy.mk false rn rx).n), .int .i64 (Dy.mk false rn rx).x], .agg #[.bool d.re.g, .string (natS d.re.n), .int .i64 d.re.x, .bool d.im.g, .string (natS d.im.n), .int .i64 d.im.x], .agg #[.bool false, .string (natS (Dy.mk false sn sx).n), .int .i64 (Dy.mk false sn sx).x]] w fun e w' => e = .returned (.tuple #[.bool (apartB c (Dy.mk false rn rx) d (Dy.mk false sn sx)), .int .i64 (apartE c (Dy.mk false rn rx) d (Dy.mk false sn sx))]) ∧ Below w.heap.size w w' := by
  obtain ⟨b1, i1⟩ := bex (addE (Dy.mk false rn rx) (Dy.mk false sn sx) = 0)
  obtain ⟨b2, i2⟩ := bex (addE c.re (negD d.re) = 0)
  obtain ⟨b3, i3⟩ := bex (addE c.im (negD d.im) = 0)
  obtain ⟨b4, i4⟩ := bex (mulE (addD c.re (negD d.re)) (addD c.re (negD d.re)) = 0)
  obtain ⟨b5, i5⟩ := bex (mulE (addD c.im (negD d.im)) (addD c.im (negD d.im)) = 0)
  obtain ⟨b6, i6⟩ := bex (addE (mulD (addD c.re (negD d.re)) (addD c.re (negD d.re))) (mulD (addD c.im (negD d.im)) (addD c.im (negD d.im))) = 0)
  obtain ⟨b7, i7⟩ := bex (mulE (addD (Dy.mk false rn rx) (Dy.mk false sn sx)) (addD (Dy.mk false rn rx) (Dy.mk false sn sx)) = 0)
  obtain ⟨b8, i8⟩ := bex (cmpD (addD (mulD (addD c.re (negD d.re)) (addD c.re (negD d.re))) (mulD (addD c.im (negD d.im)) (addD c.im (negD d.im)))) (mulD (addD (Dy.mk false rn rx) (Dy.mk false sn sx)) (addD (Dy.mk false rn rx) (Dy.mk false sn sx))) ≤ 0)
  letI : Env := mkEnv glT [.bool c.re.g, .string (natS c.re.n), .int .i64 c.re.x, .bool c.im.g, .string (natS c.im.n), .int .i64 c.im.x, .string (natS (Dy.mk false rn rx).n), .int .i64 (Dy.mk false rn rx).x, .bool d.re.g, .string (natS d.re.n), .int .i64 d.re.x, .bool d.im.g, .string (natS d.im.n), .int .i64 d.im.x, .string (natS (Dy.mk false sn sx).n), .int .i64 (Dy.mk false sn sx).x, .bool (addD (Dy.mk false rn rx) (Dy.mk false sn sx)).g, .string (natS (addD (Dy.mk false rn rx) (Dy.mk false sn sx)).n), .int .i64 (addD (Dy.mk false rn rx) (Dy.mk false sn sx)).x, .int .i64 (addE (Dy.mk false rn rx) (Dy.mk false sn sx)), .bool (addD c.re (negD d.re)).g, .string (natS (addD c.re (negD d.re)).n), .int .i64 (addD c.re (negD d.re)).x, .int .i64 (addE c.re (negD d.re)), .bool (addD c.im (negD d.im)).g, .string (natS (addD c.im (negD d.im)).n), .int .i64 (addD c.im (negD d.im)).x, .int .i64 (addE c.im (negD d.im)), .bool (mulD (addD c.re (negD d.re)) (addD c.re (negD d.re))).g, .string (natS (mulD (addD c.re (negD d.re)) (addD c.re (negD d.re))).n), .int .i64 (mulD (addD c.re (negD d.re)) (addD c.re (negD d.re))).x, .int .i64 (mulE (addD c.re (negD d.re)) (addD c.re (negD d.re))), .bool (mulD (addD c.im (negD d.im)) (addD c.im (negD d.im))).g, .string (natS (mulD (addD c.im (negD d.im)) (addD c.im (negD d.im))).n), .int .i64 (mulD (addD c.im (negD d.im)) (addD c.im (negD d.im))).x, .int .i64 (mulE (addD c.im (negD d.im)) (addD c.im (negD d.im))), .bool (addD (mulD (addD c.re (negD d.re)) (addD c.re (negD d.re))) (mulD (addD c.im (negD d.im)) (addD c.im (negD d.im)))).g, .string (natS (addD (mulD (addD c.re (negD d.re)) (addD c.re (negD d.re))) (mulD (addD c.im (negD d.im)) (addD c.im (negD d.im)))).n), .int .i64 (addD (mulD (addD c.re (negD d.re)) (addD c.re (negD d.re))) (mulD (addD c.im (negD d.im)) (addD c.im (negD d.im)))).x, .int .i64 (addE (mulD (addD c.re (negD d.re)) (addD c.re (negD d.re))) (mulD (addD c.im (negD d.im)) (addD c.im (negD d.im)))), .bool (mulD (addD (Dy.mk false rn rx) (Dy.mk false sn sx)) (addD (Dy.mk false rn rx) (Dy.mk false sn sx))).g, .string (natS (mulD (addD (Dy.mk false rn rx) (Dy.mk false sn sx)) (addD (Dy.mk false rn rx) (Dy.mk false sn sx))).n), .int .i64 (mulD (addD (Dy.mk false rn rx) (Dy.mk false sn sx)) (addD (Dy.mk false rn rx) (Dy.mk false sn sx))).x, .int .i64 (mulE (addD (Dy.mk false rn rx) (Dy.mk false sn sx)) (addD (Dy.mk false rn rx) (Dy.mk false sn sx))), .int .i64 (cmpD (addD (mulD (addD c.re (negD d.re)) (addD c.re (negD d.re))) (mulD (addD c.im (negD d.im)) (addD c.im (negD d.im)))) (mulD (addD (Dy.mk false rn rx) (Dy.mk false sn sx)) (addD (Dy.mk false rn rx) (Dy.mk false sn sx))))] rfl
  have hops : OpsT Tryd.prog (@Know.ops (GApart_p_k b1 b2 b3 b4 b5 b6 b7 b8)) := ⟨opt_neq_i rfl rfl i1,
    opt_eql_i rfl rfl i1,
    opt_neq_i rfl rfl i2,
    opt_eql_i rfl rfl i2,
    opt_neq_i rfl rfl i3,
    opt_eql_i rfl rfl i3,
    opt_neq_i rfl rfl i4,
    opt_eql_i rfl rfl i4,
    opt_neq_i rfl rfl i5,
    opt_eql_i rfl rfl i5,
    opt_neq_i rfl rfl i6,
    opt_eql_i rfl rfl i6,
    opt_neq_i rfl rfl i7,
    opt_eql_i rfl rfl i7,
    opt_leq_i rfl rfl i8,
    trivial⟩
  have hcalls : CallsT Tryd.prog (@Know.calls (GApart_p_k b1 b2 b3 b4 b5 b6 b7 b8)) := ⟨callt rfl rfl fun w hG => GCheck_gs c hc w hG,
    callt rfl rfl fun w hG => GCheck_gs d hd w hG,
    callt rfl rfl fun w hG => DCheck_dy (Dy.mk false rn rx) hr w,
    callt rfl rfl fun w hG => DCheck_dy (Dy.mk false sn sx) hs w,
    callt rfl rfl fun w hG => DAdd_c (Dy.mk false rn rx) (Dy.mk false sn sx) w hr hs hG,
    callt rfl rfl fun w hG => DSub_c c.re d.re w hc.1 hd.1 hG,
    callt rfl rfl fun w hG => DSub_c c.im d.im w hc.2 hd.2 hG,
    callt rfl rfl fun w hG => DMul_c (addD c.re (negD d.re)) (addD c.re (negD d.re)) w (add_Ok hc.1 (negD_Ok hd.1)) (add_Ok hc.1 (negD_Ok hd.1)),
    callt rfl rfl fun w hG => DMul_c (addD c.im (negD d.im)) (addD c.im (negD d.im)) w (add_Ok hc.2 (negD_Ok hd.2)) (add_Ok hc.2 (negD_Ok hd.2)),
    callt rfl rfl fun w hG => DAdd_c (mulD (addD c.re (negD d.re)) (addD c.re (negD d.re))) (mulD (addD c.im (negD d.im)) (addD c.im (negD d.im))) w (mulD_Ok (addD c.re (negD d.re)) (addD c.re (negD d.re))) (mulD_Ok (addD c.im (negD d.im)) (addD c.im (negD d.im))) hG,
    callt rfl rfl fun w hG => DMul_c (addD (Dy.mk false rn rx) (Dy.mk false sn sx)) (addD (Dy.mk false rn rx) (Dy.mk false sn sx)) w (add_Ok hr hs) (add_Ok hr hs),
    callt rfl rfl fun w hG => DCmp_c (addD (mulD (addD c.re (negD d.re)) (addD c.re (negD d.re))) (mulD (addD c.im (negD d.im)) (addD c.im (negD d.im)))) (mulD (addD (Dy.mk false rn rx) (Dy.mk false sn sx)) (addD (Dy.mk false rn rx) (Dy.mk false sn sx))) w (add_Ok (mulD_Ok (addD c.re (negD d.re)) (addD c.re (negD d.re))) (mulD_Ok (addD c.im (negD d.im)) (addD c.im (negD d.im)))) (mulD_Ok (addD (Dy.mk false rn rx) (Dy.mk false sn sx)) (addD (Dy.mk false rn rx) (Dy.mk false sn sx))),
    trivial⟩
  have fin : ∀ v, @comes (GApart_p_k b1 b2 b3 b4 b5 b6 b7 b8) Tryd.prog glT 3000 GApart_p_f GApart_p_a = some v → ground v = true → Ending.returned (gval v) = .returned (.tuple #[.bool (apartB c (Dy.mk false rn rx) d (Dy.mk false sn sx)), .int .i64 (apartE c (Dy.mk false rn rx) d (Dy.mk false sn sx))]) → Calls Tryd.prog 32 #[.agg #[.bool c.re.g, .string (natS c.re.n), .int .i64 c.re.x, .bool c.im.g, .string (natS c.im.n), .int .i64 c.im.x], .agg #[.bool false, .string (natS (Dy.mk false rn rx).n), .int .i64 (Dy.mk false rn rx).x], .agg #[.bool d.re.g, .string (natS d.re.n), .int .i64 d.re.x, .bool d.im.g, .string (natS d.im.n), .int .i64 d.im.x], .agg #[.bool false, .string (natS (Dy.mk false sn sx).n), .int .i64 (Dy.mk false sn sx).x]] w fun e w' => e = .returned (.tuple #[.bool (apartB c (Dy.mk false rn rx) d (Dy.mk false sn sx)), .int .i64 (apartE c (Dy.mk false rn rx) d (Dy.mk false sn sx))]) ∧ Below w.heap.size w w' := fun v h1 h2 h3 => (@sym_ok _ (GApart_p_k b1 b2 b3 b4 b5 b6 b7 b8) _ (@KnowOk.of _ (GApart_p_k b1 b2 b3 b4 b5 b6 b7 b8) _ hops hcalls) (by kernel_rfl) _ _ _ _ h1 rfl h2 _ hG).mono fun e w' h => ⟨h.1.trans h3, h.2⟩
  clear hops hcalls
  cases b1 with
  | true =>
    have h1 : addE (Dy.mk false rn rx) (Dy.mk false sn sx) = 0 := i1.1 rfl
    cases b2 with
    | true =>
      have h2 : addE c.re (negD d.re) = 0 := i2.1 rfl
      cases b3 with
      | true =>
        have h3 : addE c.im (negD d.im) = 0 := i3.1 rfl
        cases b4 with
        | true =>
          have h4 : mulE (addD c.re (negD d.re)) (addD c.re (negD d.re)) = 0 := i4.1 rfl
          cases b5 with
          | true =>
            have h5 : mulE (addD c.im (negD d.im)) (addD c.im (negD d.im)) = 0 := i5.1 rfl
            cases b6 with
            | true =>
              have h6 : addE (mulD (addD c.re (negD d.re)) (addD c.re (negD d.re))) (mulD (addD c.im (negD d.im)) (addD c.im (negD d.im))) = 0 := i6.1 rfl
              cases b7 with
              | true =>
                have h7 : mulE (addD (Dy.mk false rn rx) (Dy.mk false sn sx)) (addD (Dy.mk false rn rx) (Dy.mk false sn sx)) = 0 := i7.1 rfl
                cases b8 with
                | true =>
                  have h8 : cmpD (addD (mulD (addD c.re (negD d.re)) (addD c.re (negD d.re))) (mulD (addD c.im (negD d.im)) (addD c.im (negD d.im)))) (mulD (addD (Dy.mk false rn rx) (Dy.mk false sn sx)) (addD (Dy.mk false rn rx) (Dy.mk false sn sx))) ≤ 0 := i8.1 rfl
                  exact fin _ (GApart_p_r1) rfl (show Ending.returned (.tuple #[.bool false, .int .i64 0]) = .returned (.tuple #[.bool (apartB c (Dy.mk false rn rx) d (Dy.mk false sn sx)), .int .i64 (apartE c (Dy.mk false rn rx) d (Dy.mk false sn sx))]) from by rw [show apartB c (Dy.mk false rn rx) d (Dy.mk false sn sx) = false from by unfold apartB; exact dec_f (fun cc => cc.2 h8), show apartE c (Dy.mk false rn rx) d (Dy.mk false sn sx) = 0 from erI_ok (show All0 (apartL c (Dy.mk false rn rx) d (Dy.mk false sn sx)) from ⟨h1, h2, h3, h4, h5, h6, h7, trivial⟩)])
                | false =>
                  have h8 : ¬ (cmpD (addD (mulD (addD c.re (negD d.re)) (addD c.re (negD d.re))) (mulD (addD c.im (negD d.im)) (addD c.im (negD d.im)))) (mulD (addD (Dy.mk false rn rx) (Dy.mk false sn sx)) (addD (Dy.mk false rn rx) (Dy.mk false sn sx))) ≤ 0) := fun c => Bool.false_ne_true (i8.2 c)
                  exact fin _ (GApart_p_r2) rfl (show Ending.returned (.tuple #[.bool true, .int .i64 0]) = .returned (.tuple #[.bool (apartB c (Dy.mk false rn rx) d (Dy.mk false sn sx)), .int .i64 (apartE c (Dy.mk false rn rx) d (Dy.mk false sn sx))]) from by rw [show apartB c (Dy.mk false rn rx) d (Dy.mk false sn sx) = true from by unfold apartB; exact dec_t ⟨(show All0 (apartL c (Dy.mk false rn rx) d (Dy.mk false sn sx)) from ⟨h1, h2, h3, h4, h5, h6, h7, trivial⟩), h8⟩, show apartE c (Dy.mk false rn rx) d (Dy.mk false sn sx) = 0 from erI_ok (show All0 (apartL c (Dy.mk false rn rx) d (Dy.mk false sn sx)) from ⟨h1, h2, h3, h4, h5, h6, h7, trivial⟩)])
              | false =>
                have h7 : ¬ (mulE (addD (Dy.mk false rn rx) (Dy.mk false sn sx)) (addD (Dy.mk false rn rx) (Dy.mk false sn sx)) = 0) := fun c => Bool.false_ne_true (i7.2 c)
                exact fin _ (GApart_p_r3 b8) rfl (show Ending.returned (.tuple #[.bool false, .int .i64 (mulE (addD (Dy.mk false rn rx) (Dy.mk false sn sx)) (addD (Dy.mk false rn rx) (Dy.mk false sn sx)))]) = .returned (.tuple #[.bool (apartB c (Dy.mk false rn rx) d (Dy.mk false sn sx)), .int .i64 (apartE c (Dy.mk false rn rx) d (Dy.mk false sn sx))]) from by rw [show apartB c (Dy.mk false rn rx) d (Dy.mk false sn sx) = false from by unfold apartB; exact dec_f (fun cc => (show ¬ All0 (apartL c (Dy.mk false rn rx) d (Dy.mk false sn sx)) from fun cc => h7 cc.2.2.2.2.2.2.1) cc.1), show apartE c (Dy.mk false rn rx) d (Dy.mk false sn sx) = 4 from erI_no (show ¬ All0 (apartL c (Dy.mk false rn rx) d (Dy.mk false sn sx)) from fun cc => h7 cc.2.2.2.2.2.2.1), mulE4 h7])
            | false =>
              have h6 : ¬ (addE (mulD (addD c.re (negD d.re)) (addD c.re (negD d.re))) (mulD (addD c.im (negD d.im)) (addD c.im (negD d.im))) = 0) := fun c => Bool.false_ne_true (i6.2 c)
              exact fin _ (GApart_p_r4 b7 b8) rfl (show Ending.returned (.tuple #[.bool false, .int .i64 (addE (mulD (addD c.re (negD d.re)) (addD c.re (negD d.re))) (mulD (addD c.im (negD d.im)) (addD c.im (negD d.im))))]) = .returned (.tuple #[.bool (apartB c (Dy.mk false rn rx) d (Dy.mk false sn sx)), .int .i64 (apartE c (Dy.mk false rn rx) d (Dy.mk false sn sx))]) from by rw [show apartB c (Dy.mk false rn rx) d (Dy.mk false sn sx) = false from by unfold apartB; exact dec_f (fun cc => (show ¬ All0 (apartL c (Dy.mk false rn rx) d (Dy.mk false sn sx)) from fun cc => h6 cc.2.2.2.2.2.1) cc.1), show apartE c (Dy.mk false rn rx) d (Dy.mk false sn sx) = 4 from erI_no (show ¬ All0 (apartL c (Dy.mk false rn rx) d (Dy.mk false sn sx)) from fun cc => h6 cc.2.2.2.2.2.1), addE4 h6])
          | false =>
            have h5 : ¬ (mulE (addD c.im (negD d.im)) (addD c.im (negD d.im)) = 0) := fun c => Bool.false_ne_true (i5.2 c)
            exact fin _ (GApart_p_r5 b6 b7 b8) rfl (show Ending.returned (.tuple #[.bool false, .int .i64 (mulE (addD c.im (negD d.im)) (addD c.im (negD d.im)))]) = .returned (.tuple #[.bool (apartB c (Dy.mk false rn rx) d (Dy.mk false sn sx)), .int .i64 (apartE c (Dy.mk false rn rx) d (Dy.mk false sn sx))]) from by rw [show apartB c (Dy.mk false rn rx) d (Dy.mk false sn sx) = false from by unfold apartB; exact dec_f (fun cc => (show ¬ All0 (apartL c (Dy.mk false rn rx) d (Dy.mk false sn sx)) from fun cc => h5 cc.2.2.2.2.1) cc.1), show apartE c (Dy.mk false rn rx) d (Dy.mk false sn sx) = 4 from erI_no (show ¬ All0 (apartL c (Dy.mk false rn rx) d (Dy.mk false sn sx)) from fun cc => h5 cc.2.2.2.2.1), mulE4 h5])
        | false =>
          have h4 : ¬ (mulE (addD c.re (negD d.re)) (addD c.re (negD d.re)) = 0) := fun c => Bool.false_ne_true (i4.2 c)
          exact fin _ (GApart_p_r6 b5 b6 b7 b8) rfl (show Ending.returned (.tuple #[.bool false, .int .i64 (mulE (addD c.re (negD d.re)) (addD c.re (negD d.re)))]) = .returned (.tuple #[.bool (apartB c (Dy.mk false rn rx) d (Dy.mk false sn sx)), .int .i64 (apartE c (Dy.mk false rn rx) d (Dy.mk false sn sx))]) from by rw [show apartB c (Dy.mk false rn rx) d (Dy.mk false sn sx) = false from by unfold apartB; exact dec_f (fun cc => (show ¬ All0 (apartL c (Dy.mk false rn rx) d (Dy.mk false sn sx)) from fun cc => h4 cc.2.2.2.1) cc.1), show apartE c (Dy.mk false rn rx) d (Dy.mk false sn sx) = 4 from erI_no (show ¬ All0 (apartL c (Dy.mk false rn rx) d (Dy.mk false sn sx)) from fun cc => h4 cc.2.2.2.1), mulE4 h4])
      | false =>
        have h3 : ¬ (addE c.im (negD d.im) = 0) := fun c => Bool.false_ne_true (i3.2 c)
        exact fin _ (GApart_p_r7 b4 b5 b6 b7 b8) rfl (show Ending.returned (.tuple #[.bool false, .int .i64 (addE c.im (negD d.im))]) = .returned (.tuple #[.bool (apartB c (Dy.mk false rn rx) d (Dy.mk false sn sx)), .int .i64 (apartE c (Dy.mk false rn rx) d (Dy.mk false sn sx))]) from by rw [show apartB c (Dy.mk false rn rx) d (Dy.mk false sn sx) = false from by unfold apartB; exact dec_f (fun cc => (show ¬ All0 (apartL c (Dy.mk false rn rx) d (Dy.mk false sn sx)) from fun cc => h3 cc.2.2.1) cc.1), show apartE c (Dy.mk false rn rx) d (Dy.mk false sn sx) = 4 from erI_no (show ¬ All0 (apartL c (Dy.mk false rn rx) d (Dy.mk false sn sx)) from fun cc => h3 cc.2.2.1), addE4 h3])
    | false =>
      have h2 : ¬ (addE c.re (negD d.re) = 0) := fun c => Bool.false_ne_true (i2.2 c)
      exact fin _ (GApart_p_r8 b3 b4 b5 b6 b7 b8) rfl (show Ending.returned (.tuple #[.bool false, .int .i64 (addE c.re (negD d.re))]) = .returned (.tuple #[.bool (apartB c (Dy.mk false rn rx) d (Dy.mk false sn sx)), .int .i64 (apartE c (Dy.mk false rn rx) d (Dy.mk false sn sx))]) from by rw [show apartB c (Dy.mk false rn rx) d (Dy.mk false sn sx) = false from by unfold apartB; exact dec_f (fun cc => (show ¬ All0 (apartL c (Dy.mk false rn rx) d (Dy.mk false sn sx)) from fun cc => h2 cc.2.1) cc.1), show apartE c (Dy.mk false rn rx) d (Dy.mk false sn sx) = 4 from erI_no (show ¬ All0 (apartL c (Dy.mk false rn rx) d (Dy.mk false sn sx)) from fun cc => h2 cc.2.1), addE4 h2])
  | false =>
    have h1 : ¬ (addE (Dy.mk false rn rx) (Dy.mk false sn sx) = 0) := fun c => Bool.false_ne_true (i1.2 c)
    exact fin _ (GApart_p_r9 b2 b3 b4 b5 b6 b7 b8) rfl (show Ending.returned (.tuple #[.bool false, .int .i64 (addE (Dy.mk false rn rx) (Dy.mk false sn sx))]) = .returned (.tuple #[.bool (apartB c (Dy.mk false rn rx) d (Dy.mk false sn sx)), .int .i64 (apartE c (Dy.mk false rn rx) d (Dy.mk false sn sx))]) from by rw [show apartB c (Dy.mk false rn rx) d (Dy.mk false sn sx) = false from by unfold apartB; exact dec_f (fun cc => (show ¬ All0 (apartL c (Dy.mk false rn rx) d (Dy.mk false sn sx)) from fun cc => h1 cc.1) cc.1), show apartE c (Dy.mk false rn rx) d (Dy.mk false sn sx) = 4 from erI_no (show ¬ All0 (apartL c (Dy.mk false rn rx) d (Dy.mk false sn sx)) from fun cc => h1 cc.1), addE4 h1])

@[reducible] def GApart_b1_f : FuncId := 32
@[reducible] def GApart_b1_a : List AV := [.agg [.sym 0, .sym 1, .sym 2, .sym 3, .sym 4, .sym 5], .agg [.lit (.bool false), .sym 6, .sym 7], .agg [.sym 8, .sym 9, .sym 10, .sym 11, .sym 12, .sym 13], .agg [.lit (.bool false), .sym 14, .sym 15]]
@[reducible] noncomputable def GApart_b1_k (b1 b2 b3 b4 : Bool) : Know := ⟨[([0, 12, 27], [.sym 16, .lit (.int .i64 0)], .lit (.bool (!b1))),
  ([0, 12, 27], [.sym 17, .lit (.int .i64 0)], .lit (.bool (!b2))),
  ([0, 12, 27], [.sym 18, .lit (.int .i64 0)], .lit (.bool (!b3))),
  ([0, 12, 27], [.sym 19, .lit (.int .i64 0)], .lit (.bool (!b4)))],
  [(21, [.agg [.sym 0, .sym 1, .sym 2, .sym 3, .sym 4, .sym 5]], .sym 16),
  (21, [.agg [.sym 8, .sym 9, .sym 10, .sym 11, .sym 12, .sym 13]], .sym 17),
  (43, [.agg [.lit (.bool false), .sym 6, .sym 7]], .sym 18),
  (43, [.agg [.lit (.bool false), .sym 14, .sym 15]], .sym 19)]⟩
theorem GApart_b1_r1 : @comes (GApart_b1_k true true true false) Tryd.prog glT 3000 GApart_b1_f GApart_b1_a = some (.lit (.tuple #[.bool false, .int .i64 2])) := by kernel_rfl
theorem GApart_b1_r2 (b4 : Bool) : @comes (GApart_b1_k true true false b4) Tryd.prog glT 3000 GApart_b1_f GApart_b1_a = some (.lit (.tuple #[.bool false, .int .i64 2])) := by kernel_rfl
theorem GApart_b1_r3 (b3 b4 : Bool) : @comes (GApart_b1_k true false b3 b4) Tryd.prog glT 3000 GApart_b1_f GApart_b1_a = some (.lit (.tuple #[.bool false, .int .i64 2])) := by kernel_rfl
theorem GApart_b1_r4 (b2 b3 b4 : Bool) : @comes (GApart_b1_k false b2 b3 b4) Tryd.prog glT 3000 GApart_b1_f GApart_b1_a = some (.lit (.tuple #[.bool false, .int .i64 2])) := by kernel_rfl

set_option maxRecDepth 100000 in
set_option maxHeartbeats 4000000 in
theorem GApart_b1 (c : Gt) (rs : ByteArray) (rx : Int) (d : Gt) (ss : ByteArray) (sx : Int) (w : World) (zc : c.Small) (zr : rs.size ≤ 9223372036854775807) (zd : d.Small) (zs : ss.size ≤ 9223372036854775807) (hn : ¬ (c.Ok ∧ (Dt.mk false rs rx).Ok ∧ d.Ok ∧ (Dt.mk false ss sx).Ok)) (hG : Globs glT w) : Calls Tryd.prog 32 #[.agg #[.bool c.re.g, .string c.re.s, .int .i64 c.re.x, .bool c.im.g, .string c.im.s, .int .i64 c.im.x], .agg #[.bool false, .string rs, .int .i64 rx], .agg #[.bool d.re.g, .string d.re.s, .int .i64 d.re.x, .bool d.im.g, .string d.im.s, .int .i64 d.im.x], .agg #[.bool false, .string ss, .int .i64 sx]] w fun e w' => e = .returned (.tuple #[.bool false, .int .i64 2]) ∧ Below w.heap.size w w' := by
  obtain ⟨b1, i1⟩ := bex (gE c = 0)
  obtain ⟨b2, i2⟩ := bex (gE d = 0)
  obtain ⟨b3, i3⟩ := bex (dE [Dt.mk false rs rx] = 0)
  obtain ⟨b4, i4⟩ := bex (dE [Dt.mk false ss sx] = 0)
  letI : Env := mkEnv glT [.bool c.re.g, .string c.re.s, .int .i64 c.re.x, .bool c.im.g, .string c.im.s, .int .i64 c.im.x, .string rs, .int .i64 rx, .bool d.re.g, .string d.re.s, .int .i64 d.re.x, .bool d.im.g, .string d.im.s, .int .i64 d.im.x, .string ss, .int .i64 sx, .int .i64 (gE c), .int .i64 (gE d), .int .i64 (dE [Dt.mk false rs rx]), .int .i64 (dE [Dt.mk false ss sx])] rfl
  have hops : OpsT Tryd.prog (@Know.ops (GApart_b1_k b1 b2 b3 b4)) := ⟨opt_neq_i rfl rfl i1,
    opt_neq_i rfl rfl i2,
    opt_neq_i rfl rfl i3,
    opt_neq_i rfl rfl i4,
    trivial⟩
  have hcalls : CallsT Tryd.prog (@Know.calls (GApart_b1_k b1 b2 b3 b4)) := ⟨callt rfl rfl fun w hG => GCheck_all c zc w hG,
    callt rfl rfl fun w hG => GCheck_all d zd w hG,
    callt rfl rfl fun w hG => DCheck_c (Dt.mk false rs rx) w zr,
    callt rfl rfl fun w hG => DCheck_c (Dt.mk false ss sx) w zs,
    trivial⟩
  have fin : ∀ v, @comes (GApart_b1_k b1 b2 b3 b4) Tryd.prog glT 3000 GApart_b1_f GApart_b1_a = some v → ground v = true → Ending.returned (gval v) = .returned (.tuple #[.bool false, .int .i64 2]) → Calls Tryd.prog 32 #[.agg #[.bool c.re.g, .string c.re.s, .int .i64 c.re.x, .bool c.im.g, .string c.im.s, .int .i64 c.im.x], .agg #[.bool false, .string rs, .int .i64 rx], .agg #[.bool d.re.g, .string d.re.s, .int .i64 d.re.x, .bool d.im.g, .string d.im.s, .int .i64 d.im.x], .agg #[.bool false, .string ss, .int .i64 sx]] w fun e w' => e = .returned (.tuple #[.bool false, .int .i64 2]) ∧ Below w.heap.size w w' := fun v h1 h2 h3 => (@sym_ok _ (GApart_b1_k b1 b2 b3 b4) _ (@KnowOk.of _ (GApart_b1_k b1 b2 b3 b4) _ hops hcalls) (by kernel_rfl) _ _ _ _ h1 rfl h2 _ hG).mono fun e w' h => ⟨h.1.trans h3, h.2⟩
  clear hops hcalls
  cases b1 with
  | true =>
    have h1 : gE c = 0 := i1.1 rfl
    cases b2 with
    | true =>
      have h2 : gE d = 0 := i2.1 rfl
      cases b3 with
      | true =>
        have h3 : dE [Dt.mk false rs rx] = 0 := i3.1 rfl
        cases b4 with
        | true =>
          exact absurd (i4.1 rfl) (fun c => hn ⟨gE0.1 h1, dE1.1 h3, gE0.1 h2, dE1.1 c⟩)
        | false =>
          have h4 : ¬ (dE [Dt.mk false ss sx] = 0) := fun c => Bool.false_ne_true (i4.2 c)
          exact fin _ (GApart_b1_r1) rfl rfl
      | false =>
        have h3 : ¬ (dE [Dt.mk false rs rx] = 0) := fun c => Bool.false_ne_true (i3.2 c)
        exact fin _ (GApart_b1_r2 b4) rfl rfl
    | false =>
      have h2 : ¬ (gE d = 0) := fun c => Bool.false_ne_true (i2.2 c)
      exact fin _ (GApart_b1_r3 b3 b4) rfl rfl
  | false =>
    have h1 : ¬ (gE c = 0) := fun c => Bool.false_ne_true (i1.2 c)
    exact fin _ (GApart_b1_r4 b2 b3 b4) rfl rfl

@[reducible] def GApart_b2_f : FuncId := 32
@[reducible] def GApart_b2_a : List AV := [.agg [.sym 0, .sym 1, .sym 2, .sym 3, .sym 4, .sym 5], .agg [.lit (.bool true), .sym 6, .sym 7], .agg [.sym 8, .sym 9, .sym 10, .sym 11, .sym 12, .sym 13], .agg [.sym 14, .sym 15, .sym 16]]
@[reducible] noncomputable def GApart_b2_k (b1 b2 b3 : Bool) : Know := ⟨[([0, 12, 27], [.sym 17, .lit (.int .i64 0)], .lit (.bool (!b1))),
  ([0, 12, 27], [.sym 18, .lit (.int .i64 0)], .lit (.bool (!b2))),
  ([0, 12, 27], [.sym 19, .lit (.int .i64 0)], .lit (.bool (!b3)))],
  [(21, [.agg [.sym 0, .sym 1, .sym 2, .sym 3, .sym 4, .sym 5]], .sym 17),
  (21, [.agg [.sym 8, .sym 9, .sym 10, .sym 11, .sym 12, .sym 13]], .sym 18),
  (43, [.agg [.lit (.bool true), .sym 6, .sym 7]], .sym 19)]⟩
theorem GApart_b2_r1 : @comes (GApart_b2_k true true true) Tryd.prog glT 3000 GApart_b2_f GApart_b2_a = some (.lit (.tuple #[.bool false, .int .i64 2])) := by kernel_rfl
theorem GApart_b2_r2 : @comes (GApart_b2_k true true false) Tryd.prog glT 3000 GApart_b2_f GApart_b2_a = some (.lit (.tuple #[.bool false, .int .i64 2])) := by kernel_rfl
theorem GApart_b2_r3 (b3 : Bool) : @comes (GApart_b2_k true false b3) Tryd.prog glT 3000 GApart_b2_f GApart_b2_a = some (.lit (.tuple #[.bool false, .int .i64 2])) := by kernel_rfl
theorem GApart_b2_r4 (b2 b3 : Bool) : @comes (GApart_b2_k false b2 b3) Tryd.prog glT 3000 GApart_b2_f GApart_b2_a = some (.lit (.tuple #[.bool false, .int .i64 2])) := by kernel_rfl

set_option maxRecDepth 100000 in
set_option maxHeartbeats 4000000 in
theorem GApart_b2 (c : Gt) (rs : ByteArray) (rx : Int) (d : Gt) (s : Dt) (w : World) (zc : c.Small) (zr : rs.size ≤ 9223372036854775807) (zd : d.Small) (zs : s.s.size ≤ 9223372036854775807) (hG : Globs glT w) : Calls Tryd.prog 32 #[.agg #[.bool c.re.g, .string c.re.s, .int .i64 c.re.x, .bool c.im.g, .string c.im.s, .int .i64 c.im.x], .agg #[.bool true, .string rs, .int .i64 rx], .agg #[.bool d.re.g, .string d.re.s, .int .i64 d.re.x, .bool d.im.g, .string d.im.s, .int .i64 d.im.x], .agg #[.bool s.g, .string s.s, .int .i64 s.x]] w fun e w' => e = .returned (.tuple #[.bool false, .int .i64 2]) ∧ Below w.heap.size w w' := by
  obtain ⟨b1, i1⟩ := bex (gE c = 0)
  obtain ⟨b2, i2⟩ := bex (gE d = 0)
  obtain ⟨b3, i3⟩ := bex (dE [Dt.mk true rs rx] = 0)
  letI : Env := mkEnv glT [.bool c.re.g, .string c.re.s, .int .i64 c.re.x, .bool c.im.g, .string c.im.s, .int .i64 c.im.x, .string rs, .int .i64 rx, .bool d.re.g, .string d.re.s, .int .i64 d.re.x, .bool d.im.g, .string d.im.s, .int .i64 d.im.x, .bool s.g, .string s.s, .int .i64 s.x, .int .i64 (gE c), .int .i64 (gE d), .int .i64 (dE [Dt.mk true rs rx])] rfl
  have hops : OpsT Tryd.prog (@Know.ops (GApart_b2_k b1 b2 b3)) := ⟨opt_neq_i rfl rfl i1,
    opt_neq_i rfl rfl i2,
    opt_neq_i rfl rfl i3,
    trivial⟩
  have hcalls : CallsT Tryd.prog (@Know.calls (GApart_b2_k b1 b2 b3)) := ⟨callt rfl rfl fun w hG => GCheck_all c zc w hG,
    callt rfl rfl fun w hG => GCheck_all d zd w hG,
    callt rfl rfl fun w hG => DCheck_c (Dt.mk true rs rx) w zr,
    trivial⟩
  have fin : ∀ v, @comes (GApart_b2_k b1 b2 b3) Tryd.prog glT 3000 GApart_b2_f GApart_b2_a = some v → ground v = true → Ending.returned (gval v) = .returned (.tuple #[.bool false, .int .i64 2]) → Calls Tryd.prog 32 #[.agg #[.bool c.re.g, .string c.re.s, .int .i64 c.re.x, .bool c.im.g, .string c.im.s, .int .i64 c.im.x], .agg #[.bool true, .string rs, .int .i64 rx], .agg #[.bool d.re.g, .string d.re.s, .int .i64 d.re.x, .bool d.im.g, .string d.im.s, .int .i64 d.im.x], .agg #[.bool s.g, .string s.s, .int .i64 s.x]] w fun e w' => e = .returned (.tuple #[.bool false, .int .i64 2]) ∧ Below w.heap.size w w' := fun v h1 h2 h3 => (@sym_ok _ (GApart_b2_k b1 b2 b3) _ (@KnowOk.of _ (GApart_b2_k b1 b2 b3) _ hops hcalls) (by kernel_rfl) _ _ _ _ h1 rfl h2 _ hG).mono fun e w' h => ⟨h.1.trans h3, h.2⟩
  clear hops hcalls
  cases b1 with
  | true =>
    have h1 : gE c = 0 := i1.1 rfl
    cases b2 with
    | true =>
      have h2 : gE d = 0 := i2.1 rfl
      cases b3 with
      | true =>
        have h3 : dE [Dt.mk true rs rx] = 0 := i3.1 rfl
        exact fin _ (GApart_b2_r1) rfl rfl
      | false =>
        have h3 : ¬ (dE [Dt.mk true rs rx] = 0) := fun c => Bool.false_ne_true (i3.2 c)
        exact fin _ (GApart_b2_r2) rfl rfl
    | false =>
      have h2 : ¬ (gE d = 0) := fun c => Bool.false_ne_true (i2.2 c)
      exact fin _ (GApart_b2_r3 b3) rfl rfl
  | false =>
    have h1 : ¬ (gE c = 0) := fun c => Bool.false_ne_true (i1.2 c)
    exact fin _ (GApart_b2_r4 b2 b3) rfl rfl

@[reducible] def GApart_b3_f : FuncId := 32
@[reducible] def GApart_b3_a : List AV := [.agg [.sym 0, .sym 1, .sym 2, .sym 3, .sym 4, .sym 5], .agg [.lit (.bool false), .sym 6, .sym 7], .agg [.sym 8, .sym 9, .sym 10, .sym 11, .sym 12, .sym 13], .agg [.lit (.bool true), .sym 14, .sym 15]]
@[reducible] noncomputable def GApart_b3_k (b1 b2 b3 b4 : Bool) : Know := ⟨[([0, 12, 27], [.sym 16, .lit (.int .i64 0)], .lit (.bool (!b1))),
  ([0, 12, 27], [.sym 17, .lit (.int .i64 0)], .lit (.bool (!b2))),
  ([0, 12, 27], [.sym 18, .lit (.int .i64 0)], .lit (.bool (!b3))),
  ([0, 12, 27], [.sym 19, .lit (.int .i64 0)], .lit (.bool (!b4)))],
  [(21, [.agg [.sym 0, .sym 1, .sym 2, .sym 3, .sym 4, .sym 5]], .sym 16),
  (21, [.agg [.sym 8, .sym 9, .sym 10, .sym 11, .sym 12, .sym 13]], .sym 17),
  (43, [.agg [.lit (.bool false), .sym 6, .sym 7]], .sym 18),
  (43, [.agg [.lit (.bool true), .sym 14, .sym 15]], .sym 19)]⟩
theorem GApart_b3_r1 : @comes (GApart_b3_k true true true true) Tryd.prog glT 3000 GApart_b3_f GApart_b3_a = some (.lit (.tuple #[.bool false, .int .i64 2])) := by kernel_rfl
theorem GApart_b3_r2 : @comes (GApart_b3_k true true true false) Tryd.prog glT 3000 GApart_b3_f GApart_b3_a = some (.lit (.tuple #[.bool false, .int .i64 2])) := by kernel_rfl
theorem GApart_b3_r3 (b4 : Bool) : @comes (GApart_b3_k true true false b4) Tryd.prog glT 3000 GApart_b3_f GApart_b3_a = some (.lit (.tuple #[.bool false, .int .i64 2])) := by kernel_rfl
theorem GApart_b3_r4 (b3 b4 : Bool) : @comes (GApart_b3_k true false b3 b4) Tryd.prog glT 3000 GApart_b3_f GApart_b3_a = some (.lit (.tuple #[.bool false, .int .i64 2])) := by kernel_rfl
theorem GApart_b3_r5 (b2 b3 b4 : Bool) : @comes (GApart_b3_k false b2 b3 b4) Tryd.prog glT 3000 GApart_b3_f GApart_b3_a = some (.lit (.tuple #[.bool false, .int .i64 2])) := by kernel_rfl

set_option maxRecDepth 100000 in
set_option maxHeartbeats 4000000 in
theorem GApart_b3 (c : Gt) (rs : ByteArray) (rx : Int) (d : Gt) (ss : ByteArray) (sx : Int) (w : World) (zc : c.Small) (zr : rs.size ≤ 9223372036854775807) (zd : d.Small) (zs : ss.size ≤ 9223372036854775807) (hG : Globs glT w) : Calls Tryd.prog 32 #[.agg #[.bool c.re.g, .string c.re.s, .int .i64 c.re.x, .bool c.im.g, .string c.im.s, .int .i64 c.im.x], .agg #[.bool false, .string rs, .int .i64 rx], .agg #[.bool d.re.g, .string d.re.s, .int .i64 d.re.x, .bool d.im.g, .string d.im.s, .int .i64 d.im.x], .agg #[.bool true, .string ss, .int .i64 sx]] w fun e w' => e = .returned (.tuple #[.bool false, .int .i64 2]) ∧ Below w.heap.size w w' := by
  obtain ⟨b1, i1⟩ := bex (gE c = 0)
  obtain ⟨b2, i2⟩ := bex (gE d = 0)
  obtain ⟨b3, i3⟩ := bex (dE [Dt.mk false rs rx] = 0)
  obtain ⟨b4, i4⟩ := bex (dE [Dt.mk true ss sx] = 0)
  letI : Env := mkEnv glT [.bool c.re.g, .string c.re.s, .int .i64 c.re.x, .bool c.im.g, .string c.im.s, .int .i64 c.im.x, .string rs, .int .i64 rx, .bool d.re.g, .string d.re.s, .int .i64 d.re.x, .bool d.im.g, .string d.im.s, .int .i64 d.im.x, .string ss, .int .i64 sx, .int .i64 (gE c), .int .i64 (gE d), .int .i64 (dE [Dt.mk false rs rx]), .int .i64 (dE [Dt.mk true ss sx])] rfl
  have hops : OpsT Tryd.prog (@Know.ops (GApart_b3_k b1 b2 b3 b4)) := ⟨opt_neq_i rfl rfl i1,
    opt_neq_i rfl rfl i2,
    opt_neq_i rfl rfl i3,
    opt_neq_i rfl rfl i4,
    trivial⟩
  have hcalls : CallsT Tryd.prog (@Know.calls (GApart_b3_k b1 b2 b3 b4)) := ⟨callt rfl rfl fun w hG => GCheck_all c zc w hG,
    callt rfl rfl fun w hG => GCheck_all d zd w hG,
    callt rfl rfl fun w hG => DCheck_c (Dt.mk false rs rx) w zr,
    callt rfl rfl fun w hG => DCheck_c (Dt.mk true ss sx) w zs,
    trivial⟩
  have fin : ∀ v, @comes (GApart_b3_k b1 b2 b3 b4) Tryd.prog glT 3000 GApart_b3_f GApart_b3_a = some v → ground v = true → Ending.returned (gval v) = .returned (.tuple #[.bool false, .int .i64 2]) → Calls Tryd.prog 32 #[.agg #[.bool c.re.g, .string c.re.s, .int .i64 c.re.x, .bool c.im.g, .string c.im.s, .int .i64 c.im.x], .agg #[.bool false, .string rs, .int .i64 rx], .agg #[.bool d.re.g, .string d.re.s, .int .i64 d.re.x, .bool d.im.g, .string d.im.s, .int .i64 d.im.x], .agg #[.bool true, .string ss, .int .i64 sx]] w fun e w' => e = .returned (.tuple #[.bool false, .int .i64 2]) ∧ Below w.heap.size w w' := fun v h1 h2 h3 => (@sym_ok _ (GApart_b3_k b1 b2 b3 b4) _ (@KnowOk.of _ (GApart_b3_k b1 b2 b3 b4) _ hops hcalls) (by kernel_rfl) _ _ _ _ h1 rfl h2 _ hG).mono fun e w' h => ⟨h.1.trans h3, h.2⟩
  clear hops hcalls
  cases b1 with
  | true =>
    have h1 : gE c = 0 := i1.1 rfl
    cases b2 with
    | true =>
      have h2 : gE d = 0 := i2.1 rfl
      cases b3 with
      | true =>
        have h3 : dE [Dt.mk false rs rx] = 0 := i3.1 rfl
        cases b4 with
        | true =>
          have h4 : dE [Dt.mk true ss sx] = 0 := i4.1 rfl
          exact fin _ (GApart_b3_r1) rfl rfl
        | false =>
          have h4 : ¬ (dE [Dt.mk true ss sx] = 0) := fun c => Bool.false_ne_true (i4.2 c)
          exact fin _ (GApart_b3_r2) rfl rfl
      | false =>
        have h3 : ¬ (dE [Dt.mk false rs rx] = 0) := fun c => Bool.false_ne_true (i3.2 c)
        exact fin _ (GApart_b3_r3 b4) rfl rfl
    | false =>
      have h2 : ¬ (gE d = 0) := fun c => Bool.false_ne_true (i2.2 c)
      exact fin _ (GApart_b3_r4 b3 b4) rfl rfl
  | false =>
    have h1 : ¬ (gE c = 0) := fun c => Bool.false_ne_true (i1.2 c)
    exact fin _ (GApart_b3_r5 b2 b3 b4) rfl rfl

end Go.Proofs.YtchneedfkonheaaDoor
set_option linter.unusedVariables false
set_option linter.unusedSimpArgs false
namespace Go.Proofs.YtchneedfkonheaaDoor
open Go Go.RowKit Nt


theorem GIn_pi (g c : Gs) (rn : Nat) (rx : Int) (w : World) (hg : g.Ok) (hc : c.Ok) (hr : (Dy.mk false rn rx).Ok) {b : Bool} (hb : b = true ↔ inB g c (Dy.mk false rn rx) = true) (hG : Globs glT w) : Calls Tryd.prog 30 #[.agg #[.bool g.re.g, .string (natS g.re.n), .int .i64 g.re.x, .bool g.im.g, .string (natS g.im.n), .int .i64 g.im.x], .agg #[.bool c.re.g, .string (natS c.re.n), .int .i64 c.re.x, .bool c.im.g, .string (natS c.im.n), .int .i64 c.im.x], .agg #[.bool false, .string (natS (Dy.mk false rn rx).n), .int .i64 (Dy.mk false rn rx).x]] w fun e w' => e = .returned (.tuple #[.bool b, .int .i64 (inE g c (Dy.mk false rn rx))]) ∧ Below w.heap.size w w' := by
  rw [Bool.eq_iff_iff.2 hb]; exact GIn_p g c rn rx w hg hc hr hG
theorem GIn_bad (g c : Gt) (r : Dt) (w : World) (zg : g.Small) (zc : c.Small) (zr : r.s.size ≤ 9223372036854775807) (hn : ¬ (g.Ok ∧ c.Ok ∧ r.Pos)) (hG : Globs glT w) : Calls Tryd.prog 30 #[.agg #[.bool g.re.g, .string g.re.s, .int .i64 g.re.x, .bool g.im.g, .string g.im.s, .int .i64 g.im.x], .agg #[.bool c.re.g, .string c.re.s, .int .i64 c.re.x, .bool c.im.g, .string c.im.s, .int .i64 c.im.x], .agg #[.bool r.g, .string r.s, .int .i64 r.x]] w fun e w' => e = .returned (.tuple #[.bool false, .int .i64 2]) ∧ Below w.heap.size w w' := by
  obtain ⟨rg, rs, rx⟩ := r
  cases rg with
  | true => exact GIn_b2 g c rs rx w zg zc zr hG
  | false => exact GIn_b1 g c rs rx w zg zc zr (fun h => hn ⟨h.1, h.2.1, h.2.2, rfl⟩) hG
theorem GWithin_pi (c : Gs) (rn : Nat) (rx : Int) (d : Gs) (sn : Nat) (sx : Int) (w : World) (hc : c.Ok) (hr : (Dy.mk false rn rx).Ok) (hd : d.Ok) (hs : (Dy.mk false sn sx).Ok) {b : Bool} (hb : b = true ↔ withB c (Dy.mk false rn rx) d (Dy.mk false sn sx) = true) (hG : Globs glT w) : Calls Tryd.prog 31 #[.agg #[.bool c.re.g, .string (natS c.re.n), .int .i64 c.re.x, .bool c.im.g, .string (natS c.im.n), .int .i64 c.im.x], .agg #[.bool false, .string (natS (Dy.mk false rn rx).n), .int .i64 (Dy.mk false rn rx).x], .agg #[.bool d.re.g, .string (natS d.re.n), .int .i64 d.re.x, .bool d.im.g, .string (natS d.im.n), .int .i64 d.im.x], .agg #[.bool false, .string (natS (Dy.mk false sn sx).n), .int .i64 (Dy.mk false sn sx).x]] w fun e w' => e = .returned (.tuple #[.bool b, .int .i64 (withE c (Dy.mk false rn rx) d (Dy.mk false sn sx))]) ∧ Below w.heap.size w w' := by
  rw [Bool.eq_iff_iff.2 hb]; exact GWithin_p c rn rx d sn sx w hc hr hd hs hG
theorem GWithin_bad (c : Gt) (r : Dt) (d : Gt) (s : Dt) (w : World) (zc : c.Small) (zr : r.s.size ≤ 9223372036854775807) (zd : d.Small) (zs : s.s.size ≤ 9223372036854775807) (hn : ¬ ((c.Ok ∧ r.Pos) ∧ (d.Ok ∧ s.Pos))) (hG : Globs glT w) : Calls Tryd.prog 31 #[.agg #[.bool c.re.g, .string c.re.s, .int .i64 c.re.x, .bool c.im.g, .string c.im.s, .int .i64 c.im.x], .agg #[.bool r.g, .string r.s, .int .i64 r.x], .agg #[.bool d.re.g, .string d.re.s, .int .i64 d.re.x, .bool d.im.g, .string d.im.s, .int .i64 d.im.x], .agg #[.bool s.g, .string s.s, .int .i64 s.x]] w fun e w' => e = .returned (.tuple #[.bool false, .int .i64 2]) ∧ Below w.heap.size w w' := by
  obtain ⟨rg, rs, rx⟩ := r
  cases rg with
  | true => exact GWithin_b2 c rs rx d s w zc zr zd zs hG
  | false =>
    obtain ⟨sg, ss, sx⟩ := s
    cases sg with
    | true => exact GWithin_b3 c rs rx d ss sx w zc zr zd zs hG
    | false => exact GWithin_b1 c rs rx d ss sx w zc zr zd zs (fun h => hn ⟨⟨h.1, h.2.1, rfl⟩, h.2.2.1, h.2.2.2, rfl⟩) hG
theorem GApart_pi (c : Gs) (rn : Nat) (rx : Int) (d : Gs) (sn : Nat) (sx : Int) (w : World) (hc : c.Ok) (hr : (Dy.mk false rn rx).Ok) (hd : d.Ok) (hs : (Dy.mk false sn sx).Ok) {b : Bool} (hb : b = true ↔ apartB c (Dy.mk false rn rx) d (Dy.mk false sn sx) = true) (hG : Globs glT w) : Calls Tryd.prog 32 #[.agg #[.bool c.re.g, .string (natS c.re.n), .int .i64 c.re.x, .bool c.im.g, .string (natS c.im.n), .int .i64 c.im.x], .agg #[.bool false, .string (natS (Dy.mk false rn rx).n), .int .i64 (Dy.mk false rn rx).x], .agg #[.bool d.re.g, .string (natS d.re.n), .int .i64 d.re.x, .bool d.im.g, .string (natS d.im.n), .int .i64 d.im.x], .agg #[.bool false, .string (natS (Dy.mk false sn sx).n), .int .i64 (Dy.mk false sn sx).x]] w fun e w' => e = .returned (.tuple #[.bool b, .int .i64 (apartE c (Dy.mk false rn rx) d (Dy.mk false sn sx))]) ∧ Below w.heap.size w w' := by
  rw [Bool.eq_iff_iff.2 hb]; exact GApart_p c rn rx d sn sx w hc hr hd hs hG
theorem GApart_bad (c : Gt) (r : Dt) (d : Gt) (s : Dt) (w : World) (zc : c.Small) (zr : r.s.size ≤ 9223372036854775807) (zd : d.Small) (zs : s.s.size ≤ 9223372036854775807) (hn : ¬ ((c.Ok ∧ r.Pos) ∧ (d.Ok ∧ s.Pos))) (hG : Globs glT w) : Calls Tryd.prog 32 #[.agg #[.bool c.re.g, .string c.re.s, .int .i64 c.re.x, .bool c.im.g, .string c.im.s, .int .i64 c.im.x], .agg #[.bool r.g, .string r.s, .int .i64 r.x], .agg #[.bool d.re.g, .string d.re.s, .int .i64 d.re.x, .bool d.im.g, .string d.im.s, .int .i64 d.im.x], .agg #[.bool s.g, .string s.s, .int .i64 s.x]] w fun e w' => e = .returned (.tuple #[.bool false, .int .i64 2]) ∧ Below w.heap.size w w' := by
  obtain ⟨rg, rs, rx⟩ := r
  cases rg with
  | true => exact GApart_b2 c rs rx d s w zc zr zd zs hG
  | false =>
    obtain ⟨sg, ss, sx⟩ := s
    cases sg with
    | true => exact GApart_b3 c rs rx d ss sx w zc zr zd zs hG
    | false => exact GApart_b1 c rs rx d ss sx w zc zr zd zs (fun h => hn ⟨⟨h.1, h.2.1, rfl⟩, h.2.2.1, h.2.2.2, rfl⟩) hG
end Go.Proofs.YtchneedfkonheaaDoor
set_option linter.unusedVariables false
set_option linter.unusedSimpArgs false
namespace Go.Proofs.YtchneedfkonheaaDoor
open Go Go.RowKit

set_option maxRecDepth 100000 in
set_option maxHeartbeats 1000000 in
theorem lAll06_c (A : Nat) (c : Nat) (l : List Int) (w : World) (hl : l.length ≤ 9223372036854775807) (h : Ers w A l) :
    Calls Tryd.prog 20 #[.slice (some ⟨A, 0, none⟩) l.length c] w fun e w' => e = .returned (.bool (allB l)) ∧ Below w.heap.size w w' := by
  have HD := Lib.hid h
  clear h
  go_enter Tryd.func20, Tryd.ntmps20
  go_wp2
  go_loopw [3] (fun i wr => ∃ k : Nat, k ≤ l.length ∧ i = .int .i64 k ∧ Hid (∀ j (h : j < l.length), j < k → l[j] = 0) ∧ Below w.heap.size w wr) (fun i _ => l.length - (intOf i).toNat)
  case atStart => exact ⟨0, Nat.zero_le _, rfl, Lib.hid (fun j _ h => by omega), Below.refl _ _⟩
  case round =>
    obtain ⟨k, hk, rfl, hok, hb⟩ := hrel
    by_cases hlt : k < l.length
    · have c1 := (HD.out.below hb).2 k hlt
      by_cases hok1 : l[k] = 0
      · have HOK := Lib.hid (show ∀ j (h : j < l.length), j < k + 1 → l[j] = 0 from fun j hj h2 => by
          rcases Nat.lt_or_ge j k with h3 | h3
          · exact hok.out j hj h3
          · obtain rfl : j = k := by omega
            exact hok1)
        rw [hok1] at c1
        clear hok1
        go_wp2_with fail
        go_roundw
        case rel => exact ⟨k + 1, by omega, by go_num, HOK, hb⟩
        case measure => simp [intOf]; omega
      · have HE := Lib.hid (allB_no (l := l) (List.getElem_mem hlt) hok1)
        generalize l[k] = q at *
        have hq : (q == 0) = false := by simpa using hok1
        go_wp2_with fail
        go_ret
        exact ⟨by rw [HE.out]; rfl, hb⟩
    · have HE := Lib.hid (allB_ok (l := l) (fun t ht => by
        obtain ⟨j, hj, rfl⟩ := List.getElem_of_mem ht
        exact hok.out j hj (by omega)))
      go_wp2_with fail
      go_ret
      exact ⟨by rw [HE.out]; rfl, hb⟩
theorem lAll06_i (b c : Nat) (l : List Int) (w : World) (hl : l.length ≤ 9223372036854775807) (he : Ers w b l) {d : Bool} (h : d = true ↔ allB l = true) : Calls Tryd.prog 20 #[.slice (some ⟨b, 0, none⟩) l.length c] w fun e w' => e = .returned (.bool d) ∧ Below w.heap.size w w' := by
  have := lAll06_c b c l w hl he
  rwa [← show d = allB l from by rw [Bool.eq_iff_iff]; exact h] at this
theorem lAll06_t (b c : Nat) (l : List Int) (w : World) (hl : l.length ≤ 9223372036854775807) (he : Ers w b l) (h : allB l = true) : Calls Tryd.prog 20 #[.slice (some ⟨b, 0, none⟩) l.length c] w fun e w' => e = .returned (.bool true) ∧ Below w.heap.size w w' := by
  have := lAll06_c b c l w hl he
  rwa [h] at this
theorem lAll06_f (b c : Nat) (l : List Int) (w : World) (hl : l.length ≤ 9223372036854775807) (he : Ers w b l) (h : ¬ allB l = true) : Calls Tryd.prog 20 #[.slice (some ⟨b, 0, none⟩) l.length c] w fun e w' => e = .returned (.bool false) ∧ Below w.heap.size w w' := by
  have := lAll06_c b c l w hl he
  rwa [Bool.eq_false_iff.2 h] at this
end Go.Proofs.YtchneedfkonheaaDoor
set_option linter.unusedSimpArgs false
set_option linter.unusedVariables false
namespace Go.Proofs.YtchneedfkonheaaDoor
open Go Go.RowKit

set_option maxRecDepth 100000 in
theorem awake6_says : saysG Tryd.prog glT 20000 16 [] true = true := by kernel_rfl
theorem awake6_c (w : World) (hg : Globs glT w) : Calls Tryd.prog 16 #[] w fun e w' => e = .returned (.bool true) ∧ Below w.heap.size w w' := closed_with (by kernel_rfl) awake6_says hg
end Go.Proofs.YtchneedfkonheaaDoor
set_option linter.unusedVariables false
set_option linter.unusedSimpArgs false
namespace Go.Proofs.YtchneedfkonheaaDoor
open Go Go.RowKit Nt


theorem side_z (w : World) : Calls Tryd.prog 60 #[.agg #[.bool false, .string (natS Dy.zero.n), .int .i64 0]] w fun e w' => e = .returned (.int .i64 0) ∧ Below w.heap.size w w' := by rw [natS_dz]; exact DSign_zero w
theorem side_bad0 {a b : Dy} (ha : a.Ok) (hb : b.Ok) (h : ¬ addE a b = 0) : addD a b = Dy.zero := by
  have e := add_iv ha hb
  rw [e.2] at h; rw [e.1]
  unfold mkZ; unfold mkZE at h
  exact mkD_no (fun c => h (mkE_ok c))
theorem side_last {a b c : Gs} (h : All0 (sideL a b c) ↔ addE (mulD (addD b.re (negD a.re)) (addD c.im (negD a.im))) (negD (mulD (addD b.im (negD a.im)) (addD c.re (negD a.re)))) = 0) : Ending.returned (.tuple #[.int .i64 (sgD (sideD a b c)), .int .i64 (addE (mulD (addD b.re (negD a.re)) (addD c.im (negD a.im))) (negD (mulD (addD b.im (negD a.im)) (addD c.re (negD a.re)))))]) = Ending.returned (.tuple #[.int .i64 (sideI a b c), .int .i64 (sideE a b c)]) := by
  by_cases hl : All0 (sideL a b c)
  · rw [show sideI a b c = sgD (sideD a b c) from by unfold sideI; exact if_pos hl, show sideE a b c = 0 from erI_ok hl, h.1 hl]
  · have h2 : ¬ _ := fun k => hl (h.2 k)
    rw [show sideI a b c = 0 from by unfold sideI; exact if_neg hl, show sideE a b c = 4 from erI_no hl, addE4 h2, show sideD a b c = Dy.zero from side_bad0 (mulD_Ok _ _) (negD_Ok (mulD_Ok _ _)) h2, sgD_zero]

@[reducible] def GSide_c_f : FuncId := 33
@[reducible] def GSide_c_a : List AV := [.agg [.sym 0, .sym 1, .sym 2, .sym 3, .sym 4, .sym 5], .agg [.sym 6, .sym 7, .sym 8, .sym 9, .sym 10, .sym 11], .agg [.sym 12, .sym 13, .sym 14, .sym 15, .sym 16, .sym 17]]
@[reducible] noncomputable def GSide_c_k (b1 b2 b3 b4 b5 b6 b7 : Bool) : Know := ⟨[([0, 12, 27], [.sym 21, .lit (.int .i64 0)], .lit (.bool (!b1))),
  ([0, 12, 27], [.sym 25, .lit (.int .i64 0)], .lit (.bool (!b2))),
  ([0, 12, 27], [.sym 29, .lit (.int .i64 0)], .lit (.bool (!b3))),
  ([0, 12, 27], [.sym 33, .lit (.int .i64 0)], .lit (.bool (!b4))),
  ([0, 12, 27], [.sym 37, .lit (.int .i64 0)], .lit (.bool (!b5))),
  ([0, 12, 27], [.sym 41, .lit (.int .i64 0)], .lit (.bool (!b6))),
  ([0, 12, 27], [.sym 45, .lit (.int .i64 0)], .lit (.bool (!b7)))],
  [(21, [.agg [.sym 0, .sym 1, .sym 2, .sym 3, .sym 4, .sym 5]], .lit (.int .i64 0)),
  (21, [.agg [.sym 6, .sym 7, .sym 8, .sym 9, .sym 10, .sym 11]], .lit (.int .i64 0)),
  (21, [.agg [.sym 12, .sym 13, .sym 14, .sym 15, .sym 16, .sym 17]], .lit (.int .i64 0)),
  (63, [.agg [.sym 6, .sym 7, .sym 8], .agg [.sym 0, .sym 1, .sym 2]], .tup [.agg [.sym 18, .sym 19, .sym 20], .sym 21]),
  (60, [.lit (.agg #[.bool false, .string ⟨#[]⟩, .int .i64 0])], .lit (.int .i64 0)),
  (63, [.agg [.sym 15, .sym 16, .sym 17], .agg [.sym 3, .sym 4, .sym 5]], .tup [.agg [.sym 22, .sym 23, .sym 24], .sym 25]),
  (26, [.agg [.sym 18, .sym 19, .sym 20], .agg [.sym 22, .sym 23, .sym 24]], .tup [.agg [.sym 26, .sym 27, .sym 28], .sym 29]),
  (63, [.agg [.sym 9, .sym 10, .sym 11], .agg [.sym 3, .sym 4, .sym 5]], .tup [.agg [.sym 30, .sym 31, .sym 32], .sym 33]),
  (63, [.agg [.sym 12, .sym 13, .sym 14], .agg [.sym 0, .sym 1, .sym 2]], .tup [.agg [.sym 34, .sym 35, .sym 36], .sym 37]),
  (26, [.agg [.sym 30, .sym 31, .sym 32], .agg [.sym 34, .sym 35, .sym 36]], .tup [.agg [.sym 38, .sym 39, .sym 40], .sym 41]),
  (63, [.agg [.sym 26, .sym 27, .sym 28], .agg [.sym 38, .sym 39, .sym 40]], .tup [.agg [.sym 42, .sym 43, .sym 44], .sym 45]),
  (60, [.agg [.sym 42, .sym 43, .sym 44]], .sym 46)]⟩
theorem GSide_c_r1 : @comes (GSide_c_k true true true true true true true) Tryd.prog glT 3000 GSide_c_f GSide_c_a = some (.tup [.sym 46, .lit (.int .i64 0)]) := by kernel_rfl
theorem GSide_c_r2 : @comes (GSide_c_k true true true true true true false) Tryd.prog glT 3000 GSide_c_f GSide_c_a = some (.tup [.lit (.int .i64 0), .sym 45]) := by kernel_rfl
theorem GSide_c_r3 (b7 : Bool) : @comes (GSide_c_k true true true true true false b7) Tryd.prog glT 3000 GSide_c_f GSide_c_a = some (.tup [.lit (.int .i64 0), .sym 41]) := by kernel_rfl
theorem GSide_c_r4 (b6 b7 : Bool) : @comes (GSide_c_k true true true true false b6 b7) Tryd.prog glT 3000 GSide_c_f GSide_c_a = some (.tup [.lit (.int .i64 0), .sym 37]) := by kernel_rfl
theorem GSide_c_r5 (b5 b6 b7 : Bool) : @comes (GSide_c_k true true true false b5 b6 b7) Tryd.prog glT 3000 GSide_c_f GSide_c_a = some (.tup [.lit (.int .i64 0), .sym 33]) := by kernel_rfl
theorem GSide_c_r6 (b4 b5 b6 b7 : Bool) : @comes (GSide_c_k true true false b4 b5 b6 b7) Tryd.prog glT 3000 GSide_c_f GSide_c_a = some (.tup [.lit (.int .i64 0), .sym 29]) := by kernel_rfl
theorem GSide_c_r7 (b3 b4 b5 b6 b7 : Bool) : @comes (GSide_c_k true false b3 b4 b5 b6 b7) Tryd.prog glT 3000 GSide_c_f GSide_c_a = some (.tup [.lit (.int .i64 0), .sym 25]) := by kernel_rfl
theorem GSide_c_r8 (b2 b3 b4 b5 b6 b7 : Bool) : @comes (GSide_c_k false b2 b3 b4 b5 b6 b7) Tryd.prog glT 3000 GSide_c_f GSide_c_a = some (.tup [.lit (.int .i64 0), .sym 21]) := by kernel_rfl

set_option maxRecDepth 100000 in
set_option maxHeartbeats 4000000 in
theorem GSide_c (a b c : Gs) (w : World) (ha : a.Ok) (hb : b.Ok) (hc : c.Ok) (hG : Globs glT w) : Calls Tryd.prog 33 #[.agg #[.bool a.re.g, .string (natS a.re.n), .int .i64 a.re.x, .bool a.im.g, .string (natS a.im.n), .int .i64 a.im.x], .agg #[.bool b.re.g, .string (natS b.re.n), .int .i64 b.re.x, .bool b.im.g, .string (natS b.im.n), .int .i64 b.im.x], .agg #[.bool c.re.g, .string (natS c.re.n), .int .i64 c.re.x, .bool c.im.g, .string (natS c.im.n), .int .i64 c.im.x]] w fun e w' => e = .returned (.tuple #[.int .i64 (sideI a b c), .int .i64 (sideE a b c)]) ∧ Below w.heap.size w w' := by
  obtain ⟨b1, i1⟩ := bex (addE b.re (negD a.re) = 0)
  obtain ⟨b2, i2⟩ := bex (addE c.im (negD a.im) = 0)
  obtain ⟨b3, i3⟩ := bex (mulE (addD b.re (negD a.re)) (addD c.im (negD a.im)) = 0)
  obtain ⟨b4, i4⟩ := bex (addE b.im (negD a.im) = 0)
  obtain ⟨b5, i5⟩ := bex (addE c.re (negD a.re) = 0)
  obtain ⟨b6, i6⟩ := bex (mulE (addD b.im (negD a.im)) (addD c.re (negD a.re)) = 0)
  obtain ⟨b7, i7⟩ := bex (addE (mulD (addD b.re (negD a.re)) (addD c.im (negD a.im))) (negD (mulD (addD b.im (negD a.im)) (addD c.re (negD a.re)))) = 0)
  letI : Env := mkEnv glT [.bool a.re.g, .string (natS a.re.n), .int .i64 a.re.x, .bool a.im.g, .string (natS a.im.n), .int .i64 a.im.x, .bool b.re.g, .string (natS b.re.n), .int .i64 b.re.x, .bool b.im.g, .string (natS b.im.n), .int .i64 b.im.x, .bool c.re.g, .string (natS c.re.n), .int .i64 c.re.x, .bool c.im.g, .string (natS c.im.n), .int .i64 c.im.x, .bool (addD b.re (negD a.re)).g, .string (natS (addD b.re (negD a.re)).n), .int .i64 (addD b.re (negD a.re)).x, .int .i64 (addE b.re (negD a.re)), .bool (addD c.im (negD a.im)).g, .string (natS (addD c.im (negD a.im)).n), .int .i64 (addD c.im (negD a.im)).x, .int .i64 (addE c.im (negD a.im)), .bool (mulD (addD b.re (negD a.re)) (addD c.im (negD a.im))).g, .string (natS (mulD (addD b.re (negD a.re)) (addD c.im (negD a.im))).n), .int .i64 (mulD (addD b.re (negD a.re)) (addD c.im (negD a.im))).x, .int .i64 (mulE (addD b.re (negD a.re)) (addD c.im (negD a.im))), .bool (addD b.im (negD a.im)).g, .string (natS (addD b.im (negD a.im)).n), .int .i64 (addD b.im (negD a.im)).x, .int .i64 (addE b.im (negD a.im)), .bool (addD c.re (negD a.re)).g, .string (natS (addD c.re (negD a.re)).n), .int .i64 (addD c.re (negD a.re)).x, .int .i64 (addE c.re (negD a.re)), .bool (mulD (addD b.im (negD a.im)) (addD c.re (negD a.re))).g, .string (natS (mulD (addD b.im (negD a.im)) (addD c.re (negD a.re))).n), .int .i64 (mulD (addD b.im (negD a.im)) (addD c.re (negD a.re))).x, .int .i64 (mulE (addD b.im (negD a.im)) (addD c.re (negD a.re))), .bool (addD (mulD (addD b.re (negD a.re)) (addD c.im (negD a.im))) (negD (mulD (addD b.im (negD a.im)) (addD c.re (negD a.re))))).g, .string (natS (addD (mulD (addD b.re (negD a.re)) (addD c.im (negD a.im))) (negD (mulD (addD b.im (negD a.im)) (addD c.re (negD a.re))))).n), .int .i64 (addD (mulD (addD b.re (negD a.re)) (addD c.im (negD a.im))) (negD (mulD (addD b.im (negD a.im)) (addD c.re (negD a.re))))).x, .int .i64 (addE (mulD (addD b.re (negD a.re)) (addD c.im (negD a.im))) (negD (mulD (addD b.im (negD a.im)) (addD c.re (negD a.re))))), .int .i64 (sgD (addD (mulD (addD b.re (negD a.re)) (addD c.im (negD a.im))) (negD (mulD (addD b.im (negD a.im)) (addD c.re (negD a.re))))))] rfl
  have hops : OpsT Tryd.prog (@Know.ops (GSide_c_k b1 b2 b3 b4 b5 b6 b7)) := ⟨opt_neq_i rfl rfl i1,
    opt_neq_i rfl rfl i2,
    opt_neq_i rfl rfl i3,
    opt_neq_i rfl rfl i4,
    opt_neq_i rfl rfl i5,
    opt_neq_i rfl rfl i6,
    opt_neq_i rfl rfl i7,
    trivial⟩
  have hcalls : CallsT Tryd.prog (@Know.calls (GSide_c_k b1 b2 b3 b4 b5 b6 b7)) := ⟨callt rfl rfl fun w hG => GCheck_gs a ha w hG,
    callt rfl rfl fun w hG => GCheck_gs b hb w hG,
    callt rfl rfl fun w hG => GCheck_gs c hc w hG,
    callt rfl rfl fun w hG => DSub_c b.re a.re w hb.1 ha.1 hG,
    callt rfl rfl fun w hG => (by have h := side_z w; rw [natS_dz] at h; exact h),
    callt rfl rfl fun w hG => DSub_c c.im a.im w hc.2 ha.2 hG,
    callt rfl rfl fun w hG => DMul_c (addD b.re (negD a.re)) (addD c.im (negD a.im)) w (add_Ok hb.1 (negD_Ok ha.1)) (add_Ok hc.2 (negD_Ok ha.2)),
    callt rfl rfl fun w hG => DSub_c b.im a.im w hb.2 ha.2 hG,
    callt rfl rfl fun w hG => DSub_c c.re a.re w hc.1 ha.1 hG,
    callt rfl rfl fun w hG => DMul_c (addD b.im (negD a.im)) (addD c.re (negD a.re)) w (add_Ok hb.2 (negD_Ok ha.2)) (add_Ok hc.1 (negD_Ok ha.1)),
    callt rfl rfl fun w hG => DSub_c (mulD (addD b.re (negD a.re)) (addD c.im (negD a.im))) (mulD (addD b.im (negD a.im)) (addD c.re (negD a.re))) w (mulD_Ok (addD b.re (negD a.re)) (addD c.im (negD a.im))) (mulD_Ok (addD b.im (negD a.im)) (addD c.re (negD a.re))) hG,
    callt rfl rfl fun w hG => DSign_c (addD (mulD (addD b.re (negD a.re)) (addD c.im (negD a.im))) (negD (mulD (addD b.im (negD a.im)) (addD c.re (negD a.re))))) (add_Ok (mulD_Ok (addD b.re (negD a.re)) (addD c.im (negD a.im))) (negD_Ok (mulD_Ok (addD b.im (negD a.im)) (addD c.re (negD a.re))))) w,
    trivial⟩
  have fin : ∀ v, @comes (GSide_c_k b1 b2 b3 b4 b5 b6 b7) Tryd.prog glT 3000 GSide_c_f GSide_c_a = some v → ground v = true → Ending.returned (gval v) = .returned (.tuple #[.int .i64 (sideI a b c), .int .i64 (sideE a b c)]) → Calls Tryd.prog 33 #[.agg #[.bool a.re.g, .string (natS a.re.n), .int .i64 a.re.x, .bool a.im.g, .string (natS a.im.n), .int .i64 a.im.x], .agg #[.bool b.re.g, .string (natS b.re.n), .int .i64 b.re.x, .bool b.im.g, .string (natS b.im.n), .int .i64 b.im.x], .agg #[.bool c.re.g, .string (natS c.re.n), .int .i64 c.re.x, .bool c.im.g, .string (natS c.im.n), .int .i64 c.im.x]] w fun e w' => e = .returned (.tuple #[.int .i64 (sideI a b c), .int .i64 (sideE a b c)]) ∧ Below w.heap.size w w' := fun v h1 h2 h3 => (@sym_ok _ (GSide_c_k b1 b2 b3 b4 b5 b6 b7) _ (@KnowOk.of _ (GSide_c_k b1 b2 b3 b4 b5 b6 b7) _ hops hcalls) (by kernel_rfl) _ _ _ _ h1 rfl h2 _ hG).mono fun e w' h => ⟨h.1.trans h3, h.2⟩
  clear hops hcalls
  cases b1 with
  | true =>
    have h1 : addE b.re (negD a.re) = 0 := i1.1 rfl
    cases b2 with
    | true =>
      have h2 : addE c.im (negD a.im) = 0 := i2.1 rfl
      cases b3 with
      | true =>
        have h3 : mulE (addD b.re (negD a.re)) (addD c.im (negD a.im)) = 0 := i3.1 rfl
        cases b4 with
        | true =>
          have h4 : addE b.im (negD a.im) = 0 := i4.1 rfl
          cases b5 with
          | true =>
            have h5 : addE c.re (negD a.re) = 0 := i5.1 rfl
            cases b6 with
            | true =>
              have h6 : mulE (addD b.im (negD a.im)) (addD c.re (negD a.re)) = 0 := i6.1 rfl
              cases b7 with
              | true =>
                have h7 : addE (mulD (addD b.re (negD a.re)) (addD c.im (negD a.im))) (negD (mulD (addD b.im (negD a.im)) (addD c.re (negD a.re)))) = 0 := i7.1 rfl
                exact fin _ (GSide_c_r1) rfl (show Ending.returned (.tuple #[.int .i64 (sgD (addD (mulD (addD b.re (negD a.re)) (addD c.im (negD a.im))) (negD (mulD (addD b.im (negD a.im)) (addD c.re (negD a.re)))))), .int .i64 0]) = .returned (.tuple #[.int .i64 (sideI a b c), .int .i64 (sideE a b c)]) from by rw [show sideI a b c = sgD (sideD a b c) from by unfold sideI; exact if_pos (show All0 (sideL a b c) from ⟨h1, h2, h3, h4, h5, h6, h7, trivial⟩), show sideE a b c = 0 from erI_ok (show All0 (sideL a b c) from ⟨h1, h2, h3, h4, h5, h6, h7, trivial⟩)]; rfl)
              | false =>
                have h7 : ¬ (addE (mulD (addD b.re (negD a.re)) (addD c.im (negD a.im))) (negD (mulD (addD b.im (negD a.im)) (addD c.re (negD a.re)))) = 0) := fun c => Bool.false_ne_true (i7.2 c)
                exact fin _ (GSide_c_r2) rfl (show Ending.returned (.tuple #[.int .i64 0, .int .i64 (addE (mulD (addD b.re (negD a.re)) (addD c.im (negD a.im))) (negD (mulD (addD b.im (negD a.im)) (addD c.re (negD a.re)))))]) = .returned (.tuple #[.int .i64 (sideI a b c), .int .i64 (sideE a b c)]) from by rw [show sideI a b c = 0 from by unfold sideI; exact if_neg (show ¬ All0 (sideL a b c) from fun c => h7 c.2.2.2.2.2.2.1), show sideE a b c = 4 from erI_no (show ¬ All0 (sideL a b c) from fun c => h7 c.2.2.2.2.2.2.1), addE4 h7])
            | false =>
              have h6 : ¬ (mulE (addD b.im (negD a.im)) (addD c.re (negD a.re)) = 0) := fun c => Bool.false_ne_true (i6.2 c)
              exact fin _ (GSide_c_r3 b7) rfl (show Ending.returned (.tuple #[.int .i64 0, .int .i64 (mulE (addD b.im (negD a.im)) (addD c.re (negD a.re)))]) = .returned (.tuple #[.int .i64 (sideI a b c), .int .i64 (sideE a b c)]) from by rw [show sideI a b c = 0 from by unfold sideI; exact if_neg (show ¬ All0 (sideL a b c) from fun c => h6 c.2.2.2.2.2.1), show sideE a b c = 4 from erI_no (show ¬ All0 (sideL a b c) from fun c => h6 c.2.2.2.2.2.1), mulE4 h6])
          | false =>
            have h5 : ¬ (addE c.re (negD a.re) = 0) := fun c => Bool.false_ne_true (i5.2 c)
            exact fin _ (GSide_c_r4 b6 b7) rfl (show Ending.returned (.tuple #[.int .i64 0, .int .i64 (addE c.re (negD a.re))]) = .returned (.tuple #[.int .i64 (sideI a b c), .int .i64 (sideE a b c)]) from by rw [show sideI a b c = 0 from by unfold sideI; exact if_neg (show ¬ All0 (sideL a b c) from fun c => h5 c.2.2.2.2.1), show sideE a b c = 4 from erI_no (show ¬ All0 (sideL a b c) from fun c => h5 c.2.2.2.2.1), addE4 h5])
        | false =>
          have h4 : ¬ (addE b.im (negD a.im) = 0) := fun c => Bool.false_ne_true (i4.2 c)
          exact fin _ (GSide_c_r5 b5 b6 b7) rfl (show Ending.returned (.tuple #[.int .i64 0, .int .i64 (addE b.im (negD a.im))]) = .returned (.tuple #[.int .i64 (sideI a b c), .int .i64 (sideE a b c)]) from by rw [show sideI a b c = 0 from by unfold sideI; exact if_neg (show ¬ All0 (sideL a b c) from fun c => h4 c.2.2.2.1), show sideE a b c = 4 from erI_no (show ¬ All0 (sideL a b c) from fun c => h4 c.2.2.2.1), addE4 h4])
      | false =>
        have h3 : ¬ (mulE (addD b.re (negD a.re)) (addD c.im (negD a.im)) = 0) := fun c => Bool.false_ne_true (i3.2 c)
        exact fin _ (GSide_c_r6 b4 b5 b6 b7) rfl (show Ending.returned (.tuple #[.int .i64 0, .int .i64 (mulE (addD b.re (negD a.re)) (addD c.im (negD a.im)))]) = .returned (.tuple #[.int .i64 (sideI a b c), .int .i64 (sideE a b c)]) from by rw [show sideI a b c = 0 from by unfold sideI; exact if_neg (show ¬ All0 (sideL a b c) from fun c => h3 c.2.2.1), show sideE a b c = 4 from erI_no (show ¬ All0 (sideL a b c) from fun c => h3 c.2.2.1), mulE4 h3])
    | false =>
      have h2 : ¬ (addE c.im (negD a.im) = 0) := fun c => Bool.false_ne_true (i2.2 c)
      exact fin _ (GSide_c_r7 b3 b4 b5 b6 b7) rfl (show Ending.returned (.tuple #[.int .i64 0, .int .i64 (addE c.im (negD a.im))]) = .returned (.tuple #[.int .i64 (sideI a b c), .int .i64 (sideE a b c)]) from by rw [show sideI a b c = 0 from by unfold sideI; exact if_neg (show ¬ All0 (sideL a b c) from fun c => h2 c.2.1), show sideE a b c = 4 from erI_no (show ¬ All0 (sideL a b c) from fun c => h2 c.2.1), addE4 h2])
  | false =>
    have h1 : ¬ (addE b.re (negD a.re) = 0) := fun c => Bool.false_ne_true (i1.2 c)
    exact fin _ (GSide_c_r8 b2 b3 b4 b5 b6 b7) rfl (show Ending.returned (.tuple #[.int .i64 0, .int .i64 (addE b.re (negD a.re))]) = .returned (.tuple #[.int .i64 (sideI a b c), .int .i64 (sideE a b c)]) from by rw [show sideI a b c = 0 from by unfold sideI; exact if_neg (show ¬ All0 (sideL a b c) from fun c => h1 c.1), show sideE a b c = 4 from erI_no (show ¬ All0 (sideL a b c) from fun c => h1 c.1), addE4 h1])

@[reducible] def GSide_bad_f : FuncId := 33
@[reducible] def GSide_bad_a : List AV := [.agg [.sym 0, .sym 1, .sym 2, .sym 3, .sym 4, .sym 5], .agg [.sym 6, .sym 7, .sym 8, .sym 9, .sym 10, .sym 11], .agg [.sym 12, .sym 13, .sym 14, .sym 15, .sym 16, .sym 17]]
@[reducible] noncomputable def GSide_bad_k (b1 b2 b3 : Bool) : Know := ⟨[([0, 12, 27], [.sym 18, .lit (.int .i64 0)], .lit (.bool (!b1))),
  ([0, 12, 27], [.sym 19, .lit (.int .i64 0)], .lit (.bool (!b2))),
  ([0, 12, 27], [.sym 20, .lit (.int .i64 0)], .lit (.bool (!b3)))],
  [(21, [.agg [.sym 0, .sym 1, .sym 2, .sym 3, .sym 4, .sym 5]], .sym 18),
  (60, [.lit (.agg #[.bool false, .string ⟨#[]⟩, .int .i64 0])], .lit (.int .i64 0)),
  (21, [.agg [.sym 6, .sym 7, .sym 8, .sym 9, .sym 10, .sym 11]], .sym 19),
  (21, [.agg [.sym 12, .sym 13, .sym 14, .sym 15, .sym 16, .sym 17]], .sym 20)]⟩
theorem GSide_bad_r1 : @comes (GSide_bad_k true true false) Tryd.prog glT 3000 GSide_bad_f GSide_bad_a = some (.tup [.lit (.int .i64 0), .sym 20]) := by kernel_rfl
theorem GSide_bad_r2 (b3 : Bool) : @comes (GSide_bad_k true false b3) Tryd.prog glT 3000 GSide_bad_f GSide_bad_a = some (.tup [.lit (.int .i64 0), .sym 19]) := by kernel_rfl
theorem GSide_bad_r3 (b2 b3 : Bool) : @comes (GSide_bad_k false b2 b3) Tryd.prog glT 3000 GSide_bad_f GSide_bad_a = some (.tup [.lit (.int .i64 0), .sym 18]) := by kernel_rfl

set_option maxRecDepth 100000 in
set_option maxHeartbeats 4000000 in
theorem GSide_bad (a b c : Gt) (w : World) (za : a.Small) (zb : b.Small) (zc : c.Small) (hn : ¬ (a.Ok ∧ b.Ok ∧ c.Ok)) (hG : Globs glT w) : Calls Tryd.prog 33 #[.agg #[.bool a.re.g, .string a.re.s, .int .i64 a.re.x, .bool a.im.g, .string a.im.s, .int .i64 a.im.x], .agg #[.bool b.re.g, .string b.re.s, .int .i64 b.re.x, .bool b.im.g, .string b.im.s, .int .i64 b.im.x], .agg #[.bool c.re.g, .string c.re.s, .int .i64 c.re.x, .bool c.im.g, .string c.im.s, .int .i64 c.im.x]] w fun e w' => e = .returned (.tuple #[.int .i64 0, .int .i64 2]) ∧ Below w.heap.size w w' := by
  obtain ⟨b1, i1⟩ := bex (gE a = 0)
  obtain ⟨b2, i2⟩ := bex (gE b = 0)
  obtain ⟨b3, i3⟩ := bex (gE c = 0)
  letI : Env := mkEnv glT [.bool a.re.g, .string a.re.s, .int .i64 a.re.x, .bool a.im.g, .string a.im.s, .int .i64 a.im.x, .bool b.re.g, .string b.re.s, .int .i64 b.re.x, .bool b.im.g, .string b.im.s, .int .i64 b.im.x, .bool c.re.g, .string c.re.s, .int .i64 c.re.x, .bool c.im.g, .string c.im.s, .int .i64 c.im.x, .int .i64 (gE a), .int .i64 (gE b), .int .i64 (gE c)] rfl
  have hops : OpsT Tryd.prog (@Know.ops (GSide_bad_k b1 b2 b3)) := ⟨opt_neq_i rfl rfl i1,
    opt_neq_i rfl rfl i2,
    opt_neq_i rfl rfl i3,
    trivial⟩
  have hcalls : CallsT Tryd.prog (@Know.calls (GSide_bad_k b1 b2 b3)) := ⟨callt rfl rfl fun w hG => GCheck_all a za w hG,
    callt rfl rfl fun w hG => (by have h := side_z w; rw [natS_dz] at h; exact h),
    callt rfl rfl fun w hG => GCheck_all b zb w hG,
    callt rfl rfl fun w hG => GCheck_all c zc w hG,
    trivial⟩
  have fin : ∀ v, @comes (GSide_bad_k b1 b2 b3) Tryd.prog glT 3000 GSide_bad_f GSide_bad_a = some v → ground v = true → Ending.returned (gval v) = .returned (.tuple #[.int .i64 0, .int .i64 2]) → Calls Tryd.prog 33 #[.agg #[.bool a.re.g, .string a.re.s, .int .i64 a.re.x, .bool a.im.g, .string a.im.s, .int .i64 a.im.x], .agg #[.bool b.re.g, .string b.re.s, .int .i64 b.re.x, .bool b.im.g, .string b.im.s, .int .i64 b.im.x], .agg #[.bool c.re.g, .string c.re.s, .int .i64 c.re.x, .bool c.im.g, .string c.im.s, .int .i64 c.im.x]] w fun e w' => e = .returned (.tuple #[.int .i64 0, .int .i64 2]) ∧ Below w.heap.size w w' := fun v h1 h2 h3 => (@sym_ok _ (GSide_bad_k b1 b2 b3) _ (@KnowOk.of _ (GSide_bad_k b1 b2 b3) _ hops hcalls) (by kernel_rfl) _ _ _ _ h1 rfl h2 _ hG).mono fun e w' h => ⟨h.1.trans h3, h.2⟩
  clear hops hcalls
  cases b1 with
  | true =>
    have h1 : gE a = 0 := i1.1 rfl
    cases b2 with
    | true =>
      have h2 : gE b = 0 := i2.1 rfl
      cases b3 with
      | true =>
        exact absurd (i3.1 rfl) (fun c => hn ⟨gE0.1 h1, gE0.1 h2, gE0.1 c⟩)
      | false =>
        have h3 : ¬ (gE c = 0) := fun c => Bool.false_ne_true (i3.2 c)
        exact fin _ (GSide_bad_r1) rfl (show Ending.returned (.tuple #[.int .i64 0, .int .i64 (gE c)]) = .returned (.tuple #[.int .i64 0, .int .i64 2]) from by rw [gE_no (fun c => h3 (gE0.2 c))])
    | false =>
      have h2 : ¬ (gE b = 0) := fun c => Bool.false_ne_true (i2.2 c)
      exact fin _ (GSide_bad_r2 b3) rfl (show Ending.returned (.tuple #[.int .i64 0, .int .i64 (gE b)]) = .returned (.tuple #[.int .i64 0, .int .i64 2]) from by rw [gE_no (fun c => h2 (gE0.2 c))])
  | false =>
    have h1 : ¬ (gE a = 0) := fun c => Bool.false_ne_true (i1.2 c)
    exact fin _ (GSide_bad_r3 b2 b3) rfl (show Ending.returned (.tuple #[.int .i64 0, .int .i64 (gE a)]) = .returned (.tuple #[.int .i64 0, .int .i64 2]) from by rw [gE_no (fun c => h1 (gE0.2 c))])

open Classical in
@[irreducible] noncomputable def inT (g c : Gt) (r : Dt) : Bool := if g.Ok ∧ c.Ok ∧ r.Pos then inB g.s c.s r.d else false
open Classical in
@[irreducible] noncomputable def inTE (g c : Gt) (r : Dt) : Int := if g.Ok ∧ c.Ok ∧ r.Pos then inE g.s c.s r.d else 2
open Classical in
@[irreducible] noncomputable def withT (c : Gt) (r : Dt) (d : Gt) (s : Dt) : Bool := if (c.Ok ∧ r.Pos) ∧ (d.Ok ∧ s.Pos) then withB c.s r.d d.s s.d else false
open Classical in
@[irreducible] noncomputable def withTE (c : Gt) (r : Dt) (d : Gt) (s : Dt) : Int := if (c.Ok ∧ r.Pos) ∧ (d.Ok ∧ s.Pos) then withE c.s r.d d.s s.d else 2
open Classical in
@[irreducible] noncomputable def apaT (c : Gt) (r : Dt) (d : Gt) (s : Dt) : Bool := if (c.Ok ∧ r.Pos) ∧ (d.Ok ∧ s.Pos) then apartB c.s r.d d.s s.d else false
open Classical in
@[irreducible] noncomputable def apaTE (c : Gt) (r : Dt) (d : Gt) (s : Dt) : Int := if (c.Ok ∧ r.Pos) ∧ (d.Ok ∧ s.Pos) then apartE c.s r.d d.s s.d else 2
open Classical in
@[irreducible] noncomputable def sideT (a b c : Gt) : Int := if a.Ok ∧ b.Ok ∧ c.Ok then sideI a.s b.s c.s else 0
open Classical in
@[irreducible] noncomputable def sideTE (a b c : Gt) : Int := if a.Ok ∧ b.Ok ∧ c.Ok then sideE a.s b.s c.s else 2
theorem in_y {g c : Gt} {r : Dt} (h : g.Ok ∧ c.Ok ∧ r.Pos) : inT g c r = inB g.s c.s r.d ∧ inTE g c r = inE g.s c.s r.d := by unfold inT inTE; rw [if_pos h, if_pos h]; exact ⟨rfl, rfl⟩
theorem in_n {g c : Gt} {r : Dt} (h : ¬ (g.Ok ∧ c.Ok ∧ r.Pos)) : inT g c r = false ∧ inTE g c r = 2 := by unfold inT inTE; rw [if_neg h, if_neg h]; exact ⟨rfl, rfl⟩
theorem with_y {c : Gt} {r : Dt} {d : Gt} {s : Dt} (h : (c.Ok ∧ r.Pos) ∧ (d.Ok ∧ s.Pos)) : withT c r d s = withB c.s r.d d.s s.d ∧ withTE c r d s = withE c.s r.d d.s s.d := by unfold withT withTE; rw [if_pos h, if_pos h]; exact ⟨rfl, rfl⟩
theorem with_n {c : Gt} {r : Dt} {d : Gt} {s : Dt} (h : ¬ ((c.Ok ∧ r.Pos) ∧ (d.Ok ∧ s.Pos))) : withT c r d s = false ∧ withTE c r d s = 2 := by unfold withT withTE; rw [if_neg h, if_neg h]; exact ⟨rfl, rfl⟩
theorem apart_y {c : Gt} {r : Dt} {d : Gt} {s : Dt} (h : (c.Ok ∧ r.Pos) ∧ (d.Ok ∧ s.Pos)) : apaT c r d s = apartB c.s r.d d.s s.d ∧ apaTE c r d s = apartE c.s r.d d.s s.d := by unfold apaT apaTE; rw [if_pos h, if_pos h]; exact ⟨rfl, rfl⟩
theorem apart_n {c : Gt} {r : Dt} {d : Gt} {s : Dt} (h : ¬ ((c.Ok ∧ r.Pos) ∧ (d.Ok ∧ s.Pos))) : apaT c r d s = false ∧ apaTE c r d s = 2 := by unfold apaT apaTE; rw [if_neg h, if_neg h]; exact ⟨rfl, rfl⟩
theorem side_y {a b c : Gt} (h : a.Ok ∧ b.Ok ∧ c.Ok) : sideT a b c = sideI a.s b.s c.s ∧ sideTE a b c = sideE a.s b.s c.s := by unfold sideT sideTE; rw [if_pos h, if_pos h]; exact ⟨rfl, rfl⟩
theorem side_n {a b c : Gt} (h : ¬ (a.Ok ∧ b.Ok ∧ c.Ok)) : sideT a b c = 0 ∧ sideTE a b c = 2 := by unfold sideT sideTE; rw [if_neg h, if_neg h]; exact ⟨rfl, rfl⟩
theorem in_ok {g c : Gt} {r : Dt} (h : inTE g c r = 0) : g.Ok ∧ c.Ok ∧ r.Pos := by
  by_cases k : g.Ok ∧ c.Ok ∧ r.Pos
  · exact k
  · rw [(in_n k).2] at h; cases h
theorem with_ok {c : Gt} {r : Dt} {d : Gt} {s : Dt} (h : withTE c r d s = 0) : (c.Ok ∧ r.Pos) ∧ (d.Ok ∧ s.Pos) := by
  by_cases k : (c.Ok ∧ r.Pos) ∧ (d.Ok ∧ s.Pos)
  · exact k
  · rw [(with_n k).2] at h; cases h
theorem apart_ok {c : Gt} {r : Dt} {d : Gt} {s : Dt} (h : apaTE c r d s = 0) : (c.Ok ∧ r.Pos) ∧ (d.Ok ∧ s.Pos) := by
  by_cases k : (c.Ok ∧ r.Pos) ∧ (d.Ok ∧ s.Pos)
  · exact k
  · rw [(apart_n k).2] at h; cases h
theorem side_ok {a b c : Gt} (h : sideTE a b c = 0) : a.Ok ∧ b.Ok ∧ c.Ok := by
  by_cases k : a.Ok ∧ b.Ok ∧ c.Ok
  · exact k
  · rw [(side_n k).2] at h; cases h
theorem pos_g {r : Dt} (h : r.Pos) : r.d.Ok ∧ r.d.g = false := ⟨(Dt.d_ok h.1).1, (congrArg Dt.g (Dt.d_ok h.1).2).symm.trans h.2⟩
section
variable {g c d : Gt} {r s : Dt}
theorem round1T (e1 : inTE g c r = 0) (e2 : inTE g d s = 0) (e3 : withTE c r d s = 0) (h1 : inT g c r = true) (h2 : withT c r d s = true) : inT g d s = true := by
  have k1 := in_ok e1
  have k2 := in_ok e2
  have k3 := with_ok e3
  rw [(in_y k1).2] at e1; rw [(in_y k2).2] at e2; rw [(with_y k3).2] at e3
  rw [(in_y k1).1] at h1; rw [(with_y k3).1] at h2; rw [(in_y k2).1]
  exact round1 (Gt.s_ok k1.1).1 (Gt.s_ok k1.2.1).1 (pos_g k1.2.2).1 (Gt.s_ok k2.2.1).1 (pos_g k2.2.2).1 (pos_g k1.2.2).2 (pos_g k2.2.2).2 e1 e2 e3 h1 h2
theorem round2T (e1 : inTE g c r = 0) (e2 : inTE g d s = 0) (e3 : apaTE c r d s = 0) (h1 : inT g c r = true) (h2 : apaT c r d s = true) : ¬ inT g d s = true := by
  have k1 := in_ok e1
  have k2 := in_ok e2
  have k3 := apart_ok e3
  rw [(in_y k1).2] at e1; rw [(in_y k2).2] at e2; rw [(apart_y k3).2] at e3
  rw [(in_y k1).1] at h1; rw [(apart_y k3).1] at h2; rw [(in_y k2).1]
  exact round2 (Gt.s_ok k1.1).1 (Gt.s_ok k1.2.1).1 (pos_g k1.2.2).1 (Gt.s_ok k2.2.1).1 (pos_g k2.2.2).1 (pos_g k1.2.2).2 (pos_g k2.2.2).2 e1 e2 e3 h1 h2
theorem round3T (e1 : withTE c r d s = 0) (e2 : apaTE c r d s = 0) (h1 : withT c r d s = true) : ¬ apaT c r d s = true := by
  have k1 := with_ok e1
  rw [(with_y k1).2] at e1; rw [(apart_y k1).2] at e2
  rw [(with_y k1).1] at h1; rw [(apart_y k1).1]
  exact round3 (Gt.s_ok k1.1.1).1 (pos_g k1.1.2).1 (Gt.s_ok k1.2.1).1 (pos_g k1.2.2).1 (pos_g k1.1.2).2 (pos_g k1.2.2).2 e1 e2 h1
theorem round4T (e1 : withTE c r d s = 0) (e2 : withTE d s c r = 0) : (withT c r d s = true ∧ withT d s c r = true) ↔ (c = d ∧ r = s) := by
  have k1 := with_ok e1
  have k2 := with_ok e2
  rw [(with_y k1).2] at e1; rw [(with_y k2).2] at e2
  rw [(with_y k1).1, (with_y k2).1, round4 (Gt.s_ok k1.1.1).1 (pos_g k1.1.2).1 (Gt.s_ok k1.2.1).1 (pos_g k1.2.2).1 e1 e2]
  constructor
  · rintro ⟨h1, h2⟩
    exact ⟨by rw [(Gt.s_ok k1.1.1).2, h1, ← (Gt.s_ok k1.2.1).2], by rw [(Dt.d_ok k1.1.2.1).2, h2, ← (Dt.d_ok k1.2.2.1).2]⟩
  · rintro ⟨h1, h2⟩
    exact ⟨by rw [h1], by rw [h2]⟩
theorem round5T (e : withTE c r c r = 0) : withT c r c r = true := by
  have k1 := with_ok e
  rw [(with_y k1).2] at e; rw [(with_y k1).1]
  exact round5 (Gt.s_ok k1.1.1).1 (pos_g k1.1.2).1 e
theorem round6T (h1 : sideTE g c d = 0) (h2 : sideTE c d g = 0) : sideT g c d = sideT c d g := by
  have k1 := side_ok h1
  have k2 := side_ok h2
  rw [(side_y k1).2] at h1; rw [(side_y k2).2] at h2
  rw [(side_y k1).1, (side_y k2).1]
  exact round6 (Gt.s_ok k1.1).1 (Gt.s_ok k1.2.1).1 (Gt.s_ok k1.2.2).1 h1 h2
theorem round7T (h1 : sideTE g c d = 0) (h2 : sideTE c g d = 0) : sideT c g d = - sideT g c d := by
  have k1 := side_ok h1
  have k2 := side_ok h2
  rw [(side_y k1).2] at h1; rw [(side_y k2).2] at h2
  rw [(side_y k1).1, (side_y k2).1]
  exact round7 (Gt.s_ok k1.1).1 (Gt.s_ok k1.2.1).1 (Gt.s_ok k1.2.2).1 h1 h2
theorem sideT_b (a b c : Gt) : sideT a b c = -1 ∨ sideT a b c = 0 ∨ sideT a b c = 1 := by
  by_cases k : a.Ok ∧ b.Ok ∧ c.Ok
  · rw [(side_y k).1]; unfold sideI
    split
    · unfold sgD
      split
      · exact Or.inr (Or.inl rfl)
      · unfold sgnI; split
        · exact Or.inl rfl
        · exact Or.inr (Or.inr rfl)
    · exact Or.inr (Or.inl rfl)
  · rw [(side_n k).1]; exact Or.inr (Or.inl rfl)
end

theorem GIn_ti (g c : Gt) (r : Dt) (w : World) (zg : g.Small) (zc : c.Small) (zr : r.s.size ≤ 9223372036854775807) {b : Bool} (hb : b = true ↔ inT g c r = true) (hG : Globs glT w) : Calls Tryd.prog 30 #[.agg #[.bool g.re.g, .string g.re.s, .int .i64 g.re.x, .bool g.im.g, .string g.im.s, .int .i64 g.im.x], .agg #[.bool c.re.g, .string c.re.s, .int .i64 c.re.x, .bool c.im.g, .string c.im.s, .int .i64 c.im.x], .agg #[.bool r.g, .string r.s, .int .i64 r.x]] w fun e w' => e = .returned (.tuple #[.bool b, .int .i64 (inTE g c r)]) ∧ Below w.heap.size w w' := by
  rw [Bool.eq_iff_iff.2 hb]
  by_cases h : g.Ok ∧ c.Ok ∧ r.Pos
  · rw [(in_y h).1, (in_y h).2]
    obtain ⟨n, x, e1, e2, rfl⟩ := Dt.pos_d h.2.2
    rw [e1]
    have q := GIn_p g.s c.s n x w (Gt.s_ok h.1).1 (Gt.s_ok h.2.1).1 e2 hG
    have u1 := (Gt.s_ok h.1).2
    have u2 := (Gt.s_ok h.2.1).2
    revert q
    generalize g.s = gs at *
    generalize c.s = cs at *
    subst u1 u2
    exact fun q => q
  · rw [(in_n h).1, (in_n h).2]; exact GIn_bad g c r w zg zc zr h hG
theorem GSide_ti (a b c : Gt) (w : World) (za : a.Small) (zb : b.Small) (zc : c.Small) (hG : Globs glT w) : Calls Tryd.prog 33 #[.agg #[.bool a.re.g, .string a.re.s, .int .i64 a.re.x, .bool a.im.g, .string a.im.s, .int .i64 a.im.x], .agg #[.bool b.re.g, .string b.re.s, .int .i64 b.re.x, .bool b.im.g, .string b.im.s, .int .i64 b.im.x], .agg #[.bool c.re.g, .string c.re.s, .int .i64 c.re.x, .bool c.im.g, .string c.im.s, .int .i64 c.im.x]] w fun e w' => e = .returned (.tuple #[.int .i64 (sideT a b c), .int .i64 (sideTE a b c)]) ∧ Below w.heap.size w w' := by
  by_cases h : a.Ok ∧ b.Ok ∧ c.Ok
  · rw [(side_y h).1, (side_y h).2]
    have q := GSide_c a.s b.s c.s w (Gt.s_ok h.1).1 (Gt.s_ok h.2.1).1 (Gt.s_ok h.2.2).1 hG
    have u1 := (Gt.s_ok h.1).2
    have u2 := (Gt.s_ok h.2.1).2
    have u3 := (Gt.s_ok h.2.2).2
    revert q
    generalize a.s = as1 at *
    generalize b.s = bs at *
    generalize c.s = cs at *
    subst u1 u2 u3
    exact fun q => q
  · rw [(side_n h).1, (side_n h).2]; exact GSide_bad a b c w za zb zc h hG
theorem GWithin_ti (c : Gt) (r : Dt) (d : Gt) (s : Dt) (w : World) (zc : c.Small) (zr : r.s.size ≤ 9223372036854775807) (zd : d.Small) (zs : s.s.size ≤ 9223372036854775807) {b : Bool} (hb : b = true ↔ withT c r d s = true) (hG : Globs glT w) : Calls Tryd.prog 31 #[.agg #[.bool c.re.g, .string c.re.s, .int .i64 c.re.x, .bool c.im.g, .string c.im.s, .int .i64 c.im.x], .agg #[.bool r.g, .string r.s, .int .i64 r.x], .agg #[.bool d.re.g, .string d.re.s, .int .i64 d.re.x, .bool d.im.g, .string d.im.s, .int .i64 d.im.x], .agg #[.bool s.g, .string s.s, .int .i64 s.x]] w fun e w' => e = .returned (.tuple #[.bool b, .int .i64 (withTE c r d s)]) ∧ Below w.heap.size w w' := by
  rw [Bool.eq_iff_iff.2 hb]
  by_cases h : (c.Ok ∧ r.Pos) ∧ (d.Ok ∧ s.Pos)
  · rw [(with_y h).1, (with_y h).2]
    obtain ⟨n, x, e1, e2, rfl⟩ := Dt.pos_d h.1.2
    obtain ⟨m, y, e3, e4, rfl⟩ := Dt.pos_d h.2.2
    rw [e1, e3]
    have q := GWithin_p c.s n x d.s m y w (Gt.s_ok h.1.1).1 e2 (Gt.s_ok h.2.1).1 e4 hG
    have u1 := (Gt.s_ok h.1.1).2
    have u2 := (Gt.s_ok h.2.1).2
    revert q
    generalize c.s = cs at *
    generalize d.s = ds1 at *
    subst u1 u2
    exact fun q => q
  · rw [(with_n h).1, (with_n h).2]; exact GWithin_bad c r d s w zc zr zd zs h hG
theorem GApart_ti (c : Gt) (r : Dt) (d : Gt) (s : Dt) (w : World) (zc : c.Small) (zr : r.s.size ≤ 9223372036854775807) (zd : d.Small) (zs : s.s.size ≤ 9223372036854775807) {b : Bool} (hb : b = true ↔ apaT c r d s = true) (hG : Globs glT w) : Calls Tryd.prog 32 #[.agg #[.bool c.re.g, .string c.re.s, .int .i64 c.re.x, .bool c.im.g, .string c.im.s, .int .i64 c.im.x], .agg #[.bool r.g, .string r.s, .int .i64 r.x], .agg #[.bool d.re.g, .string d.re.s, .int .i64 d.re.x, .bool d.im.g, .string d.im.s, .int .i64 d.im.x], .agg #[.bool s.g, .string s.s, .int .i64 s.x]] w fun e w' => e = .returned (.tuple #[.bool b, .int .i64 (apaTE c r d s)]) ∧ Below w.heap.size w w' := by
  rw [Bool.eq_iff_iff.2 hb]
  by_cases h : (c.Ok ∧ r.Pos) ∧ (d.Ok ∧ s.Pos)
  · rw [(apart_y h).1, (apart_y h).2]
    obtain ⟨n, x, e1, e2, rfl⟩ := Dt.pos_d h.1.2
    obtain ⟨m, y, e3, e4, rfl⟩ := Dt.pos_d h.2.2
    rw [e1, e3]
    have q := GApart_p c.s n x d.s m y w (Gt.s_ok h.1.1).1 e2 (Gt.s_ok h.2.1).1 e4 hG
    have u1 := (Gt.s_ok h.1.1).2
    have u2 := (Gt.s_ok h.2.1).2
    revert q
    generalize c.s = cs at *
    generalize d.s = ds1 at *
    subst u1 u2
    exact fun q => q
  · rw [(apart_n h).1, (apart_n h).2]; exact GApart_bad c r d s w zc zr zd zs h hG
end Go.Proofs.YtchneedfkonheaaDoor
