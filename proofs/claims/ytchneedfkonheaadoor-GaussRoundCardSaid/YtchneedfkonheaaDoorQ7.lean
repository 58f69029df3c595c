/- Texts put together: G24. -/
import Derived.Test.YtchneedfkonheaaDoorQ6
set_option linter.unusedVariables false
set_option linter.unusedSimpArgs false
namespace Go.Proofs.YtchneedfkonheaaDoor
open Go Go.RowKit Nt


section
variable [Env]
theorem opt_unE {P : Program} {op : UnOp} {t : TypeId} {a r : AV} (hr : ground r = true) (h : ∀ w, (Op.unary op (gval a)).run P w = .ok (gval r) w) : OpT P [1, unKey op, t] [a] r := by
  refine ⟨hr, fun o xs hk ρ hρ hx w => ?_⟩
  unfold keyOf at hk
  obtain ⟨dst, o, type, pos, after, guard⟩ := o
  simp only at hk
  split at hk
  · simp only [Option.some.injEq, Prod.mk.injEq, List.cons.injEq] at hk; have := hk.1.1; omega
  · rename_i op' t' x
    simp only [Option.some.injEq, Prod.mk.injEq, List.cons.injEq, and_true, true_and] at hk
    obtain ⟨⟨h1, h2⟩, h3⟩ := hk
    subst h2 h3
    have ho : op' = op := by cases op' <;> cases op <;> first | rfl | cases h1
    subst ho
    simp only [List.map_cons, List.map_nil, List.cons.injEq, and_true] at hx
    have := h w
    simp only [execOp, hx, Sem.run_bind, Sem.run_pure] at this ⊢
    rw [this]; rfl
  all_goals first
    | (simp only [Option.some.injEq, Prod.mk.injEq, List.cons.injEq] at hk; have := hk.1.1; omega)
    | (split at hk <;> first | cases hk | (simp only [Option.some.injEq, Prod.mk.injEq, List.cons.injEq] at hk; have := hk.1.1; omega))
    | cases hk
end
section
variable [Env]
theorem optT_eql_i {A B : AV} {a b : Dt} {c : Bool} (ha : gval A = a.v) (hb : gval B = b.v) (h : c = true ↔ a = b) : OpT Tryd.prog [0, 11, 24] [A, B] (.lit (.bool c)) := optD_eql ha hb (h.trans Dt.ext_iff'.symm)
theorem optT_eql_t {A B : AV} {a b : Dt} (ha : gval A = a.v) (hb : gval B = b.v) (h : a = b) : OpT Tryd.prog [0, 11, 24] [A, B] (.lit (.bool true)) := optD_eql ha hb ⟨fun _ => Dt.ext_iff'.2 h, fun _ => rfl⟩
end
theorem opt_negE {P : Program} [Env] {t : TypeId} {a r : AV} {x z : Int} (ha : gval a = .int .i64 x) (hr : ground r = true) (hv : gval r = .int .i64 z) (h : -x = z) (h1 : -9223372036854775808 ≤ z ∧ z ≤ 9223372036854775807) : OpT P [1, 0, t] [a] r :=
  opt_unE (op := .neg) hr fun w => by
    have : IntKind.i64.wrap (0 - x) = z := by rw [Int.zero_sub, h]; exact IntWalk.i64_in _ h1
    rw [ha, hv]; simp only [Op.unary, Op.intArith, this]; rfl
theorem sideT_n (a b c : Gt) : -9223372036854775808 ≤ -(sideT a b c) ∧ -(sideT a b c) ≤ 9223372036854775807 := by
  rcases sideT_b a b c with h | h | h <;> rw [h] <;> decide

@[reducible] def GaussRound_law_f : FuncId := 6
@[reducible] def GaussRound_law_a : List AV := [.agg [.sym 0, .sym 1, .sym 2, .sym 3, .sym 4, .sym 5], .agg [.sym 6, .sym 7, .sym 8, .sym 9, .sym 10, .sym 11], .agg [.sym 12, .sym 13, .sym 14], .agg [.sym 15, .sym 16, .sym 17, .sym 18, .sym 19, .sym 20], .agg [.sym 21, .sym 22, .sym 23]]
@[reducible] noncomputable def gr_k (b1 b2 b3 b4 b5 b6 b7 b8 b9 b10 b11 b12 b13 b14 b15 b16 : Bool) : Know := ⟨[([0, 11, 26], [.agg [.sym 6, .sym 7, .sym 8, .sym 9, .sym 10, .sym 11], .agg [.sym 15, .sym 16, .sym 17, .sym 18, .sym 19, .sym 20]], .lit (.bool b12)),
  ([0, 11, 24], [.agg [.sym 12, .sym 13, .sym 14], .agg [.sym 21, .sym 22, .sym 23]], .lit (.bool b13)),
  ([0, 11, 27], [.sym 29, .lit (.int .i64 0)], .lit (.bool b14)),
  ([0, 11, 3], [.sym 30, .sym 32], .lit (.bool b15)),
  ([1, 0, 3], [.sym 30], .sym 36),
  ([0, 11, 3], [.sym 34, .sym 36], .lit (.bool b16))],
  [(16, [], .lit (.bool true)),
  (30, [.agg [.sym 0, .sym 1, .sym 2, .sym 3, .sym 4, .sym 5], .agg [.sym 6, .sym 7, .sym 8, .sym 9, .sym 10, .sym 11], .agg [.sym 12, .sym 13, .sym 14]], .tup [.lit (.bool b1), .sym 24]),
  (30, [.agg [.sym 0, .sym 1, .sym 2, .sym 3, .sym 4, .sym 5], .agg [.sym 15, .sym 16, .sym 17, .sym 18, .sym 19, .sym 20], .agg [.sym 21, .sym 22, .sym 23]], .tup [.lit (.bool b2), .sym 25]),
  (31, [.agg [.sym 6, .sym 7, .sym 8, .sym 9, .sym 10, .sym 11], .agg [.sym 12, .sym 13, .sym 14], .agg [.sym 15, .sym 16, .sym 17, .sym 18, .sym 19, .sym 20], .agg [.sym 21, .sym 22, .sym 23]], .tup [.lit (.bool b3), .sym 26]),
  (31, [.agg [.sym 15, .sym 16, .sym 17, .sym 18, .sym 19, .sym 20], .agg [.sym 21, .sym 22, .sym 23], .agg [.sym 6, .sym 7, .sym 8, .sym 9, .sym 10, .sym 11], .agg [.sym 12, .sym 13, .sym 14]], .tup [.lit (.bool b4), .sym 27]),
  (32, [.agg [.sym 6, .sym 7, .sym 8, .sym 9, .sym 10, .sym 11], .agg [.sym 12, .sym 13, .sym 14], .agg [.sym 15, .sym 16, .sym 17, .sym 18, .sym 19, .sym 20], .agg [.sym 21, .sym 22, .sym 23]], .tup [.lit (.bool b5), .sym 28]),
  (20, [.row 3 0 [.sym 24, .sym 25, .sym 26]], .lit (.bool b6)),
  (20, [.row 3 0 [.sym 24, .sym 25, .sym 28]], .lit (.bool b7)),
  (20, [.row 2 0 [.sym 26, .sym 28]], .lit (.bool b8)),
  (20, [.row 2 0 [.sym 26, .sym 27]], .lit (.bool b9)),
  (31, [.agg [.sym 6, .sym 7, .sym 8, .sym 9, .sym 10, .sym 11], .agg [.sym 12, .sym 13, .sym 14], .agg [.sym 6, .sym 7, .sym 8, .sym 9, .sym 10, .sym 11], .agg [.sym 12, .sym 13, .sym 14]], .tup [.lit (.bool b10), .sym 29]),
  (33, [.agg [.sym 0, .sym 1, .sym 2, .sym 3, .sym 4, .sym 5], .agg [.sym 6, .sym 7, .sym 8, .sym 9, .sym 10, .sym 11], .agg [.sym 15, .sym 16, .sym 17, .sym 18, .sym 19, .sym 20]], .tup [.sym 30, .sym 31]),
  (33, [.agg [.sym 6, .sym 7, .sym 8, .sym 9, .sym 10, .sym 11], .agg [.sym 15, .sym 16, .sym 17, .sym 18, .sym 19, .sym 20], .agg [.sym 0, .sym 1, .sym 2, .sym 3, .sym 4, .sym 5]], .tup [.sym 32, .sym 33]),
  (33, [.agg [.sym 6, .sym 7, .sym 8, .sym 9, .sym 10, .sym 11], .agg [.sym 0, .sym 1, .sym 2, .sym 3, .sym 4, .sym 5], .agg [.sym 15, .sym 16, .sym 17, .sym 18, .sym 19, .sym 20]], .tup [.sym 34, .sym 35]),
  (20, [.row 3 0 [.sym 31, .sym 33, .sym 35]], .lit (.bool b11))]⟩
@[reducible] noncomputable def gr_Z (k : Know) : Option AV := @comes k Tryd.prog glT 3000 GaussRound_law_f GaussRound_law_a
@[reducible] def gr_T : Option AV := some (.lit (.bool true))
theorem gr_nf {P : Prop} (i : false = true ↔ P) : ¬ P := fun c => Bool.false_ne_true (i.2 c)
theorem gr_m1 {x : Int} {l : List Int} (h : allB (x :: l) = true) : x = 0 := allB_iff.1 h _ (by simp)
theorem gr_m2 {x y : Int} {l : List Int} (h : allB (x :: y :: l) = true) : y = 0 := allB_iff.1 h _ (by simp)
theorem gr_m3 {x y z : Int} {l : List Int} (h : allB (x :: y :: z :: l) = true) : z = 0 := allB_iff.1 h _ (by simp)
section
variable {g c d : Gt} {r s : Dt}
theorem gr_R1 (h : allB [inTE g c r, inTE g d s, withTE c r d s] = true) (n : inT g c r = true) (k : withT c r d s = true) : inT g d s = true := round1T (gr_m1 h) (gr_m2 h) (gr_m3 h) n k
theorem gr_R2 (h : allB [inTE g c r, inTE g d s, apaTE c r d s] = true) (n : inT g c r = true) (k : apaT c r d s = true) : ¬ inT g d s = true := round2T (gr_m1 h) (gr_m2 h) (gr_m3 h) n k
theorem gr_R3 (h : allB [withTE c r d s, apaTE c r d s] = true) (n : withT c r d s = true) : ¬ apaT c r d s = true := round3T (gr_m1 h) (gr_m2 h) n
theorem gr_R4 (h : allB [withTE c r d s, withTE d s c r] = true) : (withT c r d s = true ∧ withT d s c r = true) ↔ (c = d ∧ r = s) := round4T (gr_m1 h) (gr_m2 h)
theorem gr_R6 (h : allB [sideTE g c d, sideTE c d g, sideTE c g d] = true) : sideT g c d = sideT c d g := round6T (gr_m1 h) (gr_m2 h)
theorem gr_R7 (h : allB [sideTE g c d, sideTE c d g, sideTE c g d] = true) : sideT c g d = -(sideT g c d) := round7T (gr_m1 h) (gr_m3 h)
end
theorem gr_ft : false ≠ true := Bool.false_ne_true
theorem gr_1 : gr_Z (gr_k true true true true false true true true true true true true true true true true) = gr_T := by kernel_rfl
theorem gr_2 (b15 b16 : Bool) : gr_Z (gr_k true true true true false true true true true true false true true true b15 b16) = gr_T := by kernel_rfl
theorem gr_3 (b10 : Bool) : gr_Z (gr_k true true true true false true true true true b10 true true true false true true) = gr_T := by kernel_rfl
theorem gr_4 (b10 b15 b16 : Bool) : gr_Z (gr_k true true true true false true true true true b10 false true true false b15 b16) = gr_T := by kernel_rfl
theorem gr_5 : gr_Z (gr_k true true true false false true true true true true true true false true true true) = gr_T := by kernel_rfl
theorem gr_6 (b15 b16 : Bool) : gr_Z (gr_k true true true false false true true true true true false true false true b15 b16) = gr_T := by kernel_rfl
theorem gr_7 (b10 : Bool) : gr_Z (gr_k true true true false false true true true true b10 true true false false true true) = gr_T := by kernel_rfl
theorem gr_8 (b10 b15 b16 : Bool) : gr_Z (gr_k true true true false false true true true true b10 false true false false b15 b16) = gr_T := by kernel_rfl
theorem gr_9 (b13 : Bool) : gr_Z (gr_k true true true false false true true true true true true false b13 true true true) = gr_T := by kernel_rfl
theorem gr_10 (b13 b15 b16 : Bool) : gr_Z (gr_k true true true false false true true true true true false false b13 true b15 b16) = gr_T := by kernel_rfl
theorem gr_11 (b10 b13 : Bool) : gr_Z (gr_k true true true false false true true true true b10 true false b13 false true true) = gr_T := by kernel_rfl
theorem gr_12 (b10 b13 b15 b16 : Bool) : gr_Z (gr_k true true true false false true true true true b10 false false b13 false b15 b16) = gr_T := by kernel_rfl
theorem gr_13 (b4 b12 b13 : Bool) : gr_Z (gr_k true true true b4 false true true true false true true b12 b13 true true true) = gr_T := by kernel_rfl
theorem gr_14 (b4 b12 b13 b15 b16 : Bool) : gr_Z (gr_k true true true b4 false true true true false true false b12 b13 true b15 b16) = gr_T := by kernel_rfl
theorem gr_15 (b4 b10 b12 b13 : Bool) : gr_Z (gr_k true true true b4 false true true true false b10 true b12 b13 false true true) = gr_T := by kernel_rfl
theorem gr_16 (b4 b10 b12 b13 b15 b16 : Bool) : gr_Z (gr_k true true true b4 false true true true false b10 false b12 b13 false b15 b16) = gr_T := by kernel_rfl
theorem gr_17 : gr_Z (gr_k true true true true false true true false true true true true true true true true) = gr_T := by kernel_rfl
theorem gr_18 (b15 b16 : Bool) : gr_Z (gr_k true true true true false true true false true true false true true true b15 b16) = gr_T := by kernel_rfl
theorem gr_19 (b10 : Bool) : gr_Z (gr_k true true true true false true true false true b10 true true true false true true) = gr_T := by kernel_rfl
theorem gr_20 (b10 b15 b16 : Bool) : gr_Z (gr_k true true true true false true true false true b10 false true true false b15 b16) = gr_T := by kernel_rfl
theorem gr_21 : gr_Z (gr_k true true true false false true true false true true true true false true true true) = gr_T := by kernel_rfl
theorem gr_22 (b15 b16 : Bool) : gr_Z (gr_k true true true false false true true false true true false true false true b15 b16) = gr_T := by kernel_rfl
theorem gr_23 (b10 : Bool) : gr_Z (gr_k true true true false false true true false true b10 true true false false true true) = gr_T := by kernel_rfl
theorem gr_24 (b10 b15 b16 : Bool) : gr_Z (gr_k true true true false false true true false true b10 false true false false b15 b16) = gr_T := by kernel_rfl
theorem gr_25 (b13 : Bool) : gr_Z (gr_k true true true false false true true false true true true false b13 true true true) = gr_T := by kernel_rfl
theorem gr_26 (b13 b15 b16 : Bool) : gr_Z (gr_k true true true false false true true false true true false false b13 true b15 b16) = gr_T := by kernel_rfl
theorem gr_27 (b10 b13 : Bool) : gr_Z (gr_k true true true false false true true false true b10 true false b13 false true true) = gr_T := by kernel_rfl
theorem gr_28 (b10 b13 b15 b16 : Bool) : gr_Z (gr_k true true true false false true true false true b10 false false b13 false b15 b16) = gr_T := by kernel_rfl
theorem gr_29 (b4 b12 b13 : Bool) : gr_Z (gr_k true true true b4 false true true false false true true b12 b13 true true true) = gr_T := by kernel_rfl
theorem gr_30 (b4 b12 b13 b15 b16 : Bool) : gr_Z (gr_k true true true b4 false true true false false true false b12 b13 true b15 b16) = gr_T := by kernel_rfl
theorem gr_31 (b4 b10 b12 b13 : Bool) : gr_Z (gr_k true true true b4 false true true false false b10 true b12 b13 false true true) = gr_T := by kernel_rfl
theorem gr_32 (b4 b10 b12 b13 b15 b16 : Bool) : gr_Z (gr_k true true true b4 false true true false false b10 false b12 b13 false b15 b16) = gr_T := by kernel_rfl
theorem gr_33 : gr_Z (gr_k true true true true false true false true true true true true true true true true) = gr_T := by kernel_rfl
theorem gr_34 (b15 b16 : Bool) : gr_Z (gr_k true true true true false true false true true true false true true true b15 b16) = gr_T := by kernel_rfl
theorem gr_35 (b10 : Bool) : gr_Z (gr_k true true true true false true false true true b10 true true true false true true) = gr_T := by kernel_rfl
theorem gr_36 (b10 b15 b16 : Bool) : gr_Z (gr_k true true true true false true false true true b10 false true true false b15 b16) = gr_T := by kernel_rfl
theorem gr_37 : gr_Z (gr_k true true true false false true false true true true true true false true true true) = gr_T := by kernel_rfl
theorem gr_38 (b15 b16 : Bool) : gr_Z (gr_k true true true false false true false true true true false true false true b15 b16) = gr_T := by kernel_rfl
theorem gr_39 (b10 : Bool) : gr_Z (gr_k true true true false false true false true true b10 true true false false true true) = gr_T := by kernel_rfl
theorem gr_40 (b10 b15 b16 : Bool) : gr_Z (gr_k true true true false false true false true true b10 false true false false b15 b16) = gr_T := by kernel_rfl
theorem gr_41 (b13 : Bool) : gr_Z (gr_k true true true false false true false true true true true false b13 true true true) = gr_T := by kernel_rfl
theorem gr_42 (b13 b15 b16 : Bool) : gr_Z (gr_k true true true false false true false true true true false false b13 true b15 b16) = gr_T := by kernel_rfl
theorem gr_43 (b10 b13 : Bool) : gr_Z (gr_k true true true false false true false true true b10 true false b13 false true true) = gr_T := by kernel_rfl
theorem gr_44 (b10 b13 b15 b16 : Bool) : gr_Z (gr_k true true true false false true false true true b10 false false b13 false b15 b16) = gr_T := by kernel_rfl
theorem gr_45 (b4 b12 b13 : Bool) : gr_Z (gr_k true true true b4 false true false true false true true b12 b13 true true true) = gr_T := by kernel_rfl
theorem gr_46 (b4 b12 b13 b15 b16 : Bool) : gr_Z (gr_k true true true b4 false true false true false true false b12 b13 true b15 b16) = gr_T := by kernel_rfl
theorem gr_47 (b4 b10 b12 b13 : Bool) : gr_Z (gr_k true true true b4 false true false true false b10 true b12 b13 false true true) = gr_T := by kernel_rfl
theorem gr_48 (b4 b10 b12 b13 b15 b16 : Bool) : gr_Z (gr_k true true true b4 false true false true false b10 false b12 b13 false b15 b16) = gr_T := by kernel_rfl
theorem gr_49 (b5 : Bool) : gr_Z (gr_k true true true true b5 true false false true true true true true true true true) = gr_T := by kernel_rfl
theorem gr_50 (b5 b15 b16 : Bool) : gr_Z (gr_k true true true true b5 true false false true true false true true true b15 b16) = gr_T := by kernel_rfl
theorem gr_51 (b5 b10 : Bool) : gr_Z (gr_k true true true true b5 true false false true b10 true true true false true true) = gr_T := by kernel_rfl
theorem gr_52 (b5 b10 b15 b16 : Bool) : gr_Z (gr_k true true true true b5 true false false true b10 false true true false b15 b16) = gr_T := by kernel_rfl
theorem gr_53 (b5 : Bool) : gr_Z (gr_k true true true false b5 true false false true true true true false true true true) = gr_T := by kernel_rfl
theorem gr_54 (b5 b15 b16 : Bool) : gr_Z (gr_k true true true false b5 true false false true true false true false true b15 b16) = gr_T := by kernel_rfl
theorem gr_55 (b5 b10 : Bool) : gr_Z (gr_k true true true false b5 true false false true b10 true true false false true true) = gr_T := by kernel_rfl
theorem gr_56 (b5 b10 b15 b16 : Bool) : gr_Z (gr_k true true true false b5 true false false true b10 false true false false b15 b16) = gr_T := by kernel_rfl
theorem gr_57 (b5 b13 : Bool) : gr_Z (gr_k true true true false b5 true false false true true true false b13 true true true) = gr_T := by kernel_rfl
theorem gr_58 (b5 b13 b15 b16 : Bool) : gr_Z (gr_k true true true false b5 true false false true true false false b13 true b15 b16) = gr_T := by kernel_rfl
theorem gr_59 (b5 b10 b13 : Bool) : gr_Z (gr_k true true true false b5 true false false true b10 true false b13 false true true) = gr_T := by kernel_rfl
theorem gr_60 (b5 b10 b13 b15 b16 : Bool) : gr_Z (gr_k true true true false b5 true false false true b10 false false b13 false b15 b16) = gr_T := by kernel_rfl
theorem gr_61 (b4 b5 b12 b13 : Bool) : gr_Z (gr_k true true true b4 b5 true false false false true true b12 b13 true true true) = gr_T := by kernel_rfl
theorem gr_62 (b4 b5 b12 b13 b15 b16 : Bool) : gr_Z (gr_k true true true b4 b5 true false false false true false b12 b13 true b15 b16) = gr_T := by kernel_rfl
theorem gr_63 (b4 b5 b10 b12 b13 : Bool) : gr_Z (gr_k true true true b4 b5 true false false false b10 true b12 b13 false true true) = gr_T := by kernel_rfl
theorem gr_64 (b4 b5 b10 b12 b13 b15 b16 : Bool) : gr_Z (gr_k true true true b4 b5 true false false false b10 false b12 b13 false b15 b16) = gr_T := by kernel_rfl
theorem gr_65 (b4 : Bool) : gr_Z (gr_k true false false b4 true true true true true true true true false true true true) = gr_T := by kernel_rfl
theorem gr_66 (b4 b15 b16 : Bool) : gr_Z (gr_k true false false b4 true true true true true true false true false true b15 b16) = gr_T := by kernel_rfl
theorem gr_67 (b4 b10 : Bool) : gr_Z (gr_k true false false b4 true true true true true b10 true true false false true true) = gr_T := by kernel_rfl
theorem gr_68 (b4 b10 b15 b16 : Bool) : gr_Z (gr_k true false false b4 true true true true true b10 false true false false b15 b16) = gr_T := by kernel_rfl
theorem gr_69 (b4 b13 : Bool) : gr_Z (gr_k true false false b4 true true true true true true true false b13 true true true) = gr_T := by kernel_rfl
theorem gr_70 (b4 b13 b15 b16 : Bool) : gr_Z (gr_k true false false b4 true true true true true true false false b13 true b15 b16) = gr_T := by kernel_rfl
theorem gr_71 (b4 b10 b13 : Bool) : gr_Z (gr_k true false false b4 true true true true true b10 true false b13 false true true) = gr_T := by kernel_rfl
theorem gr_72 (b4 b10 b13 b15 b16 : Bool) : gr_Z (gr_k true false false b4 true true true true true b10 false false b13 false b15 b16) = gr_T := by kernel_rfl
theorem gr_73 (b4 b12 b13 : Bool) : gr_Z (gr_k true false false b4 true true true true false true true b12 b13 true true true) = gr_T := by kernel_rfl
theorem gr_74 (b4 b12 b13 b15 b16 : Bool) : gr_Z (gr_k true false false b4 true true true true false true false b12 b13 true b15 b16) = gr_T := by kernel_rfl
theorem gr_75 (b4 b10 b12 b13 : Bool) : gr_Z (gr_k true false false b4 true true true true false b10 true b12 b13 false true true) = gr_T := by kernel_rfl
theorem gr_76 (b4 b10 b12 b13 b15 b16 : Bool) : gr_Z (gr_k true false false b4 true true true true false b10 false b12 b13 false b15 b16) = gr_T := by kernel_rfl
theorem gr_77 (b4 : Bool) : gr_Z (gr_k true false false b4 true true true false true true true true false true true true) = gr_T := by kernel_rfl
theorem gr_78 (b4 b15 b16 : Bool) : gr_Z (gr_k true false false b4 true true true false true true false true false true b15 b16) = gr_T := by kernel_rfl
theorem gr_79 (b4 b10 : Bool) : gr_Z (gr_k true false false b4 true true true false true b10 true true false false true true) = gr_T := by kernel_rfl
theorem gr_80 (b4 b10 b15 b16 : Bool) : gr_Z (gr_k true false false b4 true true true false true b10 false true false false b15 b16) = gr_T := by kernel_rfl
theorem gr_81 (b4 b13 : Bool) : gr_Z (gr_k true false false b4 true true true false true true true false b13 true true true) = gr_T := by kernel_rfl
theorem gr_82 (b4 b13 b15 b16 : Bool) : gr_Z (gr_k true false false b4 true true true false true true false false b13 true b15 b16) = gr_T := by kernel_rfl
theorem gr_83 (b4 b10 b13 : Bool) : gr_Z (gr_k true false false b4 true true true false true b10 true false b13 false true true) = gr_T := by kernel_rfl
theorem gr_84 (b4 b10 b13 b15 b16 : Bool) : gr_Z (gr_k true false false b4 true true true false true b10 false false b13 false b15 b16) = gr_T := by kernel_rfl
theorem gr_85 (b4 b12 b13 : Bool) : gr_Z (gr_k true false false b4 true true true false false true true b12 b13 true true true) = gr_T := by kernel_rfl
theorem gr_86 (b4 b12 b13 b15 b16 : Bool) : gr_Z (gr_k true false false b4 true true true false false true false b12 b13 true b15 b16) = gr_T := by kernel_rfl
theorem gr_87 (b4 b10 b12 b13 : Bool) : gr_Z (gr_k true false false b4 true true true false false b10 true b12 b13 false true true) = gr_T := by kernel_rfl
theorem gr_88 (b4 b10 b12 b13 b15 b16 : Bool) : gr_Z (gr_k true false false b4 true true true false false b10 false b12 b13 false b15 b16) = gr_T := by kernel_rfl
theorem gr_89 (b2 b4 : Bool) : gr_Z (gr_k true b2 false b4 false true true true true true true true false true true true) = gr_T := by kernel_rfl
theorem gr_90 (b2 b4 b15 b16 : Bool) : gr_Z (gr_k true b2 false b4 false true true true true true false true false true b15 b16) = gr_T := by kernel_rfl
theorem gr_91 (b2 b4 b10 : Bool) : gr_Z (gr_k true b2 false b4 false true true true true b10 true true false false true true) = gr_T := by kernel_rfl
theorem gr_92 (b2 b4 b10 b15 b16 : Bool) : gr_Z (gr_k true b2 false b4 false true true true true b10 false true false false b15 b16) = gr_T := by kernel_rfl
theorem gr_93 (b2 b4 b13 : Bool) : gr_Z (gr_k true b2 false b4 false true true true true true true false b13 true true true) = gr_T := by kernel_rfl
theorem gr_94 (b2 b4 b13 b15 b16 : Bool) : gr_Z (gr_k true b2 false b4 false true true true true true false false b13 true b15 b16) = gr_T := by kernel_rfl
theorem gr_95 (b2 b4 b10 b13 : Bool) : gr_Z (gr_k true b2 false b4 false true true true true b10 true false b13 false true true) = gr_T := by kernel_rfl
theorem gr_96 (b2 b4 b10 b13 b15 b16 : Bool) : gr_Z (gr_k true b2 false b4 false true true true true b10 false false b13 false b15 b16) = gr_T := by kernel_rfl
theorem gr_97 (b2 b4 b12 b13 : Bool) : gr_Z (gr_k true b2 false b4 false true true true false true true b12 b13 true true true) = gr_T := by kernel_rfl
theorem gr_98 (b2 b4 b12 b13 b15 b16 : Bool) : gr_Z (gr_k true b2 false b4 false true true true false true false b12 b13 true b15 b16) = gr_T := by kernel_rfl
theorem gr_99 (b2 b4 b10 b12 b13 : Bool) : gr_Z (gr_k true b2 false b4 false true true true false b10 true b12 b13 false true true) = gr_T := by kernel_rfl
theorem gr_100 (b2 b4 b10 b12 b13 b15 b16 : Bool) : gr_Z (gr_k true b2 false b4 false true true true false b10 false b12 b13 false b15 b16) = gr_T := by kernel_rfl
theorem gr_101 (b2 b4 : Bool) : gr_Z (gr_k true b2 false b4 false true true false true true true true false true true true) = gr_T := by kernel_rfl
theorem gr_102 (b2 b4 b15 b16 : Bool) : gr_Z (gr_k true b2 false b4 false true true false true true false true false true b15 b16) = gr_T := by kernel_rfl
theorem gr_103 (b2 b4 b10 : Bool) : gr_Z (gr_k true b2 false b4 false true true false true b10 true true false false true true) = gr_T := by kernel_rfl
theorem gr_104 (b2 b4 b10 b15 b16 : Bool) : gr_Z (gr_k true b2 false b4 false true true false true b10 false true false false b15 b16) = gr_T := by kernel_rfl
theorem gr_105 (b2 b4 b13 : Bool) : gr_Z (gr_k true b2 false b4 false true true false true true true false b13 true true true) = gr_T := by kernel_rfl
theorem gr_106 (b2 b4 b13 b15 b16 : Bool) : gr_Z (gr_k true b2 false b4 false true true false true true false false b13 true b15 b16) = gr_T := by kernel_rfl
theorem gr_107 (b2 b4 b10 b13 : Bool) : gr_Z (gr_k true b2 false b4 false true true false true b10 true false b13 false true true) = gr_T := by kernel_rfl
theorem gr_108 (b2 b4 b10 b13 b15 b16 : Bool) : gr_Z (gr_k true b2 false b4 false true true false true b10 false false b13 false b15 b16) = gr_T := by kernel_rfl
theorem gr_109 (b2 b4 b12 b13 : Bool) : gr_Z (gr_k true b2 false b4 false true true false false true true b12 b13 true true true) = gr_T := by kernel_rfl
theorem gr_110 (b2 b4 b12 b13 b15 b16 : Bool) : gr_Z (gr_k true b2 false b4 false true true false false true false b12 b13 true b15 b16) = gr_T := by kernel_rfl
theorem gr_111 (b2 b4 b10 b12 b13 : Bool) : gr_Z (gr_k true b2 false b4 false true true false false b10 true b12 b13 false true true) = gr_T := by kernel_rfl
theorem gr_112 (b2 b4 b10 b12 b13 b15 b16 : Bool) : gr_Z (gr_k true b2 false b4 false true true false false b10 false b12 b13 false b15 b16) = gr_T := by kernel_rfl
theorem gr_113 (b2 b4 b5 : Bool) : gr_Z (gr_k true b2 false b4 b5 true false true true true true true false true true true) = gr_T := by kernel_rfl
theorem gr_114 (b2 b4 b5 b15 b16 : Bool) : gr_Z (gr_k true b2 false b4 b5 true false true true true false true false true b15 b16) = gr_T := by kernel_rfl
theorem gr_115 (b2 b4 b5 b10 : Bool) : gr_Z (gr_k true b2 false b4 b5 true false true true b10 true true false false true true) = gr_T := by kernel_rfl
theorem gr_116 (b2 b4 b5 b10 b15 b16 : Bool) : gr_Z (gr_k true b2 false b4 b5 true false true true b10 false true false false b15 b16) = gr_T := by kernel_rfl
theorem gr_117 (b2 b4 b5 b13 : Bool) : gr_Z (gr_k true b2 false b4 b5 true false true true true true false b13 true true true) = gr_T := by kernel_rfl
theorem gr_118 (b2 b4 b5 b13 b15 b16 : Bool) : gr_Z (gr_k true b2 false b4 b5 true false true true true false false b13 true b15 b16) = gr_T := by kernel_rfl
theorem gr_119 (b2 b4 b5 b10 b13 : Bool) : gr_Z (gr_k true b2 false b4 b5 true false true true b10 true false b13 false true true) = gr_T := by kernel_rfl
theorem gr_120 (b2 b4 b5 b10 b13 b15 b16 : Bool) : gr_Z (gr_k true b2 false b4 b5 true false true true b10 false false b13 false b15 b16) = gr_T := by kernel_rfl
theorem gr_121 (b2 b4 b5 b12 b13 : Bool) : gr_Z (gr_k true b2 false b4 b5 true false true false true true b12 b13 true true true) = gr_T := by kernel_rfl
theorem gr_122 (b2 b4 b5 b12 b13 b15 b16 : Bool) : gr_Z (gr_k true b2 false b4 b5 true false true false true false b12 b13 true b15 b16) = gr_T := by kernel_rfl
theorem gr_123 (b2 b4 b5 b10 b12 b13 : Bool) : gr_Z (gr_k true b2 false b4 b5 true false true false b10 true b12 b13 false true true) = gr_T := by kernel_rfl
theorem gr_124 (b2 b4 b5 b10 b12 b13 b15 b16 : Bool) : gr_Z (gr_k true b2 false b4 b5 true false true false b10 false b12 b13 false b15 b16) = gr_T := by kernel_rfl
theorem gr_125 (b2 b4 b5 : Bool) : gr_Z (gr_k true b2 false b4 b5 true false false true true true true false true true true) = gr_T := by kernel_rfl
theorem gr_126 (b2 b4 b5 b15 b16 : Bool) : gr_Z (gr_k true b2 false b4 b5 true false false true true false true false true b15 b16) = gr_T := by kernel_rfl
theorem gr_127 (b2 b4 b5 b10 : Bool) : gr_Z (gr_k true b2 false b4 b5 true false false true b10 true true false false true true) = gr_T := by kernel_rfl
theorem gr_128 (b2 b4 b5 b10 b15 b16 : Bool) : gr_Z (gr_k true b2 false b4 b5 true false false true b10 false true false false b15 b16) = gr_T := by kernel_rfl
theorem gr_129 (b2 b4 b5 b13 : Bool) : gr_Z (gr_k true b2 false b4 b5 true false false true true true false b13 true true true) = gr_T := by kernel_rfl
theorem gr_130 (b2 b4 b5 b13 b15 b16 : Bool) : gr_Z (gr_k true b2 false b4 b5 true false false true true false false b13 true b15 b16) = gr_T := by kernel_rfl
theorem gr_131 (b2 b4 b5 b10 b13 : Bool) : gr_Z (gr_k true b2 false b4 b5 true false false true b10 true false b13 false true true) = gr_T := by kernel_rfl
theorem gr_132 (b2 b4 b5 b10 b13 b15 b16 : Bool) : gr_Z (gr_k true b2 false b4 b5 true false false true b10 false false b13 false b15 b16) = gr_T := by kernel_rfl
theorem gr_133 (b2 b4 b5 b12 b13 : Bool) : gr_Z (gr_k true b2 false b4 b5 true false false false true true b12 b13 true true true) = gr_T := by kernel_rfl
theorem gr_134 (b2 b4 b5 b12 b13 b15 b16 : Bool) : gr_Z (gr_k true b2 false b4 b5 true false false false true false b12 b13 true b15 b16) = gr_T := by kernel_rfl
theorem gr_135 (b2 b4 b5 b10 b12 b13 : Bool) : gr_Z (gr_k true b2 false b4 b5 true false false false b10 true b12 b13 false true true) = gr_T := by kernel_rfl
theorem gr_136 (b2 b4 b5 b10 b12 b13 b15 b16 : Bool) : gr_Z (gr_k true b2 false b4 b5 true false false false b10 false b12 b13 false b15 b16) = gr_T := by kernel_rfl
theorem gr_137 (b2 b4 : Bool) : gr_Z (gr_k false b2 false b4 true true true true true true true true false true true true) = gr_T := by kernel_rfl
theorem gr_138 (b2 b4 b15 b16 : Bool) : gr_Z (gr_k false b2 false b4 true true true true true true false true false true b15 b16) = gr_T := by kernel_rfl
theorem gr_139 (b2 b4 b10 : Bool) : gr_Z (gr_k false b2 false b4 true true true true true b10 true true false false true true) = gr_T := by kernel_rfl
theorem gr_140 (b2 b4 b10 b15 b16 : Bool) : gr_Z (gr_k false b2 false b4 true true true true true b10 false true false false b15 b16) = gr_T := by kernel_rfl
theorem gr_141 (b2 b4 b13 : Bool) : gr_Z (gr_k false b2 false b4 true true true true true true true false b13 true true true) = gr_T := by kernel_rfl
theorem gr_142 (b2 b4 b13 b15 b16 : Bool) : gr_Z (gr_k false b2 false b4 true true true true true true false false b13 true b15 b16) = gr_T := by kernel_rfl
theorem gr_143 (b2 b4 b10 b13 : Bool) : gr_Z (gr_k false b2 false b4 true true true true true b10 true false b13 false true true) = gr_T := by kernel_rfl
theorem gr_144 (b2 b4 b10 b13 b15 b16 : Bool) : gr_Z (gr_k false b2 false b4 true true true true true b10 false false b13 false b15 b16) = gr_T := by kernel_rfl
theorem gr_145 (b2 b4 b12 b13 : Bool) : gr_Z (gr_k false b2 false b4 true true true true false true true b12 b13 true true true) = gr_T := by kernel_rfl
theorem gr_146 (b2 b4 b12 b13 b15 b16 : Bool) : gr_Z (gr_k false b2 false b4 true true true true false true false b12 b13 true b15 b16) = gr_T := by kernel_rfl
theorem gr_147 (b2 b4 b10 b12 b13 : Bool) : gr_Z (gr_k false b2 false b4 true true true true false b10 true b12 b13 false true true) = gr_T := by kernel_rfl
theorem gr_148 (b2 b4 b10 b12 b13 b15 b16 : Bool) : gr_Z (gr_k false b2 false b4 true true true true false b10 false b12 b13 false b15 b16) = gr_T := by kernel_rfl
theorem gr_149 (b2 : Bool) : gr_Z (gr_k false b2 true true true true true false true true true true true true true true) = gr_T := by kernel_rfl
theorem gr_150 (b2 b15 b16 : Bool) : gr_Z (gr_k false b2 true true true true true false true true false true true true b15 b16) = gr_T := by kernel_rfl
theorem gr_151 (b2 b10 : Bool) : gr_Z (gr_k false b2 true true true true true false true b10 true true true false true true) = gr_T := by kernel_rfl
theorem gr_152 (b2 b10 b15 b16 : Bool) : gr_Z (gr_k false b2 true true true true true false true b10 false true true false b15 b16) = gr_T := by kernel_rfl
theorem gr_153 (b2 : Bool) : gr_Z (gr_k false b2 true false true true true false true true true true false true true true) = gr_T := by kernel_rfl
theorem gr_154 (b2 b15 b16 : Bool) : gr_Z (gr_k false b2 true false true true true false true true false true false true b15 b16) = gr_T := by kernel_rfl
theorem gr_155 (b2 b10 : Bool) : gr_Z (gr_k false b2 true false true true true false true b10 true true false false true true) = gr_T := by kernel_rfl
theorem gr_156 (b2 b10 b15 b16 : Bool) : gr_Z (gr_k false b2 true false true true true false true b10 false true false false b15 b16) = gr_T := by kernel_rfl
theorem gr_157 (b2 b13 : Bool) : gr_Z (gr_k false b2 true false true true true false true true true false b13 true true true) = gr_T := by kernel_rfl
theorem gr_158 (b2 b13 b15 b16 : Bool) : gr_Z (gr_k false b2 true false true true true false true true false false b13 true b15 b16) = gr_T := by kernel_rfl
theorem gr_159 (b2 b10 b13 : Bool) : gr_Z (gr_k false b2 true false true true true false true b10 true false b13 false true true) = gr_T := by kernel_rfl
theorem gr_160 (b2 b10 b13 b15 b16 : Bool) : gr_Z (gr_k false b2 true false true true true false true b10 false false b13 false b15 b16) = gr_T := by kernel_rfl
theorem gr_161 (b2 b4 : Bool) : gr_Z (gr_k false b2 false b4 true true true false true true true true false true true true) = gr_T := by kernel_rfl
theorem gr_162 (b2 b4 b15 b16 : Bool) : gr_Z (gr_k false b2 false b4 true true true false true true false true false true b15 b16) = gr_T := by kernel_rfl
theorem gr_163 (b2 b4 b10 : Bool) : gr_Z (gr_k false b2 false b4 true true true false true b10 true true false false true true) = gr_T := by kernel_rfl
theorem gr_164 (b2 b4 b10 b15 b16 : Bool) : gr_Z (gr_k false b2 false b4 true true true false true b10 false true false false b15 b16) = gr_T := by kernel_rfl
theorem gr_165 (b2 b4 b13 : Bool) : gr_Z (gr_k false b2 false b4 true true true false true true true false b13 true true true) = gr_T := by kernel_rfl
theorem gr_166 (b2 b4 b13 b15 b16 : Bool) : gr_Z (gr_k false b2 false b4 true true true false true true false false b13 true b15 b16) = gr_T := by kernel_rfl
theorem gr_167 (b2 b4 b10 b13 : Bool) : gr_Z (gr_k false b2 false b4 true true true false true b10 true false b13 false true true) = gr_T := by kernel_rfl
theorem gr_168 (b2 b4 b10 b13 b15 b16 : Bool) : gr_Z (gr_k false b2 false b4 true true true false true b10 false false b13 false b15 b16) = gr_T := by kernel_rfl
theorem gr_169 (b2 b3 b4 b12 b13 : Bool) : gr_Z (gr_k false b2 b3 b4 true true true false false true true b12 b13 true true true) = gr_T := by kernel_rfl
theorem gr_170 (b2 b3 b4 b12 b13 b15 b16 : Bool) : gr_Z (gr_k false b2 b3 b4 true true true false false true false b12 b13 true b15 b16) = gr_T := by kernel_rfl
theorem gr_171 (b2 b3 b4 b10 b12 b13 : Bool) : gr_Z (gr_k false b2 b3 b4 true true true false false b10 true b12 b13 false true true) = gr_T := by kernel_rfl
theorem gr_172 (b2 b3 b4 b10 b12 b13 b15 b16 : Bool) : gr_Z (gr_k false b2 b3 b4 true true true false false b10 false b12 b13 false b15 b16) = gr_T := by kernel_rfl
theorem gr_173 (b2 : Bool) : gr_Z (gr_k false b2 true true false true true true true true true true true true true true) = gr_T := by kernel_rfl
theorem gr_174 (b2 b15 b16 : Bool) : gr_Z (gr_k false b2 true true false true true true true true false true true true b15 b16) = gr_T := by kernel_rfl
theorem gr_175 (b2 b10 : Bool) : gr_Z (gr_k false b2 true true false true true true true b10 true true true false true true) = gr_T := by kernel_rfl
theorem gr_176 (b2 b10 b15 b16 : Bool) : gr_Z (gr_k false b2 true true false true true true true b10 false true true false b15 b16) = gr_T := by kernel_rfl
theorem gr_177 (b2 : Bool) : gr_Z (gr_k false b2 true false false true true true true true true true false true true true) = gr_T := by kernel_rfl
theorem gr_178 (b2 b15 b16 : Bool) : gr_Z (gr_k false b2 true false false true true true true true false true false true b15 b16) = gr_T := by kernel_rfl
theorem gr_179 (b2 b10 : Bool) : gr_Z (gr_k false b2 true false false true true true true b10 true true false false true true) = gr_T := by kernel_rfl
theorem gr_180 (b2 b10 b15 b16 : Bool) : gr_Z (gr_k false b2 true false false true true true true b10 false true false false b15 b16) = gr_T := by kernel_rfl
theorem gr_181 (b2 b13 : Bool) : gr_Z (gr_k false b2 true false false true true true true true true false b13 true true true) = gr_T := by kernel_rfl
theorem gr_182 (b2 b13 b15 b16 : Bool) : gr_Z (gr_k false b2 true false false true true true true true false false b13 true b15 b16) = gr_T := by kernel_rfl
theorem gr_183 (b2 b10 b13 : Bool) : gr_Z (gr_k false b2 true false false true true true true b10 true false b13 false true true) = gr_T := by kernel_rfl
theorem gr_184 (b2 b10 b13 b15 b16 : Bool) : gr_Z (gr_k false b2 true false false true true true true b10 false false b13 false b15 b16) = gr_T := by kernel_rfl
theorem gr_185 (b2 b4 b12 b13 : Bool) : gr_Z (gr_k false b2 true b4 false true true true false true true b12 b13 true true true) = gr_T := by kernel_rfl
theorem gr_186 (b2 b4 b12 b13 b15 b16 : Bool) : gr_Z (gr_k false b2 true b4 false true true true false true false b12 b13 true b15 b16) = gr_T := by kernel_rfl
theorem gr_187 (b2 b4 b10 b12 b13 : Bool) : gr_Z (gr_k false b2 true b4 false true true true false b10 true b12 b13 false true true) = gr_T := by kernel_rfl
theorem gr_188 (b2 b4 b10 b12 b13 b15 b16 : Bool) : gr_Z (gr_k false b2 true b4 false true true true false b10 false b12 b13 false b15 b16) = gr_T := by kernel_rfl
theorem gr_189 (b2 b4 : Bool) : gr_Z (gr_k false b2 false b4 false true true true true true true true false true true true) = gr_T := by kernel_rfl
theorem gr_190 (b2 b4 b15 b16 : Bool) : gr_Z (gr_k false b2 false b4 false true true true true true false true false true b15 b16) = gr_T := by kernel_rfl
theorem gr_191 (b2 b4 b10 : Bool) : gr_Z (gr_k false b2 false b4 false true true true true b10 true true false false true true) = gr_T := by kernel_rfl
theorem gr_192 (b2 b4 b10 b15 b16 : Bool) : gr_Z (gr_k false b2 false b4 false true true true true b10 false true false false b15 b16) = gr_T := by kernel_rfl
theorem gr_193 (b2 b4 b13 : Bool) : gr_Z (gr_k false b2 false b4 false true true true true true true false b13 true true true) = gr_T := by kernel_rfl
theorem gr_194 (b2 b4 b13 b15 b16 : Bool) : gr_Z (gr_k false b2 false b4 false true true true true true false false b13 true b15 b16) = gr_T := by kernel_rfl
theorem gr_195 (b2 b4 b10 b13 : Bool) : gr_Z (gr_k false b2 false b4 false true true true true b10 true false b13 false true true) = gr_T := by kernel_rfl
theorem gr_196 (b2 b4 b10 b13 b15 b16 : Bool) : gr_Z (gr_k false b2 false b4 false true true true true b10 false false b13 false b15 b16) = gr_T := by kernel_rfl
theorem gr_197 (b2 b4 b12 b13 : Bool) : gr_Z (gr_k false b2 false b4 false true true true false true true b12 b13 true true true) = gr_T := by kernel_rfl
theorem gr_198 (b2 b4 b12 b13 b15 b16 : Bool) : gr_Z (gr_k false b2 false b4 false true true true false true false b12 b13 true b15 b16) = gr_T := by kernel_rfl
theorem gr_199 (b2 b4 b10 b12 b13 : Bool) : gr_Z (gr_k false b2 false b4 false true true true false b10 true b12 b13 false true true) = gr_T := by kernel_rfl
theorem gr_200 (b2 b4 b10 b12 b13 b15 b16 : Bool) : gr_Z (gr_k false b2 false b4 false true true true false b10 false b12 b13 false b15 b16) = gr_T := by kernel_rfl
theorem gr_201 (b2 : Bool) : gr_Z (gr_k false b2 true true false true true false true true true true true true true true) = gr_T := by kernel_rfl
theorem gr_202 (b2 b15 b16 : Bool) : gr_Z (gr_k false b2 true true false true true false true true false true true true b15 b16) = gr_T := by kernel_rfl
theorem gr_203 (b2 b10 : Bool) : gr_Z (gr_k false b2 true true false true true false true b10 true true true false true true) = gr_T := by kernel_rfl
theorem gr_204 (b2 b10 b15 b16 : Bool) : gr_Z (gr_k false b2 true true false true true false true b10 false true true false b15 b16) = gr_T := by kernel_rfl
theorem gr_205 (b2 : Bool) : gr_Z (gr_k false b2 true false false true true false true true true true false true true true) = gr_T := by kernel_rfl
theorem gr_206 (b2 b15 b16 : Bool) : gr_Z (gr_k false b2 true false false true true false true true false true false true b15 b16) = gr_T := by kernel_rfl
theorem gr_207 (b2 b10 : Bool) : gr_Z (gr_k false b2 true false false true true false true b10 true true false false true true) = gr_T := by kernel_rfl
theorem gr_208 (b2 b10 b15 b16 : Bool) : gr_Z (gr_k false b2 true false false true true false true b10 false true false false b15 b16) = gr_T := by kernel_rfl
theorem gr_209 (b2 b13 : Bool) : gr_Z (gr_k false b2 true false false true true false true true true false b13 true true true) = gr_T := by kernel_rfl
theorem gr_210 (b2 b13 b15 b16 : Bool) : gr_Z (gr_k false b2 true false false true true false true true false false b13 true b15 b16) = gr_T := by kernel_rfl
theorem gr_211 (b2 b10 b13 : Bool) : gr_Z (gr_k false b2 true false false true true false true b10 true false b13 false true true) = gr_T := by kernel_rfl
theorem gr_212 (b2 b10 b13 b15 b16 : Bool) : gr_Z (gr_k false b2 true false false true true false true b10 false false b13 false b15 b16) = gr_T := by kernel_rfl
theorem gr_213 (b2 b4 : Bool) : gr_Z (gr_k false b2 false b4 false true true false true true true true false true true true) = gr_T := by kernel_rfl
theorem gr_214 (b2 b4 b15 b16 : Bool) : gr_Z (gr_k false b2 false b4 false true true false true true false true false true b15 b16) = gr_T := by kernel_rfl
theorem gr_215 (b2 b4 b10 : Bool) : gr_Z (gr_k false b2 false b4 false true true false true b10 true true false false true true) = gr_T := by kernel_rfl
theorem gr_216 (b2 b4 b10 b15 b16 : Bool) : gr_Z (gr_k false b2 false b4 false true true false true b10 false true false false b15 b16) = gr_T := by kernel_rfl
theorem gr_217 (b2 b4 b13 : Bool) : gr_Z (gr_k false b2 false b4 false true true false true true true false b13 true true true) = gr_T := by kernel_rfl
theorem gr_218 (b2 b4 b13 b15 b16 : Bool) : gr_Z (gr_k false b2 false b4 false true true false true true false false b13 true b15 b16) = gr_T := by kernel_rfl
theorem gr_219 (b2 b4 b10 b13 : Bool) : gr_Z (gr_k false b2 false b4 false true true false true b10 true false b13 false true true) = gr_T := by kernel_rfl
theorem gr_220 (b2 b4 b10 b13 b15 b16 : Bool) : gr_Z (gr_k false b2 false b4 false true true false true b10 false false b13 false b15 b16) = gr_T := by kernel_rfl
theorem gr_221 (b2 b3 b4 b12 b13 : Bool) : gr_Z (gr_k false b2 b3 b4 false true true false false true true b12 b13 true true true) = gr_T := by kernel_rfl
theorem gr_222 (b2 b3 b4 b12 b13 b15 b16 : Bool) : gr_Z (gr_k false b2 b3 b4 false true true false false true false b12 b13 true b15 b16) = gr_T := by kernel_rfl
theorem gr_223 (b2 b3 b4 b10 b12 b13 : Bool) : gr_Z (gr_k false b2 b3 b4 false true true false false b10 true b12 b13 false true true) = gr_T := by kernel_rfl
theorem gr_224 (b2 b3 b4 b10 b12 b13 b15 b16 : Bool) : gr_Z (gr_k false b2 b3 b4 false true true false false b10 false b12 b13 false b15 b16) = gr_T := by kernel_rfl
theorem gr_225 (b2 : Bool) : gr_Z (gr_k false b2 true true false true false true true true true true true true true true) = gr_T := by kernel_rfl
theorem gr_226 (b2 b15 b16 : Bool) : gr_Z (gr_k false b2 true true false true false true true true false true true true b15 b16) = gr_T := by kernel_rfl
theorem gr_227 (b2 b10 : Bool) : gr_Z (gr_k false b2 true true false true false true true b10 true true true false true true) = gr_T := by kernel_rfl
theorem gr_228 (b2 b10 b15 b16 : Bool) : gr_Z (gr_k false b2 true true false true false true true b10 false true true false b15 b16) = gr_T := by kernel_rfl
theorem gr_229 (b2 : Bool) : gr_Z (gr_k false b2 true false false true false true true true true true false true true true) = gr_T := by kernel_rfl
theorem gr_230 (b2 b15 b16 : Bool) : gr_Z (gr_k false b2 true false false true false true true true false true false true b15 b16) = gr_T := by kernel_rfl
theorem gr_231 (b2 b10 : Bool) : gr_Z (gr_k false b2 true false false true false true true b10 true true false false true true) = gr_T := by kernel_rfl
theorem gr_232 (b2 b10 b15 b16 : Bool) : gr_Z (gr_k false b2 true false false true false true true b10 false true false false b15 b16) = gr_T := by kernel_rfl
theorem gr_233 (b2 b13 : Bool) : gr_Z (gr_k false b2 true false false true false true true true true false b13 true true true) = gr_T := by kernel_rfl
theorem gr_234 (b2 b13 b15 b16 : Bool) : gr_Z (gr_k false b2 true false false true false true true true false false b13 true b15 b16) = gr_T := by kernel_rfl
theorem gr_235 (b2 b10 b13 : Bool) : gr_Z (gr_k false b2 true false false true false true true b10 true false b13 false true true) = gr_T := by kernel_rfl
theorem gr_236 (b2 b10 b13 b15 b16 : Bool) : gr_Z (gr_k false b2 true false false true false true true b10 false false b13 false b15 b16) = gr_T := by kernel_rfl
theorem gr_237 (b2 b4 b12 b13 : Bool) : gr_Z (gr_k false b2 true b4 false true false true false true true b12 b13 true true true) = gr_T := by kernel_rfl
theorem gr_238 (b2 b4 b12 b13 b15 b16 : Bool) : gr_Z (gr_k false b2 true b4 false true false true false true false b12 b13 true b15 b16) = gr_T := by kernel_rfl
theorem gr_239 (b2 b4 b10 b12 b13 : Bool) : gr_Z (gr_k false b2 true b4 false true false true false b10 true b12 b13 false true true) = gr_T := by kernel_rfl
theorem gr_240 (b2 b4 b10 b12 b13 b15 b16 : Bool) : gr_Z (gr_k false b2 true b4 false true false true false b10 false b12 b13 false b15 b16) = gr_T := by kernel_rfl
theorem gr_241 (b2 b4 b5 : Bool) : gr_Z (gr_k false b2 false b4 b5 true false true true true true true false true true true) = gr_T := by kernel_rfl
theorem gr_242 (b2 b4 b5 b15 b16 : Bool) : gr_Z (gr_k false b2 false b4 b5 true false true true true false true false true b15 b16) = gr_T := by kernel_rfl
theorem gr_243 (b2 b4 b5 b10 : Bool) : gr_Z (gr_k false b2 false b4 b5 true false true true b10 true true false false true true) = gr_T := by kernel_rfl
theorem gr_244 (b2 b4 b5 b10 b15 b16 : Bool) : gr_Z (gr_k false b2 false b4 b5 true false true true b10 false true false false b15 b16) = gr_T := by kernel_rfl
theorem gr_245 (b2 b4 b5 b13 : Bool) : gr_Z (gr_k false b2 false b4 b5 true false true true true true false b13 true true true) = gr_T := by kernel_rfl
theorem gr_246 (b2 b4 b5 b13 b15 b16 : Bool) : gr_Z (gr_k false b2 false b4 b5 true false true true true false false b13 true b15 b16) = gr_T := by kernel_rfl
theorem gr_247 (b2 b4 b5 b10 b13 : Bool) : gr_Z (gr_k false b2 false b4 b5 true false true true b10 true false b13 false true true) = gr_T := by kernel_rfl
theorem gr_248 (b2 b4 b5 b10 b13 b15 b16 : Bool) : gr_Z (gr_k false b2 false b4 b5 true false true true b10 false false b13 false b15 b16) = gr_T := by kernel_rfl
theorem gr_249 (b2 b4 b5 b12 b13 : Bool) : gr_Z (gr_k false b2 false b4 b5 true false true false true true b12 b13 true true true) = gr_T := by kernel_rfl
theorem gr_250 (b2 b4 b5 b12 b13 b15 b16 : Bool) : gr_Z (gr_k false b2 false b4 b5 true false true false true false b12 b13 true b15 b16) = gr_T := by kernel_rfl
theorem gr_251 (b2 b4 b5 b10 b12 b13 : Bool) : gr_Z (gr_k false b2 false b4 b5 true false true false b10 true b12 b13 false true true) = gr_T := by kernel_rfl
theorem gr_252 (b2 b4 b5 b10 b12 b13 b15 b16 : Bool) : gr_Z (gr_k false b2 false b4 b5 true false true false b10 false b12 b13 false b15 b16) = gr_T := by kernel_rfl
theorem gr_253 (b2 b5 : Bool) : gr_Z (gr_k false b2 true true b5 true false false true true true true true true true true) = gr_T := by kernel_rfl
theorem gr_254 (b2 b5 b15 b16 : Bool) : gr_Z (gr_k false b2 true true b5 true false false true true false true true true b15 b16) = gr_T := by kernel_rfl
theorem gr_255 (b2 b5 b10 : Bool) : gr_Z (gr_k false b2 true true b5 true false false true b10 true true true false true true) = gr_T := by kernel_rfl
theorem gr_256 (b2 b5 b10 b15 b16 : Bool) : gr_Z (gr_k false b2 true true b5 true false false true b10 false true true false b15 b16) = gr_T := by kernel_rfl
theorem gr_257 (b2 b5 : Bool) : gr_Z (gr_k false b2 true false b5 true false false true true true true false true true true) = gr_T := by kernel_rfl
theorem gr_258 (b2 b5 b15 b16 : Bool) : gr_Z (gr_k false b2 true false b5 true false false true true false true false true b15 b16) = gr_T := by kernel_rfl
theorem gr_259 (b2 b5 b10 : Bool) : gr_Z (gr_k false b2 true false b5 true false false true b10 true true false false true true) = gr_T := by kernel_rfl
theorem gr_260 (b2 b5 b10 b15 b16 : Bool) : gr_Z (gr_k false b2 true false b5 true false false true b10 false true false false b15 b16) = gr_T := by kernel_rfl
theorem gr_261 (b2 b5 b13 : Bool) : gr_Z (gr_k false b2 true false b5 true false false true true true false b13 true true true) = gr_T := by kernel_rfl
theorem gr_262 (b2 b5 b13 b15 b16 : Bool) : gr_Z (gr_k false b2 true false b5 true false false true true false false b13 true b15 b16) = gr_T := by kernel_rfl
theorem gr_263 (b2 b5 b10 b13 : Bool) : gr_Z (gr_k false b2 true false b5 true false false true b10 true false b13 false true true) = gr_T := by kernel_rfl
theorem gr_264 (b2 b5 b10 b13 b15 b16 : Bool) : gr_Z (gr_k false b2 true false b5 true false false true b10 false false b13 false b15 b16) = gr_T := by kernel_rfl
theorem gr_265 (b2 b4 b5 : Bool) : gr_Z (gr_k false b2 false b4 b5 true false false true true true true false true true true) = gr_T := by kernel_rfl
theorem gr_266 (b2 b4 b5 b15 b16 : Bool) : gr_Z (gr_k false b2 false b4 b5 true false false true true false true false true b15 b16) = gr_T := by kernel_rfl
theorem gr_267 (b2 b4 b5 b10 : Bool) : gr_Z (gr_k false b2 false b4 b5 true false false true b10 true true false false true true) = gr_T := by kernel_rfl
theorem gr_268 (b2 b4 b5 b10 b15 b16 : Bool) : gr_Z (gr_k false b2 false b4 b5 true false false true b10 false true false false b15 b16) = gr_T := by kernel_rfl
theorem gr_269 (b2 b4 b5 b13 : Bool) : gr_Z (gr_k false b2 false b4 b5 true false false true true true false b13 true true true) = gr_T := by kernel_rfl
theorem gr_270 (b2 b4 b5 b13 b15 b16 : Bool) : gr_Z (gr_k false b2 false b4 b5 true false false true true false false b13 true b15 b16) = gr_T := by kernel_rfl
theorem gr_271 (b2 b4 b5 b10 b13 : Bool) : gr_Z (gr_k false b2 false b4 b5 true false false true b10 true false b13 false true true) = gr_T := by kernel_rfl
theorem gr_272 (b2 b4 b5 b10 b13 b15 b16 : Bool) : gr_Z (gr_k false b2 false b4 b5 true false false true b10 false false b13 false b15 b16) = gr_T := by kernel_rfl
theorem gr_273 (b2 b3 b4 b5 b12 b13 : Bool) : gr_Z (gr_k false b2 b3 b4 b5 true false false false true true b12 b13 true true true) = gr_T := by kernel_rfl
theorem gr_274 (b2 b3 b4 b5 b12 b13 b15 b16 : Bool) : gr_Z (gr_k false b2 b3 b4 b5 true false false false true false b12 b13 true b15 b16) = gr_T := by kernel_rfl
theorem gr_275 (b2 b3 b4 b5 b10 b12 b13 : Bool) : gr_Z (gr_k false b2 b3 b4 b5 true false false false b10 true b12 b13 false true true) = gr_T := by kernel_rfl
theorem gr_276 (b2 b3 b4 b5 b10 b12 b13 b15 b16 : Bool) : gr_Z (gr_k false b2 b3 b4 b5 true false false false b10 false b12 b13 false b15 b16) = gr_T := by kernel_rfl
theorem gr_277 (b4 : Bool) : gr_Z (gr_k true false false b4 true false true true true true true true false true true true) = gr_T := by kernel_rfl
theorem gr_278 (b4 b15 b16 : Bool) : gr_Z (gr_k true false false b4 true false true true true true false true false true b15 b16) = gr_T := by kernel_rfl
theorem gr_279 (b4 b10 : Bool) : gr_Z (gr_k true false false b4 true false true true true b10 true true false false true true) = gr_T := by kernel_rfl
theorem gr_280 (b4 b10 b15 b16 : Bool) : gr_Z (gr_k true false false b4 true false true true true b10 false true false false b15 b16) = gr_T := by kernel_rfl
theorem gr_281 (b4 b13 : Bool) : gr_Z (gr_k true false false b4 true false true true true true true false b13 true true true) = gr_T := by kernel_rfl
theorem gr_282 (b4 b13 b15 b16 : Bool) : gr_Z (gr_k true false false b4 true false true true true true false false b13 true b15 b16) = gr_T := by kernel_rfl
theorem gr_283 (b4 b10 b13 : Bool) : gr_Z (gr_k true false false b4 true false true true true b10 true false b13 false true true) = gr_T := by kernel_rfl
theorem gr_284 (b4 b10 b13 b15 b16 : Bool) : gr_Z (gr_k true false false b4 true false true true true b10 false false b13 false b15 b16) = gr_T := by kernel_rfl
theorem gr_285 (b4 b12 b13 : Bool) : gr_Z (gr_k true false false b4 true false true true false true true b12 b13 true true true) = gr_T := by kernel_rfl
theorem gr_286 (b4 b12 b13 b15 b16 : Bool) : gr_Z (gr_k true false false b4 true false true true false true false b12 b13 true b15 b16) = gr_T := by kernel_rfl
theorem gr_287 (b4 b10 b12 b13 : Bool) : gr_Z (gr_k true false false b4 true false true true false b10 true b12 b13 false true true) = gr_T := by kernel_rfl
theorem gr_288 (b4 b10 b12 b13 b15 b16 : Bool) : gr_Z (gr_k true false false b4 true false true true false b10 false b12 b13 false b15 b16) = gr_T := by kernel_rfl
theorem gr_289 : gr_Z (gr_k true false true true true false true false true true true true true true true true) = gr_T := by kernel_rfl
theorem gr_290 (b15 b16 : Bool) : gr_Z (gr_k true false true true true false true false true true false true true true b15 b16) = gr_T := by kernel_rfl
theorem gr_291 (b10 : Bool) : gr_Z (gr_k true false true true true false true false true b10 true true true false true true) = gr_T := by kernel_rfl
theorem gr_292 (b10 b15 b16 : Bool) : gr_Z (gr_k true false true true true false true false true b10 false true true false b15 b16) = gr_T := by kernel_rfl
theorem gr_293 : gr_Z (gr_k true false true false true false true false true true true true false true true true) = gr_T := by kernel_rfl
theorem gr_294 (b15 b16 : Bool) : gr_Z (gr_k true false true false true false true false true true false true false true b15 b16) = gr_T := by kernel_rfl
theorem gr_295 (b10 : Bool) : gr_Z (gr_k true false true false true false true false true b10 true true false false true true) = gr_T := by kernel_rfl
theorem gr_296 (b10 b15 b16 : Bool) : gr_Z (gr_k true false true false true false true false true b10 false true false false b15 b16) = gr_T := by kernel_rfl
theorem gr_297 (b13 : Bool) : gr_Z (gr_k true false true false true false true false true true true false b13 true true true) = gr_T := by kernel_rfl
theorem gr_298 (b13 b15 b16 : Bool) : gr_Z (gr_k true false true false true false true false true true false false b13 true b15 b16) = gr_T := by kernel_rfl
theorem gr_299 (b10 b13 : Bool) : gr_Z (gr_k true false true false true false true false true b10 true false b13 false true true) = gr_T := by kernel_rfl
theorem gr_300 (b10 b13 b15 b16 : Bool) : gr_Z (gr_k true false true false true false true false true b10 false false b13 false b15 b16) = gr_T := by kernel_rfl
theorem gr_301 (b4 : Bool) : gr_Z (gr_k true false false b4 true false true false true true true true false true true true) = gr_T := by kernel_rfl
theorem gr_302 (b4 b15 b16 : Bool) : gr_Z (gr_k true false false b4 true false true false true true false true false true b15 b16) = gr_T := by kernel_rfl
theorem gr_303 (b4 b10 : Bool) : gr_Z (gr_k true false false b4 true false true false true b10 true true false false true true) = gr_T := by kernel_rfl
theorem gr_304 (b4 b10 b15 b16 : Bool) : gr_Z (gr_k true false false b4 true false true false true b10 false true false false b15 b16) = gr_T := by kernel_rfl
theorem gr_305 (b4 b13 : Bool) : gr_Z (gr_k true false false b4 true false true false true true true false b13 true true true) = gr_T := by kernel_rfl
theorem gr_306 (b4 b13 b15 b16 : Bool) : gr_Z (gr_k true false false b4 true false true false true true false false b13 true b15 b16) = gr_T := by kernel_rfl
theorem gr_307 (b4 b10 b13 : Bool) : gr_Z (gr_k true false false b4 true false true false true b10 true false b13 false true true) = gr_T := by kernel_rfl
theorem gr_308 (b4 b10 b13 b15 b16 : Bool) : gr_Z (gr_k true false false b4 true false true false true b10 false false b13 false b15 b16) = gr_T := by kernel_rfl
theorem gr_309 (b3 b4 b12 b13 : Bool) : gr_Z (gr_k true false b3 b4 true false true false false true true b12 b13 true true true) = gr_T := by kernel_rfl
theorem gr_310 (b3 b4 b12 b13 b15 b16 : Bool) : gr_Z (gr_k true false b3 b4 true false true false false true false b12 b13 true b15 b16) = gr_T := by kernel_rfl
theorem gr_311 (b3 b4 b10 b12 b13 : Bool) : gr_Z (gr_k true false b3 b4 true false true false false b10 true b12 b13 false true true) = gr_T := by kernel_rfl
theorem gr_312 (b3 b4 b10 b12 b13 b15 b16 : Bool) : gr_Z (gr_k true false b3 b4 true false true false false b10 false b12 b13 false b15 b16) = gr_T := by kernel_rfl
theorem gr_313 (b2 b4 : Bool) : gr_Z (gr_k false b2 false b4 true false true true true true true true false true true true) = gr_T := by kernel_rfl
theorem gr_314 (b2 b4 b15 b16 : Bool) : gr_Z (gr_k false b2 false b4 true false true true true true false true false true b15 b16) = gr_T := by kernel_rfl
theorem gr_315 (b2 b4 b10 : Bool) : gr_Z (gr_k false b2 false b4 true false true true true b10 true true false false true true) = gr_T := by kernel_rfl
theorem gr_316 (b2 b4 b10 b15 b16 : Bool) : gr_Z (gr_k false b2 false b4 true false true true true b10 false true false false b15 b16) = gr_T := by kernel_rfl
theorem gr_317 (b2 b4 b13 : Bool) : gr_Z (gr_k false b2 false b4 true false true true true true true false b13 true true true) = gr_T := by kernel_rfl
theorem gr_318 (b2 b4 b13 b15 b16 : Bool) : gr_Z (gr_k false b2 false b4 true false true true true true false false b13 true b15 b16) = gr_T := by kernel_rfl
theorem gr_319 (b2 b4 b10 b13 : Bool) : gr_Z (gr_k false b2 false b4 true false true true true b10 true false b13 false true true) = gr_T := by kernel_rfl
theorem gr_320 (b2 b4 b10 b13 b15 b16 : Bool) : gr_Z (gr_k false b2 false b4 true false true true true b10 false false b13 false b15 b16) = gr_T := by kernel_rfl
theorem gr_321 (b2 b4 b12 b13 : Bool) : gr_Z (gr_k false b2 false b4 true false true true false true true b12 b13 true true true) = gr_T := by kernel_rfl
theorem gr_322 (b2 b4 b12 b13 b15 b16 : Bool) : gr_Z (gr_k false b2 false b4 true false true true false true false b12 b13 true b15 b16) = gr_T := by kernel_rfl
theorem gr_323 (b2 b4 b10 b12 b13 : Bool) : gr_Z (gr_k false b2 false b4 true false true true false b10 true b12 b13 false true true) = gr_T := by kernel_rfl
theorem gr_324 (b2 b4 b10 b12 b13 b15 b16 : Bool) : gr_Z (gr_k false b2 false b4 true false true true false b10 false b12 b13 false b15 b16) = gr_T := by kernel_rfl
theorem gr_325 (b2 : Bool) : gr_Z (gr_k false b2 true true true false true false true true true true true true true true) = gr_T := by kernel_rfl
theorem gr_326 (b2 b15 b16 : Bool) : gr_Z (gr_k false b2 true true true false true false true true false true true true b15 b16) = gr_T := by kernel_rfl
theorem gr_327 (b2 b10 : Bool) : gr_Z (gr_k false b2 true true true false true false true b10 true true true false true true) = gr_T := by kernel_rfl
theorem gr_328 (b2 b10 b15 b16 : Bool) : gr_Z (gr_k false b2 true true true false true false true b10 false true true false b15 b16) = gr_T := by kernel_rfl
theorem gr_329 (b2 : Bool) : gr_Z (gr_k false b2 true false true false true false true true true true false true true true) = gr_T := by kernel_rfl
theorem gr_330 (b2 b15 b16 : Bool) : gr_Z (gr_k false b2 true false true false true false true true false true false true b15 b16) = gr_T := by kernel_rfl
theorem gr_331 (b2 b10 : Bool) : gr_Z (gr_k false b2 true false true false true false true b10 true true false false true true) = gr_T := by kernel_rfl
theorem gr_332 (b2 b10 b15 b16 : Bool) : gr_Z (gr_k false b2 true false true false true false true b10 false true false false b15 b16) = gr_T := by kernel_rfl
theorem gr_333 (b2 b13 : Bool) : gr_Z (gr_k false b2 true false true false true false true true true false b13 true true true) = gr_T := by kernel_rfl
theorem gr_334 (b2 b13 b15 b16 : Bool) : gr_Z (gr_k false b2 true false true false true false true true false false b13 true b15 b16) = gr_T := by kernel_rfl
theorem gr_335 (b2 b10 b13 : Bool) : gr_Z (gr_k false b2 true false true false true false true b10 true false b13 false true true) = gr_T := by kernel_rfl
theorem gr_336 (b2 b10 b13 b15 b16 : Bool) : gr_Z (gr_k false b2 true false true false true false true b10 false false b13 false b15 b16) = gr_T := by kernel_rfl
theorem gr_337 (b2 b4 : Bool) : gr_Z (gr_k false b2 false b4 true false true false true true true true false true true true) = gr_T := by kernel_rfl
theorem gr_338 (b2 b4 b15 b16 : Bool) : gr_Z (gr_k false b2 false b4 true false true false true true false true false true b15 b16) = gr_T := by kernel_rfl
theorem gr_339 (b2 b4 b10 : Bool) : gr_Z (gr_k false b2 false b4 true false true false true b10 true true false false true true) = gr_T := by kernel_rfl
theorem gr_340 (b2 b4 b10 b15 b16 : Bool) : gr_Z (gr_k false b2 false b4 true false true false true b10 false true false false b15 b16) = gr_T := by kernel_rfl
theorem gr_341 (b2 b4 b13 : Bool) : gr_Z (gr_k false b2 false b4 true false true false true true true false b13 true true true) = gr_T := by kernel_rfl
theorem gr_342 (b2 b4 b13 b15 b16 : Bool) : gr_Z (gr_k false b2 false b4 true false true false true true false false b13 true b15 b16) = gr_T := by kernel_rfl
theorem gr_343 (b2 b4 b10 b13 : Bool) : gr_Z (gr_k false b2 false b4 true false true false true b10 true false b13 false true true) = gr_T := by kernel_rfl
theorem gr_344 (b2 b4 b10 b13 b15 b16 : Bool) : gr_Z (gr_k false b2 false b4 true false true false true b10 false false b13 false b15 b16) = gr_T := by kernel_rfl
theorem gr_345 (b2 b3 b4 b12 b13 : Bool) : gr_Z (gr_k false b2 b3 b4 true false true false false true true b12 b13 true true true) = gr_T := by kernel_rfl
theorem gr_346 (b2 b3 b4 b12 b13 b15 b16 : Bool) : gr_Z (gr_k false b2 b3 b4 true false true false false true false b12 b13 true b15 b16) = gr_T := by kernel_rfl
theorem gr_347 (b2 b3 b4 b10 b12 b13 : Bool) : gr_Z (gr_k false b2 b3 b4 true false true false false b10 true b12 b13 false true true) = gr_T := by kernel_rfl
theorem gr_348 (b2 b3 b4 b10 b12 b13 b15 b16 : Bool) : gr_Z (gr_k false b2 b3 b4 true false true false false b10 false b12 b13 false b15 b16) = gr_T := by kernel_rfl
theorem gr_349 (b1 b2 : Bool) : gr_Z (gr_k b1 b2 true true false false true true true true true true true true true true) = gr_T := by kernel_rfl
theorem gr_350 (b1 b2 b15 b16 : Bool) : gr_Z (gr_k b1 b2 true true false false true true true true false true true true b15 b16) = gr_T := by kernel_rfl
theorem gr_351 (b1 b2 b10 : Bool) : gr_Z (gr_k b1 b2 true true false false true true true b10 true true true false true true) = gr_T := by kernel_rfl
theorem gr_352 (b1 b2 b10 b15 b16 : Bool) : gr_Z (gr_k b1 b2 true true false false true true true b10 false true true false b15 b16) = gr_T := by kernel_rfl
theorem gr_353 (b1 b2 : Bool) : gr_Z (gr_k b1 b2 true false false false true true true true true true false true true true) = gr_T := by kernel_rfl
theorem gr_354 (b1 b2 b15 b16 : Bool) : gr_Z (gr_k b1 b2 true false false false true true true true false true false true b15 b16) = gr_T := by kernel_rfl
theorem gr_355 (b1 b2 b10 : Bool) : gr_Z (gr_k b1 b2 true false false false true true true b10 true true false false true true) = gr_T := by kernel_rfl
theorem gr_356 (b1 b2 b10 b15 b16 : Bool) : gr_Z (gr_k b1 b2 true false false false true true true b10 false true false false b15 b16) = gr_T := by kernel_rfl
theorem gr_357 (b1 b2 b13 : Bool) : gr_Z (gr_k b1 b2 true false false false true true true true true false b13 true true true) = gr_T := by kernel_rfl
theorem gr_358 (b1 b2 b13 b15 b16 : Bool) : gr_Z (gr_k b1 b2 true false false false true true true true false false b13 true b15 b16) = gr_T := by kernel_rfl
theorem gr_359 (b1 b2 b10 b13 : Bool) : gr_Z (gr_k b1 b2 true false false false true true true b10 true false b13 false true true) = gr_T := by kernel_rfl
theorem gr_360 (b1 b2 b10 b13 b15 b16 : Bool) : gr_Z (gr_k b1 b2 true false false false true true true b10 false false b13 false b15 b16) = gr_T := by kernel_rfl
theorem gr_361 (b1 b2 b4 b12 b13 : Bool) : gr_Z (gr_k b1 b2 true b4 false false true true false true true b12 b13 true true true) = gr_T := by kernel_rfl
theorem gr_362 (b1 b2 b4 b12 b13 b15 b16 : Bool) : gr_Z (gr_k b1 b2 true b4 false false true true false true false b12 b13 true b15 b16) = gr_T := by kernel_rfl
theorem gr_363 (b1 b2 b4 b10 b12 b13 : Bool) : gr_Z (gr_k b1 b2 true b4 false false true true false b10 true b12 b13 false true true) = gr_T := by kernel_rfl
theorem gr_364 (b1 b2 b4 b10 b12 b13 b15 b16 : Bool) : gr_Z (gr_k b1 b2 true b4 false false true true false b10 false b12 b13 false b15 b16) = gr_T := by kernel_rfl
theorem gr_365 (b1 b2 b4 : Bool) : gr_Z (gr_k b1 b2 false b4 false false true true true true true true false true true true) = gr_T := by kernel_rfl
theorem gr_366 (b1 b2 b4 b15 b16 : Bool) : gr_Z (gr_k b1 b2 false b4 false false true true true true false true false true b15 b16) = gr_T := by kernel_rfl
theorem gr_367 (b1 b2 b4 b10 : Bool) : gr_Z (gr_k b1 b2 false b4 false false true true true b10 true true false false true true) = gr_T := by kernel_rfl
theorem gr_368 (b1 b2 b4 b10 b15 b16 : Bool) : gr_Z (gr_k b1 b2 false b4 false false true true true b10 false true false false b15 b16) = gr_T := by kernel_rfl
theorem gr_369 (b1 b2 b4 b13 : Bool) : gr_Z (gr_k b1 b2 false b4 false false true true true true true false b13 true true true) = gr_T := by kernel_rfl
theorem gr_370 (b1 b2 b4 b13 b15 b16 : Bool) : gr_Z (gr_k b1 b2 false b4 false false true true true true false false b13 true b15 b16) = gr_T := by kernel_rfl
theorem gr_371 (b1 b2 b4 b10 b13 : Bool) : gr_Z (gr_k b1 b2 false b4 false false true true true b10 true false b13 false true true) = gr_T := by kernel_rfl
theorem gr_372 (b1 b2 b4 b10 b13 b15 b16 : Bool) : gr_Z (gr_k b1 b2 false b4 false false true true true b10 false false b13 false b15 b16) = gr_T := by kernel_rfl
theorem gr_373 (b1 b2 b4 b12 b13 : Bool) : gr_Z (gr_k b1 b2 false b4 false false true true false true true b12 b13 true true true) = gr_T := by kernel_rfl
theorem gr_374 (b1 b2 b4 b12 b13 b15 b16 : Bool) : gr_Z (gr_k b1 b2 false b4 false false true true false true false b12 b13 true b15 b16) = gr_T := by kernel_rfl
theorem gr_375 (b1 b2 b4 b10 b12 b13 : Bool) : gr_Z (gr_k b1 b2 false b4 false false true true false b10 true b12 b13 false true true) = gr_T := by kernel_rfl
theorem gr_376 (b1 b2 b4 b10 b12 b13 b15 b16 : Bool) : gr_Z (gr_k b1 b2 false b4 false false true true false b10 false b12 b13 false b15 b16) = gr_T := by kernel_rfl
theorem gr_377 (b1 b2 : Bool) : gr_Z (gr_k b1 b2 true true false false true false true true true true true true true true) = gr_T := by kernel_rfl
theorem gr_378 (b1 b2 b15 b16 : Bool) : gr_Z (gr_k b1 b2 true true false false true false true true false true true true b15 b16) = gr_T := by kernel_rfl
theorem gr_379 (b1 b2 b10 : Bool) : gr_Z (gr_k b1 b2 true true false false true false true b10 true true true false true true) = gr_T := by kernel_rfl
theorem gr_380 (b1 b2 b10 b15 b16 : Bool) : gr_Z (gr_k b1 b2 true true false false true false true b10 false true true false b15 b16) = gr_T := by kernel_rfl
theorem gr_381 (b1 b2 : Bool) : gr_Z (gr_k b1 b2 true false false false true false true true true true false true true true) = gr_T := by kernel_rfl
theorem gr_382 (b1 b2 b15 b16 : Bool) : gr_Z (gr_k b1 b2 true false false false true false true true false true false true b15 b16) = gr_T := by kernel_rfl
theorem gr_383 (b1 b2 b10 : Bool) : gr_Z (gr_k b1 b2 true false false false true false true b10 true true false false true true) = gr_T := by kernel_rfl
theorem gr_384 (b1 b2 b10 b15 b16 : Bool) : gr_Z (gr_k b1 b2 true false false false true false true b10 false true false false b15 b16) = gr_T := by kernel_rfl
theorem gr_385 (b1 b2 b13 : Bool) : gr_Z (gr_k b1 b2 true false false false true false true true true false b13 true true true) = gr_T := by kernel_rfl
theorem gr_386 (b1 b2 b13 b15 b16 : Bool) : gr_Z (gr_k b1 b2 true false false false true false true true false false b13 true b15 b16) = gr_T := by kernel_rfl
theorem gr_387 (b1 b2 b10 b13 : Bool) : gr_Z (gr_k b1 b2 true false false false true false true b10 true false b13 false true true) = gr_T := by kernel_rfl
theorem gr_388 (b1 b2 b10 b13 b15 b16 : Bool) : gr_Z (gr_k b1 b2 true false false false true false true b10 false false b13 false b15 b16) = gr_T := by kernel_rfl
theorem gr_389 (b1 b2 b4 : Bool) : gr_Z (gr_k b1 b2 false b4 false false true false true true true true false true true true) = gr_T := by kernel_rfl
theorem gr_390 (b1 b2 b4 b15 b16 : Bool) : gr_Z (gr_k b1 b2 false b4 false false true false true true false true false true b15 b16) = gr_T := by kernel_rfl
theorem gr_391 (b1 b2 b4 b10 : Bool) : gr_Z (gr_k b1 b2 false b4 false false true false true b10 true true false false true true) = gr_T := by kernel_rfl
theorem gr_392 (b1 b2 b4 b10 b15 b16 : Bool) : gr_Z (gr_k b1 b2 false b4 false false true false true b10 false true false false b15 b16) = gr_T := by kernel_rfl
theorem gr_393 (b1 b2 b4 b13 : Bool) : gr_Z (gr_k b1 b2 false b4 false false true false true true true false b13 true true true) = gr_T := by kernel_rfl
theorem gr_394 (b1 b2 b4 b13 b15 b16 : Bool) : gr_Z (gr_k b1 b2 false b4 false false true false true true false false b13 true b15 b16) = gr_T := by kernel_rfl
theorem gr_395 (b1 b2 b4 b10 b13 : Bool) : gr_Z (gr_k b1 b2 false b4 false false true false true b10 true false b13 false true true) = gr_T := by kernel_rfl
theorem gr_396 (b1 b2 b4 b10 b13 b15 b16 : Bool) : gr_Z (gr_k b1 b2 false b4 false false true false true b10 false false b13 false b15 b16) = gr_T := by kernel_rfl
theorem gr_397 (b1 b2 b3 b4 b12 b13 : Bool) : gr_Z (gr_k b1 b2 b3 b4 false false true false false true true b12 b13 true true true) = gr_T := by kernel_rfl
theorem gr_398 (b1 b2 b3 b4 b12 b13 b15 b16 : Bool) : gr_Z (gr_k b1 b2 b3 b4 false false true false false true false b12 b13 true b15 b16) = gr_T := by kernel_rfl
theorem gr_399 (b1 b2 b3 b4 b10 b12 b13 : Bool) : gr_Z (gr_k b1 b2 b3 b4 false false true false false b10 true b12 b13 false true true) = gr_T := by kernel_rfl
theorem gr_400 (b1 b2 b3 b4 b10 b12 b13 b15 b16 : Bool) : gr_Z (gr_k b1 b2 b3 b4 false false true false false b10 false b12 b13 false b15 b16) = gr_T := by kernel_rfl
theorem gr_401 (b1 b2 : Bool) : gr_Z (gr_k b1 b2 true true false false false true true true true true true true true true) = gr_T := by kernel_rfl
theorem gr_402 (b1 b2 b15 b16 : Bool) : gr_Z (gr_k b1 b2 true true false false false true true true false true true true b15 b16) = gr_T := by kernel_rfl
theorem gr_403 (b1 b2 b10 : Bool) : gr_Z (gr_k b1 b2 true true false false false true true b10 true true true false true true) = gr_T := by kernel_rfl
theorem gr_404 (b1 b2 b10 b15 b16 : Bool) : gr_Z (gr_k b1 b2 true true false false false true true b10 false true true false b15 b16) = gr_T := by kernel_rfl
theorem gr_405 (b1 b2 : Bool) : gr_Z (gr_k b1 b2 true false false false false true true true true true false true true true) = gr_T := by kernel_rfl
theorem gr_406 (b1 b2 b15 b16 : Bool) : gr_Z (gr_k b1 b2 true false false false false true true true false true false true b15 b16) = gr_T := by kernel_rfl
theorem gr_407 (b1 b2 b10 : Bool) : gr_Z (gr_k b1 b2 true false false false false true true b10 true true false false true true) = gr_T := by kernel_rfl
theorem gr_408 (b1 b2 b10 b15 b16 : Bool) : gr_Z (gr_k b1 b2 true false false false false true true b10 false true false false b15 b16) = gr_T := by kernel_rfl
theorem gr_409 (b1 b2 b13 : Bool) : gr_Z (gr_k b1 b2 true false false false false true true true true false b13 true true true) = gr_T := by kernel_rfl
theorem gr_410 (b1 b2 b13 b15 b16 : Bool) : gr_Z (gr_k b1 b2 true false false false false true true true false false b13 true b15 b16) = gr_T := by kernel_rfl
theorem gr_411 (b1 b2 b10 b13 : Bool) : gr_Z (gr_k b1 b2 true false false false false true true b10 true false b13 false true true) = gr_T := by kernel_rfl
theorem gr_412 (b1 b2 b10 b13 b15 b16 : Bool) : gr_Z (gr_k b1 b2 true false false false false true true b10 false false b13 false b15 b16) = gr_T := by kernel_rfl
theorem gr_413 (b1 b2 b4 b12 b13 : Bool) : gr_Z (gr_k b1 b2 true b4 false false false true false true true b12 b13 true true true) = gr_T := by kernel_rfl
theorem gr_414 (b1 b2 b4 b12 b13 b15 b16 : Bool) : gr_Z (gr_k b1 b2 true b4 false false false true false true false b12 b13 true b15 b16) = gr_T := by kernel_rfl
theorem gr_415 (b1 b2 b4 b10 b12 b13 : Bool) : gr_Z (gr_k b1 b2 true b4 false false false true false b10 true b12 b13 false true true) = gr_T := by kernel_rfl
theorem gr_416 (b1 b2 b4 b10 b12 b13 b15 b16 : Bool) : gr_Z (gr_k b1 b2 true b4 false false false true false b10 false b12 b13 false b15 b16) = gr_T := by kernel_rfl
theorem gr_417 (b1 b2 b4 b5 : Bool) : gr_Z (gr_k b1 b2 false b4 b5 false false true true true true true false true true true) = gr_T := by kernel_rfl
theorem gr_418 (b1 b2 b4 b5 b15 b16 : Bool) : gr_Z (gr_k b1 b2 false b4 b5 false false true true true false true false true b15 b16) = gr_T := by kernel_rfl
theorem gr_419 (b1 b2 b4 b5 b10 : Bool) : gr_Z (gr_k b1 b2 false b4 b5 false false true true b10 true true false false true true) = gr_T := by kernel_rfl
theorem gr_420 (b1 b2 b4 b5 b10 b15 b16 : Bool) : gr_Z (gr_k b1 b2 false b4 b5 false false true true b10 false true false false b15 b16) = gr_T := by kernel_rfl
theorem gr_421 (b1 b2 b4 b5 b13 : Bool) : gr_Z (gr_k b1 b2 false b4 b5 false false true true true true false b13 true true true) = gr_T := by kernel_rfl
theorem gr_422 (b1 b2 b4 b5 b13 b15 b16 : Bool) : gr_Z (gr_k b1 b2 false b4 b5 false false true true true false false b13 true b15 b16) = gr_T := by kernel_rfl
theorem gr_423 (b1 b2 b4 b5 b10 b13 : Bool) : gr_Z (gr_k b1 b2 false b4 b5 false false true true b10 true false b13 false true true) = gr_T := by kernel_rfl
theorem gr_424 (b1 b2 b4 b5 b10 b13 b15 b16 : Bool) : gr_Z (gr_k b1 b2 false b4 b5 false false true true b10 false false b13 false b15 b16) = gr_T := by kernel_rfl
theorem gr_425 (b1 b2 b4 b5 b12 b13 : Bool) : gr_Z (gr_k b1 b2 false b4 b5 false false true false true true b12 b13 true true true) = gr_T := by kernel_rfl
theorem gr_426 (b1 b2 b4 b5 b12 b13 b15 b16 : Bool) : gr_Z (gr_k b1 b2 false b4 b5 false false true false true false b12 b13 true b15 b16) = gr_T := by kernel_rfl
theorem gr_427 (b1 b2 b4 b5 b10 b12 b13 : Bool) : gr_Z (gr_k b1 b2 false b4 b5 false false true false b10 true b12 b13 false true true) = gr_T := by kernel_rfl
theorem gr_428 (b1 b2 b4 b5 b10 b12 b13 b15 b16 : Bool) : gr_Z (gr_k b1 b2 false b4 b5 false false true false b10 false b12 b13 false b15 b16) = gr_T := by kernel_rfl
theorem gr_429 (b1 b2 b5 : Bool) : gr_Z (gr_k b1 b2 true true b5 false false false true true true true true true true true) = gr_T := by kernel_rfl
theorem gr_430 (b1 b2 b5 b15 b16 : Bool) : gr_Z (gr_k b1 b2 true true b5 false false false true true false true true true b15 b16) = gr_T := by kernel_rfl
theorem gr_431 (b1 b2 b5 b10 : Bool) : gr_Z (gr_k b1 b2 true true b5 false false false true b10 true true true false true true) = gr_T := by kernel_rfl
theorem gr_432 (b1 b2 b5 b10 b15 b16 : Bool) : gr_Z (gr_k b1 b2 true true b5 false false false true b10 false true true false b15 b16) = gr_T := by kernel_rfl
theorem gr_433 (b1 b2 b5 : Bool) : gr_Z (gr_k b1 b2 true false b5 false false false true true true true false true true true) = gr_T := by kernel_rfl
theorem gr_434 (b1 b2 b5 b15 b16 : Bool) : gr_Z (gr_k b1 b2 true false b5 false false false true true false true false true b15 b16) = gr_T := by kernel_rfl
theorem gr_435 (b1 b2 b5 b10 : Bool) : gr_Z (gr_k b1 b2 true false b5 false false false true b10 true true false false true true) = gr_T := by kernel_rfl
theorem gr_436 (b1 b2 b5 b10 b15 b16 : Bool) : gr_Z (gr_k b1 b2 true false b5 false false false true b10 false true false false b15 b16) = gr_T := by kernel_rfl
theorem gr_437 (b1 b2 b5 b13 : Bool) : gr_Z (gr_k b1 b2 true false b5 false false false true true true false b13 true true true) = gr_T := by kernel_rfl
theorem gr_438 (b1 b2 b5 b13 b15 b16 : Bool) : gr_Z (gr_k b1 b2 true false b5 false false false true true false false b13 true b15 b16) = gr_T := by kernel_rfl
theorem gr_439 (b1 b2 b5 b10 b13 : Bool) : gr_Z (gr_k b1 b2 true false b5 false false false true b10 true false b13 false true true) = gr_T := by kernel_rfl
theorem gr_440 (b1 b2 b5 b10 b13 b15 b16 : Bool) : gr_Z (gr_k b1 b2 true false b5 false false false true b10 false false b13 false b15 b16) = gr_T := by kernel_rfl
theorem gr_441 (b1 b2 b4 b5 : Bool) : gr_Z (gr_k b1 b2 false b4 b5 false false false true true true true false true true true) = gr_T := by kernel_rfl
theorem gr_442 (b1 b2 b4 b5 b15 b16 : Bool) : gr_Z (gr_k b1 b2 false b4 b5 false false false true true false true false true b15 b16) = gr_T := by kernel_rfl
theorem gr_443 (b1 b2 b4 b5 b10 : Bool) : gr_Z (gr_k b1 b2 false b4 b5 false false false true b10 true true false false true true) = gr_T := by kernel_rfl
theorem gr_444 (b1 b2 b4 b5 b10 b15 b16 : Bool) : gr_Z (gr_k b1 b2 false b4 b5 false false false true b10 false true false false b15 b16) = gr_T := by kernel_rfl
theorem gr_445 (b1 b2 b4 b5 b13 : Bool) : gr_Z (gr_k b1 b2 false b4 b5 false false false true true true false b13 true true true) = gr_T := by kernel_rfl
theorem gr_446 (b1 b2 b4 b5 b13 b15 b16 : Bool) : gr_Z (gr_k b1 b2 false b4 b5 false false false true true false false b13 true b15 b16) = gr_T := by kernel_rfl
theorem gr_447 (b1 b2 b4 b5 b10 b13 : Bool) : gr_Z (gr_k b1 b2 false b4 b5 false false false true b10 true false b13 false true true) = gr_T := by kernel_rfl
theorem gr_448 (b1 b2 b4 b5 b10 b13 b15 b16 : Bool) : gr_Z (gr_k b1 b2 false b4 b5 false false false true b10 false false b13 false b15 b16) = gr_T := by kernel_rfl
theorem gr_449 (b1 b2 b3 b4 b5 b12 b13 : Bool) : gr_Z (gr_k b1 b2 b3 b4 b5 false false false false true true b12 b13 true true true) = gr_T := by kernel_rfl
theorem gr_450 (b1 b2 b3 b4 b5 b12 b13 b15 b16 : Bool) : gr_Z (gr_k b1 b2 b3 b4 b5 false false false false true false b12 b13 true b15 b16) = gr_T := by kernel_rfl
theorem gr_451 (b1 b2 b3 b4 b5 b10 b12 b13 : Bool) : gr_Z (gr_k b1 b2 b3 b4 b5 false false false false b10 true b12 b13 false true true) = gr_T := by kernel_rfl
theorem gr_452 (b1 b2 b3 b4 b5 b10 b12 b13 b15 b16 : Bool) : gr_Z (gr_k b1 b2 b3 b4 b5 false false false false b10 false b12 b13 false b15 b16) = gr_T := by kernel_rfl

set_option maxRecDepth 100000 in
set_option maxHeartbeats 4000000 in
theorem GaussRound_law (g c : Gt) (r : Dt) (d : Gt) (s : Dt) (w : World) (zg : g.Small) (zc : c.Small) (zr : r.s.size ≤ 9223372036854775807) (zd : d.Small) (zs : s.s.size ≤ 9223372036854775807) (hG : Globs glT w) : Calls Tryd.prog 6 #[.agg #[.bool g.re.g, .string g.re.s, .int .i64 g.re.x, .bool g.im.g, .string g.im.s, .int .i64 g.im.x], .agg #[.bool c.re.g, .string c.re.s, .int .i64 c.re.x, .bool c.im.g, .string c.im.s, .int .i64 c.im.x], .agg #[.bool r.g, .string r.s, .int .i64 r.x], .agg #[.bool d.re.g, .string d.re.s, .int .i64 d.re.x, .bool d.im.g, .string d.im.s, .int .i64 d.im.x], .agg #[.bool s.g, .string s.s, .int .i64 s.x]] w fun e w' => e = .returned (.bool true) ∧ Below w.heap.size w w' := by
  obtain ⟨b1, i1⟩ := bex (inT g c r = true)
  obtain ⟨b2, i2⟩ := bex (inT g d s = true)
  obtain ⟨b3, i3⟩ := bex (withT c r d s = true)
  obtain ⟨b4, i4⟩ := bex (withT d s c r = true)
  obtain ⟨b5, i5⟩ := bex (apaT c r d s = true)
  obtain ⟨b6, i6⟩ := bex (allB [inTE g c r, inTE g d s, withTE c r d s] = true)
  obtain ⟨b7, i7⟩ := bex (allB [inTE g c r, inTE g d s, apaTE c r d s] = true)
  obtain ⟨b8, i8⟩ := bex (allB [withTE c r d s, apaTE c r d s] = true)
  obtain ⟨b9, i9⟩ := bex (allB [withTE c r d s, withTE d s c r] = true)
  obtain ⟨b10, i10⟩ := bex (withT c r c r = true)
  obtain ⟨b11, i11⟩ := bex (allB [sideTE g c d, sideTE c d g, sideTE c g d] = true)
  obtain ⟨b12, i12⟩ := bex (c = d)
  obtain ⟨b13, i13⟩ := bex (r = s)
  obtain ⟨b14, i14⟩ := bex (withTE c r c r = 0)
  obtain ⟨b15, i15⟩ := bex (sideT g c d = sideT c d g)
  obtain ⟨b16, i16⟩ := bex (sideT c g d = -(sideT g c d))
  letI : Env := mkEnv glT [.bool g.re.g, .string g.re.s, .int .i64 g.re.x, .bool g.im.g, .string g.im.s, .int .i64 g.im.x, .bool c.re.g, .string c.re.s, .int .i64 c.re.x, .bool c.im.g, .string c.im.s, .int .i64 c.im.x, .bool r.g, .string r.s, .int .i64 r.x, .bool d.re.g, .string d.re.s, .int .i64 d.re.x, .bool d.im.g, .string d.im.s, .int .i64 d.im.x, .bool s.g, .string s.s, .int .i64 s.x, .int .i64 (inTE g c r), .int .i64 (inTE g d s), .int .i64 (withTE c r d s), .int .i64 (withTE d s c r), .int .i64 (apaTE c r d s), .int .i64 (withTE c r c r), .int .i64 (sideT g c d), .int .i64 (sideTE g c d), .int .i64 (sideT c d g), .int .i64 (sideTE c d g), .int .i64 (sideT c g d), .int .i64 (sideTE c g d), .int .i64 (-(sideT g c d))] rfl
  have hops : OpsT Tryd.prog (@Know.ops (gr_k b1 b2 b3 b4 b5 b6 b7 b8 b9 b10 b11 b12 b13 b14 b15 b16)) := ⟨optU_eql_i (a := c) (b := d) rfl rfl i12,
    optT_eql_i (a := r) (b := s) rfl rfl i13,
    opt_eql_i rfl rfl i14,
    opt_eql_i rfl rfl i15,
    opt_negE rfl rfl rfl rfl (sideT_n g c d),
    opt_eql_i rfl rfl i16,
    trivial⟩
  have hcalls : CallsT Tryd.prog (@Know.calls (gr_k b1 b2 b3 b4 b5 b6 b7 b8 b9 b10 b11 b12 b13 b14 b15 b16)) := ⟨callt rfl rfl fun w hG => awake6_c w hG,
    callt rfl rfl fun w hG => GIn_ti g c r w zg zc zr i1 hG,
    callt rfl rfl fun w hG => GIn_ti g d s w zg zd zs i2 hG,
    callt rfl rfl fun w hG => GWithin_ti c r d s w zc zr zd zs i3 hG,
    callt rfl rfl fun w hG => GWithin_ti d s c r w zd zs zc zr i4 hG,
    callt rfl rfl fun w hG => GApart_ti c r d s w zc zr zd zs i5 hG,
    callt_row rfl fun w bq cq hG hb hc => lAll06_i bq cq [inTE g c r, inTE g d s, withTE c r d s] w (Nat.le_of_ble_eq_true rfl) (ers_of hb hc rfl) i6,
    callt_row rfl fun w bq cq hG hb hc => lAll06_i bq cq [inTE g c r, inTE g d s, apaTE c r d s] w (Nat.le_of_ble_eq_true rfl) (ers_of hb hc rfl) i7,
    callt_row rfl fun w bq cq hG hb hc => lAll06_i bq cq [withTE c r d s, apaTE c r d s] w (Nat.le_of_ble_eq_true rfl) (ers_of hb hc rfl) i8,
    callt_row rfl fun w bq cq hG hb hc => lAll06_i bq cq [withTE c r d s, withTE d s c r] w (Nat.le_of_ble_eq_true rfl) (ers_of hb hc rfl) i9,
    callt rfl rfl fun w hG => GWithin_ti c r c r w zc zr zc zr i10 hG,
    callt rfl rfl fun w hG => GSide_ti g c d w zg zc zd hG,
    callt rfl rfl fun w hG => GSide_ti c d g w zc zd zg hG,
    callt rfl rfl fun w hG => GSide_ti c g d w zc zg zd hG,
    callt_row rfl fun w bq cq hG hb hc => lAll06_i bq cq [sideTE g c d, sideTE c d g, sideTE c g d] w (Nat.le_of_ble_eq_true rfl) (ers_of hb hc rfl) i11,
    trivial⟩
  have fin : ∀ v, @comes (gr_k b1 b2 b3 b4 b5 b6 b7 b8 b9 b10 b11 b12 b13 b14 b15 b16) Tryd.prog glT 3000 GaussRound_law_f GaussRound_law_a = some v → ground v = true → Ending.returned (gval v) = .returned (.bool true) → Calls Tryd.prog 6 #[.agg #[.bool g.re.g, .string g.re.s, .int .i64 g.re.x, .bool g.im.g, .string g.im.s, .int .i64 g.im.x], .agg #[.bool c.re.g, .string c.re.s, .int .i64 c.re.x, .bool c.im.g, .string c.im.s, .int .i64 c.im.x], .agg #[.bool r.g, .string r.s, .int .i64 r.x], .agg #[.bool d.re.g, .string d.re.s, .int .i64 d.re.x, .bool d.im.g, .string d.im.s, .int .i64 d.im.x], .agg #[.bool s.g, .string s.s, .int .i64 s.x]] w fun e w' => e = .returned (.bool true) ∧ Below w.heap.size w w' := fun v h1 h2 h3 => (@sym_ok _ (gr_k b1 b2 b3 b4 b5 b6 b7 b8 b9 b10 b11 b12 b13 b14 b15 b16) _ (@KnowOk.of _ (gr_k b1 b2 b3 b4 b5 b6 b7 b8 b9 b10 b11 b12 b13 b14 b15 b16) _ hops hcalls) (by kernel_rfl) _ _ _ _ h1 rfl h2 _ hG).mono fun e w' h => ⟨h.1.trans h3, h.2⟩
  clear hops hcalls
  cases b6 with
  | true =>
   have h6 := i6.1 rfl
   cases b1 with
   | true =>
    have h1 := i1.1 rfl
    cases b3 with
    | true =>
     have h3 := i3.1 rfl
     cases b2 with
     | true =>
      have h2 := i2.1 rfl
      cases b7 with
      | true =>
       have h7 := i7.1 rfl
       cases b5 with
       | true =>
        exact absurd (i5.1 rfl) (fun cc => gr_R2 h7 h1 cc h2)
       | false =>
        have h5 := gr_nf i5
        cases b8 with
        | true =>
         have h8 := i8.1 rfl
         cases b9 with
         | true =>
          have h9 := i9.1 rfl
          cases b12 with
          | true =>
           have h12 := i12.1 rfl
           cases b13 with
           | true =>
            have h13 := i13.1 rfl
            cases b4 with
            | true =>
             have h4 := i4.1 rfl
             cases b14 with
             | true =>
              have h14 := i14.1 rfl
              cases b10 with
              | true =>
               have h10 := i10.1 rfl
               cases b11 with
               | true =>
                have h11 := i11.1 rfl
                cases b15 with
                | true =>
                 have h15 := i15.1 rfl
                 cases b16 with
                 | true =>
                  have h16 := i16.1 rfl
                  exact fin _ (gr_1) rfl rfl
                 | false =>
                  exact absurd (i16.2 (gr_R7 h11)) gr_ft
                | false =>
                 exact absurd (i15.2 (gr_R6 h11)) gr_ft
               | false =>
                have h11 := gr_nf i11
                exact fin _ (gr_2 b15 b16) rfl rfl
              | false =>
               exact absurd (i10.2 (round5T h14)) gr_ft
             | false =>
              have h14 := gr_nf i14
              cases b11 with
              | true =>
               have h11 := i11.1 rfl
               cases b15 with
               | true =>
                have h15 := i15.1 rfl
                cases b16 with
                | true =>
                 have h16 := i16.1 rfl
                 exact fin _ (gr_3 b10) rfl rfl
                | false =>
                 exact absurd (i16.2 (gr_R7 h11)) gr_ft
               | false =>
                exact absurd (i15.2 (gr_R6 h11)) gr_ft
              | false =>
               have h11 := gr_nf i11
               exact fin _ (gr_4 b10 b15 b16) rfl rfl
            | false =>
             exact absurd (i4.2 (((gr_R4 h9).2 ⟨h12, h13⟩).2)) gr_ft
           | false =>
            have h13 := gr_nf i13
            cases b4 with
            | true =>
             exact absurd (i4.1 rfl) (fun cc => h13 ((gr_R4 h9).1 ⟨h3, cc⟩).2)
            | false =>
             have h4 := gr_nf i4
             cases b14 with
             | true =>
              have h14 := i14.1 rfl
              cases b10 with
              | true =>
               have h10 := i10.1 rfl
               cases b11 with
               | true =>
                have h11 := i11.1 rfl
                cases b15 with
                | true =>
                 have h15 := i15.1 rfl
                 cases b16 with
                 | true =>
                  have h16 := i16.1 rfl
                  exact fin _ (gr_5) rfl rfl
                 | false =>
                  exact absurd (i16.2 (gr_R7 h11)) gr_ft
                | false =>
                 exact absurd (i15.2 (gr_R6 h11)) gr_ft
               | false =>
                have h11 := gr_nf i11
                exact fin _ (gr_6 b15 b16) rfl rfl
              | false =>
               exact absurd (i10.2 (round5T h14)) gr_ft
             | false =>
              have h14 := gr_nf i14
              cases b11 with
              | true =>
               have h11 := i11.1 rfl
               cases b15 with
               | true =>
                have h15 := i15.1 rfl
                cases b16 with
                | true =>
                 have h16 := i16.1 rfl
                 exact fin _ (gr_7 b10) rfl rfl
                | false =>
                 exact absurd (i16.2 (gr_R7 h11)) gr_ft
               | false =>
                exact absurd (i15.2 (gr_R6 h11)) gr_ft
              | false =>
               have h11 := gr_nf i11
               exact fin _ (gr_8 b10 b15 b16) rfl rfl
          | false =>
           have h12 := gr_nf i12
           cases b4 with
           | true =>
            exact absurd (i4.1 rfl) (fun cc => h12 ((gr_R4 h9).1 ⟨h3, cc⟩).1)
           | false =>
            have h4 := gr_nf i4
            cases b14 with
            | true =>
             have h14 := i14.1 rfl
             cases b10 with
             | true =>
              have h10 := i10.1 rfl
              cases b11 with
              | true =>
               have h11 := i11.1 rfl
               cases b15 with
               | true =>
                have h15 := i15.1 rfl
                cases b16 with
                | true =>
                 have h16 := i16.1 rfl
                 exact fin _ (gr_9 b13) rfl rfl
                | false =>
                 exact absurd (i16.2 (gr_R7 h11)) gr_ft
               | false =>
                exact absurd (i15.2 (gr_R6 h11)) gr_ft
              | false =>
               have h11 := gr_nf i11
               exact fin _ (gr_10 b13 b15 b16) rfl rfl
             | false =>
              exact absurd (i10.2 (round5T h14)) gr_ft
            | false =>
             have h14 := gr_nf i14
             cases b11 with
             | true =>
              have h11 := i11.1 rfl
              cases b15 with
              | true =>
               have h15 := i15.1 rfl
               cases b16 with
               | true =>
                have h16 := i16.1 rfl
                exact fin _ (gr_11 b10 b13) rfl rfl
               | false =>
                exact absurd (i16.2 (gr_R7 h11)) gr_ft
              | false =>
               exact absurd (i15.2 (gr_R6 h11)) gr_ft
             | false =>
              have h11 := gr_nf i11
              exact fin _ (gr_12 b10 b13 b15 b16) rfl rfl
         | false =>
          have h9 := gr_nf i9
          cases b14 with
          | true =>
           have h14 := i14.1 rfl
           cases b10 with
           | true =>
            have h10 := i10.1 rfl
            cases b11 with
            | true =>
             have h11 := i11.1 rfl
             cases b15 with
             | true =>
              have h15 := i15.1 rfl
              cases b16 with
              | true =>
               have h16 := i16.1 rfl
               exact fin _ (gr_13 b4 b12 b13) rfl rfl
              | false =>
               exact absurd (i16.2 (gr_R7 h11)) gr_ft
             | false =>
              exact absurd (i15.2 (gr_R6 h11)) gr_ft
            | false =>
             have h11 := gr_nf i11
             exact fin _ (gr_14 b4 b12 b13 b15 b16) rfl rfl
           | false =>
            exact absurd (i10.2 (round5T h14)) gr_ft
          | false =>
           have h14 := gr_nf i14
           cases b11 with
           | true =>
            have h11 := i11.1 rfl
            cases b15 with
            | true =>
             have h15 := i15.1 rfl
             cases b16 with
             | true =>
              have h16 := i16.1 rfl
              exact fin _ (gr_15 b4 b10 b12 b13) rfl rfl
             | false =>
              exact absurd (i16.2 (gr_R7 h11)) gr_ft
            | false =>
             exact absurd (i15.2 (gr_R6 h11)) gr_ft
           | false =>
            have h11 := gr_nf i11
            exact fin _ (gr_16 b4 b10 b12 b13 b15 b16) rfl rfl
        | false =>
         have h8 := gr_nf i8
         cases b9 with
         | true =>
          have h9 := i9.1 rfl
          cases b12 with
          | true =>
           have h12 := i12.1 rfl
           cases b13 with
           | true =>
            have h13 := i13.1 rfl
            cases b4 with
            | true =>
             have h4 := i4.1 rfl
             cases b14 with
             | true =>
              have h14 := i14.1 rfl
              cases b10 with
              | true =>
               have h10 := i10.1 rfl
               cases b11 with
               | true =>
                have h11 := i11.1 rfl
                cases b15 with
                | true =>
                 have h15 := i15.1 rfl
                 cases b16 with
                 | true =>
                  have h16 := i16.1 rfl
                  exact fin _ (gr_17) rfl rfl
                 | false =>
                  exact absurd (i16.2 (gr_R7 h11)) gr_ft
                | false =>
                 exact absurd (i15.2 (gr_R6 h11)) gr_ft
               | false =>
                have h11 := gr_nf i11
                exact fin _ (gr_18 b15 b16) rfl rfl
              | false =>
               exact absurd (i10.2 (round5T h14)) gr_ft
             | false =>
              have h14 := gr_nf i14
              cases b11 with
              | true =>
               have h11 := i11.1 rfl
               cases b15 with
               | true =>
                have h15 := i15.1 rfl
                cases b16 with
                | true =>
                 have h16 := i16.1 rfl
                 exact fin _ (gr_19 b10) rfl rfl
                | false =>
                 exact absurd (i16.2 (gr_R7 h11)) gr_ft
               | false =>
                exact absurd (i15.2 (gr_R6 h11)) gr_ft
              | false =>
               have h11 := gr_nf i11
               exact fin _ (gr_20 b10 b15 b16) rfl rfl
            | false =>
             exact absurd (i4.2 (((gr_R4 h9).2 ⟨h12, h13⟩).2)) gr_ft
           | false =>
            have h13 := gr_nf i13
            cases b4 with
            | true =>
             exact absurd (i4.1 rfl) (fun cc => h13 ((gr_R4 h9).1 ⟨h3, cc⟩).2)
            | false =>
             have h4 := gr_nf i4
             cases b14 with
             | true =>
              have h14 := i14.1 rfl
              cases b10 with
              | true =>
               have h10 := i10.1 rfl
               cases b11 with
               | true =>
                have h11 := i11.1 rfl
                cases b15 with
                | true =>
                 have h15 := i15.1 rfl
                 cases b16 with
                 | true =>
                  have h16 := i16.1 rfl
                  exact fin _ (gr_21) rfl rfl
                 | false =>
                  exact absurd (i16.2 (gr_R7 h11)) gr_ft
                | false =>
                 exact absurd (i15.2 (gr_R6 h11)) gr_ft
               | false =>
                have h11 := gr_nf i11
                exact fin _ (gr_22 b15 b16) rfl rfl
              | false =>
               exact absurd (i10.2 (round5T h14)) gr_ft
             | false =>
              have h14 := gr_nf i14
              cases b11 with
              | true =>
               have h11 := i11.1 rfl
               cases b15 with
               | true =>
                have h15 := i15.1 rfl
                cases b16 with
                | true =>
                 have h16 := i16.1 rfl
                 exact fin _ (gr_23 b10) rfl rfl
                | false =>
                 exact absurd (i16.2 (gr_R7 h11)) gr_ft
               | false =>
                exact absurd (i15.2 (gr_R6 h11)) gr_ft
              | false =>
               have h11 := gr_nf i11
               exact fin _ (gr_24 b10 b15 b16) rfl rfl
          | false =>
           have h12 := gr_nf i12
           cases b4 with
           | true =>
            exact absurd (i4.1 rfl) (fun cc => h12 ((gr_R4 h9).1 ⟨h3, cc⟩).1)
           | false =>
            have h4 := gr_nf i4
            cases b14 with
            | true =>
             have h14 := i14.1 rfl
             cases b10 with
             | true =>
              have h10 := i10.1 rfl
              cases b11 with
              | true =>
               have h11 := i11.1 rfl
               cases b15 with
               | true =>
                have h15 := i15.1 rfl
                cases b16 with
                | true =>
                 have h16 := i16.1 rfl
                 exact fin _ (gr_25 b13) rfl rfl
                | false =>
                 exact absurd (i16.2 (gr_R7 h11)) gr_ft
               | false =>
                exact absurd (i15.2 (gr_R6 h11)) gr_ft
              | false =>
               have h11 := gr_nf i11
               exact fin _ (gr_26 b13 b15 b16) rfl rfl
             | false =>
              exact absurd (i10.2 (round5T h14)) gr_ft
            | false =>
             have h14 := gr_nf i14
             cases b11 with
             | true =>
              have h11 := i11.1 rfl
              cases b15 with
              | true =>
               have h15 := i15.1 rfl
               cases b16 with
               | true =>
                have h16 := i16.1 rfl
                exact fin _ (gr_27 b10 b13) rfl rfl
               | false =>
                exact absurd (i16.2 (gr_R7 h11)) gr_ft
              | false =>
               exact absurd (i15.2 (gr_R6 h11)) gr_ft
             | false =>
              have h11 := gr_nf i11
              exact fin _ (gr_28 b10 b13 b15 b16) rfl rfl
         | false =>
          have h9 := gr_nf i9
          cases b14 with
          | true =>
           have h14 := i14.1 rfl
           cases b10 with
           | true =>
            have h10 := i10.1 rfl
            cases b11 with
            | true =>
             have h11 := i11.1 rfl
             cases b15 with
             | true =>
              have h15 := i15.1 rfl
              cases b16 with
              | true =>
               have h16 := i16.1 rfl
               exact fin _ (gr_29 b4 b12 b13) rfl rfl
              | false =>
               exact absurd (i16.2 (gr_R7 h11)) gr_ft
             | false =>
              exact absurd (i15.2 (gr_R6 h11)) gr_ft
            | false =>
             have h11 := gr_nf i11
             exact fin _ (gr_30 b4 b12 b13 b15 b16) rfl rfl
           | false =>
            exact absurd (i10.2 (round5T h14)) gr_ft
          | false =>
           have h14 := gr_nf i14
           cases b11 with
           | true =>
            have h11 := i11.1 rfl
            cases b15 with
            | true =>
             have h15 := i15.1 rfl
             cases b16 with
             | true =>
              have h16 := i16.1 rfl
              exact fin _ (gr_31 b4 b10 b12 b13) rfl rfl
             | false =>
              exact absurd (i16.2 (gr_R7 h11)) gr_ft
            | false =>
             exact absurd (i15.2 (gr_R6 h11)) gr_ft
           | false =>
            have h11 := gr_nf i11
            exact fin _ (gr_32 b4 b10 b12 b13 b15 b16) rfl rfl
      | false =>
       have h7 := gr_nf i7
       cases b8 with
       | true =>
        have h8 := i8.1 rfl
        cases b5 with
        | true =>
         exact absurd (i5.1 rfl) (gr_R3 h8 h3)
        | false =>
         have h5 := gr_nf i5
         cases b9 with
         | true =>
          have h9 := i9.1 rfl
          cases b12 with
          | true =>
           have h12 := i12.1 rfl
           cases b13 with
           | true =>
            have h13 := i13.1 rfl
            cases b4 with
            | true =>
             have h4 := i4.1 rfl
             cases b14 with
             | true =>
              have h14 := i14.1 rfl
              cases b10 with
              | true =>
               have h10 := i10.1 rfl
               cases b11 with
               | true =>
                have h11 := i11.1 rfl
                cases b15 with
                | true =>
                 have h15 := i15.1 rfl
                 cases b16 with
                 | true =>
                  have h16 := i16.1 rfl
                  exact fin _ (gr_33) rfl rfl
                 | false =>
                  exact absurd (i16.2 (gr_R7 h11)) gr_ft
                | false =>
                 exact absurd (i15.2 (gr_R6 h11)) gr_ft
               | false =>
                have h11 := gr_nf i11
                exact fin _ (gr_34 b15 b16) rfl rfl
              | false =>
               exact absurd (i10.2 (round5T h14)) gr_ft
             | false =>
              have h14 := gr_nf i14
              cases b11 with
              | true =>
               have h11 := i11.1 rfl
               cases b15 with
               | true =>
                have h15 := i15.1 rfl
                cases b16 with
                | true =>
                 have h16 := i16.1 rfl
                 exact fin _ (gr_35 b10) rfl rfl
                | false =>
                 exact absurd (i16.2 (gr_R7 h11)) gr_ft
               | false =>
                exact absurd (i15.2 (gr_R6 h11)) gr_ft
              | false =>
               have h11 := gr_nf i11
               exact fin _ (gr_36 b10 b15 b16) rfl rfl
            | false =>
             exact absurd (i4.2 (((gr_R4 h9).2 ⟨h12, h13⟩).2)) gr_ft
           | false =>
            have h13 := gr_nf i13
            cases b4 with
            | true =>
             exact absurd (i4.1 rfl) (fun cc => h13 ((gr_R4 h9).1 ⟨h3, cc⟩).2)
            | false =>
             have h4 := gr_nf i4
             cases b14 with
             | true =>
              have h14 := i14.1 rfl
              cases b10 with
              | true =>
               have h10 := i10.1 rfl
               cases b11 with
               | true =>
                have h11 := i11.1 rfl
                cases b15 with
                | true =>
                 have h15 := i15.1 rfl
                 cases b16 with
                 | true =>
                  have h16 := i16.1 rfl
                  exact fin _ (gr_37) rfl rfl
                 | false =>
                  exact absurd (i16.2 (gr_R7 h11)) gr_ft
                | false =>
                 exact absurd (i15.2 (gr_R6 h11)) gr_ft
               | false =>
                have h11 := gr_nf i11
                exact fin _ (gr_38 b15 b16) rfl rfl
              | false =>
               exact absurd (i10.2 (round5T h14)) gr_ft
             | false =>
              have h14 := gr_nf i14
              cases b11 with
              | true =>
               have h11 := i11.1 rfl
               cases b15 with
               | true =>
                have h15 := i15.1 rfl
                cases b16 with
                | true =>
                 have h16 := i16.1 rfl
                 exact fin _ (gr_39 b10) rfl rfl
                | false =>
                 exact absurd (i16.2 (gr_R7 h11)) gr_ft
               | false =>
                exact absurd (i15.2 (gr_R6 h11)) gr_ft
              | false =>
               have h11 := gr_nf i11
               exact fin _ (gr_40 b10 b15 b16) rfl rfl
          | false =>
           have h12 := gr_nf i12
           cases b4 with
           | true =>
            exact absurd (i4.1 rfl) (fun cc => h12 ((gr_R4 h9).1 ⟨h3, cc⟩).1)
           | false =>
            have h4 := gr_nf i4
            cases b14 with
            | true =>
             have h14 := i14.1 rfl
             cases b10 with
             | true =>
              have h10 := i10.1 rfl
              cases b11 with
              | true =>
               have h11 := i11.1 rfl
               cases b15 with
               | true =>
                have h15 := i15.1 rfl
                cases b16 with
                | true =>
                 have h16 := i16.1 rfl
                 exact fin _ (gr_41 b13) rfl rfl
                | false =>
                 exact absurd (i16.2 (gr_R7 h11)) gr_ft
               | false =>
                exact absurd (i15.2 (gr_R6 h11)) gr_ft
              | false =>
               have h11 := gr_nf i11
               exact fin _ (gr_42 b13 b15 b16) rfl rfl
             | false =>
              exact absurd (i10.2 (round5T h14)) gr_ft
            | false =>
             have h14 := gr_nf i14
             cases b11 with
             | true =>
              have h11 := i11.1 rfl
              cases b15 with
              | true =>
               have h15 := i15.1 rfl
               cases b16 with
               | true =>
                have h16 := i16.1 rfl
                exact fin _ (gr_43 b10 b13) rfl rfl
               | false =>
                exact absurd (i16.2 (gr_R7 h11)) gr_ft
              | false =>
               exact absurd (i15.2 (gr_R6 h11)) gr_ft
             | false =>
              have h11 := gr_nf i11
              exact fin _ (gr_44 b10 b13 b15 b16) rfl rfl
         | false =>
          have h9 := gr_nf i9
          cases b14 with
          | true =>
           have h14 := i14.1 rfl
           cases b10 with
           | true =>
            have h10 := i10.1 rfl
            cases b11 with
            | true =>
             have h11 := i11.1 rfl
             cases b15 with
             | true =>
              have h15 := i15.1 rfl
              cases b16 with
              | true =>
               have h16 := i16.1 rfl
               exact fin _ (gr_45 b4 b12 b13) rfl rfl
              | false =>
               exact absurd (i16.2 (gr_R7 h11)) gr_ft
             | false =>
              exact absurd (i15.2 (gr_R6 h11)) gr_ft
            | false =>
             have h11 := gr_nf i11
             exact fin _ (gr_46 b4 b12 b13 b15 b16) rfl rfl
           | false =>
            exact absurd (i10.2 (round5T h14)) gr_ft
          | false =>
           have h14 := gr_nf i14
           cases b11 with
           | true =>
            have h11 := i11.1 rfl
            cases b15 with
            | true =>
             have h15 := i15.1 rfl
             cases b16 with
             | true =>
              have h16 := i16.1 rfl
              exact fin _ (gr_47 b4 b10 b12 b13) rfl rfl
             | false =>
              exact absurd (i16.2 (gr_R7 h11)) gr_ft
            | false =>
             exact absurd (i15.2 (gr_R6 h11)) gr_ft
           | false =>
            have h11 := gr_nf i11
            exact fin _ (gr_48 b4 b10 b12 b13 b15 b16) rfl rfl
       | false =>
        have h8 := gr_nf i8
        cases b9 with
        | true =>
         have h9 := i9.1 rfl
         cases b12 with
         | true =>
          have h12 := i12.1 rfl
          cases b13 with
          | true =>
           have h13 := i13.1 rfl
           cases b4 with
           | true =>
            have h4 := i4.1 rfl
            cases b14 with
            | true =>
             have h14 := i14.1 rfl
             cases b10 with
             | true =>
              have h10 := i10.1 rfl
              cases b11 with
              | true =>
               have h11 := i11.1 rfl
               cases b15 with
               | true =>
                have h15 := i15.1 rfl
                cases b16 with
                | true =>
                 have h16 := i16.1 rfl
                 exact fin _ (gr_49 b5) rfl rfl
                | false =>
                 exact absurd (i16.2 (gr_R7 h11)) gr_ft
               | false =>
                exact absurd (i15.2 (gr_R6 h11)) gr_ft
              | false =>
               have h11 := gr_nf i11
               exact fin _ (gr_50 b5 b15 b16) rfl rfl
             | false =>
              exact absurd (i10.2 (round5T h14)) gr_ft
            | false =>
             have h14 := gr_nf i14
             cases b11 with
             | true =>
              have h11 := i11.1 rfl
              cases b15 with
              | true =>
               have h15 := i15.1 rfl
               cases b16 with
               | true =>
                have h16 := i16.1 rfl
                exact fin _ (gr_51 b5 b10) rfl rfl
               | false =>
                exact absurd (i16.2 (gr_R7 h11)) gr_ft
              | false =>
               exact absurd (i15.2 (gr_R6 h11)) gr_ft
             | false =>
              have h11 := gr_nf i11
              exact fin _ (gr_52 b5 b10 b15 b16) rfl rfl
           | false =>
            exact absurd (i4.2 (((gr_R4 h9).2 ⟨h12, h13⟩).2)) gr_ft
          | false =>
           have h13 := gr_nf i13
           cases b4 with
           | true =>
            exact absurd (i4.1 rfl) (fun cc => h13 ((gr_R4 h9).1 ⟨h3, cc⟩).2)
           | false =>
            have h4 := gr_nf i4
            cases b14 with
            | true =>
             have h14 := i14.1 rfl
             cases b10 with
             | true =>
              have h10 := i10.1 rfl
              cases b11 with
              | true =>
               have h11 := i11.1 rfl
               cases b15 with
               | true =>
                have h15 := i15.1 rfl
                cases b16 with
                | true =>
                 have h16 := i16.1 rfl
                 exact fin _ (gr_53 b5) rfl rfl
                | false =>
                 exact absurd (i16.2 (gr_R7 h11)) gr_ft
               | false =>
                exact absurd (i15.2 (gr_R6 h11)) gr_ft
              | false =>
               have h11 := gr_nf i11
               exact fin _ (gr_54 b5 b15 b16) rfl rfl
             | false =>
              exact absurd (i10.2 (round5T h14)) gr_ft
            | false =>
             have h14 := gr_nf i14
             cases b11 with
             | true =>
              have h11 := i11.1 rfl
              cases b15 with
              | true =>
               have h15 := i15.1 rfl
               cases b16 with
               | true =>
                have h16 := i16.1 rfl
                exact fin _ (gr_55 b5 b10) rfl rfl
               | false =>
                exact absurd (i16.2 (gr_R7 h11)) gr_ft
              | false =>
               exact absurd (i15.2 (gr_R6 h11)) gr_ft
             | false =>
              have h11 := gr_nf i11
              exact fin _ (gr_56 b5 b10 b15 b16) rfl rfl
         | false =>
          have h12 := gr_nf i12
          cases b4 with
          | true =>
           exact absurd (i4.1 rfl) (fun cc => h12 ((gr_R4 h9).1 ⟨h3, cc⟩).1)
          | false =>
           have h4 := gr_nf i4
           cases b14 with
           | true =>
            have h14 := i14.1 rfl
            cases b10 with
            | true =>
             have h10 := i10.1 rfl
             cases b11 with
             | true =>
              have h11 := i11.1 rfl
              cases b15 with
              | true =>
               have h15 := i15.1 rfl
               cases b16 with
               | true =>
                have h16 := i16.1 rfl
                exact fin _ (gr_57 b5 b13) rfl rfl
               | false =>
                exact absurd (i16.2 (gr_R7 h11)) gr_ft
              | false =>
               exact absurd (i15.2 (gr_R6 h11)) gr_ft
             | false =>
              have h11 := gr_nf i11
              exact fin _ (gr_58 b5 b13 b15 b16) rfl rfl
            | false =>
             exact absurd (i10.2 (round5T h14)) gr_ft
           | false =>
            have h14 := gr_nf i14
            cases b11 with
            | true =>
             have h11 := i11.1 rfl
             cases b15 with
             | true =>
              have h15 := i15.1 rfl
              cases b16 with
              | true =>
               have h16 := i16.1 rfl
               exact fin _ (gr_59 b5 b10 b13) rfl rfl
              | false =>
               exact absurd (i16.2 (gr_R7 h11)) gr_ft
             | false =>
              exact absurd (i15.2 (gr_R6 h11)) gr_ft
            | false =>
             have h11 := gr_nf i11
             exact fin _ (gr_60 b5 b10 b13 b15 b16) rfl rfl
        | false =>
         have h9 := gr_nf i9
         cases b14 with
         | true =>
          have h14 := i14.1 rfl
          cases b10 with
          | true =>
           have h10 := i10.1 rfl
           cases b11 with
           | true =>
            have h11 := i11.1 rfl
            cases b15 with
            | true =>
             have h15 := i15.1 rfl
             cases b16 with
             | true =>
              have h16 := i16.1 rfl
              exact fin _ (gr_61 b4 b5 b12 b13) rfl rfl
             | false =>
              exact absurd (i16.2 (gr_R7 h11)) gr_ft
            | false =>
             exact absurd (i15.2 (gr_R6 h11)) gr_ft
           | false =>
            have h11 := gr_nf i11
            exact fin _ (gr_62 b4 b5 b12 b13 b15 b16) rfl rfl
          | false =>
           exact absurd (i10.2 (round5T h14)) gr_ft
         | false =>
          have h14 := gr_nf i14
          cases b11 with
          | true =>
           have h11 := i11.1 rfl
           cases b15 with
           | true =>
            have h15 := i15.1 rfl
            cases b16 with
            | true =>
             have h16 := i16.1 rfl
             exact fin _ (gr_63 b4 b5 b10 b12 b13) rfl rfl
            | false =>
             exact absurd (i16.2 (gr_R7 h11)) gr_ft
           | false =>
            exact absurd (i15.2 (gr_R6 h11)) gr_ft
          | false =>
           have h11 := gr_nf i11
           exact fin _ (gr_64 b4 b5 b10 b12 b13 b15 b16) rfl rfl
     | false =>
      exact absurd (i2.2 (gr_R1 h6 h1 h3)) gr_ft
    | false =>
     have h3 := gr_nf i3
     cases b7 with
     | true =>
      have h7 := i7.1 rfl
      cases b5 with
      | true =>
       have h5 := i5.1 rfl
       cases b2 with
       | true =>
        exact absurd (i2.1 rfl) (gr_R2 h7 h1 h5)
       | false =>
        have h2 := gr_nf i2
        cases b8 with
        | true =>
         have h8 := i8.1 rfl
         cases b9 with
         | true =>
          have h9 := i9.1 rfl
          cases b12 with
          | true =>
           have h12 := i12.1 rfl
           cases b13 with
           | true =>
            exact absurd (i13.1 rfl) (fun cc => h3 ((gr_R4 h9).2 ⟨h12, cc⟩).1)
           | false =>
            have h13 := gr_nf i13
            cases b14 with
            | true =>
             have h14 := i14.1 rfl
             cases b10 with
             | true =>
              have h10 := i10.1 rfl
              cases b11 with
              | true =>
               have h11 := i11.1 rfl
               cases b15 with
               | true =>
                have h15 := i15.1 rfl
                cases b16 with
                | true =>
                 have h16 := i16.1 rfl
                 exact fin _ (gr_65 b4) rfl rfl
                | false =>
                 exact absurd (i16.2 (gr_R7 h11)) gr_ft
               | false =>
                exact absurd (i15.2 (gr_R6 h11)) gr_ft
              | false =>
               have h11 := gr_nf i11
               exact fin _ (gr_66 b4 b15 b16) rfl rfl
             | false =>
              exact absurd (i10.2 (round5T h14)) gr_ft
            | false =>
             have h14 := gr_nf i14
             cases b11 with
             | true =>
              have h11 := i11.1 rfl
              cases b15 with
              | true =>
               have h15 := i15.1 rfl
               cases b16 with
               | true =>
                have h16 := i16.1 rfl
                exact fin _ (gr_67 b4 b10) rfl rfl
               | false =>
                exact absurd (i16.2 (gr_R7 h11)) gr_ft
              | false =>
               exact absurd (i15.2 (gr_R6 h11)) gr_ft
             | false =>
              have h11 := gr_nf i11
              exact fin _ (gr_68 b4 b10 b15 b16) rfl rfl
          | false =>
           have h12 := gr_nf i12
           cases b14 with
           | true =>
            have h14 := i14.1 rfl
            cases b10 with
            | true =>
             have h10 := i10.1 rfl
             cases b11 with
             | true =>
              have h11 := i11.1 rfl
              cases b15 with
              | true =>
               have h15 := i15.1 rfl
               cases b16 with
               | true =>
                have h16 := i16.1 rfl
                exact fin _ (gr_69 b4 b13) rfl rfl
               | false =>
                exact absurd (i16.2 (gr_R7 h11)) gr_ft
              | false =>
               exact absurd (i15.2 (gr_R6 h11)) gr_ft
             | false =>
              have h11 := gr_nf i11
              exact fin _ (gr_70 b4 b13 b15 b16) rfl rfl
            | false =>
             exact absurd (i10.2 (round5T h14)) gr_ft
           | false =>
            have h14 := gr_nf i14
            cases b11 with
            | true =>
             have h11 := i11.1 rfl
             cases b15 with
             | true =>
              have h15 := i15.1 rfl
              cases b16 with
              | true =>
               have h16 := i16.1 rfl
               exact fin _ (gr_71 b4 b10 b13) rfl rfl
              | false =>
               exact absurd (i16.2 (gr_R7 h11)) gr_ft
             | false =>
              exact absurd (i15.2 (gr_R6 h11)) gr_ft
            | false =>
             have h11 := gr_nf i11
             exact fin _ (gr_72 b4 b10 b13 b15 b16) rfl rfl
         | false =>
          have h9 := gr_nf i9
          cases b14 with
          | true =>
           have h14 := i14.1 rfl
           cases b10 with
           | true =>
            have h10 := i10.1 rfl
            cases b11 with
            | true =>
             have h11 := i11.1 rfl
             cases b15 with
             | true =>
              have h15 := i15.1 rfl
              cases b16 with
              | true =>
               have h16 := i16.1 rfl
               exact fin _ (gr_73 b4 b12 b13) rfl rfl
              | false =>
               exact absurd (i16.2 (gr_R7 h11)) gr_ft
             | false =>
              exact absurd (i15.2 (gr_R6 h11)) gr_ft
            | false =>
             have h11 := gr_nf i11
             exact fin _ (gr_74 b4 b12 b13 b15 b16) rfl rfl
           | false =>
            exact absurd (i10.2 (round5T h14)) gr_ft
          | false =>
           have h14 := gr_nf i14
           cases b11 with
           | true =>
            have h11 := i11.1 rfl
            cases b15 with
            | true =>
             have h15 := i15.1 rfl
             cases b16 with
             | true =>
              have h16 := i16.1 rfl
              exact fin _ (gr_75 b4 b10 b12 b13) rfl rfl
             | false =>
              exact absurd (i16.2 (gr_R7 h11)) gr_ft
            | false =>
             exact absurd (i15.2 (gr_R6 h11)) gr_ft
           | false =>
            have h11 := gr_nf i11
            exact fin _ (gr_76 b4 b10 b12 b13 b15 b16) rfl rfl
        | false =>
         have h8 := gr_nf i8
         cases b9 with
         | true =>
          have h9 := i9.1 rfl
          cases b12 with
          | true =>
           have h12 := i12.1 rfl
           cases b13 with
           | true =>
            exact absurd (i13.1 rfl) (fun cc => h3 ((gr_R4 h9).2 ⟨h12, cc⟩).1)
           | false =>
            have h13 := gr_nf i13
            cases b14 with
            | true =>
             have h14 := i14.1 rfl
             cases b10 with
             | true =>
              have h10 := i10.1 rfl
              cases b11 with
              | true =>
               have h11 := i11.1 rfl
               cases b15 with
               | true =>
                have h15 := i15.1 rfl
                cases b16 with
                | true =>
                 have h16 := i16.1 rfl
                 exact fin _ (gr_77 b4) rfl rfl
                | false =>
                 exact absurd (i16.2 (gr_R7 h11)) gr_ft
               | false =>
                exact absurd (i15.2 (gr_R6 h11)) gr_ft
              | false =>
               have h11 := gr_nf i11
               exact fin _ (gr_78 b4 b15 b16) rfl rfl
             | false =>
              exact absurd (i10.2 (round5T h14)) gr_ft
            | false =>
             have h14 := gr_nf i14
             cases b11 with
             | true =>
              have h11 := i11.1 rfl
              cases b15 with
              | true =>
               have h15 := i15.1 rfl
               cases b16 with
               | true =>
                have h16 := i16.1 rfl
                exact fin _ (gr_79 b4 b10) rfl rfl
               | false =>
                exact absurd (i16.2 (gr_R7 h11)) gr_ft
              | false =>
               exact absurd (i15.2 (gr_R6 h11)) gr_ft
             | false =>
              have h11 := gr_nf i11
              exact fin _ (gr_80 b4 b10 b15 b16) rfl rfl
          | false =>
           have h12 := gr_nf i12
           cases b14 with
           | true =>
            have h14 := i14.1 rfl
            cases b10 with
            | true =>
             have h10 := i10.1 rfl
             cases b11 with
             | true =>
              have h11 := i11.1 rfl
              cases b15 with
              | true =>
               have h15 := i15.1 rfl
               cases b16 with
               | true =>
                have h16 := i16.1 rfl
                exact fin _ (gr_81 b4 b13) rfl rfl
               | false =>
                exact absurd (i16.2 (gr_R7 h11)) gr_ft
              | false =>
               exact absurd (i15.2 (gr_R6 h11)) gr_ft
             | false =>
              have h11 := gr_nf i11
              exact fin _ (gr_82 b4 b13 b15 b16) rfl rfl
            | false =>
             exact absurd (i10.2 (round5T h14)) gr_ft
           | false =>
            have h14 := gr_nf i14
            cases b11 with
            | true =>
             have h11 := i11.1 rfl
             cases b15 with
             | true =>
              have h15 := i15.1 rfl
              cases b16 with
              | true =>
               have h16 := i16.1 rfl
               exact fin _ (gr_83 b4 b10 b13) rfl rfl
              | false =>
               exact absurd (i16.2 (gr_R7 h11)) gr_ft
             | false =>
              exact absurd (i15.2 (gr_R6 h11)) gr_ft
            | false =>
             have h11 := gr_nf i11
             exact fin _ (gr_84 b4 b10 b13 b15 b16) rfl rfl
         | false =>
          have h9 := gr_nf i9
          cases b14 with
          | true =>
           have h14 := i14.1 rfl
           cases b10 with
           | true =>
            have h10 := i10.1 rfl
            cases b11 with
            | true =>
             have h11 := i11.1 rfl
             cases b15 with
             | true =>
              have h15 := i15.1 rfl
              cases b16 with
              | true =>
               have h16 := i16.1 rfl
               exact fin _ (gr_85 b4 b12 b13) rfl rfl
              | false =>
               exact absurd (i16.2 (gr_R7 h11)) gr_ft
             | false =>
              exact absurd (i15.2 (gr_R6 h11)) gr_ft
            | false =>
             have h11 := gr_nf i11
             exact fin _ (gr_86 b4 b12 b13 b15 b16) rfl rfl
           | false =>
            exact absurd (i10.2 (round5T h14)) gr_ft
          | false =>
           have h14 := gr_nf i14
           cases b11 with
           | true =>
            have h11 := i11.1 rfl
            cases b15 with
            | true =>
             have h15 := i15.1 rfl
             cases b16 with
             | true =>
              have h16 := i16.1 rfl
              exact fin _ (gr_87 b4 b10 b12 b13) rfl rfl
             | false =>
              exact absurd (i16.2 (gr_R7 h11)) gr_ft
            | false =>
             exact absurd (i15.2 (gr_R6 h11)) gr_ft
           | false =>
            have h11 := gr_nf i11
            exact fin _ (gr_88 b4 b10 b12 b13 b15 b16) rfl rfl
      | false =>
       have h5 := gr_nf i5
       cases b8 with
       | true =>
        have h8 := i8.1 rfl
        cases b9 with
        | true =>
         have h9 := i9.1 rfl
         cases b12 with
         | true =>
          have h12 := i12.1 rfl
          cases b13 with
          | true =>
           exact absurd (i13.1 rfl) (fun cc => h3 ((gr_R4 h9).2 ⟨h12, cc⟩).1)
          | false =>
           have h13 := gr_nf i13
           cases b14 with
           | true =>
            have h14 := i14.1 rfl
            cases b10 with
            | true =>
             have h10 := i10.1 rfl
             cases b11 with
             | true =>
              have h11 := i11.1 rfl
              cases b15 with
              | true =>
               have h15 := i15.1 rfl
               cases b16 with
               | true =>
                have h16 := i16.1 rfl
                exact fin _ (gr_89 b2 b4) rfl rfl
               | false =>
                exact absurd (i16.2 (gr_R7 h11)) gr_ft
              | false =>
               exact absurd (i15.2 (gr_R6 h11)) gr_ft
             | false =>
              have h11 := gr_nf i11
              exact fin _ (gr_90 b2 b4 b15 b16) rfl rfl
            | false =>
             exact absurd (i10.2 (round5T h14)) gr_ft
           | false =>
            have h14 := gr_nf i14
            cases b11 with
            | true =>
             have h11 := i11.1 rfl
             cases b15 with
             | true =>
              have h15 := i15.1 rfl
              cases b16 with
              | true =>
               have h16 := i16.1 rfl
               exact fin _ (gr_91 b2 b4 b10) rfl rfl
              | false =>
               exact absurd (i16.2 (gr_R7 h11)) gr_ft
             | false =>
              exact absurd (i15.2 (gr_R6 h11)) gr_ft
            | false =>
             have h11 := gr_nf i11
             exact fin _ (gr_92 b2 b4 b10 b15 b16) rfl rfl
         | false =>
          have h12 := gr_nf i12
          cases b14 with
          | true =>
           have h14 := i14.1 rfl
           cases b10 with
           | true =>
            have h10 := i10.1 rfl
            cases b11 with
            | true =>
             have h11 := i11.1 rfl
             cases b15 with
             | true =>
              have h15 := i15.1 rfl
              cases b16 with
              | true =>
               have h16 := i16.1 rfl
               exact fin _ (gr_93 b2 b4 b13) rfl rfl
              | false =>
               exact absurd (i16.2 (gr_R7 h11)) gr_ft
             | false =>
              exact absurd (i15.2 (gr_R6 h11)) gr_ft
            | false =>
             have h11 := gr_nf i11
             exact fin _ (gr_94 b2 b4 b13 b15 b16) rfl rfl
           | false =>
            exact absurd (i10.2 (round5T h14)) gr_ft
          | false =>
           have h14 := gr_nf i14
           cases b11 with
           | true =>
            have h11 := i11.1 rfl
            cases b15 with
            | true =>
             have h15 := i15.1 rfl
             cases b16 with
             | true =>
              have h16 := i16.1 rfl
              exact fin _ (gr_95 b2 b4 b10 b13) rfl rfl
             | false =>
              exact absurd (i16.2 (gr_R7 h11)) gr_ft
            | false =>
             exact absurd (i15.2 (gr_R6 h11)) gr_ft
           | false =>
            have h11 := gr_nf i11
            exact fin _ (gr_96 b2 b4 b10 b13 b15 b16) rfl rfl
        | false =>
         have h9 := gr_nf i9
         cases b14 with
         | true =>
          have h14 := i14.1 rfl
          cases b10 with
          | true =>
           have h10 := i10.1 rfl
           cases b11 with
           | true =>
            have h11 := i11.1 rfl
            cases b15 with
            | true =>
             have h15 := i15.1 rfl
             cases b16 with
             | true =>
              have h16 := i16.1 rfl
              exact fin _ (gr_97 b2 b4 b12 b13) rfl rfl
             | false =>
              exact absurd (i16.2 (gr_R7 h11)) gr_ft
            | false =>
             exact absurd (i15.2 (gr_R6 h11)) gr_ft
           | false =>
            have h11 := gr_nf i11
            exact fin _ (gr_98 b2 b4 b12 b13 b15 b16) rfl rfl
          | false =>
           exact absurd (i10.2 (round5T h14)) gr_ft
         | false =>
          have h14 := gr_nf i14
          cases b11 with
          | true =>
           have h11 := i11.1 rfl
           cases b15 with
           | true =>
            have h15 := i15.1 rfl
            cases b16 with
            | true =>
             have h16 := i16.1 rfl
             exact fin _ (gr_99 b2 b4 b10 b12 b13) rfl rfl
            | false =>
             exact absurd (i16.2 (gr_R7 h11)) gr_ft
           | false =>
            exact absurd (i15.2 (gr_R6 h11)) gr_ft
          | false =>
           have h11 := gr_nf i11
           exact fin _ (gr_100 b2 b4 b10 b12 b13 b15 b16) rfl rfl
       | false =>
        have h8 := gr_nf i8
        cases b9 with
        | true =>
         have h9 := i9.1 rfl
         cases b12 with
         | true =>
          have h12 := i12.1 rfl
          cases b13 with
          | true =>
           exact absurd (i13.1 rfl) (fun cc => h3 ((gr_R4 h9).2 ⟨h12, cc⟩).1)
          | false =>
           have h13 := gr_nf i13
           cases b14 with
           | true =>
            have h14 := i14.1 rfl
            cases b10 with
            | true =>
             have h10 := i10.1 rfl
             cases b11 with
             | true =>
              have h11 := i11.1 rfl
              cases b15 with
              | true =>
               have h15 := i15.1 rfl
               cases b16 with
               | true =>
                have h16 := i16.1 rfl
                exact fin _ (gr_101 b2 b4) rfl rfl
               | false =>
                exact absurd (i16.2 (gr_R7 h11)) gr_ft
              | false =>
               exact absurd (i15.2 (gr_R6 h11)) gr_ft
             | false =>
              have h11 := gr_nf i11
              exact fin _ (gr_102 b2 b4 b15 b16) rfl rfl
            | false =>
             exact absurd (i10.2 (round5T h14)) gr_ft
           | false =>
            have h14 := gr_nf i14
            cases b11 with
            | true =>
             have h11 := i11.1 rfl
             cases b15 with
             | true =>
              have h15 := i15.1 rfl
              cases b16 with
              | true =>
               have h16 := i16.1 rfl
               exact fin _ (gr_103 b2 b4 b10) rfl rfl
              | false =>
               exact absurd (i16.2 (gr_R7 h11)) gr_ft
             | false =>
              exact absurd (i15.2 (gr_R6 h11)) gr_ft
            | false =>
             have h11 := gr_nf i11
             exact fin _ (gr_104 b2 b4 b10 b15 b16) rfl rfl
         | false =>
          have h12 := gr_nf i12
          cases b14 with
          | true =>
           have h14 := i14.1 rfl
           cases b10 with
           | true =>
            have h10 := i10.1 rfl
            cases b11 with
            | true =>
             have h11 := i11.1 rfl
             cases b15 with
             | true =>
              have h15 := i15.1 rfl
              cases b16 with
              | true =>
               have h16 := i16.1 rfl
               exact fin _ (gr_105 b2 b4 b13) rfl rfl
              | false =>
               exact absurd (i16.2 (gr_R7 h11)) gr_ft
             | false =>
              exact absurd (i15.2 (gr_R6 h11)) gr_ft
            | false =>
             have h11 := gr_nf i11
             exact fin _ (gr_106 b2 b4 b13 b15 b16) rfl rfl
           | false =>
            exact absurd (i10.2 (round5T h14)) gr_ft
          | false =>
           have h14 := gr_nf i14
           cases b11 with
           | true =>
            have h11 := i11.1 rfl
            cases b15 with
            | true =>
             have h15 := i15.1 rfl
             cases b16 with
             | true =>
              have h16 := i16.1 rfl
              exact fin _ (gr_107 b2 b4 b10 b13) rfl rfl
             | false =>
              exact absurd (i16.2 (gr_R7 h11)) gr_ft
            | false =>
             exact absurd (i15.2 (gr_R6 h11)) gr_ft
           | false =>
            have h11 := gr_nf i11
            exact fin _ (gr_108 b2 b4 b10 b13 b15 b16) rfl rfl
        | false =>
         have h9 := gr_nf i9
         cases b14 with
         | true =>
          have h14 := i14.1 rfl
          cases b10 with
          | true =>
           have h10 := i10.1 rfl
           cases b11 with
           | true =>
            have h11 := i11.1 rfl
            cases b15 with
            | true =>
             have h15 := i15.1 rfl
             cases b16 with
             | true =>
              have h16 := i16.1 rfl
              exact fin _ (gr_109 b2 b4 b12 b13) rfl rfl
             | false =>
              exact absurd (i16.2 (gr_R7 h11)) gr_ft
            | false =>
             exact absurd (i15.2 (gr_R6 h11)) gr_ft
           | false =>
            have h11 := gr_nf i11
            exact fin _ (gr_110 b2 b4 b12 b13 b15 b16) rfl rfl
          | false =>
           exact absurd (i10.2 (round5T h14)) gr_ft
         | false =>
          have h14 := gr_nf i14
          cases b11 with
          | true =>
           have h11 := i11.1 rfl
           cases b15 with
           | true =>
            have h15 := i15.1 rfl
            cases b16 with
            | true =>
             have h16 := i16.1 rfl
             exact fin _ (gr_111 b2 b4 b10 b12 b13) rfl rfl
            | false =>
             exact absurd (i16.2 (gr_R7 h11)) gr_ft
           | false =>
            exact absurd (i15.2 (gr_R6 h11)) gr_ft
          | false =>
           have h11 := gr_nf i11
           exact fin _ (gr_112 b2 b4 b10 b12 b13 b15 b16) rfl rfl
     | false =>
      have h7 := gr_nf i7
      cases b8 with
      | true =>
       have h8 := i8.1 rfl
       cases b9 with
       | true =>
        have h9 := i9.1 rfl
        cases b12 with
        | true =>
         have h12 := i12.1 rfl
         cases b13 with
         | true =>
          exact absurd (i13.1 rfl) (fun cc => h3 ((gr_R4 h9).2 ⟨h12, cc⟩).1)
         | false =>
          have h13 := gr_nf i13
          cases b14 with
          | true =>
           have h14 := i14.1 rfl
           cases b10 with
           | true =>
            have h10 := i10.1 rfl
            cases b11 with
            | true =>
             have h11 := i11.1 rfl
             cases b15 with
             | true =>
              have h15 := i15.1 rfl
              cases b16 with
              | true =>
               have h16 := i16.1 rfl
               exact fin _ (gr_113 b2 b4 b5) rfl rfl
              | false =>
               exact absurd (i16.2 (gr_R7 h11)) gr_ft
             | false =>
              exact absurd (i15.2 (gr_R6 h11)) gr_ft
            | false =>
             have h11 := gr_nf i11
             exact fin _ (gr_114 b2 b4 b5 b15 b16) rfl rfl
           | false =>
            exact absurd (i10.2 (round5T h14)) gr_ft
          | false =>
           have h14 := gr_nf i14
           cases b11 with
           | true =>
            have h11 := i11.1 rfl
            cases b15 with
            | true =>
             have h15 := i15.1 rfl
             cases b16 with
             | true =>
              have h16 := i16.1 rfl
              exact fin _ (gr_115 b2 b4 b5 b10) rfl rfl
             | false =>
              exact absurd (i16.2 (gr_R7 h11)) gr_ft
            | false =>
             exact absurd (i15.2 (gr_R6 h11)) gr_ft
           | false =>
            have h11 := gr_nf i11
            exact fin _ (gr_116 b2 b4 b5 b10 b15 b16) rfl rfl
        | false =>
         have h12 := gr_nf i12
         cases b14 with
         | true =>
          have h14 := i14.1 rfl
          cases b10 with
          | true =>
           have h10 := i10.1 rfl
           cases b11 with
           | true =>
            have h11 := i11.1 rfl
            cases b15 with
            | true =>
             have h15 := i15.1 rfl
             cases b16 with
             | true =>
              have h16 := i16.1 rfl
              exact fin _ (gr_117 b2 b4 b5 b13) rfl rfl
             | false =>
              exact absurd (i16.2 (gr_R7 h11)) gr_ft
            | false =>
             exact absurd (i15.2 (gr_R6 h11)) gr_ft
           | false =>
            have h11 := gr_nf i11
            exact fin _ (gr_118 b2 b4 b5 b13 b15 b16) rfl rfl
          | false =>
           exact absurd (i10.2 (round5T h14)) gr_ft
         | false =>
          have h14 := gr_nf i14
          cases b11 with
          | true =>
           have h11 := i11.1 rfl
           cases b15 with
           | true =>
            have h15 := i15.1 rfl
            cases b16 with
            | true =>
             have h16 := i16.1 rfl
             exact fin _ (gr_119 b2 b4 b5 b10 b13) rfl rfl
            | false =>
             exact absurd (i16.2 (gr_R7 h11)) gr_ft
           | false =>
            exact absurd (i15.2 (gr_R6 h11)) gr_ft
          | false =>
           have h11 := gr_nf i11
           exact fin _ (gr_120 b2 b4 b5 b10 b13 b15 b16) rfl rfl
       | false =>
        have h9 := gr_nf i9
        cases b14 with
        | true =>
         have h14 := i14.1 rfl
         cases b10 with
         | true =>
          have h10 := i10.1 rfl
          cases b11 with
          | true =>
           have h11 := i11.1 rfl
           cases b15 with
           | true =>
            have h15 := i15.1 rfl
            cases b16 with
            | true =>
             have h16 := i16.1 rfl
             exact fin _ (gr_121 b2 b4 b5 b12 b13) rfl rfl
            | false =>
             exact absurd (i16.2 (gr_R7 h11)) gr_ft
           | false =>
            exact absurd (i15.2 (gr_R6 h11)) gr_ft
          | false =>
           have h11 := gr_nf i11
           exact fin _ (gr_122 b2 b4 b5 b12 b13 b15 b16) rfl rfl
         | false =>
          exact absurd (i10.2 (round5T h14)) gr_ft
        | false =>
         have h14 := gr_nf i14
         cases b11 with
         | true =>
          have h11 := i11.1 rfl
          cases b15 with
          | true =>
           have h15 := i15.1 rfl
           cases b16 with
           | true =>
            have h16 := i16.1 rfl
            exact fin _ (gr_123 b2 b4 b5 b10 b12 b13) rfl rfl
           | false =>
            exact absurd (i16.2 (gr_R7 h11)) gr_ft
          | false =>
           exact absurd (i15.2 (gr_R6 h11)) gr_ft
         | false =>
          have h11 := gr_nf i11
          exact fin _ (gr_124 b2 b4 b5 b10 b12 b13 b15 b16) rfl rfl
      | false =>
       have h8 := gr_nf i8
       cases b9 with
       | true =>
        have h9 := i9.1 rfl
        cases b12 with
        | true =>
         have h12 := i12.1 rfl
         cases b13 with
         | true =>
          exact absurd (i13.1 rfl) (fun cc => h3 ((gr_R4 h9).2 ⟨h12, cc⟩).1)
         | false =>
          have h13 := gr_nf i13
          cases b14 with
          | true =>
           have h14 := i14.1 rfl
           cases b10 with
           | true =>
            have h10 := i10.1 rfl
            cases b11 with
            | true =>
             have h11 := i11.1 rfl
             cases b15 with
             | true =>
              have h15 := i15.1 rfl
              cases b16 with
              | true =>
               have h16 := i16.1 rfl
               exact fin _ (gr_125 b2 b4 b5) rfl rfl
              | false =>
               exact absurd (i16.2 (gr_R7 h11)) gr_ft
             | false =>
              exact absurd (i15.2 (gr_R6 h11)) gr_ft
            | false =>
             have h11 := gr_nf i11
             exact fin _ (gr_126 b2 b4 b5 b15 b16) rfl rfl
           | false =>
            exact absurd (i10.2 (round5T h14)) gr_ft
          | false =>
           have h14 := gr_nf i14
           cases b11 with
           | true =>
            have h11 := i11.1 rfl
            cases b15 with
            | true =>
             have h15 := i15.1 rfl
             cases b16 with
             | true =>
              have h16 := i16.1 rfl
              exact fin _ (gr_127 b2 b4 b5 b10) rfl rfl
             | false =>
              exact absurd (i16.2 (gr_R7 h11)) gr_ft
            | false =>
             exact absurd (i15.2 (gr_R6 h11)) gr_ft
           | false =>
            have h11 := gr_nf i11
            exact fin _ (gr_128 b2 b4 b5 b10 b15 b16) rfl rfl
        | false =>
         have h12 := gr_nf i12
         cases b14 with
         | true =>
          have h14 := i14.1 rfl
          cases b10 with
          | true =>
           have h10 := i10.1 rfl
           cases b11 with
           | true =>
            have h11 := i11.1 rfl
            cases b15 with
            | true =>
             have h15 := i15.1 rfl
             cases b16 with
             | true =>
              have h16 := i16.1 rfl
              exact fin _ (gr_129 b2 b4 b5 b13) rfl rfl
             | false =>
              exact absurd (i16.2 (gr_R7 h11)) gr_ft
            | false =>
             exact absurd (i15.2 (gr_R6 h11)) gr_ft
           | false =>
            have h11 := gr_nf i11
            exact fin _ (gr_130 b2 b4 b5 b13 b15 b16) rfl rfl
          | false =>
           exact absurd (i10.2 (round5T h14)) gr_ft
         | false =>
          have h14 := gr_nf i14
          cases b11 with
          | true =>
           have h11 := i11.1 rfl
           cases b15 with
           | true =>
            have h15 := i15.1 rfl
            cases b16 with
            | true =>
             have h16 := i16.1 rfl
             exact fin _ (gr_131 b2 b4 b5 b10 b13) rfl rfl
            | false =>
             exact absurd (i16.2 (gr_R7 h11)) gr_ft
           | false =>
            exact absurd (i15.2 (gr_R6 h11)) gr_ft
          | false =>
           have h11 := gr_nf i11
           exact fin _ (gr_132 b2 b4 b5 b10 b13 b15 b16) rfl rfl
       | false =>
        have h9 := gr_nf i9
        cases b14 with
        | true =>
         have h14 := i14.1 rfl
         cases b10 with
         | true =>
          have h10 := i10.1 rfl
          cases b11 with
          | true =>
           have h11 := i11.1 rfl
           cases b15 with
           | true =>
            have h15 := i15.1 rfl
            cases b16 with
            | true =>
             have h16 := i16.1 rfl
             exact fin _ (gr_133 b2 b4 b5 b12 b13) rfl rfl
            | false =>
             exact absurd (i16.2 (gr_R7 h11)) gr_ft
           | false =>
            exact absurd (i15.2 (gr_R6 h11)) gr_ft
          | false =>
           have h11 := gr_nf i11
           exact fin _ (gr_134 b2 b4 b5 b12 b13 b15 b16) rfl rfl
         | false =>
          exact absurd (i10.2 (round5T h14)) gr_ft
        | false =>
         have h14 := gr_nf i14
         cases b11 with
         | true =>
          have h11 := i11.1 rfl
          cases b15 with
          | true =>
           have h15 := i15.1 rfl
           cases b16 with
           | true =>
            have h16 := i16.1 rfl
            exact fin _ (gr_135 b2 b4 b5 b10 b12 b13) rfl rfl
           | false =>
            exact absurd (i16.2 (gr_R7 h11)) gr_ft
          | false =>
           exact absurd (i15.2 (gr_R6 h11)) gr_ft
         | false =>
          have h11 := gr_nf i11
          exact fin _ (gr_136 b2 b4 b5 b10 b12 b13 b15 b16) rfl rfl
   | false =>
    have h1 := gr_nf i1
    cases b7 with
    | true =>
     have h7 := i7.1 rfl
     cases b5 with
     | true =>
      have h5 := i5.1 rfl
      cases b8 with
      | true =>
       have h8 := i8.1 rfl
       cases b3 with
       | true =>
        exact absurd (i3.1 rfl) (fun cc => gr_R3 h8 cc h5)
       | false =>
        have h3 := gr_nf i3
        cases b9 with
        | true =>
         have h9 := i9.1 rfl
         cases b12 with
         | true =>
          have h12 := i12.1 rfl
          cases b13 with
          | true =>
           exact absurd (i13.1 rfl) (fun cc => h3 ((gr_R4 h9).2 ⟨h12, cc⟩).1)
          | false =>
           have h13 := gr_nf i13
           cases b14 with
           | true =>
            have h14 := i14.1 rfl
            cases b10 with
            | true =>
             have h10 := i10.1 rfl
             cases b11 with
             | true =>
              have h11 := i11.1 rfl
              cases b15 with
              | true =>
               have h15 := i15.1 rfl
               cases b16 with
               | true =>
                have h16 := i16.1 rfl
                exact fin _ (gr_137 b2 b4) rfl rfl
               | false =>
                exact absurd (i16.2 (gr_R7 h11)) gr_ft
              | false =>
               exact absurd (i15.2 (gr_R6 h11)) gr_ft
             | false =>
              have h11 := gr_nf i11
              exact fin _ (gr_138 b2 b4 b15 b16) rfl rfl
            | false =>
             exact absurd (i10.2 (round5T h14)) gr_ft
           | false =>
            have h14 := gr_nf i14
            cases b11 with
            | true =>
             have h11 := i11.1 rfl
             cases b15 with
             | true =>
              have h15 := i15.1 rfl
              cases b16 with
              | true =>
               have h16 := i16.1 rfl
               exact fin _ (gr_139 b2 b4 b10) rfl rfl
              | false =>
               exact absurd (i16.2 (gr_R7 h11)) gr_ft
             | false =>
              exact absurd (i15.2 (gr_R6 h11)) gr_ft
            | false =>
             have h11 := gr_nf i11
             exact fin _ (gr_140 b2 b4 b10 b15 b16) rfl rfl
         | false =>
          have h12 := gr_nf i12
          cases b14 with
          | true =>
           have h14 := i14.1 rfl
           cases b10 with
           | true =>
            have h10 := i10.1 rfl
            cases b11 with
            | true =>
             have h11 := i11.1 rfl
             cases b15 with
             | true =>
              have h15 := i15.1 rfl
              cases b16 with
              | true =>
               have h16 := i16.1 rfl
               exact fin _ (gr_141 b2 b4 b13) rfl rfl
              | false =>
               exact absurd (i16.2 (gr_R7 h11)) gr_ft
             | false =>
              exact absurd (i15.2 (gr_R6 h11)) gr_ft
            | false =>
             have h11 := gr_nf i11
             exact fin _ (gr_142 b2 b4 b13 b15 b16) rfl rfl
           | false =>
            exact absurd (i10.2 (round5T h14)) gr_ft
          | false =>
           have h14 := gr_nf i14
           cases b11 with
           | true =>
            have h11 := i11.1 rfl
            cases b15 with
            | true =>
             have h15 := i15.1 rfl
             cases b16 with
             | true =>
              have h16 := i16.1 rfl
              exact fin _ (gr_143 b2 b4 b10 b13) rfl rfl
             | false =>
              exact absurd (i16.2 (gr_R7 h11)) gr_ft
            | false =>
             exact absurd (i15.2 (gr_R6 h11)) gr_ft
           | false =>
            have h11 := gr_nf i11
            exact fin _ (gr_144 b2 b4 b10 b13 b15 b16) rfl rfl
        | false =>
         have h9 := gr_nf i9
         cases b14 with
         | true =>
          have h14 := i14.1 rfl
          cases b10 with
          | true =>
           have h10 := i10.1 rfl
           cases b11 with
           | true =>
            have h11 := i11.1 rfl
            cases b15 with
            | true =>
             have h15 := i15.1 rfl
             cases b16 with
             | true =>
              have h16 := i16.1 rfl
              exact fin _ (gr_145 b2 b4 b12 b13) rfl rfl
             | false =>
              exact absurd (i16.2 (gr_R7 h11)) gr_ft
            | false =>
             exact absurd (i15.2 (gr_R6 h11)) gr_ft
           | false =>
            have h11 := gr_nf i11
            exact fin _ (gr_146 b2 b4 b12 b13 b15 b16) rfl rfl
          | false =>
           exact absurd (i10.2 (round5T h14)) gr_ft
         | false =>
          have h14 := gr_nf i14
          cases b11 with
          | true =>
           have h11 := i11.1 rfl
           cases b15 with
           | true =>
            have h15 := i15.1 rfl
            cases b16 with
            | true =>
             have h16 := i16.1 rfl
             exact fin _ (gr_147 b2 b4 b10 b12 b13) rfl rfl
            | false =>
             exact absurd (i16.2 (gr_R7 h11)) gr_ft
           | false =>
            exact absurd (i15.2 (gr_R6 h11)) gr_ft
          | false =>
           have h11 := gr_nf i11
           exact fin _ (gr_148 b2 b4 b10 b12 b13 b15 b16) rfl rfl
      | false =>
       have h8 := gr_nf i8
       cases b9 with
       | true =>
        have h9 := i9.1 rfl
        cases b3 with
        | true =>
         have h3 := i3.1 rfl
         cases b12 with
         | true =>
          have h12 := i12.1 rfl
          cases b13 with
          | true =>
           have h13 := i13.1 rfl
           cases b4 with
           | true =>
            have h4 := i4.1 rfl
            cases b14 with
            | true =>
             have h14 := i14.1 rfl
             cases b10 with
             | true =>
              have h10 := i10.1 rfl
              cases b11 with
              | true =>
               have h11 := i11.1 rfl
               cases b15 with
               | true =>
                have h15 := i15.1 rfl
                cases b16 with
                | true =>
                 have h16 := i16.1 rfl
                 exact fin _ (gr_149 b2) rfl rfl
                | false =>
                 exact absurd (i16.2 (gr_R7 h11)) gr_ft
               | false =>
                exact absurd (i15.2 (gr_R6 h11)) gr_ft
              | false =>
               have h11 := gr_nf i11
               exact fin _ (gr_150 b2 b15 b16) rfl rfl
             | false =>
              exact absurd (i10.2 (round5T h14)) gr_ft
            | false =>
             have h14 := gr_nf i14
             cases b11 with
             | true =>
              have h11 := i11.1 rfl
              cases b15 with
              | true =>
               have h15 := i15.1 rfl
               cases b16 with
               | true =>
                have h16 := i16.1 rfl
                exact fin _ (gr_151 b2 b10) rfl rfl
               | false =>
                exact absurd (i16.2 (gr_R7 h11)) gr_ft
              | false =>
               exact absurd (i15.2 (gr_R6 h11)) gr_ft
             | false =>
              have h11 := gr_nf i11
              exact fin _ (gr_152 b2 b10 b15 b16) rfl rfl
           | false =>
            exact absurd (i4.2 (((gr_R4 h9).2 ⟨h12, h13⟩).2)) gr_ft
          | false =>
           have h13 := gr_nf i13
           cases b4 with
           | true =>
            exact absurd (i4.1 rfl) (fun cc => h13 ((gr_R4 h9).1 ⟨h3, cc⟩).2)
           | false =>
            have h4 := gr_nf i4
            cases b14 with
            | true =>
             have h14 := i14.1 rfl
             cases b10 with
             | true =>
              have h10 := i10.1 rfl
              cases b11 with
              | true =>
               have h11 := i11.1 rfl
               cases b15 with
               | true =>
                have h15 := i15.1 rfl
                cases b16 with
                | true =>
                 have h16 := i16.1 rfl
                 exact fin _ (gr_153 b2) rfl rfl
                | false =>
                 exact absurd (i16.2 (gr_R7 h11)) gr_ft
               | false =>
                exact absurd (i15.2 (gr_R6 h11)) gr_ft
              | false =>
               have h11 := gr_nf i11
               exact fin _ (gr_154 b2 b15 b16) rfl rfl
             | false =>
              exact absurd (i10.2 (round5T h14)) gr_ft
            | false =>
             have h14 := gr_nf i14
             cases b11 with
             | true =>
              have h11 := i11.1 rfl
              cases b15 with
              | true =>
               have h15 := i15.1 rfl
               cases b16 with
               | true =>
                have h16 := i16.1 rfl
                exact fin _ (gr_155 b2 b10) rfl rfl
               | false =>
                exact absurd (i16.2 (gr_R7 h11)) gr_ft
              | false =>
               exact absurd (i15.2 (gr_R6 h11)) gr_ft
             | false =>
              have h11 := gr_nf i11
              exact fin _ (gr_156 b2 b10 b15 b16) rfl rfl
         | false =>
          have h12 := gr_nf i12
          cases b4 with
          | true =>
           exact absurd (i4.1 rfl) (fun cc => h12 ((gr_R4 h9).1 ⟨h3, cc⟩).1)
          | false =>
           have h4 := gr_nf i4
           cases b14 with
           | true =>
            have h14 := i14.1 rfl
            cases b10 with
            | true =>
             have h10 := i10.1 rfl
             cases b11 with
             | true =>
              have h11 := i11.1 rfl
              cases b15 with
              | true =>
               have h15 := i15.1 rfl
               cases b16 with
               | true =>
                have h16 := i16.1 rfl
                exact fin _ (gr_157 b2 b13) rfl rfl
               | false =>
                exact absurd (i16.2 (gr_R7 h11)) gr_ft
              | false =>
               exact absurd (i15.2 (gr_R6 h11)) gr_ft
             | false =>
              have h11 := gr_nf i11
              exact fin _ (gr_158 b2 b13 b15 b16) rfl rfl
            | false =>
             exact absurd (i10.2 (round5T h14)) gr_ft
           | false =>
            have h14 := gr_nf i14
            cases b11 with
            | true =>
             have h11 := i11.1 rfl
             cases b15 with
             | true =>
              have h15 := i15.1 rfl
              cases b16 with
              | true =>
               have h16 := i16.1 rfl
               exact fin _ (gr_159 b2 b10 b13) rfl rfl
              | false =>
               exact absurd (i16.2 (gr_R7 h11)) gr_ft
             | false =>
              exact absurd (i15.2 (gr_R6 h11)) gr_ft
            | false =>
             have h11 := gr_nf i11
             exact fin _ (gr_160 b2 b10 b13 b15 b16) rfl rfl
        | false =>
         have h3 := gr_nf i3
         cases b12 with
         | true =>
          have h12 := i12.1 rfl
          cases b13 with
          | true =>
           exact absurd (i13.1 rfl) (fun cc => h3 ((gr_R4 h9).2 ⟨h12, cc⟩).1)
          | false =>
           have h13 := gr_nf i13
           cases b14 with
           | true =>
            have h14 := i14.1 rfl
            cases b10 with
            | true =>
             have h10 := i10.1 rfl
             cases b11 with
             | true =>
              have h11 := i11.1 rfl
              cases b15 with
              | true =>
               have h15 := i15.1 rfl
               cases b16 with
               | true =>
                have h16 := i16.1 rfl
                exact fin _ (gr_161 b2 b4) rfl rfl
               | false =>
                exact absurd (i16.2 (gr_R7 h11)) gr_ft
              | false =>
               exact absurd (i15.2 (gr_R6 h11)) gr_ft
             | false =>
              have h11 := gr_nf i11
              exact fin _ (gr_162 b2 b4 b15 b16) rfl rfl
            | false =>
             exact absurd (i10.2 (round5T h14)) gr_ft
           | false =>
            have h14 := gr_nf i14
            cases b11 with
            | true =>
             have h11 := i11.1 rfl
             cases b15 with
             | true =>
              have h15 := i15.1 rfl
              cases b16 with
              | true =>
               have h16 := i16.1 rfl
               exact fin _ (gr_163 b2 b4 b10) rfl rfl
              | false =>
               exact absurd (i16.2 (gr_R7 h11)) gr_ft
             | false =>
              exact absurd (i15.2 (gr_R6 h11)) gr_ft
            | false =>
             have h11 := gr_nf i11
             exact fin _ (gr_164 b2 b4 b10 b15 b16) rfl rfl
         | false =>
          have h12 := gr_nf i12
          cases b14 with
          | true =>
           have h14 := i14.1 rfl
           cases b10 with
           | true =>
            have h10 := i10.1 rfl
            cases b11 with
            | true =>
             have h11 := i11.1 rfl
             cases b15 with
             | true =>
              have h15 := i15.1 rfl
              cases b16 with
              | true =>
               have h16 := i16.1 rfl
               exact fin _ (gr_165 b2 b4 b13) rfl rfl
              | false =>
               exact absurd (i16.2 (gr_R7 h11)) gr_ft
             | false =>
              exact absurd (i15.2 (gr_R6 h11)) gr_ft
            | false =>
             have h11 := gr_nf i11
             exact fin _ (gr_166 b2 b4 b13 b15 b16) rfl rfl
           | false =>
            exact absurd (i10.2 (round5T h14)) gr_ft
          | false =>
           have h14 := gr_nf i14
           cases b11 with
           | true =>
            have h11 := i11.1 rfl
            cases b15 with
            | true =>
             have h15 := i15.1 rfl
             cases b16 with
             | true =>
              have h16 := i16.1 rfl
              exact fin _ (gr_167 b2 b4 b10 b13) rfl rfl
             | false =>
              exact absurd (i16.2 (gr_R7 h11)) gr_ft
            | false =>
             exact absurd (i15.2 (gr_R6 h11)) gr_ft
           | false =>
            have h11 := gr_nf i11
            exact fin _ (gr_168 b2 b4 b10 b13 b15 b16) rfl rfl
       | false =>
        have h9 := gr_nf i9
        cases b14 with
        | true =>
         have h14 := i14.1 rfl
         cases b10 with
         | true =>
          have h10 := i10.1 rfl
          cases b11 with
          | true =>
           have h11 := i11.1 rfl
           cases b15 with
           | true =>
            have h15 := i15.1 rfl
            cases b16 with
            | true =>
             have h16 := i16.1 rfl
             exact fin _ (gr_169 b2 b3 b4 b12 b13) rfl rfl
            | false =>
             exact absurd (i16.2 (gr_R7 h11)) gr_ft
           | false =>
            exact absurd (i15.2 (gr_R6 h11)) gr_ft
          | false =>
           have h11 := gr_nf i11
           exact fin _ (gr_170 b2 b3 b4 b12 b13 b15 b16) rfl rfl
         | false =>
          exact absurd (i10.2 (round5T h14)) gr_ft
        | false =>
         have h14 := gr_nf i14
         cases b11 with
         | true =>
          have h11 := i11.1 rfl
          cases b15 with
          | true =>
           have h15 := i15.1 rfl
           cases b16 with
           | true =>
            have h16 := i16.1 rfl
            exact fin _ (gr_171 b2 b3 b4 b10 b12 b13) rfl rfl
           | false =>
            exact absurd (i16.2 (gr_R7 h11)) gr_ft
          | false =>
           exact absurd (i15.2 (gr_R6 h11)) gr_ft
         | false =>
          have h11 := gr_nf i11
          exact fin _ (gr_172 b2 b3 b4 b10 b12 b13 b15 b16) rfl rfl
     | false =>
      have h5 := gr_nf i5
      cases b8 with
      | true =>
       have h8 := i8.1 rfl
       cases b3 with
       | true =>
        have h3 := i3.1 rfl
        cases b9 with
        | true =>
         have h9 := i9.1 rfl
         cases b12 with
         | true =>
          have h12 := i12.1 rfl
          cases b13 with
          | true =>
           have h13 := i13.1 rfl
           cases b4 with
           | true =>
            have h4 := i4.1 rfl
            cases b14 with
            | true =>
             have h14 := i14.1 rfl
             cases b10 with
             | true =>
              have h10 := i10.1 rfl
              cases b11 with
              | true =>
               have h11 := i11.1 rfl
               cases b15 with
               | true =>
                have h15 := i15.1 rfl
                cases b16 with
                | true =>
                 have h16 := i16.1 rfl
                 exact fin _ (gr_173 b2) rfl rfl
                | false =>
                 exact absurd (i16.2 (gr_R7 h11)) gr_ft
               | false =>
                exact absurd (i15.2 (gr_R6 h11)) gr_ft
              | false =>
               have h11 := gr_nf i11
               exact fin _ (gr_174 b2 b15 b16) rfl rfl
             | false =>
              exact absurd (i10.2 (round5T h14)) gr_ft
            | false =>
             have h14 := gr_nf i14
             cases b11 with
             | true =>
              have h11 := i11.1 rfl
              cases b15 with
              | true =>
               have h15 := i15.1 rfl
               cases b16 with
               | true =>
                have h16 := i16.1 rfl
                exact fin _ (gr_175 b2 b10) rfl rfl
               | false =>
                exact absurd (i16.2 (gr_R7 h11)) gr_ft
              | false =>
               exact absurd (i15.2 (gr_R6 h11)) gr_ft
             | false =>
              have h11 := gr_nf i11
              exact fin _ (gr_176 b2 b10 b15 b16) rfl rfl
           | false =>
            exact absurd (i4.2 (((gr_R4 h9).2 ⟨h12, h13⟩).2)) gr_ft
          | false =>
           have h13 := gr_nf i13
           cases b4 with
           | true =>
            exact absurd (i4.1 rfl) (fun cc => h13 ((gr_R4 h9).1 ⟨h3, cc⟩).2)
           | false =>
            have h4 := gr_nf i4
            cases b14 with
            | true =>
             have h14 := i14.1 rfl
             cases b10 with
             | true =>
              have h10 := i10.1 rfl
              cases b11 with
              | true =>
               have h11 := i11.1 rfl
               cases b15 with
               | true =>
                have h15 := i15.1 rfl
                cases b16 with
                | true =>
                 have h16 := i16.1 rfl
                 exact fin _ (gr_177 b2) rfl rfl
                | false =>
                 exact absurd (i16.2 (gr_R7 h11)) gr_ft
               | false =>
                exact absurd (i15.2 (gr_R6 h11)) gr_ft
              | false =>
               have h11 := gr_nf i11
               exact fin _ (gr_178 b2 b15 b16) rfl rfl
             | false =>
              exact absurd (i10.2 (round5T h14)) gr_ft
            | false =>
             have h14 := gr_nf i14
             cases b11 with
             | true =>
              have h11 := i11.1 rfl
              cases b15 with
              | true =>
               have h15 := i15.1 rfl
               cases b16 with
               | true =>
                have h16 := i16.1 rfl
                exact fin _ (gr_179 b2 b10) rfl rfl
               | false =>
                exact absurd (i16.2 (gr_R7 h11)) gr_ft
              | false =>
               exact absurd (i15.2 (gr_R6 h11)) gr_ft
             | false =>
              have h11 := gr_nf i11
              exact fin _ (gr_180 b2 b10 b15 b16) rfl rfl
         | false =>
          have h12 := gr_nf i12
          cases b4 with
          | true =>
           exact absurd (i4.1 rfl) (fun cc => h12 ((gr_R4 h9).1 ⟨h3, cc⟩).1)
          | false =>
           have h4 := gr_nf i4
           cases b14 with
           | true =>
            have h14 := i14.1 rfl
            cases b10 with
            | true =>
             have h10 := i10.1 rfl
             cases b11 with
             | true =>
              have h11 := i11.1 rfl
              cases b15 with
              | true =>
               have h15 := i15.1 rfl
               cases b16 with
               | true =>
                have h16 := i16.1 rfl
                exact fin _ (gr_181 b2 b13) rfl rfl
               | false =>
                exact absurd (i16.2 (gr_R7 h11)) gr_ft
              | false =>
               exact absurd (i15.2 (gr_R6 h11)) gr_ft
             | false =>
              have h11 := gr_nf i11
              exact fin _ (gr_182 b2 b13 b15 b16) rfl rfl
            | false =>
             exact absurd (i10.2 (round5T h14)) gr_ft
           | false =>
            have h14 := gr_nf i14
            cases b11 with
            | true =>
             have h11 := i11.1 rfl
             cases b15 with
             | true =>
              have h15 := i15.1 rfl
              cases b16 with
              | true =>
               have h16 := i16.1 rfl
               exact fin _ (gr_183 b2 b10 b13) rfl rfl
              | false =>
               exact absurd (i16.2 (gr_R7 h11)) gr_ft
             | false =>
              exact absurd (i15.2 (gr_R6 h11)) gr_ft
            | false =>
             have h11 := gr_nf i11
             exact fin _ (gr_184 b2 b10 b13 b15 b16) rfl rfl
        | false =>
         have h9 := gr_nf i9
         cases b14 with
         | true =>
          have h14 := i14.1 rfl
          cases b10 with
          | true =>
           have h10 := i10.1 rfl
           cases b11 with
           | true =>
            have h11 := i11.1 rfl
            cases b15 with
            | true =>
             have h15 := i15.1 rfl
             cases b16 with
             | true =>
              have h16 := i16.1 rfl
              exact fin _ (gr_185 b2 b4 b12 b13) rfl rfl
             | false =>
              exact absurd (i16.2 (gr_R7 h11)) gr_ft
            | false =>
             exact absurd (i15.2 (gr_R6 h11)) gr_ft
           | false =>
            have h11 := gr_nf i11
            exact fin _ (gr_186 b2 b4 b12 b13 b15 b16) rfl rfl
          | false =>
           exact absurd (i10.2 (round5T h14)) gr_ft
         | false =>
          have h14 := gr_nf i14
          cases b11 with
          | true =>
           have h11 := i11.1 rfl
           cases b15 with
           | true =>
            have h15 := i15.1 rfl
            cases b16 with
            | true =>
             have h16 := i16.1 rfl
             exact fin _ (gr_187 b2 b4 b10 b12 b13) rfl rfl
            | false =>
             exact absurd (i16.2 (gr_R7 h11)) gr_ft
           | false =>
            exact absurd (i15.2 (gr_R6 h11)) gr_ft
          | false =>
           have h11 := gr_nf i11
           exact fin _ (gr_188 b2 b4 b10 b12 b13 b15 b16) rfl rfl
       | false =>
        have h3 := gr_nf i3
        cases b9 with
        | true =>
         have h9 := i9.1 rfl
         cases b12 with
         | true =>
          have h12 := i12.1 rfl
          cases b13 with
          | true =>
           exact absurd (i13.1 rfl) (fun cc => h3 ((gr_R4 h9).2 ⟨h12, cc⟩).1)
          | false =>
           have h13 := gr_nf i13
           cases b14 with
           | true =>
            have h14 := i14.1 rfl
            cases b10 with
            | true =>
             have h10 := i10.1 rfl
             cases b11 with
             | true =>
              have h11 := i11.1 rfl
              cases b15 with
              | true =>
               have h15 := i15.1 rfl
               cases b16 with
               | true =>
                have h16 := i16.1 rfl
                exact fin _ (gr_189 b2 b4) rfl rfl
               | false =>
                exact absurd (i16.2 (gr_R7 h11)) gr_ft
              | false =>
               exact absurd (i15.2 (gr_R6 h11)) gr_ft
             | false =>
              have h11 := gr_nf i11
              exact fin _ (gr_190 b2 b4 b15 b16) rfl rfl
            | false =>
             exact absurd (i10.2 (round5T h14)) gr_ft
           | false =>
            have h14 := gr_nf i14
            cases b11 with
            | true =>
             have h11 := i11.1 rfl
             cases b15 with
             | true =>
              have h15 := i15.1 rfl
              cases b16 with
              | true =>
               have h16 := i16.1 rfl
               exact fin _ (gr_191 b2 b4 b10) rfl rfl
              | false =>
               exact absurd (i16.2 (gr_R7 h11)) gr_ft
             | false =>
              exact absurd (i15.2 (gr_R6 h11)) gr_ft
            | false =>
             have h11 := gr_nf i11
             exact fin _ (gr_192 b2 b4 b10 b15 b16) rfl rfl
         | false =>
          have h12 := gr_nf i12
          cases b14 with
          | true =>
           have h14 := i14.1 rfl
           cases b10 with
           | true =>
            have h10 := i10.1 rfl
            cases b11 with
            | true =>
             have h11 := i11.1 rfl
             cases b15 with
             | true =>
              have h15 := i15.1 rfl
              cases b16 with
              | true =>
               have h16 := i16.1 rfl
               exact fin _ (gr_193 b2 b4 b13) rfl rfl
              | false =>
               exact absurd (i16.2 (gr_R7 h11)) gr_ft
             | false =>
              exact absurd (i15.2 (gr_R6 h11)) gr_ft
            | false =>
             have h11 := gr_nf i11
             exact fin _ (gr_194 b2 b4 b13 b15 b16) rfl rfl
           | false =>
            exact absurd (i10.2 (round5T h14)) gr_ft
          | false =>
           have h14 := gr_nf i14
           cases b11 with
           | true =>
            have h11 := i11.1 rfl
            cases b15 with
            | true =>
             have h15 := i15.1 rfl
             cases b16 with
             | true =>
              have h16 := i16.1 rfl
              exact fin _ (gr_195 b2 b4 b10 b13) rfl rfl
             | false =>
              exact absurd (i16.2 (gr_R7 h11)) gr_ft
            | false =>
             exact absurd (i15.2 (gr_R6 h11)) gr_ft
           | false =>
            have h11 := gr_nf i11
            exact fin _ (gr_196 b2 b4 b10 b13 b15 b16) rfl rfl
        | false =>
         have h9 := gr_nf i9
         cases b14 with
         | true =>
          have h14 := i14.1 rfl
          cases b10 with
          | true =>
           have h10 := i10.1 rfl
           cases b11 with
           | true =>
            have h11 := i11.1 rfl
            cases b15 with
            | true =>
             have h15 := i15.1 rfl
             cases b16 with
             | true =>
              have h16 := i16.1 rfl
              exact fin _ (gr_197 b2 b4 b12 b13) rfl rfl
             | false =>
              exact absurd (i16.2 (gr_R7 h11)) gr_ft
            | false =>
             exact absurd (i15.2 (gr_R6 h11)) gr_ft
           | false =>
            have h11 := gr_nf i11
            exact fin _ (gr_198 b2 b4 b12 b13 b15 b16) rfl rfl
          | false =>
           exact absurd (i10.2 (round5T h14)) gr_ft
         | false =>
          have h14 := gr_nf i14
          cases b11 with
          | true =>
           have h11 := i11.1 rfl
           cases b15 with
           | true =>
            have h15 := i15.1 rfl
            cases b16 with
            | true =>
             have h16 := i16.1 rfl
             exact fin _ (gr_199 b2 b4 b10 b12 b13) rfl rfl
            | false =>
             exact absurd (i16.2 (gr_R7 h11)) gr_ft
           | false =>
            exact absurd (i15.2 (gr_R6 h11)) gr_ft
          | false =>
           have h11 := gr_nf i11
           exact fin _ (gr_200 b2 b4 b10 b12 b13 b15 b16) rfl rfl
      | false =>
       have h8 := gr_nf i8
       cases b9 with
       | true =>
        have h9 := i9.1 rfl
        cases b3 with
        | true =>
         have h3 := i3.1 rfl
         cases b12 with
         | true =>
          have h12 := i12.1 rfl
          cases b13 with
          | true =>
           have h13 := i13.1 rfl
           cases b4 with
           | true =>
            have h4 := i4.1 rfl
            cases b14 with
            | true =>
             have h14 := i14.1 rfl
             cases b10 with
             | true =>
              have h10 := i10.1 rfl
              cases b11 with
              | true =>
               have h11 := i11.1 rfl
               cases b15 with
               | true =>
                have h15 := i15.1 rfl
                cases b16 with
                | true =>
                 have h16 := i16.1 rfl
                 exact fin _ (gr_201 b2) rfl rfl
                | false =>
                 exact absurd (i16.2 (gr_R7 h11)) gr_ft
               | false =>
                exact absurd (i15.2 (gr_R6 h11)) gr_ft
              | false =>
               have h11 := gr_nf i11
               exact fin _ (gr_202 b2 b15 b16) rfl rfl
             | false =>
              exact absurd (i10.2 (round5T h14)) gr_ft
            | false =>
             have h14 := gr_nf i14
             cases b11 with
             | true =>
              have h11 := i11.1 rfl
              cases b15 with
              | true =>
               have h15 := i15.1 rfl
               cases b16 with
               | true =>
                have h16 := i16.1 rfl
                exact fin _ (gr_203 b2 b10) rfl rfl
               | false =>
                exact absurd (i16.2 (gr_R7 h11)) gr_ft
              | false =>
               exact absurd (i15.2 (gr_R6 h11)) gr_ft
             | false =>
              have h11 := gr_nf i11
              exact fin _ (gr_204 b2 b10 b15 b16) rfl rfl
           | false =>
            exact absurd (i4.2 (((gr_R4 h9).2 ⟨h12, h13⟩).2)) gr_ft
          | false =>
           have h13 := gr_nf i13
           cases b4 with
           | true =>
            exact absurd (i4.1 rfl) (fun cc => h13 ((gr_R4 h9).1 ⟨h3, cc⟩).2)
           | false =>
            have h4 := gr_nf i4
            cases b14 with
            | true =>
             have h14 := i14.1 rfl
             cases b10 with
             | true =>
              have h10 := i10.1 rfl
              cases b11 with
              | true =>
               have h11 := i11.1 rfl
               cases b15 with
               | true =>
                have h15 := i15.1 rfl
                cases b16 with
                | true =>
                 have h16 := i16.1 rfl
                 exact fin _ (gr_205 b2) rfl rfl
                | false =>
                 exact absurd (i16.2 (gr_R7 h11)) gr_ft
               | false =>
                exact absurd (i15.2 (gr_R6 h11)) gr_ft
              | false =>
               have h11 := gr_nf i11
               exact fin _ (gr_206 b2 b15 b16) rfl rfl
             | false =>
              exact absurd (i10.2 (round5T h14)) gr_ft
            | false =>
             have h14 := gr_nf i14
             cases b11 with
             | true =>
              have h11 := i11.1 rfl
              cases b15 with
              | true =>
               have h15 := i15.1 rfl
               cases b16 with
               | true =>
                have h16 := i16.1 rfl
                exact fin _ (gr_207 b2 b10) rfl rfl
               | false =>
                exact absurd (i16.2 (gr_R7 h11)) gr_ft
              | false =>
               exact absurd (i15.2 (gr_R6 h11)) gr_ft
             | false =>
              have h11 := gr_nf i11
              exact fin _ (gr_208 b2 b10 b15 b16) rfl rfl
         | false =>
          have h12 := gr_nf i12
          cases b4 with
          | true =>
           exact absurd (i4.1 rfl) (fun cc => h12 ((gr_R4 h9).1 ⟨h3, cc⟩).1)
          | false =>
           have h4 := gr_nf i4
           cases b14 with
           | true =>
            have h14 := i14.1 rfl
            cases b10 with
            | true =>
             have h10 := i10.1 rfl
             cases b11 with
             | true =>
              have h11 := i11.1 rfl
              cases b15 with
              | true =>
               have h15 := i15.1 rfl
               cases b16 with
               | true =>
                have h16 := i16.1 rfl
                exact fin _ (gr_209 b2 b13) rfl rfl
               | false =>
                exact absurd (i16.2 (gr_R7 h11)) gr_ft
              | false =>
               exact absurd (i15.2 (gr_R6 h11)) gr_ft
             | false =>
              have h11 := gr_nf i11
              exact fin _ (gr_210 b2 b13 b15 b16) rfl rfl
            | false =>
             exact absurd (i10.2 (round5T h14)) gr_ft
           | false =>
            have h14 := gr_nf i14
            cases b11 with
            | true =>
             have h11 := i11.1 rfl
             cases b15 with
             | true =>
              have h15 := i15.1 rfl
              cases b16 with
              | true =>
               have h16 := i16.1 rfl
               exact fin _ (gr_211 b2 b10 b13) rfl rfl
              | false =>
               exact absurd (i16.2 (gr_R7 h11)) gr_ft
             | false =>
              exact absurd (i15.2 (gr_R6 h11)) gr_ft
            | false =>
             have h11 := gr_nf i11
             exact fin _ (gr_212 b2 b10 b13 b15 b16) rfl rfl
        | false =>
         have h3 := gr_nf i3
         cases b12 with
         | true =>
          have h12 := i12.1 rfl
          cases b13 with
          | true =>
           exact absurd (i13.1 rfl) (fun cc => h3 ((gr_R4 h9).2 ⟨h12, cc⟩).1)
          | false =>
           have h13 := gr_nf i13
           cases b14 with
           | true =>
            have h14 := i14.1 rfl
            cases b10 with
            | true =>
             have h10 := i10.1 rfl
             cases b11 with
             | true =>
              have h11 := i11.1 rfl
              cases b15 with
              | true =>
               have h15 := i15.1 rfl
               cases b16 with
               | true =>
                have h16 := i16.1 rfl
                exact fin _ (gr_213 b2 b4) rfl rfl
               | false =>
                exact absurd (i16.2 (gr_R7 h11)) gr_ft
              | false =>
               exact absurd (i15.2 (gr_R6 h11)) gr_ft
             | false =>
              have h11 := gr_nf i11
              exact fin _ (gr_214 b2 b4 b15 b16) rfl rfl
            | false =>
             exact absurd (i10.2 (round5T h14)) gr_ft
           | false =>
            have h14 := gr_nf i14
            cases b11 with
            | true =>
             have h11 := i11.1 rfl
             cases b15 with
             | true =>
              have h15 := i15.1 rfl
              cases b16 with
              | true =>
               have h16 := i16.1 rfl
               exact fin _ (gr_215 b2 b4 b10) rfl rfl
              | false =>
               exact absurd (i16.2 (gr_R7 h11)) gr_ft
             | false =>
              exact absurd (i15.2 (gr_R6 h11)) gr_ft
            | false =>
             have h11 := gr_nf i11
             exact fin _ (gr_216 b2 b4 b10 b15 b16) rfl rfl
         | false =>
          have h12 := gr_nf i12
          cases b14 with
          | true =>
           have h14 := i14.1 rfl
           cases b10 with
           | true =>
            have h10 := i10.1 rfl
            cases b11 with
            | true =>
             have h11 := i11.1 rfl
             cases b15 with
             | true =>
              have h15 := i15.1 rfl
              cases b16 with
              | true =>
               have h16 := i16.1 rfl
               exact fin _ (gr_217 b2 b4 b13) rfl rfl
              | false =>
               exact absurd (i16.2 (gr_R7 h11)) gr_ft
             | false =>
              exact absurd (i15.2 (gr_R6 h11)) gr_ft
            | false =>
             have h11 := gr_nf i11
             exact fin _ (gr_218 b2 b4 b13 b15 b16) rfl rfl
           | false =>
            exact absurd (i10.2 (round5T h14)) gr_ft
          | false =>
           have h14 := gr_nf i14
           cases b11 with
           | true =>
            have h11 := i11.1 rfl
            cases b15 with
            | true =>
             have h15 := i15.1 rfl
             cases b16 with
             | true =>
              have h16 := i16.1 rfl
              exact fin _ (gr_219 b2 b4 b10 b13) rfl rfl
             | false =>
              exact absurd (i16.2 (gr_R7 h11)) gr_ft
            | false =>
             exact absurd (i15.2 (gr_R6 h11)) gr_ft
           | false =>
            have h11 := gr_nf i11
            exact fin _ (gr_220 b2 b4 b10 b13 b15 b16) rfl rfl
       | false =>
        have h9 := gr_nf i9
        cases b14 with
        | true =>
         have h14 := i14.1 rfl
         cases b10 with
         | true =>
          have h10 := i10.1 rfl
          cases b11 with
          | true =>
           have h11 := i11.1 rfl
           cases b15 with
           | true =>
            have h15 := i15.1 rfl
            cases b16 with
            | true =>
             have h16 := i16.1 rfl
             exact fin _ (gr_221 b2 b3 b4 b12 b13) rfl rfl
            | false =>
             exact absurd (i16.2 (gr_R7 h11)) gr_ft
           | false =>
            exact absurd (i15.2 (gr_R6 h11)) gr_ft
          | false =>
           have h11 := gr_nf i11
           exact fin _ (gr_222 b2 b3 b4 b12 b13 b15 b16) rfl rfl
         | false =>
          exact absurd (i10.2 (round5T h14)) gr_ft
        | false =>
         have h14 := gr_nf i14
         cases b11 with
         | true =>
          have h11 := i11.1 rfl
          cases b15 with
          | true =>
           have h15 := i15.1 rfl
           cases b16 with
           | true =>
            have h16 := i16.1 rfl
            exact fin _ (gr_223 b2 b3 b4 b10 b12 b13) rfl rfl
           | false =>
            exact absurd (i16.2 (gr_R7 h11)) gr_ft
          | false =>
           exact absurd (i15.2 (gr_R6 h11)) gr_ft
         | false =>
          have h11 := gr_nf i11
          exact fin _ (gr_224 b2 b3 b4 b10 b12 b13 b15 b16) rfl rfl
    | false =>
     have h7 := gr_nf i7
     cases b8 with
     | true =>
      have h8 := i8.1 rfl
      cases b3 with
      | true =>
       have h3 := i3.1 rfl
       cases b5 with
       | true =>
        exact absurd (i5.1 rfl) (gr_R3 h8 h3)
       | false =>
        have h5 := gr_nf i5
        cases b9 with
        | true =>
         have h9 := i9.1 rfl
         cases b12 with
         | true =>
          have h12 := i12.1 rfl
          cases b13 with
          | true =>
           have h13 := i13.1 rfl
           cases b4 with
           | true =>
            have h4 := i4.1 rfl
            cases b14 with
            | true =>
             have h14 := i14.1 rfl
             cases b10 with
             | true =>
              have h10 := i10.1 rfl
              cases b11 with
              | true =>
               have h11 := i11.1 rfl
               cases b15 with
               | true =>
                have h15 := i15.1 rfl
                cases b16 with
                | true =>
                 have h16 := i16.1 rfl
                 exact fin _ (gr_225 b2) rfl rfl
                | false =>
                 exact absurd (i16.2 (gr_R7 h11)) gr_ft
               | false =>
                exact absurd (i15.2 (gr_R6 h11)) gr_ft
              | false =>
               have h11 := gr_nf i11
               exact fin _ (gr_226 b2 b15 b16) rfl rfl
             | false =>
              exact absurd (i10.2 (round5T h14)) gr_ft
            | false =>
             have h14 := gr_nf i14
             cases b11 with
             | true =>
              have h11 := i11.1 rfl
              cases b15 with
              | true =>
               have h15 := i15.1 rfl
               cases b16 with
               | true =>
                have h16 := i16.1 rfl
                exact fin _ (gr_227 b2 b10) rfl rfl
               | false =>
                exact absurd (i16.2 (gr_R7 h11)) gr_ft
              | false =>
               exact absurd (i15.2 (gr_R6 h11)) gr_ft
             | false =>
              have h11 := gr_nf i11
              exact fin _ (gr_228 b2 b10 b15 b16) rfl rfl
           | false =>
            exact absurd (i4.2 (((gr_R4 h9).2 ⟨h12, h13⟩).2)) gr_ft
          | false =>
           have h13 := gr_nf i13
           cases b4 with
           | true =>
            exact absurd (i4.1 rfl) (fun cc => h13 ((gr_R4 h9).1 ⟨h3, cc⟩).2)
           | false =>
            have h4 := gr_nf i4
            cases b14 with
            | true =>
             have h14 := i14.1 rfl
             cases b10 with
             | true =>
              have h10 := i10.1 rfl
              cases b11 with
              | true =>
               have h11 := i11.1 rfl
               cases b15 with
               | true =>
                have h15 := i15.1 rfl
                cases b16 with
                | true =>
                 have h16 := i16.1 rfl
                 exact fin _ (gr_229 b2) rfl rfl
                | false =>
                 exact absurd (i16.2 (gr_R7 h11)) gr_ft
               | false =>
                exact absurd (i15.2 (gr_R6 h11)) gr_ft
              | false =>
               have h11 := gr_nf i11
               exact fin _ (gr_230 b2 b15 b16) rfl rfl
             | false =>
              exact absurd (i10.2 (round5T h14)) gr_ft
            | false =>
             have h14 := gr_nf i14
             cases b11 with
             | true =>
              have h11 := i11.1 rfl
              cases b15 with
              | true =>
               have h15 := i15.1 rfl
               cases b16 with
               | true =>
                have h16 := i16.1 rfl
                exact fin _ (gr_231 b2 b10) rfl rfl
               | false =>
                exact absurd (i16.2 (gr_R7 h11)) gr_ft
              | false =>
               exact absurd (i15.2 (gr_R6 h11)) gr_ft
             | false =>
              have h11 := gr_nf i11
              exact fin _ (gr_232 b2 b10 b15 b16) rfl rfl
         | false =>
          have h12 := gr_nf i12
          cases b4 with
          | true =>
           exact absurd (i4.1 rfl) (fun cc => h12 ((gr_R4 h9).1 ⟨h3, cc⟩).1)
          | false =>
           have h4 := gr_nf i4
           cases b14 with
           | true =>
            have h14 := i14.1 rfl
            cases b10 with
            | true =>
             have h10 := i10.1 rfl
             cases b11 with
             | true =>
              have h11 := i11.1 rfl
              cases b15 with
              | true =>
               have h15 := i15.1 rfl
               cases b16 with
               | true =>
                have h16 := i16.1 rfl
                exact fin _ (gr_233 b2 b13) rfl rfl
               | false =>
                exact absurd (i16.2 (gr_R7 h11)) gr_ft
              | false =>
               exact absurd (i15.2 (gr_R6 h11)) gr_ft
             | false =>
              have h11 := gr_nf i11
              exact fin _ (gr_234 b2 b13 b15 b16) rfl rfl
            | false =>
             exact absurd (i10.2 (round5T h14)) gr_ft
           | false =>
            have h14 := gr_nf i14
            cases b11 with
            | true =>
             have h11 := i11.1 rfl
             cases b15 with
             | true =>
              have h15 := i15.1 rfl
              cases b16 with
              | true =>
               have h16 := i16.1 rfl
               exact fin _ (gr_235 b2 b10 b13) rfl rfl
              | false =>
               exact absurd (i16.2 (gr_R7 h11)) gr_ft
             | false =>
              exact absurd (i15.2 (gr_R6 h11)) gr_ft
            | false =>
             have h11 := gr_nf i11
             exact fin _ (gr_236 b2 b10 b13 b15 b16) rfl rfl
        | false =>
         have h9 := gr_nf i9
         cases b14 with
         | true =>
          have h14 := i14.1 rfl
          cases b10 with
          | true =>
           have h10 := i10.1 rfl
           cases b11 with
           | true =>
            have h11 := i11.1 rfl
            cases b15 with
            | true =>
             have h15 := i15.1 rfl
             cases b16 with
             | true =>
              have h16 := i16.1 rfl
              exact fin _ (gr_237 b2 b4 b12 b13) rfl rfl
             | false =>
              exact absurd (i16.2 (gr_R7 h11)) gr_ft
            | false =>
             exact absurd (i15.2 (gr_R6 h11)) gr_ft
           | false =>
            have h11 := gr_nf i11
            exact fin _ (gr_238 b2 b4 b12 b13 b15 b16) rfl rfl
          | false =>
           exact absurd (i10.2 (round5T h14)) gr_ft
         | false =>
          have h14 := gr_nf i14
          cases b11 with
          | true =>
           have h11 := i11.1 rfl
           cases b15 with
           | true =>
            have h15 := i15.1 rfl
            cases b16 with
            | true =>
             have h16 := i16.1 rfl
             exact fin _ (gr_239 b2 b4 b10 b12 b13) rfl rfl
            | false =>
             exact absurd (i16.2 (gr_R7 h11)) gr_ft
           | false =>
            exact absurd (i15.2 (gr_R6 h11)) gr_ft
          | false =>
           have h11 := gr_nf i11
           exact fin _ (gr_240 b2 b4 b10 b12 b13 b15 b16) rfl rfl
      | false =>
       have h3 := gr_nf i3
       cases b9 with
       | true =>
        have h9 := i9.1 rfl
        cases b12 with
        | true =>
         have h12 := i12.1 rfl
         cases b13 with
         | true =>
          exact absurd (i13.1 rfl) (fun cc => h3 ((gr_R4 h9).2 ⟨h12, cc⟩).1)
         | false =>
          have h13 := gr_nf i13
          cases b14 with
          | true =>
           have h14 := i14.1 rfl
           cases b10 with
           | true =>
            have h10 := i10.1 rfl
            cases b11 with
            | true =>
             have h11 := i11.1 rfl
             cases b15 with
             | true =>
              have h15 := i15.1 rfl
              cases b16 with
              | true =>
               have h16 := i16.1 rfl
               exact fin _ (gr_241 b2 b4 b5) rfl rfl
              | false =>
               exact absurd (i16.2 (gr_R7 h11)) gr_ft
             | false =>
              exact absurd (i15.2 (gr_R6 h11)) gr_ft
            | false =>
             have h11 := gr_nf i11
             exact fin _ (gr_242 b2 b4 b5 b15 b16) rfl rfl
           | false =>
            exact absurd (i10.2 (round5T h14)) gr_ft
          | false =>
           have h14 := gr_nf i14
           cases b11 with
           | true =>
            have h11 := i11.1 rfl
            cases b15 with
            | true =>
             have h15 := i15.1 rfl
             cases b16 with
             | true =>
              have h16 := i16.1 rfl
              exact fin _ (gr_243 b2 b4 b5 b10) rfl rfl
             | false =>
              exact absurd (i16.2 (gr_R7 h11)) gr_ft
            | false =>
             exact absurd (i15.2 (gr_R6 h11)) gr_ft
           | false =>
            have h11 := gr_nf i11
            exact fin _ (gr_244 b2 b4 b5 b10 b15 b16) rfl rfl
        | false =>
         have h12 := gr_nf i12
         cases b14 with
         | true =>
          have h14 := i14.1 rfl
          cases b10 with
          | true =>
           have h10 := i10.1 rfl
           cases b11 with
           | true =>
            have h11 := i11.1 rfl
            cases b15 with
            | true =>
             have h15 := i15.1 rfl
             cases b16 with
             | true =>
              have h16 := i16.1 rfl
              exact fin _ (gr_245 b2 b4 b5 b13) rfl rfl
             | false =>
              exact absurd (i16.2 (gr_R7 h11)) gr_ft
            | false =>
             exact absurd (i15.2 (gr_R6 h11)) gr_ft
           | false =>
            have h11 := gr_nf i11
            exact fin _ (gr_246 b2 b4 b5 b13 b15 b16) rfl rfl
          | false =>
           exact absurd (i10.2 (round5T h14)) gr_ft
         | false =>
          have h14 := gr_nf i14
          cases b11 with
          | true =>
           have h11 := i11.1 rfl
           cases b15 with
           | true =>
            have h15 := i15.1 rfl
            cases b16 with
            | true =>
             have h16 := i16.1 rfl
             exact fin _ (gr_247 b2 b4 b5 b10 b13) rfl rfl
            | false =>
             exact absurd (i16.2 (gr_R7 h11)) gr_ft
           | false =>
            exact absurd (i15.2 (gr_R6 h11)) gr_ft
          | false =>
           have h11 := gr_nf i11
           exact fin _ (gr_248 b2 b4 b5 b10 b13 b15 b16) rfl rfl
       | false =>
        have h9 := gr_nf i9
        cases b14 with
        | true =>
         have h14 := i14.1 rfl
         cases b10 with
         | true =>
          have h10 := i10.1 rfl
          cases b11 with
          | true =>
           have h11 := i11.1 rfl
           cases b15 with
           | true =>
            have h15 := i15.1 rfl
            cases b16 with
            | true =>
             have h16 := i16.1 rfl
             exact fin _ (gr_249 b2 b4 b5 b12 b13) rfl rfl
            | false =>
             exact absurd (i16.2 (gr_R7 h11)) gr_ft
           | false =>
            exact absurd (i15.2 (gr_R6 h11)) gr_ft
          | false =>
           have h11 := gr_nf i11
           exact fin _ (gr_250 b2 b4 b5 b12 b13 b15 b16) rfl rfl
         | false =>
          exact absurd (i10.2 (round5T h14)) gr_ft
        | false =>
         have h14 := gr_nf i14
         cases b11 with
         | true =>
          have h11 := i11.1 rfl
          cases b15 with
          | true =>
           have h15 := i15.1 rfl
           cases b16 with
           | true =>
            have h16 := i16.1 rfl
            exact fin _ (gr_251 b2 b4 b5 b10 b12 b13) rfl rfl
           | false =>
            exact absurd (i16.2 (gr_R7 h11)) gr_ft
          | false =>
           exact absurd (i15.2 (gr_R6 h11)) gr_ft
         | false =>
          have h11 := gr_nf i11
          exact fin _ (gr_252 b2 b4 b5 b10 b12 b13 b15 b16) rfl rfl
     | false =>
      have h8 := gr_nf i8
      cases b9 with
      | true =>
       have h9 := i9.1 rfl
       cases b3 with
       | true =>
        have h3 := i3.1 rfl
        cases b12 with
        | true =>
         have h12 := i12.1 rfl
         cases b13 with
         | true =>
          have h13 := i13.1 rfl
          cases b4 with
          | true =>
           have h4 := i4.1 rfl
           cases b14 with
           | true =>
            have h14 := i14.1 rfl
            cases b10 with
            | true =>
             have h10 := i10.1 rfl
             cases b11 with
             | true =>
              have h11 := i11.1 rfl
              cases b15 with
              | true =>
               have h15 := i15.1 rfl
               cases b16 with
               | true =>
                have h16 := i16.1 rfl
                exact fin _ (gr_253 b2 b5) rfl rfl
               | false =>
                exact absurd (i16.2 (gr_R7 h11)) gr_ft
              | false =>
               exact absurd (i15.2 (gr_R6 h11)) gr_ft
             | false =>
              have h11 := gr_nf i11
              exact fin _ (gr_254 b2 b5 b15 b16) rfl rfl
            | false =>
             exact absurd (i10.2 (round5T h14)) gr_ft
           | false =>
            have h14 := gr_nf i14
            cases b11 with
            | true =>
             have h11 := i11.1 rfl
             cases b15 with
             | true =>
              have h15 := i15.1 rfl
              cases b16 with
              | true =>
               have h16 := i16.1 rfl
               exact fin _ (gr_255 b2 b5 b10) rfl rfl
              | false =>
               exact absurd (i16.2 (gr_R7 h11)) gr_ft
             | false =>
              exact absurd (i15.2 (gr_R6 h11)) gr_ft
            | false =>
             have h11 := gr_nf i11
             exact fin _ (gr_256 b2 b5 b10 b15 b16) rfl rfl
          | false =>
           exact absurd (i4.2 (((gr_R4 h9).2 ⟨h12, h13⟩).2)) gr_ft
         | false =>
          have h13 := gr_nf i13
          cases b4 with
          | true =>
           exact absurd (i4.1 rfl) (fun cc => h13 ((gr_R4 h9).1 ⟨h3, cc⟩).2)
          | false =>
           have h4 := gr_nf i4
           cases b14 with
           | true =>
            have h14 := i14.1 rfl
            cases b10 with
            | true =>
             have h10 := i10.1 rfl
             cases b11 with
             | true =>
              have h11 := i11.1 rfl
              cases b15 with
              | true =>
               have h15 := i15.1 rfl
               cases b16 with
               | true =>
                have h16 := i16.1 rfl
                exact fin _ (gr_257 b2 b5) rfl rfl
               | false =>
                exact absurd (i16.2 (gr_R7 h11)) gr_ft
              | false =>
               exact absurd (i15.2 (gr_R6 h11)) gr_ft
             | false =>
              have h11 := gr_nf i11
              exact fin _ (gr_258 b2 b5 b15 b16) rfl rfl
            | false =>
             exact absurd (i10.2 (round5T h14)) gr_ft
           | false =>
            have h14 := gr_nf i14
            cases b11 with
            | true =>
             have h11 := i11.1 rfl
             cases b15 with
             | true =>
              have h15 := i15.1 rfl
              cases b16 with
              | true =>
               have h16 := i16.1 rfl
               exact fin _ (gr_259 b2 b5 b10) rfl rfl
              | false =>
               exact absurd (i16.2 (gr_R7 h11)) gr_ft
             | false =>
              exact absurd (i15.2 (gr_R6 h11)) gr_ft
            | false =>
             have h11 := gr_nf i11
             exact fin _ (gr_260 b2 b5 b10 b15 b16) rfl rfl
        | false =>
         have h12 := gr_nf i12
         cases b4 with
         | true =>
          exact absurd (i4.1 rfl) (fun cc => h12 ((gr_R4 h9).1 ⟨h3, cc⟩).1)
         | false =>
          have h4 := gr_nf i4
          cases b14 with
          | true =>
           have h14 := i14.1 rfl
           cases b10 with
           | true =>
            have h10 := i10.1 rfl
            cases b11 with
            | true =>
             have h11 := i11.1 rfl
             cases b15 with
             | true =>
              have h15 := i15.1 rfl
              cases b16 with
              | true =>
               have h16 := i16.1 rfl
               exact fin _ (gr_261 b2 b5 b13) rfl rfl
              | false =>
               exact absurd (i16.2 (gr_R7 h11)) gr_ft
             | false =>
              exact absurd (i15.2 (gr_R6 h11)) gr_ft
            | false =>
             have h11 := gr_nf i11
             exact fin _ (gr_262 b2 b5 b13 b15 b16) rfl rfl
           | false =>
            exact absurd (i10.2 (round5T h14)) gr_ft
          | false =>
           have h14 := gr_nf i14
           cases b11 with
           | true =>
            have h11 := i11.1 rfl
            cases b15 with
            | true =>
             have h15 := i15.1 rfl
             cases b16 with
             | true =>
              have h16 := i16.1 rfl
              exact fin _ (gr_263 b2 b5 b10 b13) rfl rfl
             | false =>
              exact absurd (i16.2 (gr_R7 h11)) gr_ft
            | false =>
             exact absurd (i15.2 (gr_R6 h11)) gr_ft
           | false =>
            have h11 := gr_nf i11
            exact fin _ (gr_264 b2 b5 b10 b13 b15 b16) rfl rfl
       | false =>
        have h3 := gr_nf i3
        cases b12 with
        | true =>
         have h12 := i12.1 rfl
         cases b13 with
         | true =>
          exact absurd (i13.1 rfl) (fun cc => h3 ((gr_R4 h9).2 ⟨h12, cc⟩).1)
         | false =>
          have h13 := gr_nf i13
          cases b14 with
          | true =>
           have h14 := i14.1 rfl
           cases b10 with
           | true =>
            have h10 := i10.1 rfl
            cases b11 with
            | true =>
             have h11 := i11.1 rfl
             cases b15 with
             | true =>
              have h15 := i15.1 rfl
              cases b16 with
              | true =>
               have h16 := i16.1 rfl
               exact fin _ (gr_265 b2 b4 b5) rfl rfl
              | false =>
               exact absurd (i16.2 (gr_R7 h11)) gr_ft
             | false =>
              exact absurd (i15.2 (gr_R6 h11)) gr_ft
            | false =>
             have h11 := gr_nf i11
             exact fin _ (gr_266 b2 b4 b5 b15 b16) rfl rfl
           | false =>
            exact absurd (i10.2 (round5T h14)) gr_ft
          | false =>
           have h14 := gr_nf i14
           cases b11 with
           | true =>
            have h11 := i11.1 rfl
            cases b15 with
            | true =>
             have h15 := i15.1 rfl
             cases b16 with
             | true =>
              have h16 := i16.1 rfl
              exact fin _ (gr_267 b2 b4 b5 b10) rfl rfl
             | false =>
              exact absurd (i16.2 (gr_R7 h11)) gr_ft
            | false =>
             exact absurd (i15.2 (gr_R6 h11)) gr_ft
           | false =>
            have h11 := gr_nf i11
            exact fin _ (gr_268 b2 b4 b5 b10 b15 b16) rfl rfl
        | false =>
         have h12 := gr_nf i12
         cases b14 with
         | true =>
          have h14 := i14.1 rfl
          cases b10 with
          | true =>
           have h10 := i10.1 rfl
           cases b11 with
           | true =>
            have h11 := i11.1 rfl
            cases b15 with
            | true =>
             have h15 := i15.1 rfl
             cases b16 with
             | true =>
              have h16 := i16.1 rfl
              exact fin _ (gr_269 b2 b4 b5 b13) rfl rfl
             | false =>
              exact absurd (i16.2 (gr_R7 h11)) gr_ft
            | false =>
             exact absurd (i15.2 (gr_R6 h11)) gr_ft
           | false =>
            have h11 := gr_nf i11
            exact fin _ (gr_270 b2 b4 b5 b13 b15 b16) rfl rfl
          | false =>
           exact absurd (i10.2 (round5T h14)) gr_ft
         | false =>
          have h14 := gr_nf i14
          cases b11 with
          | true =>
           have h11 := i11.1 rfl
           cases b15 with
           | true =>
            have h15 := i15.1 rfl
            cases b16 with
            | true =>
             have h16 := i16.1 rfl
             exact fin _ (gr_271 b2 b4 b5 b10 b13) rfl rfl
            | false =>
             exact absurd (i16.2 (gr_R7 h11)) gr_ft
           | false =>
            exact absurd (i15.2 (gr_R6 h11)) gr_ft
          | false =>
           have h11 := gr_nf i11
           exact fin _ (gr_272 b2 b4 b5 b10 b13 b15 b16) rfl rfl
      | false =>
       have h9 := gr_nf i9
       cases b14 with
       | true =>
        have h14 := i14.1 rfl
        cases b10 with
        | true =>
         have h10 := i10.1 rfl
         cases b11 with
         | true =>
          have h11 := i11.1 rfl
          cases b15 with
          | true =>
           have h15 := i15.1 rfl
           cases b16 with
           | true =>
            have h16 := i16.1 rfl
            exact fin _ (gr_273 b2 b3 b4 b5 b12 b13) rfl rfl
           | false =>
            exact absurd (i16.2 (gr_R7 h11)) gr_ft
          | false =>
           exact absurd (i15.2 (gr_R6 h11)) gr_ft
         | false =>
          have h11 := gr_nf i11
          exact fin _ (gr_274 b2 b3 b4 b5 b12 b13 b15 b16) rfl rfl
        | false =>
         exact absurd (i10.2 (round5T h14)) gr_ft
       | false =>
        have h14 := gr_nf i14
        cases b11 with
        | true =>
         have h11 := i11.1 rfl
         cases b15 with
         | true =>
          have h15 := i15.1 rfl
          cases b16 with
          | true =>
           have h16 := i16.1 rfl
           exact fin _ (gr_275 b2 b3 b4 b5 b10 b12 b13) rfl rfl
          | false =>
           exact absurd (i16.2 (gr_R7 h11)) gr_ft
         | false =>
          exact absurd (i15.2 (gr_R6 h11)) gr_ft
        | false =>
         have h11 := gr_nf i11
         exact fin _ (gr_276 b2 b3 b4 b5 b10 b12 b13 b15 b16) rfl rfl
  | false =>
   have h6 := gr_nf i6
   cases b7 with
   | true =>
    have h7 := i7.1 rfl
    cases b5 with
    | true =>
     have h5 := i5.1 rfl
     cases b1 with
     | true =>
      have h1 := i1.1 rfl
      cases b2 with
      | true =>
       exact absurd (i2.1 rfl) (gr_R2 h7 h1 h5)
      | false =>
       have h2 := gr_nf i2
       cases b8 with
       | true =>
        have h8 := i8.1 rfl
        cases b3 with
        | true =>
         exact absurd (i3.1 rfl) (fun cc => gr_R3 h8 cc h5)
        | false =>
         have h3 := gr_nf i3
         cases b9 with
         | true =>
          have h9 := i9.1 rfl
          cases b12 with
          | true =>
           have h12 := i12.1 rfl
           cases b13 with
           | true =>
            exact absurd (i13.1 rfl) (fun cc => h3 ((gr_R4 h9).2 ⟨h12, cc⟩).1)
           | false =>
            have h13 := gr_nf i13
            cases b14 with
            | true =>
             have h14 := i14.1 rfl
             cases b10 with
             | true =>
              have h10 := i10.1 rfl
              cases b11 with
              | true =>
               have h11 := i11.1 rfl
               cases b15 with
               | true =>
                have h15 := i15.1 rfl
                cases b16 with
                | true =>
                 have h16 := i16.1 rfl
                 exact fin _ (gr_277 b4) rfl rfl
                | false =>
                 exact absurd (i16.2 (gr_R7 h11)) gr_ft
               | false =>
                exact absurd (i15.2 (gr_R6 h11)) gr_ft
              | false =>
               have h11 := gr_nf i11
               exact fin _ (gr_278 b4 b15 b16) rfl rfl
             | false =>
              exact absurd (i10.2 (round5T h14)) gr_ft
            | false =>
             have h14 := gr_nf i14
             cases b11 with
             | true =>
              have h11 := i11.1 rfl
              cases b15 with
              | true =>
               have h15 := i15.1 rfl
               cases b16 with
               | true =>
                have h16 := i16.1 rfl
                exact fin _ (gr_279 b4 b10) rfl rfl
               | false =>
                exact absurd (i16.2 (gr_R7 h11)) gr_ft
              | false =>
               exact absurd (i15.2 (gr_R6 h11)) gr_ft
             | false =>
              have h11 := gr_nf i11
              exact fin _ (gr_280 b4 b10 b15 b16) rfl rfl
          | false =>
           have h12 := gr_nf i12
           cases b14 with
           | true =>
            have h14 := i14.1 rfl
            cases b10 with
            | true =>
             have h10 := i10.1 rfl
             cases b11 with
             | true =>
              have h11 := i11.1 rfl
              cases b15 with
              | true =>
               have h15 := i15.1 rfl
               cases b16 with
               | true =>
                have h16 := i16.1 rfl
                exact fin _ (gr_281 b4 b13) rfl rfl
               | false =>
                exact absurd (i16.2 (gr_R7 h11)) gr_ft
              | false =>
               exact absurd (i15.2 (gr_R6 h11)) gr_ft
             | false =>
              have h11 := gr_nf i11
              exact fin _ (gr_282 b4 b13 b15 b16) rfl rfl
            | false =>
             exact absurd (i10.2 (round5T h14)) gr_ft
           | false =>
            have h14 := gr_nf i14
            cases b11 with
            | true =>
             have h11 := i11.1 rfl
             cases b15 with
             | true =>
              have h15 := i15.1 rfl
              cases b16 with
              | true =>
               have h16 := i16.1 rfl
               exact fin _ (gr_283 b4 b10 b13) rfl rfl
              | false =>
               exact absurd (i16.2 (gr_R7 h11)) gr_ft
             | false =>
              exact absurd (i15.2 (gr_R6 h11)) gr_ft
            | false =>
             have h11 := gr_nf i11
             exact fin _ (gr_284 b4 b10 b13 b15 b16) rfl rfl
         | false =>
          have h9 := gr_nf i9
          cases b14 with
          | true =>
           have h14 := i14.1 rfl
           cases b10 with
           | true =>
            have h10 := i10.1 rfl
            cases b11 with
            | true =>
             have h11 := i11.1 rfl
             cases b15 with
             | true =>
              have h15 := i15.1 rfl
              cases b16 with
              | true =>
               have h16 := i16.1 rfl
               exact fin _ (gr_285 b4 b12 b13) rfl rfl
              | false =>
               exact absurd (i16.2 (gr_R7 h11)) gr_ft
             | false =>
              exact absurd (i15.2 (gr_R6 h11)) gr_ft
            | false =>
             have h11 := gr_nf i11
             exact fin _ (gr_286 b4 b12 b13 b15 b16) rfl rfl
           | false =>
            exact absurd (i10.2 (round5T h14)) gr_ft
          | false =>
           have h14 := gr_nf i14
           cases b11 with
           | true =>
            have h11 := i11.1 rfl
            cases b15 with
            | true =>
             have h15 := i15.1 rfl
             cases b16 with
             | true =>
              have h16 := i16.1 rfl
              exact fin _ (gr_287 b4 b10 b12 b13) rfl rfl
             | false =>
              exact absurd (i16.2 (gr_R7 h11)) gr_ft
            | false =>
             exact absurd (i15.2 (gr_R6 h11)) gr_ft
           | false =>
            have h11 := gr_nf i11
            exact fin _ (gr_288 b4 b10 b12 b13 b15 b16) rfl rfl
       | false =>
        have h8 := gr_nf i8
        cases b9 with
        | true =>
         have h9 := i9.1 rfl
         cases b3 with
         | true =>
          have h3 := i3.1 rfl
          cases b12 with
          | true =>
           have h12 := i12.1 rfl
           cases b13 with
           | true =>
            have h13 := i13.1 rfl
            cases b4 with
            | true =>
             have h4 := i4.1 rfl
             cases b14 with
             | true =>
              have h14 := i14.1 rfl
              cases b10 with
              | true =>
               have h10 := i10.1 rfl
               cases b11 with
               | true =>
                have h11 := i11.1 rfl
                cases b15 with
                | true =>
                 have h15 := i15.1 rfl
                 cases b16 with
                 | true =>
                  have h16 := i16.1 rfl
                  exact fin _ (gr_289) rfl rfl
                 | false =>
                  exact absurd (i16.2 (gr_R7 h11)) gr_ft
                | false =>
                 exact absurd (i15.2 (gr_R6 h11)) gr_ft
               | false =>
                have h11 := gr_nf i11
                exact fin _ (gr_290 b15 b16) rfl rfl
              | false =>
               exact absurd (i10.2 (round5T h14)) gr_ft
             | false =>
              have h14 := gr_nf i14
              cases b11 with
              | true =>
               have h11 := i11.1 rfl
               cases b15 with
               | true =>
                have h15 := i15.1 rfl
                cases b16 with
                | true =>
                 have h16 := i16.1 rfl
                 exact fin _ (gr_291 b10) rfl rfl
                | false =>
                 exact absurd (i16.2 (gr_R7 h11)) gr_ft
               | false =>
                exact absurd (i15.2 (gr_R6 h11)) gr_ft
              | false =>
               have h11 := gr_nf i11
               exact fin _ (gr_292 b10 b15 b16) rfl rfl
            | false =>
             exact absurd (i4.2 (((gr_R4 h9).2 ⟨h12, h13⟩).2)) gr_ft
           | false =>
            have h13 := gr_nf i13
            cases b4 with
            | true =>
             exact absurd (i4.1 rfl) (fun cc => h13 ((gr_R4 h9).1 ⟨h3, cc⟩).2)
            | false =>
             have h4 := gr_nf i4
             cases b14 with
             | true =>
              have h14 := i14.1 rfl
              cases b10 with
              | true =>
               have h10 := i10.1 rfl
               cases b11 with
               | true =>
                have h11 := i11.1 rfl
                cases b15 with
                | true =>
                 have h15 := i15.1 rfl
                 cases b16 with
                 | true =>
                  have h16 := i16.1 rfl
                  exact fin _ (gr_293) rfl rfl
                 | false =>
                  exact absurd (i16.2 (gr_R7 h11)) gr_ft
                | false =>
                 exact absurd (i15.2 (gr_R6 h11)) gr_ft
               | false =>
                have h11 := gr_nf i11
                exact fin _ (gr_294 b15 b16) rfl rfl
              | false =>
               exact absurd (i10.2 (round5T h14)) gr_ft
             | false =>
              have h14 := gr_nf i14
              cases b11 with
              | true =>
               have h11 := i11.1 rfl
               cases b15 with
               | true =>
                have h15 := i15.1 rfl
                cases b16 with
                | true =>
                 have h16 := i16.1 rfl
                 exact fin _ (gr_295 b10) rfl rfl
                | false =>
                 exact absurd (i16.2 (gr_R7 h11)) gr_ft
               | false =>
                exact absurd (i15.2 (gr_R6 h11)) gr_ft
              | false =>
               have h11 := gr_nf i11
               exact fin _ (gr_296 b10 b15 b16) rfl rfl
          | false =>
           have h12 := gr_nf i12
           cases b4 with
           | true =>
            exact absurd (i4.1 rfl) (fun cc => h12 ((gr_R4 h9).1 ⟨h3, cc⟩).1)
           | false =>
            have h4 := gr_nf i4
            cases b14 with
            | true =>
             have h14 := i14.1 rfl
             cases b10 with
             | true =>
              have h10 := i10.1 rfl
              cases b11 with
              | true =>
               have h11 := i11.1 rfl
               cases b15 with
               | true =>
                have h15 := i15.1 rfl
                cases b16 with
                | true =>
                 have h16 := i16.1 rfl
                 exact fin _ (gr_297 b13) rfl rfl
                | false =>
                 exact absurd (i16.2 (gr_R7 h11)) gr_ft
               | false =>
                exact absurd (i15.2 (gr_R6 h11)) gr_ft
              | false =>
               have h11 := gr_nf i11
               exact fin _ (gr_298 b13 b15 b16) rfl rfl
             | false =>
              exact absurd (i10.2 (round5T h14)) gr_ft
            | false =>
             have h14 := gr_nf i14
             cases b11 with
             | true =>
              have h11 := i11.1 rfl
              cases b15 with
              | true =>
               have h15 := i15.1 rfl
               cases b16 with
               | true =>
                have h16 := i16.1 rfl
                exact fin _ (gr_299 b10 b13) rfl rfl
               | false =>
                exact absurd (i16.2 (gr_R7 h11)) gr_ft
              | false =>
               exact absurd (i15.2 (gr_R6 h11)) gr_ft
             | false =>
              have h11 := gr_nf i11
              exact fin _ (gr_300 b10 b13 b15 b16) rfl rfl
         | false =>
          have h3 := gr_nf i3
          cases b12 with
          | true =>
           have h12 := i12.1 rfl
           cases b13 with
           | true =>
            exact absurd (i13.1 rfl) (fun cc => h3 ((gr_R4 h9).2 ⟨h12, cc⟩).1)
           | false =>
            have h13 := gr_nf i13
            cases b14 with
            | true =>
             have h14 := i14.1 rfl
             cases b10 with
             | true =>
              have h10 := i10.1 rfl
              cases b11 with
              | true =>
               have h11 := i11.1 rfl
               cases b15 with
               | true =>
                have h15 := i15.1 rfl
                cases b16 with
                | true =>
                 have h16 := i16.1 rfl
                 exact fin _ (gr_301 b4) rfl rfl
                | false =>
                 exact absurd (i16.2 (gr_R7 h11)) gr_ft
               | false =>
                exact absurd (i15.2 (gr_R6 h11)) gr_ft
              | false =>
               have h11 := gr_nf i11
               exact fin _ (gr_302 b4 b15 b16) rfl rfl
             | false =>
              exact absurd (i10.2 (round5T h14)) gr_ft
            | false =>
             have h14 := gr_nf i14
             cases b11 with
             | true =>
              have h11 := i11.1 rfl
              cases b15 with
              | true =>
               have h15 := i15.1 rfl
               cases b16 with
               | true =>
                have h16 := i16.1 rfl
                exact fin _ (gr_303 b4 b10) rfl rfl
               | false =>
                exact absurd (i16.2 (gr_R7 h11)) gr_ft
              | false =>
               exact absurd (i15.2 (gr_R6 h11)) gr_ft
             | false =>
              have h11 := gr_nf i11
              exact fin _ (gr_304 b4 b10 b15 b16) rfl rfl
          | false =>
           have h12 := gr_nf i12
           cases b14 with
           | true =>
            have h14 := i14.1 rfl
            cases b10 with
            | true =>
             have h10 := i10.1 rfl
             cases b11 with
             | true =>
              have h11 := i11.1 rfl
              cases b15 with
              | true =>
               have h15 := i15.1 rfl
               cases b16 with
               | true =>
                have h16 := i16.1 rfl
                exact fin _ (gr_305 b4 b13) rfl rfl
               | false =>
                exact absurd (i16.2 (gr_R7 h11)) gr_ft
              | false =>
               exact absurd (i15.2 (gr_R6 h11)) gr_ft
             | false =>
              have h11 := gr_nf i11
              exact fin _ (gr_306 b4 b13 b15 b16) rfl rfl
            | false =>
             exact absurd (i10.2 (round5T h14)) gr_ft
           | false =>
            have h14 := gr_nf i14
            cases b11 with
            | true =>
             have h11 := i11.1 rfl
             cases b15 with
             | true =>
              have h15 := i15.1 rfl
              cases b16 with
              | true =>
               have h16 := i16.1 rfl
               exact fin _ (gr_307 b4 b10 b13) rfl rfl
              | false =>
               exact absurd (i16.2 (gr_R7 h11)) gr_ft
             | false =>
              exact absurd (i15.2 (gr_R6 h11)) gr_ft
            | false =>
             have h11 := gr_nf i11
             exact fin _ (gr_308 b4 b10 b13 b15 b16) rfl rfl
        | false =>
         have h9 := gr_nf i9
         cases b14 with
         | true =>
          have h14 := i14.1 rfl
          cases b10 with
          | true =>
           have h10 := i10.1 rfl
           cases b11 with
           | true =>
            have h11 := i11.1 rfl
            cases b15 with
            | true =>
             have h15 := i15.1 rfl
             cases b16 with
             | true =>
              have h16 := i16.1 rfl
              exact fin _ (gr_309 b3 b4 b12 b13) rfl rfl
             | false =>
              exact absurd (i16.2 (gr_R7 h11)) gr_ft
            | false =>
             exact absurd (i15.2 (gr_R6 h11)) gr_ft
           | false =>
            have h11 := gr_nf i11
            exact fin _ (gr_310 b3 b4 b12 b13 b15 b16) rfl rfl
          | false =>
           exact absurd (i10.2 (round5T h14)) gr_ft
         | false =>
          have h14 := gr_nf i14
          cases b11 with
          | true =>
           have h11 := i11.1 rfl
           cases b15 with
           | true =>
            have h15 := i15.1 rfl
            cases b16 with
            | true =>
             have h16 := i16.1 rfl
             exact fin _ (gr_311 b3 b4 b10 b12 b13) rfl rfl
            | false =>
             exact absurd (i16.2 (gr_R7 h11)) gr_ft
           | false =>
            exact absurd (i15.2 (gr_R6 h11)) gr_ft
          | false =>
           have h11 := gr_nf i11
           exact fin _ (gr_312 b3 b4 b10 b12 b13 b15 b16) rfl rfl
     | false =>
      have h1 := gr_nf i1
      cases b8 with
      | true =>
       have h8 := i8.1 rfl
       cases b3 with
       | true =>
        exact absurd (i3.1 rfl) (fun cc => gr_R3 h8 cc h5)
       | false =>
        have h3 := gr_nf i3
        cases b9 with
        | true =>
         have h9 := i9.1 rfl
         cases b12 with
         | true =>
          have h12 := i12.1 rfl
          cases b13 with
          | true =>
           exact absurd (i13.1 rfl) (fun cc => h3 ((gr_R4 h9).2 ⟨h12, cc⟩).1)
          | false =>
           have h13 := gr_nf i13
           cases b14 with
           | true =>
            have h14 := i14.1 rfl
            cases b10 with
            | true =>
             have h10 := i10.1 rfl
             cases b11 with
             | true =>
              have h11 := i11.1 rfl
              cases b15 with
              | true =>
               have h15 := i15.1 rfl
               cases b16 with
               | true =>
                have h16 := i16.1 rfl
                exact fin _ (gr_313 b2 b4) rfl rfl
               | false =>
                exact absurd (i16.2 (gr_R7 h11)) gr_ft
              | false =>
               exact absurd (i15.2 (gr_R6 h11)) gr_ft
             | false =>
              have h11 := gr_nf i11
              exact fin _ (gr_314 b2 b4 b15 b16) rfl rfl
            | false =>
             exact absurd (i10.2 (round5T h14)) gr_ft
           | false =>
            have h14 := gr_nf i14
            cases b11 with
            | true =>
             have h11 := i11.1 rfl
             cases b15 with
             | true =>
              have h15 := i15.1 rfl
              cases b16 with
              | true =>
               have h16 := i16.1 rfl
               exact fin _ (gr_315 b2 b4 b10) rfl rfl
              | false =>
               exact absurd (i16.2 (gr_R7 h11)) gr_ft
             | false =>
              exact absurd (i15.2 (gr_R6 h11)) gr_ft
            | false =>
             have h11 := gr_nf i11
             exact fin _ (gr_316 b2 b4 b10 b15 b16) rfl rfl
         | false =>
          have h12 := gr_nf i12
          cases b14 with
          | true =>
           have h14 := i14.1 rfl
           cases b10 with
           | true =>
            have h10 := i10.1 rfl
            cases b11 with
            | true =>
             have h11 := i11.1 rfl
             cases b15 with
             | true =>
              have h15 := i15.1 rfl
              cases b16 with
              | true =>
               have h16 := i16.1 rfl
               exact fin _ (gr_317 b2 b4 b13) rfl rfl
              | false =>
               exact absurd (i16.2 (gr_R7 h11)) gr_ft
             | false =>
              exact absurd (i15.2 (gr_R6 h11)) gr_ft
            | false =>
             have h11 := gr_nf i11
             exact fin _ (gr_318 b2 b4 b13 b15 b16) rfl rfl
           | false =>
            exact absurd (i10.2 (round5T h14)) gr_ft
          | false =>
           have h14 := gr_nf i14
           cases b11 with
           | true =>
            have h11 := i11.1 rfl
            cases b15 with
            | true =>
             have h15 := i15.1 rfl
             cases b16 with
             | true =>
              have h16 := i16.1 rfl
              exact fin _ (gr_319 b2 b4 b10 b13) rfl rfl
             | false =>
              exact absurd (i16.2 (gr_R7 h11)) gr_ft
            | false =>
             exact absurd (i15.2 (gr_R6 h11)) gr_ft
           | false =>
            have h11 := gr_nf i11
            exact fin _ (gr_320 b2 b4 b10 b13 b15 b16) rfl rfl
        | false =>
         have h9 := gr_nf i9
         cases b14 with
         | true =>
          have h14 := i14.1 rfl
          cases b10 with
          | true =>
           have h10 := i10.1 rfl
           cases b11 with
           | true =>
            have h11 := i11.1 rfl
            cases b15 with
            | true =>
             have h15 := i15.1 rfl
             cases b16 with
             | true =>
              have h16 := i16.1 rfl
              exact fin _ (gr_321 b2 b4 b12 b13) rfl rfl
             | false =>
              exact absurd (i16.2 (gr_R7 h11)) gr_ft
            | false =>
             exact absurd (i15.2 (gr_R6 h11)) gr_ft
           | false =>
            have h11 := gr_nf i11
            exact fin _ (gr_322 b2 b4 b12 b13 b15 b16) rfl rfl
          | false =>
           exact absurd (i10.2 (round5T h14)) gr_ft
         | false =>
          have h14 := gr_nf i14
          cases b11 with
          | true =>
           have h11 := i11.1 rfl
           cases b15 with
           | true =>
            have h15 := i15.1 rfl
            cases b16 with
            | true =>
             have h16 := i16.1 rfl
             exact fin _ (gr_323 b2 b4 b10 b12 b13) rfl rfl
            | false =>
             exact absurd (i16.2 (gr_R7 h11)) gr_ft
           | false =>
            exact absurd (i15.2 (gr_R6 h11)) gr_ft
          | false =>
           have h11 := gr_nf i11
           exact fin _ (gr_324 b2 b4 b10 b12 b13 b15 b16) rfl rfl
      | false =>
       have h8 := gr_nf i8
       cases b9 with
       | true =>
        have h9 := i9.1 rfl
        cases b3 with
        | true =>
         have h3 := i3.1 rfl
         cases b12 with
         | true =>
          have h12 := i12.1 rfl
          cases b13 with
          | true =>
           have h13 := i13.1 rfl
           cases b4 with
           | true =>
            have h4 := i4.1 rfl
            cases b14 with
            | true =>
             have h14 := i14.1 rfl
             cases b10 with
             | true =>
              have h10 := i10.1 rfl
              cases b11 with
              | true =>
               have h11 := i11.1 rfl
               cases b15 with
               | true =>
                have h15 := i15.1 rfl
                cases b16 with
                | true =>
                 have h16 := i16.1 rfl
                 exact fin _ (gr_325 b2) rfl rfl
                | false =>
                 exact absurd (i16.2 (gr_R7 h11)) gr_ft
               | false =>
                exact absurd (i15.2 (gr_R6 h11)) gr_ft
              | false =>
               have h11 := gr_nf i11
               exact fin _ (gr_326 b2 b15 b16) rfl rfl
             | false =>
              exact absurd (i10.2 (round5T h14)) gr_ft
            | false =>
             have h14 := gr_nf i14
             cases b11 with
             | true =>
              have h11 := i11.1 rfl
              cases b15 with
              | true =>
               have h15 := i15.1 rfl
               cases b16 with
               | true =>
                have h16 := i16.1 rfl
                exact fin _ (gr_327 b2 b10) rfl rfl
               | false =>
                exact absurd (i16.2 (gr_R7 h11)) gr_ft
              | false =>
               exact absurd (i15.2 (gr_R6 h11)) gr_ft
             | false =>
              have h11 := gr_nf i11
              exact fin _ (gr_328 b2 b10 b15 b16) rfl rfl
           | false =>
            exact absurd (i4.2 (((gr_R4 h9).2 ⟨h12, h13⟩).2)) gr_ft
          | false =>
           have h13 := gr_nf i13
           cases b4 with
           | true =>
            exact absurd (i4.1 rfl) (fun cc => h13 ((gr_R4 h9).1 ⟨h3, cc⟩).2)
           | false =>
            have h4 := gr_nf i4
            cases b14 with
            | true =>
             have h14 := i14.1 rfl
             cases b10 with
             | true =>
              have h10 := i10.1 rfl
              cases b11 with
              | true =>
               have h11 := i11.1 rfl
               cases b15 with
               | true =>
                have h15 := i15.1 rfl
                cases b16 with
                | true =>
                 have h16 := i16.1 rfl
                 exact fin _ (gr_329 b2) rfl rfl
                | false =>
                 exact absurd (i16.2 (gr_R7 h11)) gr_ft
               | false =>
                exact absurd (i15.2 (gr_R6 h11)) gr_ft
              | false =>
               have h11 := gr_nf i11
               exact fin _ (gr_330 b2 b15 b16) rfl rfl
             | false =>
              exact absurd (i10.2 (round5T h14)) gr_ft
            | false =>
             have h14 := gr_nf i14
             cases b11 with
             | true =>
              have h11 := i11.1 rfl
              cases b15 with
              | true =>
               have h15 := i15.1 rfl
               cases b16 with
               | true =>
                have h16 := i16.1 rfl
                exact fin _ (gr_331 b2 b10) rfl rfl
               | false =>
                exact absurd (i16.2 (gr_R7 h11)) gr_ft
              | false =>
               exact absurd (i15.2 (gr_R6 h11)) gr_ft
             | false =>
              have h11 := gr_nf i11
              exact fin _ (gr_332 b2 b10 b15 b16) rfl rfl
         | false =>
          have h12 := gr_nf i12
          cases b4 with
          | true =>
           exact absurd (i4.1 rfl) (fun cc => h12 ((gr_R4 h9).1 ⟨h3, cc⟩).1)
          | false =>
           have h4 := gr_nf i4
           cases b14 with
           | true =>
            have h14 := i14.1 rfl
            cases b10 with
            | true =>
             have h10 := i10.1 rfl
             cases b11 with
             | true =>
              have h11 := i11.1 rfl
              cases b15 with
              | true =>
               have h15 := i15.1 rfl
               cases b16 with
               | true =>
                have h16 := i16.1 rfl
                exact fin _ (gr_333 b2 b13) rfl rfl
               | false =>
                exact absurd (i16.2 (gr_R7 h11)) gr_ft
              | false =>
               exact absurd (i15.2 (gr_R6 h11)) gr_ft
             | false =>
              have h11 := gr_nf i11
              exact fin _ (gr_334 b2 b13 b15 b16) rfl rfl
            | false =>
             exact absurd (i10.2 (round5T h14)) gr_ft
           | false =>
            have h14 := gr_nf i14
            cases b11 with
            | true =>
             have h11 := i11.1 rfl
             cases b15 with
             | true =>
              have h15 := i15.1 rfl
              cases b16 with
              | true =>
               have h16 := i16.1 rfl
               exact fin _ (gr_335 b2 b10 b13) rfl rfl
              | false =>
               exact absurd (i16.2 (gr_R7 h11)) gr_ft
             | false =>
              exact absurd (i15.2 (gr_R6 h11)) gr_ft
            | false =>
             have h11 := gr_nf i11
             exact fin _ (gr_336 b2 b10 b13 b15 b16) rfl rfl
        | false =>
         have h3 := gr_nf i3
         cases b12 with
         | true =>
          have h12 := i12.1 rfl
          cases b13 with
          | true =>
           exact absurd (i13.1 rfl) (fun cc => h3 ((gr_R4 h9).2 ⟨h12, cc⟩).1)
          | false =>
           have h13 := gr_nf i13
           cases b14 with
           | true =>
            have h14 := i14.1 rfl
            cases b10 with
            | true =>
             have h10 := i10.1 rfl
             cases b11 with
             | true =>
              have h11 := i11.1 rfl
              cases b15 with
              | true =>
               have h15 := i15.1 rfl
               cases b16 with
               | true =>
                have h16 := i16.1 rfl
                exact fin _ (gr_337 b2 b4) rfl rfl
               | false =>
                exact absurd (i16.2 (gr_R7 h11)) gr_ft
              | false =>
               exact absurd (i15.2 (gr_R6 h11)) gr_ft
             | false =>
              have h11 := gr_nf i11
              exact fin _ (gr_338 b2 b4 b15 b16) rfl rfl
            | false =>
             exact absurd (i10.2 (round5T h14)) gr_ft
           | false =>
            have h14 := gr_nf i14
            cases b11 with
            | true =>
             have h11 := i11.1 rfl
             cases b15 with
             | true =>
              have h15 := i15.1 rfl
              cases b16 with
              | true =>
               have h16 := i16.1 rfl
               exact fin _ (gr_339 b2 b4 b10) rfl rfl
              | false =>
               exact absurd (i16.2 (gr_R7 h11)) gr_ft
             | false =>
              exact absurd (i15.2 (gr_R6 h11)) gr_ft
            | false =>
             have h11 := gr_nf i11
             exact fin _ (gr_340 b2 b4 b10 b15 b16) rfl rfl
         | false =>
          have h12 := gr_nf i12
          cases b14 with
          | true =>
           have h14 := i14.1 rfl
           cases b10 with
           | true =>
            have h10 := i10.1 rfl
            cases b11 with
            | true =>
             have h11 := i11.1 rfl
             cases b15 with
             | true =>
              have h15 := i15.1 rfl
              cases b16 with
              | true =>
               have h16 := i16.1 rfl
               exact fin _ (gr_341 b2 b4 b13) rfl rfl
              | false =>
               exact absurd (i16.2 (gr_R7 h11)) gr_ft
             | false =>
              exact absurd (i15.2 (gr_R6 h11)) gr_ft
            | false =>
             have h11 := gr_nf i11
             exact fin _ (gr_342 b2 b4 b13 b15 b16) rfl rfl
           | false =>
            exact absurd (i10.2 (round5T h14)) gr_ft
          | false =>
           have h14 := gr_nf i14
           cases b11 with
           | true =>
            have h11 := i11.1 rfl
            cases b15 with
            | true =>
             have h15 := i15.1 rfl
             cases b16 with
             | true =>
              have h16 := i16.1 rfl
              exact fin _ (gr_343 b2 b4 b10 b13) rfl rfl
             | false =>
              exact absurd (i16.2 (gr_R7 h11)) gr_ft
            | false =>
             exact absurd (i15.2 (gr_R6 h11)) gr_ft
           | false =>
            have h11 := gr_nf i11
            exact fin _ (gr_344 b2 b4 b10 b13 b15 b16) rfl rfl
       | false =>
        have h9 := gr_nf i9
        cases b14 with
        | true =>
         have h14 := i14.1 rfl
         cases b10 with
         | true =>
          have h10 := i10.1 rfl
          cases b11 with
          | true =>
           have h11 := i11.1 rfl
           cases b15 with
           | true =>
            have h15 := i15.1 rfl
            cases b16 with
            | true =>
             have h16 := i16.1 rfl
             exact fin _ (gr_345 b2 b3 b4 b12 b13) rfl rfl
            | false =>
             exact absurd (i16.2 (gr_R7 h11)) gr_ft
           | false =>
            exact absurd (i15.2 (gr_R6 h11)) gr_ft
          | false =>
           have h11 := gr_nf i11
           exact fin _ (gr_346 b2 b3 b4 b12 b13 b15 b16) rfl rfl
         | false =>
          exact absurd (i10.2 (round5T h14)) gr_ft
        | false =>
         have h14 := gr_nf i14
         cases b11 with
         | true =>
          have h11 := i11.1 rfl
          cases b15 with
          | true =>
           have h15 := i15.1 rfl
           cases b16 with
           | true =>
            have h16 := i16.1 rfl
            exact fin _ (gr_347 b2 b3 b4 b10 b12 b13) rfl rfl
           | false =>
            exact absurd (i16.2 (gr_R7 h11)) gr_ft
          | false =>
           exact absurd (i15.2 (gr_R6 h11)) gr_ft
         | false =>
          have h11 := gr_nf i11
          exact fin _ (gr_348 b2 b3 b4 b10 b12 b13 b15 b16) rfl rfl
    | false =>
     have h5 := gr_nf i5
     cases b8 with
     | true =>
      have h8 := i8.1 rfl
      cases b3 with
      | true =>
       have h3 := i3.1 rfl
       cases b9 with
       | true =>
        have h9 := i9.1 rfl
        cases b12 with
        | true =>
         have h12 := i12.1 rfl
         cases b13 with
         | true =>
          have h13 := i13.1 rfl
          cases b4 with
          | true =>
           have h4 := i4.1 rfl
           cases b14 with
           | true =>
            have h14 := i14.1 rfl
            cases b10 with
            | true =>
             have h10 := i10.1 rfl
             cases b11 with
             | true =>
              have h11 := i11.1 rfl
              cases b15 with
              | true =>
               have h15 := i15.1 rfl
               cases b16 with
               | true =>
                have h16 := i16.1 rfl
                exact fin _ (gr_349 b1 b2) rfl rfl
               | false =>
                exact absurd (i16.2 (gr_R7 h11)) gr_ft
              | false =>
               exact absurd (i15.2 (gr_R6 h11)) gr_ft
             | false =>
              have h11 := gr_nf i11
              exact fin _ (gr_350 b1 b2 b15 b16) rfl rfl
            | false =>
             exact absurd (i10.2 (round5T h14)) gr_ft
           | false =>
            have h14 := gr_nf i14
            cases b11 with
            | true =>
             have h11 := i11.1 rfl
             cases b15 with
             | true =>
              have h15 := i15.1 rfl
              cases b16 with
              | true =>
               have h16 := i16.1 rfl
               exact fin _ (gr_351 b1 b2 b10) rfl rfl
              | false =>
               exact absurd (i16.2 (gr_R7 h11)) gr_ft
             | false =>
              exact absurd (i15.2 (gr_R6 h11)) gr_ft
            | false =>
             have h11 := gr_nf i11
             exact fin _ (gr_352 b1 b2 b10 b15 b16) rfl rfl
          | false =>
           exact absurd (i4.2 (((gr_R4 h9).2 ⟨h12, h13⟩).2)) gr_ft
         | false =>
          have h13 := gr_nf i13
          cases b4 with
          | true =>
           exact absurd (i4.1 rfl) (fun cc => h13 ((gr_R4 h9).1 ⟨h3, cc⟩).2)
          | false =>
           have h4 := gr_nf i4
           cases b14 with
           | true =>
            have h14 := i14.1 rfl
            cases b10 with
            | true =>
             have h10 := i10.1 rfl
             cases b11 with
             | true =>
              have h11 := i11.1 rfl
              cases b15 with
              | true =>
               have h15 := i15.1 rfl
               cases b16 with
               | true =>
                have h16 := i16.1 rfl
                exact fin _ (gr_353 b1 b2) rfl rfl
               | false =>
                exact absurd (i16.2 (gr_R7 h11)) gr_ft
              | false =>
               exact absurd (i15.2 (gr_R6 h11)) gr_ft
             | false =>
              have h11 := gr_nf i11
              exact fin _ (gr_354 b1 b2 b15 b16) rfl rfl
            | false =>
             exact absurd (i10.2 (round5T h14)) gr_ft
           | false =>
            have h14 := gr_nf i14
            cases b11 with
            | true =>
             have h11 := i11.1 rfl
             cases b15 with
             | true =>
              have h15 := i15.1 rfl
              cases b16 with
              | true =>
               have h16 := i16.1 rfl
               exact fin _ (gr_355 b1 b2 b10) rfl rfl
              | false =>
               exact absurd (i16.2 (gr_R7 h11)) gr_ft
             | false =>
              exact absurd (i15.2 (gr_R6 h11)) gr_ft
            | false =>
             have h11 := gr_nf i11
             exact fin _ (gr_356 b1 b2 b10 b15 b16) rfl rfl
        | false =>
         have h12 := gr_nf i12
         cases b4 with
         | true =>
          exact absurd (i4.1 rfl) (fun cc => h12 ((gr_R4 h9).1 ⟨h3, cc⟩).1)
         | false =>
          have h4 := gr_nf i4
          cases b14 with
          | true =>
           have h14 := i14.1 rfl
           cases b10 with
           | true =>
            have h10 := i10.1 rfl
            cases b11 with
            | true =>
             have h11 := i11.1 rfl
             cases b15 with
             | true =>
              have h15 := i15.1 rfl
              cases b16 with
              | true =>
               have h16 := i16.1 rfl
               exact fin _ (gr_357 b1 b2 b13) rfl rfl
              | false =>
               exact absurd (i16.2 (gr_R7 h11)) gr_ft
             | false =>
              exact absurd (i15.2 (gr_R6 h11)) gr_ft
            | false =>
             have h11 := gr_nf i11
             exact fin _ (gr_358 b1 b2 b13 b15 b16) rfl rfl
           | false =>
            exact absurd (i10.2 (round5T h14)) gr_ft
          | false =>
           have h14 := gr_nf i14
           cases b11 with
           | true =>
            have h11 := i11.1 rfl
            cases b15 with
            | true =>
             have h15 := i15.1 rfl
             cases b16 with
             | true =>
              have h16 := i16.1 rfl
              exact fin _ (gr_359 b1 b2 b10 b13) rfl rfl
             | false =>
              exact absurd (i16.2 (gr_R7 h11)) gr_ft
            | false =>
             exact absurd (i15.2 (gr_R6 h11)) gr_ft
           | false =>
            have h11 := gr_nf i11
            exact fin _ (gr_360 b1 b2 b10 b13 b15 b16) rfl rfl
       | false =>
        have h9 := gr_nf i9
        cases b14 with
        | true =>
         have h14 := i14.1 rfl
         cases b10 with
         | true =>
          have h10 := i10.1 rfl
          cases b11 with
          | true =>
           have h11 := i11.1 rfl
           cases b15 with
           | true =>
            have h15 := i15.1 rfl
            cases b16 with
            | true =>
             have h16 := i16.1 rfl
             exact fin _ (gr_361 b1 b2 b4 b12 b13) rfl rfl
            | false =>
             exact absurd (i16.2 (gr_R7 h11)) gr_ft
           | false =>
            exact absurd (i15.2 (gr_R6 h11)) gr_ft
          | false =>
           have h11 := gr_nf i11
           exact fin _ (gr_362 b1 b2 b4 b12 b13 b15 b16) rfl rfl
         | false =>
          exact absurd (i10.2 (round5T h14)) gr_ft
        | false =>
         have h14 := gr_nf i14
         cases b11 with
         | true =>
          have h11 := i11.1 rfl
          cases b15 with
          | true =>
           have h15 := i15.1 rfl
           cases b16 with
           | true =>
            have h16 := i16.1 rfl
            exact fin _ (gr_363 b1 b2 b4 b10 b12 b13) rfl rfl
           | false =>
            exact absurd (i16.2 (gr_R7 h11)) gr_ft
          | false =>
           exact absurd (i15.2 (gr_R6 h11)) gr_ft
         | false =>
          have h11 := gr_nf i11
          exact fin _ (gr_364 b1 b2 b4 b10 b12 b13 b15 b16) rfl rfl
      | false =>
       have h3 := gr_nf i3
       cases b9 with
       | true =>
        have h9 := i9.1 rfl
        cases b12 with
        | true =>
         have h12 := i12.1 rfl
         cases b13 with
         | true =>
          exact absurd (i13.1 rfl) (fun cc => h3 ((gr_R4 h9).2 ⟨h12, cc⟩).1)
         | false =>
          have h13 := gr_nf i13
          cases b14 with
          | true =>
           have h14 := i14.1 rfl
           cases b10 with
           | true =>
            have h10 := i10.1 rfl
            cases b11 with
            | true =>
             have h11 := i11.1 rfl
             cases b15 with
             | true =>
              have h15 := i15.1 rfl
              cases b16 with
              | true =>
               have h16 := i16.1 rfl
               exact fin _ (gr_365 b1 b2 b4) rfl rfl
              | false =>
               exact absurd (i16.2 (gr_R7 h11)) gr_ft
             | false =>
              exact absurd (i15.2 (gr_R6 h11)) gr_ft
            | false =>
             have h11 := gr_nf i11
             exact fin _ (gr_366 b1 b2 b4 b15 b16) rfl rfl
           | false =>
            exact absurd (i10.2 (round5T h14)) gr_ft
          | false =>
           have h14 := gr_nf i14
           cases b11 with
           | true =>
            have h11 := i11.1 rfl
            cases b15 with
            | true =>
             have h15 := i15.1 rfl
             cases b16 with
             | true =>
              have h16 := i16.1 rfl
              exact fin _ (gr_367 b1 b2 b4 b10) rfl rfl
             | false =>
              exact absurd (i16.2 (gr_R7 h11)) gr_ft
            | false =>
             exact absurd (i15.2 (gr_R6 h11)) gr_ft
           | false =>
            have h11 := gr_nf i11
            exact fin _ (gr_368 b1 b2 b4 b10 b15 b16) rfl rfl
        | false =>
         have h12 := gr_nf i12
         cases b14 with
         | true =>
          have h14 := i14.1 rfl
          cases b10 with
          | true =>
           have h10 := i10.1 rfl
           cases b11 with
           | true =>
            have h11 := i11.1 rfl
            cases b15 with
            | true =>
             have h15 := i15.1 rfl
             cases b16 with
             | true =>
              have h16 := i16.1 rfl
              exact fin _ (gr_369 b1 b2 b4 b13) rfl rfl
             | false =>
              exact absurd (i16.2 (gr_R7 h11)) gr_ft
            | false =>
             exact absurd (i15.2 (gr_R6 h11)) gr_ft
           | false =>
            have h11 := gr_nf i11
            exact fin _ (gr_370 b1 b2 b4 b13 b15 b16) rfl rfl
          | false =>
           exact absurd (i10.2 (round5T h14)) gr_ft
         | false =>
          have h14 := gr_nf i14
          cases b11 with
          | true =>
           have h11 := i11.1 rfl
           cases b15 with
           | true =>
            have h15 := i15.1 rfl
            cases b16 with
            | true =>
             have h16 := i16.1 rfl
             exact fin _ (gr_371 b1 b2 b4 b10 b13) rfl rfl
            | false =>
             exact absurd (i16.2 (gr_R7 h11)) gr_ft
           | false =>
            exact absurd (i15.2 (gr_R6 h11)) gr_ft
          | false =>
           have h11 := gr_nf i11
           exact fin _ (gr_372 b1 b2 b4 b10 b13 b15 b16) rfl rfl
       | false =>
        have h9 := gr_nf i9
        cases b14 with
        | true =>
         have h14 := i14.1 rfl
         cases b10 with
         | true =>
          have h10 := i10.1 rfl
          cases b11 with
          | true =>
           have h11 := i11.1 rfl
           cases b15 with
           | true =>
            have h15 := i15.1 rfl
            cases b16 with
            | true =>
             have h16 := i16.1 rfl
             exact fin _ (gr_373 b1 b2 b4 b12 b13) rfl rfl
            | false =>
             exact absurd (i16.2 (gr_R7 h11)) gr_ft
           | false =>
            exact absurd (i15.2 (gr_R6 h11)) gr_ft
          | false =>
           have h11 := gr_nf i11
           exact fin _ (gr_374 b1 b2 b4 b12 b13 b15 b16) rfl rfl
         | false =>
          exact absurd (i10.2 (round5T h14)) gr_ft
        | false =>
         have h14 := gr_nf i14
         cases b11 with
         | true =>
          have h11 := i11.1 rfl
          cases b15 with
          | true =>
           have h15 := i15.1 rfl
           cases b16 with
           | true =>
            have h16 := i16.1 rfl
            exact fin _ (gr_375 b1 b2 b4 b10 b12 b13) rfl rfl
           | false =>
            exact absurd (i16.2 (gr_R7 h11)) gr_ft
          | false =>
           exact absurd (i15.2 (gr_R6 h11)) gr_ft
         | false =>
          have h11 := gr_nf i11
          exact fin _ (gr_376 b1 b2 b4 b10 b12 b13 b15 b16) rfl rfl
     | false =>
      have h8 := gr_nf i8
      cases b9 with
      | true =>
       have h9 := i9.1 rfl
       cases b3 with
       | true =>
        have h3 := i3.1 rfl
        cases b12 with
        | true =>
         have h12 := i12.1 rfl
         cases b13 with
         | true =>
          have h13 := i13.1 rfl
          cases b4 with
          | true =>
           have h4 := i4.1 rfl
           cases b14 with
           | true =>
            have h14 := i14.1 rfl
            cases b10 with
            | true =>
             have h10 := i10.1 rfl
             cases b11 with
             | true =>
              have h11 := i11.1 rfl
              cases b15 with
              | true =>
               have h15 := i15.1 rfl
               cases b16 with
               | true =>
                have h16 := i16.1 rfl
                exact fin _ (gr_377 b1 b2) rfl rfl
               | false =>
                exact absurd (i16.2 (gr_R7 h11)) gr_ft
              | false =>
               exact absurd (i15.2 (gr_R6 h11)) gr_ft
             | false =>
              have h11 := gr_nf i11
              exact fin _ (gr_378 b1 b2 b15 b16) rfl rfl
            | false =>
             exact absurd (i10.2 (round5T h14)) gr_ft
           | false =>
            have h14 := gr_nf i14
            cases b11 with
            | true =>
             have h11 := i11.1 rfl
             cases b15 with
             | true =>
              have h15 := i15.1 rfl
              cases b16 with
              | true =>
               have h16 := i16.1 rfl
               exact fin _ (gr_379 b1 b2 b10) rfl rfl
              | false =>
               exact absurd (i16.2 (gr_R7 h11)) gr_ft
             | false =>
              exact absurd (i15.2 (gr_R6 h11)) gr_ft
            | false =>
             have h11 := gr_nf i11
             exact fin _ (gr_380 b1 b2 b10 b15 b16) rfl rfl
          | false =>
           exact absurd (i4.2 (((gr_R4 h9).2 ⟨h12, h13⟩).2)) gr_ft
         | false =>
          have h13 := gr_nf i13
          cases b4 with
          | true =>
           exact absurd (i4.1 rfl) (fun cc => h13 ((gr_R4 h9).1 ⟨h3, cc⟩).2)
          | false =>
           have h4 := gr_nf i4
           cases b14 with
           | true =>
            have h14 := i14.1 rfl
            cases b10 with
            | true =>
             have h10 := i10.1 rfl
             cases b11 with
             | true =>
              have h11 := i11.1 rfl
              cases b15 with
              | true =>
               have h15 := i15.1 rfl
               cases b16 with
               | true =>
                have h16 := i16.1 rfl
                exact fin _ (gr_381 b1 b2) rfl rfl
               | false =>
                exact absurd (i16.2 (gr_R7 h11)) gr_ft
              | false =>
               exact absurd (i15.2 (gr_R6 h11)) gr_ft
             | false =>
              have h11 := gr_nf i11
              exact fin _ (gr_382 b1 b2 b15 b16) rfl rfl
            | false =>
             exact absurd (i10.2 (round5T h14)) gr_ft
           | false =>
            have h14 := gr_nf i14
            cases b11 with
            | true =>
             have h11 := i11.1 rfl
             cases b15 with
             | true =>
              have h15 := i15.1 rfl
              cases b16 with
              | true =>
               have h16 := i16.1 rfl
               exact fin _ (gr_383 b1 b2 b10) rfl rfl
              | false =>
               exact absurd (i16.2 (gr_R7 h11)) gr_ft
             | false =>
              exact absurd (i15.2 (gr_R6 h11)) gr_ft
            | false =>
             have h11 := gr_nf i11
             exact fin _ (gr_384 b1 b2 b10 b15 b16) rfl rfl
        | false =>
         have h12 := gr_nf i12
         cases b4 with
         | true =>
          exact absurd (i4.1 rfl) (fun cc => h12 ((gr_R4 h9).1 ⟨h3, cc⟩).1)
         | false =>
          have h4 := gr_nf i4
          cases b14 with
          | true =>
           have h14 := i14.1 rfl
           cases b10 with
           | true =>
            have h10 := i10.1 rfl
            cases b11 with
            | true =>
             have h11 := i11.1 rfl
             cases b15 with
             | true =>
              have h15 := i15.1 rfl
              cases b16 with
              | true =>
               have h16 := i16.1 rfl
               exact fin _ (gr_385 b1 b2 b13) rfl rfl
              | false =>
               exact absurd (i16.2 (gr_R7 h11)) gr_ft
             | false =>
              exact absurd (i15.2 (gr_R6 h11)) gr_ft
            | false =>
             have h11 := gr_nf i11
             exact fin _ (gr_386 b1 b2 b13 b15 b16) rfl rfl
           | false =>
            exact absurd (i10.2 (round5T h14)) gr_ft
          | false =>
           have h14 := gr_nf i14
           cases b11 with
           | true =>
            have h11 := i11.1 rfl
            cases b15 with
            | true =>
             have h15 := i15.1 rfl
             cases b16 with
             | true =>
              have h16 := i16.1 rfl
              exact fin _ (gr_387 b1 b2 b10 b13) rfl rfl
             | false =>
              exact absurd (i16.2 (gr_R7 h11)) gr_ft
            | false =>
             exact absurd (i15.2 (gr_R6 h11)) gr_ft
           | false =>
            have h11 := gr_nf i11
            exact fin _ (gr_388 b1 b2 b10 b13 b15 b16) rfl rfl
       | false =>
        have h3 := gr_nf i3
        cases b12 with
        | true =>
         have h12 := i12.1 rfl
         cases b13 with
         | true =>
          exact absurd (i13.1 rfl) (fun cc => h3 ((gr_R4 h9).2 ⟨h12, cc⟩).1)
         | false =>
          have h13 := gr_nf i13
          cases b14 with
          | true =>
           have h14 := i14.1 rfl
           cases b10 with
           | true =>
            have h10 := i10.1 rfl
            cases b11 with
            | true =>
             have h11 := i11.1 rfl
             cases b15 with
             | true =>
              have h15 := i15.1 rfl
              cases b16 with
              | true =>
               have h16 := i16.1 rfl
               exact fin _ (gr_389 b1 b2 b4) rfl rfl
              | false =>
               exact absurd (i16.2 (gr_R7 h11)) gr_ft
             | false =>
              exact absurd (i15.2 (gr_R6 h11)) gr_ft
            | false =>
             have h11 := gr_nf i11
             exact fin _ (gr_390 b1 b2 b4 b15 b16) rfl rfl
           | false =>
            exact absurd (i10.2 (round5T h14)) gr_ft
          | false =>
           have h14 := gr_nf i14
           cases b11 with
           | true =>
            have h11 := i11.1 rfl
            cases b15 with
            | true =>
             have h15 := i15.1 rfl
             cases b16 with
             | true =>
              have h16 := i16.1 rfl
              exact fin _ (gr_391 b1 b2 b4 b10) rfl rfl
             | false =>
              exact absurd (i16.2 (gr_R7 h11)) gr_ft
            | false =>
             exact absurd (i15.2 (gr_R6 h11)) gr_ft
           | false =>
            have h11 := gr_nf i11
            exact fin _ (gr_392 b1 b2 b4 b10 b15 b16) rfl rfl
        | false =>
         have h12 := gr_nf i12
         cases b14 with
         | true =>
          have h14 := i14.1 rfl
          cases b10 with
          | true =>
           have h10 := i10.1 rfl
           cases b11 with
           | true =>
            have h11 := i11.1 rfl
            cases b15 with
            | true =>
             have h15 := i15.1 rfl
             cases b16 with
             | true =>
              have h16 := i16.1 rfl
              exact fin _ (gr_393 b1 b2 b4 b13) rfl rfl
             | false =>
              exact absurd (i16.2 (gr_R7 h11)) gr_ft
            | false =>
             exact absurd (i15.2 (gr_R6 h11)) gr_ft
           | false =>
            have h11 := gr_nf i11
            exact fin _ (gr_394 b1 b2 b4 b13 b15 b16) rfl rfl
          | false =>
           exact absurd (i10.2 (round5T h14)) gr_ft
         | false =>
          have h14 := gr_nf i14
          cases b11 with
          | true =>
           have h11 := i11.1 rfl
           cases b15 with
           | true =>
            have h15 := i15.1 rfl
            cases b16 with
            | true =>
             have h16 := i16.1 rfl
             exact fin _ (gr_395 b1 b2 b4 b10 b13) rfl rfl
            | false =>
             exact absurd (i16.2 (gr_R7 h11)) gr_ft
           | false =>
            exact absurd (i15.2 (gr_R6 h11)) gr_ft
          | false =>
           have h11 := gr_nf i11
           exact fin _ (gr_396 b1 b2 b4 b10 b13 b15 b16) rfl rfl
      | false =>
       have h9 := gr_nf i9
       cases b14 with
       | true =>
        have h14 := i14.1 rfl
        cases b10 with
        | true =>
         have h10 := i10.1 rfl
         cases b11 with
         | true =>
          have h11 := i11.1 rfl
          cases b15 with
          | true =>
           have h15 := i15.1 rfl
           cases b16 with
           | true =>
            have h16 := i16.1 rfl
            exact fin _ (gr_397 b1 b2 b3 b4 b12 b13) rfl rfl
           | false =>
            exact absurd (i16.2 (gr_R7 h11)) gr_ft
          | false =>
           exact absurd (i15.2 (gr_R6 h11)) gr_ft
         | false =>
          have h11 := gr_nf i11
          exact fin _ (gr_398 b1 b2 b3 b4 b12 b13 b15 b16) rfl rfl
        | false =>
         exact absurd (i10.2 (round5T h14)) gr_ft
       | false =>
        have h14 := gr_nf i14
        cases b11 with
        | true =>
         have h11 := i11.1 rfl
         cases b15 with
         | true =>
          have h15 := i15.1 rfl
          cases b16 with
          | true =>
           have h16 := i16.1 rfl
           exact fin _ (gr_399 b1 b2 b3 b4 b10 b12 b13) rfl rfl
          | false =>
           exact absurd (i16.2 (gr_R7 h11)) gr_ft
         | false =>
          exact absurd (i15.2 (gr_R6 h11)) gr_ft
        | false =>
         have h11 := gr_nf i11
         exact fin _ (gr_400 b1 b2 b3 b4 b10 b12 b13 b15 b16) rfl rfl
   | false =>
    have h7 := gr_nf i7
    cases b8 with
    | true =>
     have h8 := i8.1 rfl
     cases b3 with
     | true =>
      have h3 := i3.1 rfl
      cases b5 with
      | true =>
       exact absurd (i5.1 rfl) (gr_R3 h8 h3)
      | false =>
       have h5 := gr_nf i5
       cases b9 with
       | true =>
        have h9 := i9.1 rfl
        cases b12 with
        | true =>
         have h12 := i12.1 rfl
         cases b13 with
         | true =>
          have h13 := i13.1 rfl
          cases b4 with
          | true =>
           have h4 := i4.1 rfl
           cases b14 with
           | true =>
            have h14 := i14.1 rfl
            cases b10 with
            | true =>
             have h10 := i10.1 rfl
             cases b11 with
             | true =>
              have h11 := i11.1 rfl
              cases b15 with
              | true =>
               have h15 := i15.1 rfl
               cases b16 with
               | true =>
                have h16 := i16.1 rfl
                exact fin _ (gr_401 b1 b2) rfl rfl
               | false =>
                exact absurd (i16.2 (gr_R7 h11)) gr_ft
              | false =>
               exact absurd (i15.2 (gr_R6 h11)) gr_ft
             | false =>
              have h11 := gr_nf i11
              exact fin _ (gr_402 b1 b2 b15 b16) rfl rfl
            | false =>
             exact absurd (i10.2 (round5T h14)) gr_ft
           | false =>
            have h14 := gr_nf i14
            cases b11 with
            | true =>
             have h11 := i11.1 rfl
             cases b15 with
             | true =>
              have h15 := i15.1 rfl
              cases b16 with
              | true =>
               have h16 := i16.1 rfl
               exact fin _ (gr_403 b1 b2 b10) rfl rfl
              | false =>
               exact absurd (i16.2 (gr_R7 h11)) gr_ft
             | false =>
              exact absurd (i15.2 (gr_R6 h11)) gr_ft
            | false =>
             have h11 := gr_nf i11
             exact fin _ (gr_404 b1 b2 b10 b15 b16) rfl rfl
          | false =>
           exact absurd (i4.2 (((gr_R4 h9).2 ⟨h12, h13⟩).2)) gr_ft
         | false =>
          have h13 := gr_nf i13
          cases b4 with
          | true =>
           exact absurd (i4.1 rfl) (fun cc => h13 ((gr_R4 h9).1 ⟨h3, cc⟩).2)
          | false =>
           have h4 := gr_nf i4
           cases b14 with
           | true =>
            have h14 := i14.1 rfl
            cases b10 with
            | true =>
             have h10 := i10.1 rfl
             cases b11 with
             | true =>
              have h11 := i11.1 rfl
              cases b15 with
              | true =>
               have h15 := i15.1 rfl
               cases b16 with
               | true =>
                have h16 := i16.1 rfl
                exact fin _ (gr_405 b1 b2) rfl rfl
               | false =>
                exact absurd (i16.2 (gr_R7 h11)) gr_ft
              | false =>
               exact absurd (i15.2 (gr_R6 h11)) gr_ft
             | false =>
              have h11 := gr_nf i11
              exact fin _ (gr_406 b1 b2 b15 b16) rfl rfl
            | false =>
             exact absurd (i10.2 (round5T h14)) gr_ft
           | false =>
            have h14 := gr_nf i14
            cases b11 with
            | true =>
             have h11 := i11.1 rfl
             cases b15 with
             | true =>
              have h15 := i15.1 rfl
              cases b16 with
              | true =>
               have h16 := i16.1 rfl
               exact fin _ (gr_407 b1 b2 b10) rfl rfl
              | false =>
               exact absurd (i16.2 (gr_R7 h11)) gr_ft
             | false =>
              exact absurd (i15.2 (gr_R6 h11)) gr_ft
            | false =>
             have h11 := gr_nf i11
             exact fin _ (gr_408 b1 b2 b10 b15 b16) rfl rfl
        | false =>
         have h12 := gr_nf i12
         cases b4 with
         | true =>
          exact absurd (i4.1 rfl) (fun cc => h12 ((gr_R4 h9).1 ⟨h3, cc⟩).1)
         | false =>
          have h4 := gr_nf i4
          cases b14 with
          | true =>
           have h14 := i14.1 rfl
           cases b10 with
           | true =>
            have h10 := i10.1 rfl
            cases b11 with
            | true =>
             have h11 := i11.1 rfl
             cases b15 with
             | true =>
              have h15 := i15.1 rfl
              cases b16 with
              | true =>
               have h16 := i16.1 rfl
               exact fin _ (gr_409 b1 b2 b13) rfl rfl
              | false =>
               exact absurd (i16.2 (gr_R7 h11)) gr_ft
             | false =>
              exact absurd (i15.2 (gr_R6 h11)) gr_ft
            | false =>
             have h11 := gr_nf i11
             exact fin _ (gr_410 b1 b2 b13 b15 b16) rfl rfl
           | false =>
            exact absurd (i10.2 (round5T h14)) gr_ft
          | false =>
           have h14 := gr_nf i14
           cases b11 with
           | true =>
            have h11 := i11.1 rfl
            cases b15 with
            | true =>
             have h15 := i15.1 rfl
             cases b16 with
             | true =>
              have h16 := i16.1 rfl
              exact fin _ (gr_411 b1 b2 b10 b13) rfl rfl
             | false =>
              exact absurd (i16.2 (gr_R7 h11)) gr_ft
            | false =>
             exact absurd (i15.2 (gr_R6 h11)) gr_ft
           | false =>
            have h11 := gr_nf i11
            exact fin _ (gr_412 b1 b2 b10 b13 b15 b16) rfl rfl
       | false =>
        have h9 := gr_nf i9
        cases b14 with
        | true =>
         have h14 := i14.1 rfl
         cases b10 with
         | true =>
          have h10 := i10.1 rfl
          cases b11 with
          | true =>
           have h11 := i11.1 rfl
           cases b15 with
           | true =>
            have h15 := i15.1 rfl
            cases b16 with
            | true =>
             have h16 := i16.1 rfl
             exact fin _ (gr_413 b1 b2 b4 b12 b13) rfl rfl
            | false =>
             exact absurd (i16.2 (gr_R7 h11)) gr_ft
           | false =>
            exact absurd (i15.2 (gr_R6 h11)) gr_ft
          | false =>
           have h11 := gr_nf i11
           exact fin _ (gr_414 b1 b2 b4 b12 b13 b15 b16) rfl rfl
         | false =>
          exact absurd (i10.2 (round5T h14)) gr_ft
        | false =>
         have h14 := gr_nf i14
         cases b11 with
         | true =>
          have h11 := i11.1 rfl
          cases b15 with
          | true =>
           have h15 := i15.1 rfl
           cases b16 with
           | true =>
            have h16 := i16.1 rfl
            exact fin _ (gr_415 b1 b2 b4 b10 b12 b13) rfl rfl
           | false =>
            exact absurd (i16.2 (gr_R7 h11)) gr_ft
          | false =>
           exact absurd (i15.2 (gr_R6 h11)) gr_ft
         | false =>
          have h11 := gr_nf i11
          exact fin _ (gr_416 b1 b2 b4 b10 b12 b13 b15 b16) rfl rfl
     | false =>
      have h3 := gr_nf i3
      cases b9 with
      | true =>
       have h9 := i9.1 rfl
       cases b12 with
       | true =>
        have h12 := i12.1 rfl
        cases b13 with
        | true =>
         exact absurd (i13.1 rfl) (fun cc => h3 ((gr_R4 h9).2 ⟨h12, cc⟩).1)
        | false =>
         have h13 := gr_nf i13
         cases b14 with
         | true =>
          have h14 := i14.1 rfl
          cases b10 with
          | true =>
           have h10 := i10.1 rfl
           cases b11 with
           | true =>
            have h11 := i11.1 rfl
            cases b15 with
            | true =>
             have h15 := i15.1 rfl
             cases b16 with
             | true =>
              have h16 := i16.1 rfl
              exact fin _ (gr_417 b1 b2 b4 b5) rfl rfl
             | false =>
              exact absurd (i16.2 (gr_R7 h11)) gr_ft
            | false =>
             exact absurd (i15.2 (gr_R6 h11)) gr_ft
           | false =>
            have h11 := gr_nf i11
            exact fin _ (gr_418 b1 b2 b4 b5 b15 b16) rfl rfl
          | false =>
           exact absurd (i10.2 (round5T h14)) gr_ft
         | false =>
          have h14 := gr_nf i14
          cases b11 with
          | true =>
           have h11 := i11.1 rfl
           cases b15 with
           | true =>
            have h15 := i15.1 rfl
            cases b16 with
            | true =>
             have h16 := i16.1 rfl
             exact fin _ (gr_419 b1 b2 b4 b5 b10) rfl rfl
            | false =>
             exact absurd (i16.2 (gr_R7 h11)) gr_ft
           | false =>
            exact absurd (i15.2 (gr_R6 h11)) gr_ft
          | false =>
           have h11 := gr_nf i11
           exact fin _ (gr_420 b1 b2 b4 b5 b10 b15 b16) rfl rfl
       | false =>
        have h12 := gr_nf i12
        cases b14 with
        | true =>
         have h14 := i14.1 rfl
         cases b10 with
         | true =>
          have h10 := i10.1 rfl
          cases b11 with
          | true =>
           have h11 := i11.1 rfl
           cases b15 with
           | true =>
            have h15 := i15.1 rfl
            cases b16 with
            | true =>
             have h16 := i16.1 rfl
             exact fin _ (gr_421 b1 b2 b4 b5 b13) rfl rfl
            | false =>
             exact absurd (i16.2 (gr_R7 h11)) gr_ft
           | false =>
            exact absurd (i15.2 (gr_R6 h11)) gr_ft
          | false =>
           have h11 := gr_nf i11
           exact fin _ (gr_422 b1 b2 b4 b5 b13 b15 b16) rfl rfl
         | false =>
          exact absurd (i10.2 (round5T h14)) gr_ft
        | false =>
         have h14 := gr_nf i14
         cases b11 with
         | true =>
          have h11 := i11.1 rfl
          cases b15 with
          | true =>
           have h15 := i15.1 rfl
           cases b16 with
           | true =>
            have h16 := i16.1 rfl
            exact fin _ (gr_423 b1 b2 b4 b5 b10 b13) rfl rfl
           | false =>
            exact absurd (i16.2 (gr_R7 h11)) gr_ft
          | false =>
           exact absurd (i15.2 (gr_R6 h11)) gr_ft
         | false =>
          have h11 := gr_nf i11
          exact fin _ (gr_424 b1 b2 b4 b5 b10 b13 b15 b16) rfl rfl
      | false =>
       have h9 := gr_nf i9
       cases b14 with
       | true =>
        have h14 := i14.1 rfl
        cases b10 with
        | true =>
         have h10 := i10.1 rfl
         cases b11 with
         | true =>
          have h11 := i11.1 rfl
          cases b15 with
          | true =>
           have h15 := i15.1 rfl
           cases b16 with
           | true =>
            have h16 := i16.1 rfl
            exact fin _ (gr_425 b1 b2 b4 b5 b12 b13) rfl rfl
           | false =>
            exact absurd (i16.2 (gr_R7 h11)) gr_ft
          | false =>
           exact absurd (i15.2 (gr_R6 h11)) gr_ft
         | false =>
          have h11 := gr_nf i11
          exact fin _ (gr_426 b1 b2 b4 b5 b12 b13 b15 b16) rfl rfl
        | false =>
         exact absurd (i10.2 (round5T h14)) gr_ft
       | false =>
        have h14 := gr_nf i14
        cases b11 with
        | true =>
         have h11 := i11.1 rfl
         cases b15 with
         | true =>
          have h15 := i15.1 rfl
          cases b16 with
          | true =>
           have h16 := i16.1 rfl
           exact fin _ (gr_427 b1 b2 b4 b5 b10 b12 b13) rfl rfl
          | false =>
           exact absurd (i16.2 (gr_R7 h11)) gr_ft
         | false =>
          exact absurd (i15.2 (gr_R6 h11)) gr_ft
        | false =>
         have h11 := gr_nf i11
         exact fin _ (gr_428 b1 b2 b4 b5 b10 b12 b13 b15 b16) rfl rfl
    | false =>
     have h8 := gr_nf i8
     cases b9 with
     | true =>
      have h9 := i9.1 rfl
      cases b3 with
      | true =>
       have h3 := i3.1 rfl
       cases b12 with
       | true =>
        have h12 := i12.1 rfl
        cases b13 with
        | true =>
         have h13 := i13.1 rfl
         cases b4 with
         | true =>
          have h4 := i4.1 rfl
          cases b14 with
          | true =>
           have h14 := i14.1 rfl
           cases b10 with
           | true =>
            have h10 := i10.1 rfl
            cases b11 with
            | true =>
             have h11 := i11.1 rfl
             cases b15 with
             | true =>
              have h15 := i15.1 rfl
              cases b16 with
              | true =>
               have h16 := i16.1 rfl
               exact fin _ (gr_429 b1 b2 b5) rfl rfl
              | false =>
               exact absurd (i16.2 (gr_R7 h11)) gr_ft
             | false =>
              exact absurd (i15.2 (gr_R6 h11)) gr_ft
            | false =>
             have h11 := gr_nf i11
             exact fin _ (gr_430 b1 b2 b5 b15 b16) rfl rfl
           | false =>
            exact absurd (i10.2 (round5T h14)) gr_ft
          | false =>
           have h14 := gr_nf i14
           cases b11 with
           | true =>
            have h11 := i11.1 rfl
            cases b15 with
            | true =>
             have h15 := i15.1 rfl
             cases b16 with
             | true =>
              have h16 := i16.1 rfl
              exact fin _ (gr_431 b1 b2 b5 b10) rfl rfl
             | false =>
              exact absurd (i16.2 (gr_R7 h11)) gr_ft
            | false =>
             exact absurd (i15.2 (gr_R6 h11)) gr_ft
           | false =>
            have h11 := gr_nf i11
            exact fin _ (gr_432 b1 b2 b5 b10 b15 b16) rfl rfl
         | false =>
          exact absurd (i4.2 (((gr_R4 h9).2 ⟨h12, h13⟩).2)) gr_ft
        | false =>
         have h13 := gr_nf i13
         cases b4 with
         | true =>
          exact absurd (i4.1 rfl) (fun cc => h13 ((gr_R4 h9).1 ⟨h3, cc⟩).2)
         | false =>
          have h4 := gr_nf i4
          cases b14 with
          | true =>
           have h14 := i14.1 rfl
           cases b10 with
           | true =>
            have h10 := i10.1 rfl
            cases b11 with
            | true =>
             have h11 := i11.1 rfl
             cases b15 with
             | true =>
              have h15 := i15.1 rfl
              cases b16 with
              | true =>
               have h16 := i16.1 rfl
               exact fin _ (gr_433 b1 b2 b5) rfl rfl
              | false =>
               exact absurd (i16.2 (gr_R7 h11)) gr_ft
             | false =>
              exact absurd (i15.2 (gr_R6 h11)) gr_ft
            | false =>
             have h11 := gr_nf i11
             exact fin _ (gr_434 b1 b2 b5 b15 b16) rfl rfl
           | false =>
            exact absurd (i10.2 (round5T h14)) gr_ft
          | false =>
           have h14 := gr_nf i14
           cases b11 with
           | true =>
            have h11 := i11.1 rfl
            cases b15 with
            | true =>
             have h15 := i15.1 rfl
             cases b16 with
             | true =>
              have h16 := i16.1 rfl
              exact fin _ (gr_435 b1 b2 b5 b10) rfl rfl
             | false =>
              exact absurd (i16.2 (gr_R7 h11)) gr_ft
            | false =>
             exact absurd (i15.2 (gr_R6 h11)) gr_ft
           | false =>
            have h11 := gr_nf i11
            exact fin _ (gr_436 b1 b2 b5 b10 b15 b16) rfl rfl
       | false =>
        have h12 := gr_nf i12
        cases b4 with
        | true =>
         exact absurd (i4.1 rfl) (fun cc => h12 ((gr_R4 h9).1 ⟨h3, cc⟩).1)
        | false =>
         have h4 := gr_nf i4
         cases b14 with
         | true =>
          have h14 := i14.1 rfl
          cases b10 with
          | true =>
           have h10 := i10.1 rfl
           cases b11 with
           | true =>
            have h11 := i11.1 rfl
            cases b15 with
            | true =>
             have h15 := i15.1 rfl
             cases b16 with
             | true =>
              have h16 := i16.1 rfl
              exact fin _ (gr_437 b1 b2 b5 b13) rfl rfl
             | false =>
              exact absurd (i16.2 (gr_R7 h11)) gr_ft
            | false =>
             exact absurd (i15.2 (gr_R6 h11)) gr_ft
           | false =>
            have h11 := gr_nf i11
            exact fin _ (gr_438 b1 b2 b5 b13 b15 b16) rfl rfl
          | false =>
           exact absurd (i10.2 (round5T h14)) gr_ft
         | false =>
          have h14 := gr_nf i14
          cases b11 with
          | true =>
           have h11 := i11.1 rfl
           cases b15 with
           | true =>
            have h15 := i15.1 rfl
            cases b16 with
            | true =>
             have h16 := i16.1 rfl
             exact fin _ (gr_439 b1 b2 b5 b10 b13) rfl rfl
            | false =>
             exact absurd (i16.2 (gr_R7 h11)) gr_ft
           | false =>
            exact absurd (i15.2 (gr_R6 h11)) gr_ft
          | false =>
           have h11 := gr_nf i11
           exact fin _ (gr_440 b1 b2 b5 b10 b13 b15 b16) rfl rfl
      | false =>
       have h3 := gr_nf i3
       cases b12 with
       | true =>
        have h12 := i12.1 rfl
        cases b13 with
        | true =>
         exact absurd (i13.1 rfl) (fun cc => h3 ((gr_R4 h9).2 ⟨h12, cc⟩).1)
        | false =>
         have h13 := gr_nf i13
         cases b14 with
         | true =>
          have h14 := i14.1 rfl
          cases b10 with
          | true =>
           have h10 := i10.1 rfl
           cases b11 with
           | true =>
            have h11 := i11.1 rfl
            cases b15 with
            | true =>
             have h15 := i15.1 rfl
             cases b16 with
             | true =>
              have h16 := i16.1 rfl
              exact fin _ (gr_441 b1 b2 b4 b5) rfl rfl
             | false =>
              exact absurd (i16.2 (gr_R7 h11)) gr_ft
            | false =>
             exact absurd (i15.2 (gr_R6 h11)) gr_ft
           | false =>
            have h11 := gr_nf i11
            exact fin _ (gr_442 b1 b2 b4 b5 b15 b16) rfl rfl
          | false =>
           exact absurd (i10.2 (round5T h14)) gr_ft
         | false =>
          have h14 := gr_nf i14
          cases b11 with
          | true =>
           have h11 := i11.1 rfl
           cases b15 with
           | true =>
            have h15 := i15.1 rfl
            cases b16 with
            | true =>
             have h16 := i16.1 rfl
             exact fin _ (gr_443 b1 b2 b4 b5 b10) rfl rfl
            | false =>
             exact absurd (i16.2 (gr_R7 h11)) gr_ft
           | false =>
            exact absurd (i15.2 (gr_R6 h11)) gr_ft
          | false =>
           have h11 := gr_nf i11
           exact fin _ (gr_444 b1 b2 b4 b5 b10 b15 b16) rfl rfl
       | false =>
        have h12 := gr_nf i12
        cases b14 with
        | true =>
         have h14 := i14.1 rfl
         cases b10 with
         | true =>
          have h10 := i10.1 rfl
          cases b11 with
          | true =>
           have h11 := i11.1 rfl
           cases b15 with
           | true =>
            have h15 := i15.1 rfl
            cases b16 with
            | true =>
             have h16 := i16.1 rfl
             exact fin _ (gr_445 b1 b2 b4 b5 b13) rfl rfl
            | false =>
             exact absurd (i16.2 (gr_R7 h11)) gr_ft
           | false =>
            exact absurd (i15.2 (gr_R6 h11)) gr_ft
          | false =>
           have h11 := gr_nf i11
           exact fin _ (gr_446 b1 b2 b4 b5 b13 b15 b16) rfl rfl
         | false =>
          exact absurd (i10.2 (round5T h14)) gr_ft
        | false =>
         have h14 := gr_nf i14
         cases b11 with
         | true =>
          have h11 := i11.1 rfl
          cases b15 with
          | true =>
           have h15 := i15.1 rfl
           cases b16 with
           | true =>
            have h16 := i16.1 rfl
            exact fin _ (gr_447 b1 b2 b4 b5 b10 b13) rfl rfl
           | false =>
            exact absurd (i16.2 (gr_R7 h11)) gr_ft
          | false =>
           exact absurd (i15.2 (gr_R6 h11)) gr_ft
         | false =>
          have h11 := gr_nf i11
          exact fin _ (gr_448 b1 b2 b4 b5 b10 b13 b15 b16) rfl rfl
     | false =>
      have h9 := gr_nf i9
      cases b14 with
      | true =>
       have h14 := i14.1 rfl
       cases b10 with
       | true =>
        have h10 := i10.1 rfl
        cases b11 with
        | true =>
         have h11 := i11.1 rfl
         cases b15 with
         | true =>
          have h15 := i15.1 rfl
          cases b16 with
          | true =>
           have h16 := i16.1 rfl
           exact fin _ (gr_449 b1 b2 b3 b4 b5 b12 b13) rfl rfl
          | false =>
           exact absurd (i16.2 (gr_R7 h11)) gr_ft
         | false =>
          exact absurd (i15.2 (gr_R6 h11)) gr_ft
        | false =>
         have h11 := gr_nf i11
         exact fin _ (gr_450 b1 b2 b3 b4 b5 b12 b13 b15 b16) rfl rfl
       | false =>
        exact absurd (i10.2 (round5T h14)) gr_ft
      | false =>
       have h14 := gr_nf i14
       cases b11 with
       | true =>
        have h11 := i11.1 rfl
        cases b15 with
        | true =>
         have h15 := i15.1 rfl
         cases b16 with
         | true =>
          have h16 := i16.1 rfl
          exact fin _ (gr_451 b1 b2 b3 b4 b5 b10 b12 b13) rfl rfl
         | false =>
          exact absurd (i16.2 (gr_R7 h11)) gr_ft
        | false =>
         exact absurd (i15.2 (gr_R6 h11)) gr_ft
       | false =>
        have h11 := gr_nf i11
        exact fin _ (gr_452 b1 b2 b3 b4 b5 b10 b12 b13 b15 b16) rfl rfl

end Go.Proofs.YtchneedfkonheaaDoor
