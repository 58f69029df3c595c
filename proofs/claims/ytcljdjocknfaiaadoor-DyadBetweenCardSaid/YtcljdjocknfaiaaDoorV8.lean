/- Texts put together: D82. -/
import Derived.Test.YtcljdjocknfaiaaDoorV7
set_option linter.unusedVariables false
set_option linter.unusedSimpArgs false
namespace Go.Proofs.YtcljdjocknfaiaaDoor
open Go Go.RowKit Nt
/-- Is the one float not above the other? -/
@[irreducible] def fleB (x y : Nat) : Bool := decide (¬ Bt.Ff.isn x ∧ ¬ Bt.Ff.isn y ∧ Bt.Ff.srung x ≤ Bt.Ff.srung y)
theorem fle_or (a b : Nat) : fleB a b = (FloatKind.f64.format.order a b == some Ordering.lt || FloatKind.f64.format.order a b == some Ordering.eq) := by
  rw [Bt.f_lt, Bt.f_eq]
  unfold fleB Bt.fltB Bt.feqB
  rw [Bool.eq_iff_iff, Bool.or_eq_true, decide_eq_true_iff, decide_eq_true_iff, decide_eq_true_iff]
  constructor
  · rintro ⟨h1, h2, h3⟩
    rcases Int.lt_or_eq_of_le h3 with k | k
    · exact Or.inl ⟨h1, h2, k⟩
    · exact Or.inr ⟨h1, h2, k⟩
  · rintro (⟨h1, h2, h3⟩ | ⟨h1, h2, h3⟩)
    · exact ⟨h1, h2, by omega⟩
    · exact ⟨h1, h2, by omega⟩
section
variable [Env]
theorem optQ_eql_i {t : TypeId} {A B : AV} {a b : Nat} {c : Bool} (ha : gval A = .float .f64 a) (hb : gval B = .float .f64 b) (h : c = true ↔ Bt.feqB a b = true) : OpT Tryd.prog [0, 11, t] [A, B] (.lit (.bool c)) :=
  opt_bin (op := .eql) rfl fun p q w => by
    have hc : c = Bt.feqB a b := Bool.eq_iff_iff.2 h
    have h2 := Bt.f_eq a b
    rw [ha, hb, hc]
    go_simp
    rfl
theorem optQ_neq_i {t : TypeId} {A B : AV} {a b : Nat} {c : Bool} (ha : gval A = .float .f64 a) (hb : gval B = .float .f64 b) (h : c = true ↔ Bt.feqB a b = true) : OpT Tryd.prog [0, 12, t] [A, B] (.lit (.bool (!c))) :=
  opt_bin (op := .neq) rfl fun p q w => by
    have hc : c = Bt.feqB a b := Bool.eq_iff_iff.2 h
    have h2 := Bt.f_ne a b
    rw [ha, hb, hc]
    go_simp
    rfl
theorem optQ_leq_i {t : TypeId} {A B : AV} {a b : Nat} {c : Bool} (ha : gval A = .float .f64 a) (hb : gval B = .float .f64 b) (h : c = true ↔ fleB a b = true) : OpT Tryd.prog [0, 14, t] [A, B] (.lit (.bool c)) :=
  opt_bin (op := .leq) rfl fun p q w => by
    have hc : c = fleB a b := Bool.eq_iff_iff.2 h
    rw [ha, hb, hc, fle_or]
    go_simp
    rfl
end
theorem PSign3_c (x : Nat) (hx : x < 18446744073709551616) (w : World) {c : Bool} (h : c = true ↔ Bt.Ff.sgn x = true) : Calls Tryd.prog 10 #[.float .f64 x] w fun e w' => e = .returned (.bool c) ∧ Below w.heap.size w w' := by
  rw [Bool.eq_iff_iff.2 h]
  clear h
  have h2 := Bt.ext_bits
  go_enter Tryd.func10, Tryd.ntmps10
  go_wp2
  go_ret
  exact ⟨Bt.ret_bool (by unfold RowKit.wrap64 Bt.Ff.sgn; rw [Bool.eq_iff_iff, decide_eq_true_iff, beq_iff_eq]; omega), Below.refl _ _⟩
theorem PInf_c (w : World) : Calls Tryd.prog 15 #[.int .i64 1] w fun e w' => e = .returned (.float .f64 9218868437227405312) ∧ Below w.heap.size w w' := by
  have e1 : ∀ w, (callFunc 30 #[.int .u64 9218868437227405312]).run Tryd.prog w = .ok (.value (.float .f64 9218868437227405312)) w := Bt.ext_from 9218868437227405312
  go_enter Tryd.func15, Tryd.ntmps15
  go_wp2
  go_ret
  exact ⟨rfl, Below.refl _ _⟩
theorem PIsNaN3_c (x : Nat) (w : World) : Calls Tryd.prog 27 #[.float .f64 x] w fun e w' => e = .returned (.bool (decide (Bt.Ff.isn x))) ∧ Below w.heap.size w w' := by
  have hne := Bt.isn_ne x
  go_enter Tryd.func27, Tryd.ntmps27
  go_wp2
  go_ret
  exact ⟨rfl, Below.refl _ _⟩
theorem PCopy3_c (w : World) : Calls Tryd.prog 29 #[.float .f64 1, .float .f64 9218868437227405312] w fun e w' => e = .returned (.float .f64 1) ∧ Below w.heap.size w w' := by
  have h12 := Bt.ext_from
  have h44 := Bt.ext_bits
  have a1 : bits BinOp.andNot IntKind.u64 (1 : Int) 9223372036854775808 = 1 := by decide +kernel
  have a2 : bits BinOp.and IntKind.u64 (9218868437227405312 : Int) 9223372036854775808 = 0 := by decide +kernel
  have a3 : bits BinOp.or IntKind.u64 (1 : Int) 0 = 1 := by decide +kernel
  have e1 : (callFunc 30 #[.int .u64 1]).run Tryd.prog w = .ok (.value (.float .f64 1)) w := h12 1 w
  have e2 : (callFunc 25 #[.float .f64 1]).run Tryd.prog w = .ok (.value (.int .u64 1)) w := h44 1 w
  have e3 : (callFunc 25 #[.float .f64 9218868437227405312]).run Tryd.prog w = .ok (.value (.int .u64 9218868437227405312)) w := h44 9218868437227405312 w
  clear h12 h44
  go_enter Tryd.func29, Tryd.ntmps29
  go_wp2
  go_ret
  exact ⟨rfl, Below.refl _ _⟩
@[irreducible] def prv3 (x : Nat) : Nat := x - 1
@[irreducible] def nxt3 (x : Nat) : Nat := x + 1
theorem not_inf3 {x : Nat} (hx : x < 18446744073709551616) (hn : ¬ Bt.Ff.isn x) (h : ¬ x = 9218868437227405312) : Bt.Ff.srung x < 9218868437227405312 := by
  unfold Bt.Ff.srung
  unfold Bt.Ff.isn at hn
  cases s : Bt.Ff.sgn x
  · rw [if_neg Bool.false_ne_true]
    have := Bt.sgn_rung hx s
    omega
  · rw [if_pos rfl]; omega
set_option maxRecDepth 100000 in
theorem PNext_c (x : Nat) (hx : x < 18446744073709551616) (hn : ¬ Bt.Ff.isn x) (w : World) : Calls Tryd.prog 14 #[.float .f64 x, .float .f64 9218868437227405312] w fun e w' => e = .returned (.float .f64 (Bt.upF x)) ∧ Below w.heap.size w w' := by
  have N1 : Hid (∀ w, Calls Tryd.prog 27 #[.float .f64 x] w fun e w' => e = .returned (.bool false) ∧ Below w.heap.size w w') := Lib.hid fun w => by have := PIsNaN3_c x w; rwa [decide_eq_false hn] at this
  have N2 : Hid (∀ w, Calls Tryd.prog 27 #[.float .f64 9218868437227405312] w fun e w' => e = .returned (.bool false) ∧ Below w.heap.size w w') := Lib.hid fun w => by have := PIsNaN3_c 9218868437227405312 w; rwa [decide_eq_false (by decide)] at this
  have N3 := Lib.hid PCopy3_c
  have h12 := Bt.ext_from
  have h44 := Bt.ext_bits
  by_cases hi : x = 9218868437227405312
  · have H := Lib.hid (Bt.up_inf ((Bt.infW_iff x).2 hi))
    subst hi
    have q1 : (FloatKind.f64.format.order 9218868437227405312 9218868437227405312 == some Ordering.eq) = true := by decide +kernel
    clear h12 h44
    go_enter Tryd.func14, Tryd.ntmps14
    go_wp2_with (first | (go_at_call 27; (with_reducible refine (N2.out _).mono ?_); rintro ee w1 ⟨rfl, hb⟩))
    go_ret
    exact ⟨by rw [H.out]; rfl, by first | exact below_chain (by assumption) (by assumption) | assumption⟩
  · have hif : Bt.infW x = false := Bool.eq_false_iff.2 fun c => hi ((Bt.infW_iff x).1 c)
    have hs := not_inf3 hx hn hi
    have ei : Bt.Ff.srung 9218868437227405312 = 9218868437227405312 := by decide
    have q1 : (FloatKind.f64.format.order x 9218868437227405312 == some Ordering.eq) = false := by
      rw [Bt.f_eq]; unfold Bt.feqB; exact decide_eq_false (fun c => by rw [ei] at c; omega)
    by_cases h0 : Bt.Ff.rung x = 0
    · have H := Lib.hid (Bt.up_zero hn hif h0)
      have q2 : (FloatKind.f64.format.order x 0 == some Ordering.eq) = true := by rw [Bt.f_eq]; exact Bt.feq_z h0
      have e1 : ∀ w, (callFunc 30 #[.int .u64 1]).run Tryd.prog w = .ok (.value (.float .f64 1)) w := h12 1
      clear h12 h44 hs ei hif
      go_enter Tryd.func14, Tryd.ntmps14
      go_wp2_with (first
        | (go_at_call 27; (with_reducible refine (N1.out _).mono ?_); rintro ee w1 ⟨rfl, hb⟩)
        | (go_at_call 27; (with_reducible refine (N2.out _).mono ?_); rintro ee w2 ⟨rfl, hb2⟩)
        | (go_at_call 29; (with_reducible refine (N3.out _).mono ?_); rintro ee w3 ⟨rfl, hb3⟩))
      go_ret
      exact ⟨by rw [H.out]; rfl, below_chain (below_chain hb hb2) hb3⟩
    · have q2 : (FloatKind.f64.format.order x 0 == some Ordering.eq) = false := by rw [Bt.f_eq]; exact Bt.feq_nz h0
      have q3 : (FloatKind.f64.format.order 9218868437227405312 x == some Ordering.gt) = true := by
        rw [Bt.f_gt]; unfold Bt.fltB; exact decide_eq_true ⟨hn, by decide, by rw [ei]; exact hs⟩
      have q4 : (FloatKind.f64.format.order x 0 == some Ordering.gt) = !Bt.Ff.sgn x := by
        rw [Bt.f_gt]; unfold Bt.fltB
        have k := (Bt.srung_eq_zero x).1
        cases s : Bt.Ff.sgn x
        · refine decide_eq_true ⟨by decide, hn, ?_⟩
          rw [Bt.srung_zero]; unfold Bt.Ff.srung; rw [s, if_neg Bool.false_ne_true]; omega
        · refine decide_eq_false fun c => ?_
          have := c.2.2
          rw [Bt.srung_zero] at this; unfold Bt.Ff.srung at this; rw [s, if_pos rfl] at this; omega
      cases s : Bt.Ff.sgn x
      · rw [s] at q4
        have H := Lib.hid (Bt.up_pos hn hif h0 s)
        have e : IntKind.u64.wrap ((x : Int) + 1) = (nxt3 x : Int) := by
          rw [IntKind.wrap_u64]; unfold nxt3; have := Bt.sgn_rung hx s; have := Bt.Ff.rung_lt x; omega
        have en : nxt3 x = x + 1 := by unfold nxt3; rfl
        have EN := Lib.hid en
        clear hs ei hif en
        go_enter Tryd.func14, Tryd.ntmps14
        go_wp2_with (first
          | (go_at_call 27; (with_reducible refine (N1.out _).mono ?_); rintro ee w1 ⟨rfl, hb⟩)
          | (go_at_call 27; (with_reducible refine (N2.out _).mono ?_); rintro ee w2 ⟨rfl, hb2⟩))
        go_ret
        exact ⟨by rw [H.out, ← EN.out]; rfl, below_chain hb hb2⟩
      · rw [s] at q4
        have H := Lib.hid (Bt.up_neg hn hif h0 s)
        have e : IntKind.u64.wrap ((x : Int) - 1) = (prv3 x : Int) := by
          rw [IntKind.wrap_u64]; unfold prv3; have := Bt.sgn_rung' hx s; rw [Bt.topped_eq] at this; omega
        have en : prv3 x = x - 1 := by unfold prv3; rfl
        have EN := Lib.hid en
        clear hs ei hif en
        go_enter Tryd.func14, Tryd.ntmps14
        go_wp2_with (first
          | (go_at_call 27; (with_reducible refine (N1.out _).mono ?_); rintro ee w1 ⟨rfl, hb⟩)
          | (go_at_call 27; (with_reducible refine (N2.out _).mono ?_); rintro ee w2 ⟨rfl, hb2⟩))
        go_ret
        exact ⟨by rw [H.out, ← EN.out]; rfl, below_chain hb hb2⟩
theorem DNear_any (a : Dy) (w : World) (ha : a.Ok) (hG : Globs glT w) : Calls Tryd.prog 6 #[.agg #[.bool a.g, .string (natS a.n), .int .i64 a.x]] w fun e w' => e = .returned (.tuple #[.float .f64 (nearW a), .int .i64 0]) ∧ Below w.heap.size w w' := by
  rcases ha with rfl | hn
  · have hz : nearW Dy.zero = 0 := words_zero.2.2
    rw [hz]
    show Calls Tryd.prog _ #[.agg #[.bool false, .string (natS 0), .int .i64 0]] w _
    rw [natS_zero]
    exact DNear_z w hG
  · have h0 : a.n ≠ 0 := odd_ne hn.2.1
    obtain ⟨g, n, x⟩ := a
    simp only at h0
    unfold nearW
    rw [if_neg h0]
    cases g with
    | false => exact DNear_f n x w hn hG
    | true => exact DNear_t n x w hn hG
@[reducible] def DBelow_z_f : FuncId := 7
@[reducible] def DBelow_z_a : List AV := [.lit (.agg #[.bool false, .string ⟨#[]⟩, .int .i64 0])]
@[reducible] noncomputable def DBelow_z_k : Know := ⟨[],
  [(12, [.lit (.agg #[.bool false, .string ⟨#[]⟩, .int .i64 0])], .lit (.int .i64 0))]⟩
theorem DBelow_z_r1 : @comes DBelow_z_k Tryd.prog glT 3000 DBelow_z_f DBelow_z_a = some (.lit (.tuple #[.float .f64 0, .int .i64 0])) := by kernel_rfl
set_option maxRecDepth 100000 in
set_option maxHeartbeats 4000000 in
theorem DBelow_z  (w : World) (hG : Globs glT w)  : Calls Tryd.prog 7 #[.agg #[.bool false, .string ⟨#[]⟩, .int .i64 0]] w fun e w' => e = .returned (.tuple #[.float .f64 0, .int .i64 0]) ∧ Below w.heap.size w w' := by
  letI : Env := mkEnv glT [] rfl
  have hops : OpsT Tryd.prog (@Know.ops DBelow_z_k) := trivial
  have hcalls : CallsT Tryd.prog (@Know.calls DBelow_z_k) := ⟨callt rfl rfl fun w hG => (by have h := DCheck_dyr Dy.zero (Or.inl rfl) w; rw [natS_dz] at h; exact h),
    trivial⟩
  have fin : ∀ v, @comes DBelow_z_k Tryd.prog glT 3000 DBelow_z_f DBelow_z_a = some v → ground v = true → Ending.returned (gval v) = .returned (.tuple #[.float .f64 0, .int .i64 0]) → Calls Tryd.prog 7 #[.agg #[.bool false, .string ⟨#[]⟩, .int .i64 0]] w fun e w' => e = .returned (.tuple #[.float .f64 0, .int .i64 0]) ∧ Below w.heap.size w w' := fun v h1 h2 h3 => (@sym_ok _ DBelow_z_k _ (@KnowOk.of _ DBelow_z_k _ hops hcalls) (by kernel_rfl) _ _ _ _ h1 rfl h2 _ hG).mono fun e w' h => ⟨h.1.trans h3, h.2⟩
  clear hops hcalls
  exact fin _ (DBelow_z_r1) rfl rfl
theorem DBelow_any (a : Dy) (w : World) (ha : a.Ok) (hG : Globs glT w) : Calls Tryd.prog 7 #[.agg #[.bool a.g, .string (natS a.n), .int .i64 a.x]] w fun e w' => e = .returned (.tuple #[.float .f64 (lowW a), .int .i64 0]) ∧ Below w.heap.size w w' := by
  rcases ha with rfl | hn
  · have hz : lowW Dy.zero = 0 := words_zero.1
    rw [hz]
    show Calls Tryd.prog _ #[.agg #[.bool false, .string (natS 0), .int .i64 0]] w _
    rw [natS_zero]
    exact DBelow_z w hG
  · have h0 : a.n ≠ 0 := odd_ne hn.2.1
    obtain ⟨g, n, x⟩ := a
    simp only at h0
    unfold lowW
    rw [if_neg h0]
    cases g with
    | false => exact DBelow_f n x w hn hG
    | true => exact DBelow_t n x w hn hG
@[reducible] def DAbove_z_f : FuncId := 8
@[reducible] def DAbove_z_a : List AV := [.lit (.agg #[.bool false, .string ⟨#[]⟩, .int .i64 0])]
@[reducible] noncomputable def DAbove_z_k : Know := ⟨[],
  [(12, [.lit (.agg #[.bool false, .string ⟨#[]⟩, .int .i64 0])], .lit (.int .i64 0))]⟩
theorem DAbove_z_r1 : @comes DAbove_z_k Tryd.prog glT 3000 DAbove_z_f DAbove_z_a = some (.lit (.tuple #[.float .f64 0, .int .i64 0])) := by kernel_rfl
set_option maxRecDepth 100000 in
set_option maxHeartbeats 4000000 in
theorem DAbove_z  (w : World) (hG : Globs glT w)  : Calls Tryd.prog 8 #[.agg #[.bool false, .string ⟨#[]⟩, .int .i64 0]] w fun e w' => e = .returned (.tuple #[.float .f64 0, .int .i64 0]) ∧ Below w.heap.size w w' := by
  letI : Env := mkEnv glT [] rfl
  have hops : OpsT Tryd.prog (@Know.ops DAbove_z_k) := trivial
  have hcalls : CallsT Tryd.prog (@Know.calls DAbove_z_k) := ⟨callt rfl rfl fun w hG => (by have h := DCheck_dyr Dy.zero (Or.inl rfl) w; rw [natS_dz] at h; exact h),
    trivial⟩
  have fin : ∀ v, @comes DAbove_z_k Tryd.prog glT 3000 DAbove_z_f DAbove_z_a = some v → ground v = true → Ending.returned (gval v) = .returned (.tuple #[.float .f64 0, .int .i64 0]) → Calls Tryd.prog 8 #[.agg #[.bool false, .string ⟨#[]⟩, .int .i64 0]] w fun e w' => e = .returned (.tuple #[.float .f64 0, .int .i64 0]) ∧ Below w.heap.size w w' := fun v h1 h2 h3 => (@sym_ok _ DAbove_z_k _ (@KnowOk.of _ DAbove_z_k _ hops hcalls) (by kernel_rfl) _ _ _ _ h1 rfl h2 _ hG).mono fun e w' h => ⟨h.1.trans h3, h.2⟩
  clear hops hcalls
  exact fin _ (DAbove_z_r1) rfl rfl
theorem DAbove_any (a : Dy) (w : World) (ha : a.Ok) (hG : Globs glT w) : Calls Tryd.prog 8 #[.agg #[.bool a.g, .string (natS a.n), .int .i64 a.x]] w fun e w' => e = .returned (.tuple #[.float .f64 (highW a), .int .i64 0]) ∧ Below w.heap.size w w' := by
  rcases ha with rfl | hn
  · have hz : highW Dy.zero = 0 := words_zero.2.1
    rw [hz]
    show Calls Tryd.prog _ #[.agg #[.bool false, .string (natS 0), .int .i64 0]] w _
    rw [natS_zero]
    exact DAbove_z w hG
  · have h0 : a.n ≠ 0 := odd_ne hn.2.1
    obtain ⟨g, n, x⟩ := a
    simp only at h0
    unfold highW
    rw [if_neg h0]
    cases g with
    | false => exact DAbove_f n x w hn hG
    | true => exact DAbove_t n x w hn hG
theorem of_feqz {x : Nat} (h : Bt.feqB x 0 = true) : Bt.Ff.rung x = 0 := by rw [Bt.feq_zero] at h; exact of_decide_eq_true h
theorem own_feq {x y : Nat} (hx : x < 18446744073709551616) (hf : Bt.finB x = true) (h : y = lowW (flt x) ∨ y = highW (flt x) ∨ y = nearW (flt x)) : Bt.feqB y x = true := by
  have hi := fin_isn hf
  obtain ⟨k1, k2⟩ := own_words hx hf
  by_cases h0 : Bt.Ff.rung x = 0
  · obtain ⟨e1, e2, e3⟩ := k1 h0
    have hy : y = 0 := by rcases h with h | h | h; exact h.trans e1; exact h.trans e2; exact h.trans e3
    rw [hy]
    unfold Bt.feqB
    refine decide_eq_true ⟨by decide, hi, ?_⟩
    rw [Bt.srung_zero, (Bt.srung_eq_zero x).2 h0]
  · obtain ⟨e1, e2, e3⟩ := k2 h0
    have hy : y = x := by rcases h with h | h | h; exact h.trans e1; exact h.trans e2; exact h.trans e3
    rw [hy]; exact Bt.feq_ok hi
theorem DAgainst_w (a : Dy) (x : Nat) (w : World) (ha : a.Ok) (hx : x < 18446744073709551616) (hn : ¬ Bt.Ff.isn x) (hG : Globs glT w) : Calls Tryd.prog 13 #[.agg #[.bool a.g, .string (natS a.n), .int .i64 a.x], .float .f64 x] w fun e w' => e = .returned (.tuple #[.int .i64 (agR a x), .int .i64 0]) ∧ Below w.heap.size w w' := by
  have h := DAgainst_c a x w ha hx hG
  have e : agE x = 0 := by unfold agE; rw [if_neg hn]
  rw [e] at h
  exact h
@[reducible] def DyadBetween_f_f : FuncId := 3
@[reducible] def DyadBetween_f_a : List AV := [.agg [.sym 0, .sym 1, .sym 2], .agg [.sym 3, .sym 4, .sym 5], .sym 6]
@[reducible] noncomputable def DyadBetween_f_k (b2 b3 b4 b6 b7 b9 b10 b13 b14 b15 b16 b17 b18 b19 b20 b21 : Bool) : Know := ⟨[([0, 12, 25], [.sym 10, .sym 6], .lit (.bool false)),
  ([0, 12, 25], [.sym 6, .lit (.float .f64 0)], .lit (.bool (!b4))),
  ([0, 11, 25], [.sym 6, .lit (.float .f64 0)], .lit (.bool b4)),
  ([0, 12, 25], [.sym 11, .sym 6], .lit (.bool false)),
  ([0, 12, 25], [.sym 12, .sym 6], .lit (.bool false)),
  ([0, 13, 3], [.sym 16, .lit (.int .i64 0)], .lit (.bool false)),
  ([0, 15, 3], [.sym 17, .lit (.int .i64 0)], .lit (.bool false)),
  ([0, 11, 3], [.sym 16, .lit (.int .i64 0)], .lit (.bool b14)),
  ([0, 11, 3], [.sym 17, .lit (.int .i64 0)], .lit (.bool b15)),
  ([0, 12, 3], [.sym 16, .lit (.int .i64 0)], .lit (.bool (!b14))),
  ([0, 15, 3], [.sym 18, .lit (.int .i64 0)], .lit (.bool b16)),
  ([0, 14, 25], [.sym 13, .sym 19], .lit (.bool b17)),
  ([0, 14, 25], [.sym 14, .sym 20], .lit (.bool b18)),
  ([0, 14, 25], [.sym 15, .sym 21], .lit (.bool b19)),
  ([0, 12, 25], [.sym 23, .sym 14], .lit (.bool (!b20)))],
  [(4, [], .lit (.bool true)),
  (5, [.sym 6], .tup [.agg [.sym 7, .sym 8, .sym 9], .lit (.int .i64 0)]),
  (6, [.agg [.sym 7, .sym 8, .sym 9]], .tup [.sym 10, .lit (.int .i64 0)]),
  (9, [.sym 6, .sym 10], .lit (.bool b2)),
  (10, [.sym 10], .lit (.bool b3)),
  (7, [.agg [.sym 7, .sym 8, .sym 9]], .tup [.sym 11, .lit (.int .i64 0)]),
  (9, [.sym 6, .sym 11], .lit (.bool b6)),
  (10, [.sym 11], .lit (.bool b7)),
  (8, [.agg [.sym 7, .sym 8, .sym 9]], .tup [.sym 12, .lit (.int .i64 0)]),
  (9, [.sym 6, .sym 12], .lit (.bool b9)),
  (10, [.sym 12], .lit (.bool b10)),
  (12, [.agg [.sym 0, .sym 1, .sym 2]], .lit (.int .i64 0)),
  (12, [.agg [.sym 3, .sym 4, .sym 5]], .lit (.int .i64 0)),
  (7, [.agg [.sym 0, .sym 1, .sym 2]], .tup [.sym 13, .lit (.int .i64 0)]),
  (8, [.agg [.sym 0, .sym 1, .sym 2]], .tup [.sym 14, .lit (.int .i64 0)]),
  (6, [.agg [.sym 0, .sym 1, .sym 2]], .tup [.sym 15, .lit (.int .i64 0)]),
  (13, [.agg [.sym 0, .sym 1, .sym 2], .sym 13], .tup [.sym 16, .lit (.int .i64 0)]),
  (13, [.agg [.sym 0, .sym 1, .sym 2], .sym 14], .tup [.sym 17, .lit (.int .i64 0)]),
  (9, [.sym 15, .sym 13], .lit (.bool b13)),
  (16, [.agg [.sym 0, .sym 1, .sym 2], .agg [.sym 3, .sym 4, .sym 5]], .tup [.sym 18, .lit (.int .i64 0)]),
  (7, [.agg [.sym 3, .sym 4, .sym 5]], .tup [.sym 19, .lit (.int .i64 0)]),
  (8, [.agg [.sym 3, .sym 4, .sym 5]], .tup [.sym 20, .lit (.int .i64 0)]),
  (6, [.agg [.sym 3, .sym 4, .sym 5]], .tup [.sym 21, .lit (.int .i64 0)]),
  (15, [.lit (.int .i64 1)], .sym 22),
  (14, [.sym 13, .sym 22], .sym 23),
  (9, [.sym 15, .sym 14], .lit (.bool b21))]⟩
theorem DyadBetween_f_r1 (b2 b6 b9 b17 b18 b19 b20 b21 : Bool) : @comes (DyadBetween_f_k b2 false true b6 false b9 false true true true true b17 b18 b19 b20 b21) Tryd.prog glT 3000 DyadBetween_f_f DyadBetween_f_a = some (.lit (.bool true)) := by kernel_rfl
theorem DyadBetween_f_r2 (b2 b6 b9 b20 b21 : Bool) : @comes (DyadBetween_f_k b2 false true b6 false b9 false true true true false true true true b20 b21) Tryd.prog glT 3000 DyadBetween_f_f DyadBetween_f_a = some (.lit (.bool true)) := by kernel_rfl
theorem DyadBetween_f_r3 (b2 b6 b9 b17 b18 b19 b21 : Bool) : @comes (DyadBetween_f_k b2 false true b6 false b9 false true false false true b17 b18 b19 true b21) Tryd.prog glT 3000 DyadBetween_f_f DyadBetween_f_a = some (.lit (.bool true)) := by kernel_rfl
theorem DyadBetween_f_r4 (b2 b6 b9 b21 : Bool) : @comes (DyadBetween_f_k b2 false true b6 false b9 false true false false false true true true true b21) Tryd.prog glT 3000 DyadBetween_f_f DyadBetween_f_a = some (.lit (.bool true)) := by kernel_rfl
theorem DyadBetween_f_r5 (b2 b6 b9 b17 b18 b19 b20 : Bool) : @comes (DyadBetween_f_k b2 false true b6 false b9 false false true true true b17 b18 b19 b20 true) Tryd.prog glT 3000 DyadBetween_f_f DyadBetween_f_a = some (.lit (.bool true)) := by kernel_rfl
theorem DyadBetween_f_r6 (b2 b6 b9 b20 : Bool) : @comes (DyadBetween_f_k b2 false true b6 false b9 false false true true false true true true b20 true) Tryd.prog glT 3000 DyadBetween_f_f DyadBetween_f_a = some (.lit (.bool true)) := by kernel_rfl
theorem DyadBetween_f_r7 (b2 b6 b9 b17 b18 b19 : Bool) : @comes (DyadBetween_f_k b2 false true b6 false b9 false false false false true b17 b18 b19 true true) Tryd.prog glT 3000 DyadBetween_f_f DyadBetween_f_a = some (.lit (.bool true)) := by kernel_rfl
theorem DyadBetween_f_r8 (b2 b6 b9 : Bool) : @comes (DyadBetween_f_k b2 false true b6 false b9 false false false false false true true true true true) Tryd.prog glT 3000 DyadBetween_f_f DyadBetween_f_a = some (.lit (.bool true)) := by kernel_rfl
theorem DyadBetween_f_r9 (b17 b18 b19 b20 b21 : Bool) : @comes (DyadBetween_f_k true true false true true true true true true true true b17 b18 b19 b20 b21) Tryd.prog glT 3000 DyadBetween_f_f DyadBetween_f_a = some (.lit (.bool true)) := by kernel_rfl
theorem DyadBetween_f_r10 (b20 b21 : Bool) : @comes (DyadBetween_f_k true true false true true true true true true true false true true true b20 b21) Tryd.prog glT 3000 DyadBetween_f_f DyadBetween_f_a = some (.lit (.bool true)) := by kernel_rfl
theorem DyadBetween_f_r11 (b17 b18 b19 b21 : Bool) : @comes (DyadBetween_f_k true true false true true true true true false false true b17 b18 b19 true b21) Tryd.prog glT 3000 DyadBetween_f_f DyadBetween_f_a = some (.lit (.bool true)) := by kernel_rfl
theorem DyadBetween_f_r12 (b21 : Bool) : @comes (DyadBetween_f_k true true false true true true true true false false false true true true true b21) Tryd.prog glT 3000 DyadBetween_f_f DyadBetween_f_a = some (.lit (.bool true)) := by kernel_rfl
theorem DyadBetween_f_r13 (b17 b18 b19 b20 : Bool) : @comes (DyadBetween_f_k true true false true true true true false true true true b17 b18 b19 b20 true) Tryd.prog glT 3000 DyadBetween_f_f DyadBetween_f_a = some (.lit (.bool true)) := by kernel_rfl
theorem DyadBetween_f_r14 (b20 : Bool) : @comes (DyadBetween_f_k true true false true true true true false true true false true true true b20 true) Tryd.prog glT 3000 DyadBetween_f_f DyadBetween_f_a = some (.lit (.bool true)) := by kernel_rfl
theorem DyadBetween_f_r15 (b17 b18 b19 : Bool) : @comes (DyadBetween_f_k true true false true true true true false false false true b17 b18 b19 true true) Tryd.prog glT 3000 DyadBetween_f_f DyadBetween_f_a = some (.lit (.bool true)) := by kernel_rfl
theorem DyadBetween_f_r16 : @comes (DyadBetween_f_k true true false true true true true false false false false true true true true true) Tryd.prog glT 3000 DyadBetween_f_f DyadBetween_f_a = some (.lit (.bool true)) := by kernel_rfl
theorem DyadBetween_f_r17 (b17 b18 b19 b20 b21 : Bool) : @comes (DyadBetween_f_k true true false true true true false true true true true b17 b18 b19 b20 b21) Tryd.prog glT 3000 DyadBetween_f_f DyadBetween_f_a = some (.lit (.bool true)) := by kernel_rfl
theorem DyadBetween_f_r18 (b20 b21 : Bool) : @comes (DyadBetween_f_k true true false true true true false true true true false true true true b20 b21) Tryd.prog glT 3000 DyadBetween_f_f DyadBetween_f_a = some (.lit (.bool true)) := by kernel_rfl
theorem DyadBetween_f_r19 (b17 b18 b19 b21 : Bool) : @comes (DyadBetween_f_k true true false true true true false true false false true b17 b18 b19 true b21) Tryd.prog glT 3000 DyadBetween_f_f DyadBetween_f_a = some (.lit (.bool true)) := by kernel_rfl
theorem DyadBetween_f_r20 (b21 : Bool) : @comes (DyadBetween_f_k true true false true true true false true false false false true true true true b21) Tryd.prog glT 3000 DyadBetween_f_f DyadBetween_f_a = some (.lit (.bool true)) := by kernel_rfl
theorem DyadBetween_f_r21 (b17 b18 b19 b20 : Bool) : @comes (DyadBetween_f_k true true false true true true false false true true true b17 b18 b19 b20 true) Tryd.prog glT 3000 DyadBetween_f_f DyadBetween_f_a = some (.lit (.bool true)) := by kernel_rfl
theorem DyadBetween_f_r22 (b20 : Bool) : @comes (DyadBetween_f_k true true false true true true false false true true false true true true b20 true) Tryd.prog glT 3000 DyadBetween_f_f DyadBetween_f_a = some (.lit (.bool true)) := by kernel_rfl
theorem DyadBetween_f_r23 (b17 b18 b19 : Bool) : @comes (DyadBetween_f_k true true false true true true false false false false true b17 b18 b19 true true) Tryd.prog glT 3000 DyadBetween_f_f DyadBetween_f_a = some (.lit (.bool true)) := by kernel_rfl
theorem DyadBetween_f_r24 : @comes (DyadBetween_f_k true true false true true true false false false false false true true true true true) Tryd.prog glT 3000 DyadBetween_f_f DyadBetween_f_a = some (.lit (.bool true)) := by kernel_rfl
theorem DyadBetween_f_r25 (b17 b18 b19 b20 b21 : Bool) : @comes (DyadBetween_f_k true true false true false true true true true true true b17 b18 b19 b20 b21) Tryd.prog glT 3000 DyadBetween_f_f DyadBetween_f_a = some (.lit (.bool true)) := by kernel_rfl
theorem DyadBetween_f_r26 (b20 b21 : Bool) : @comes (DyadBetween_f_k true true false true false true true true true true false true true true b20 b21) Tryd.prog glT 3000 DyadBetween_f_f DyadBetween_f_a = some (.lit (.bool true)) := by kernel_rfl
theorem DyadBetween_f_r27 (b17 b18 b19 b21 : Bool) : @comes (DyadBetween_f_k true true false true false true true true false false true b17 b18 b19 true b21) Tryd.prog glT 3000 DyadBetween_f_f DyadBetween_f_a = some (.lit (.bool true)) := by kernel_rfl
theorem DyadBetween_f_r28 (b21 : Bool) : @comes (DyadBetween_f_k true true false true false true true true false false false true true true true b21) Tryd.prog glT 3000 DyadBetween_f_f DyadBetween_f_a = some (.lit (.bool true)) := by kernel_rfl
theorem DyadBetween_f_r29 (b17 b18 b19 b20 : Bool) : @comes (DyadBetween_f_k true true false true false true true false true true true b17 b18 b19 b20 true) Tryd.prog glT 3000 DyadBetween_f_f DyadBetween_f_a = some (.lit (.bool true)) := by kernel_rfl
theorem DyadBetween_f_r30 (b20 : Bool) : @comes (DyadBetween_f_k true true false true false true true false true true false true true true b20 true) Tryd.prog glT 3000 DyadBetween_f_f DyadBetween_f_a = some (.lit (.bool true)) := by kernel_rfl
theorem DyadBetween_f_r31 (b17 b18 b19 : Bool) : @comes (DyadBetween_f_k true true false true false true true false false false true b17 b18 b19 true true) Tryd.prog glT 3000 DyadBetween_f_f DyadBetween_f_a = some (.lit (.bool true)) := by kernel_rfl
theorem DyadBetween_f_r32 : @comes (DyadBetween_f_k true true false true false true true false false false false true true true true true) Tryd.prog glT 3000 DyadBetween_f_f DyadBetween_f_a = some (.lit (.bool true)) := by kernel_rfl
theorem DyadBetween_f_r33 (b17 b18 b19 b20 b21 : Bool) : @comes (DyadBetween_f_k true true false true false true false true true true true b17 b18 b19 b20 b21) Tryd.prog glT 3000 DyadBetween_f_f DyadBetween_f_a = some (.lit (.bool true)) := by kernel_rfl
theorem DyadBetween_f_r34 (b20 b21 : Bool) : @comes (DyadBetween_f_k true true false true false true false true true true false true true true b20 b21) Tryd.prog glT 3000 DyadBetween_f_f DyadBetween_f_a = some (.lit (.bool true)) := by kernel_rfl
theorem DyadBetween_f_r35 (b17 b18 b19 b21 : Bool) : @comes (DyadBetween_f_k true true false true false true false true false false true b17 b18 b19 true b21) Tryd.prog glT 3000 DyadBetween_f_f DyadBetween_f_a = some (.lit (.bool true)) := by kernel_rfl
theorem DyadBetween_f_r36 (b21 : Bool) : @comes (DyadBetween_f_k true true false true false true false true false false false true true true true b21) Tryd.prog glT 3000 DyadBetween_f_f DyadBetween_f_a = some (.lit (.bool true)) := by kernel_rfl
theorem DyadBetween_f_r37 (b17 b18 b19 b20 : Bool) : @comes (DyadBetween_f_k true true false true false true false false true true true b17 b18 b19 b20 true) Tryd.prog glT 3000 DyadBetween_f_f DyadBetween_f_a = some (.lit (.bool true)) := by kernel_rfl
theorem DyadBetween_f_r38 (b20 : Bool) : @comes (DyadBetween_f_k true true false true false true false false true true false true true true b20 true) Tryd.prog glT 3000 DyadBetween_f_f DyadBetween_f_a = some (.lit (.bool true)) := by kernel_rfl
theorem DyadBetween_f_r39 (b17 b18 b19 : Bool) : @comes (DyadBetween_f_k true true false true false true false false false false true b17 b18 b19 true true) Tryd.prog glT 3000 DyadBetween_f_f DyadBetween_f_a = some (.lit (.bool true)) := by kernel_rfl
theorem DyadBetween_f_r40 : @comes (DyadBetween_f_k true true false true false true false false false false false true true true true true) Tryd.prog glT 3000 DyadBetween_f_f DyadBetween_f_a = some (.lit (.bool true)) := by kernel_rfl
theorem DyadBetween_f_r41 (b17 b18 b19 b20 b21 : Bool) : @comes (DyadBetween_f_k true false false true true true true true true true true b17 b18 b19 b20 b21) Tryd.prog glT 3000 DyadBetween_f_f DyadBetween_f_a = some (.lit (.bool true)) := by kernel_rfl
theorem DyadBetween_f_r42 (b20 b21 : Bool) : @comes (DyadBetween_f_k true false false true true true true true true true false true true true b20 b21) Tryd.prog glT 3000 DyadBetween_f_f DyadBetween_f_a = some (.lit (.bool true)) := by kernel_rfl
theorem DyadBetween_f_r43 (b17 b18 b19 b21 : Bool) : @comes (DyadBetween_f_k true false false true true true true true false false true b17 b18 b19 true b21) Tryd.prog glT 3000 DyadBetween_f_f DyadBetween_f_a = some (.lit (.bool true)) := by kernel_rfl
theorem DyadBetween_f_r44 (b21 : Bool) : @comes (DyadBetween_f_k true false false true true true true true false false false true true true true b21) Tryd.prog glT 3000 DyadBetween_f_f DyadBetween_f_a = some (.lit (.bool true)) := by kernel_rfl
theorem DyadBetween_f_r45 (b17 b18 b19 b20 : Bool) : @comes (DyadBetween_f_k true false false true true true true false true true true b17 b18 b19 b20 true) Tryd.prog glT 3000 DyadBetween_f_f DyadBetween_f_a = some (.lit (.bool true)) := by kernel_rfl
theorem DyadBetween_f_r46 (b20 : Bool) : @comes (DyadBetween_f_k true false false true true true true false true true false true true true b20 true) Tryd.prog glT 3000 DyadBetween_f_f DyadBetween_f_a = some (.lit (.bool true)) := by kernel_rfl
theorem DyadBetween_f_r47 (b17 b18 b19 : Bool) : @comes (DyadBetween_f_k true false false true true true true false false false true b17 b18 b19 true true) Tryd.prog glT 3000 DyadBetween_f_f DyadBetween_f_a = some (.lit (.bool true)) := by kernel_rfl
theorem DyadBetween_f_r48 : @comes (DyadBetween_f_k true false false true true true true false false false false true true true true true) Tryd.prog glT 3000 DyadBetween_f_f DyadBetween_f_a = some (.lit (.bool true)) := by kernel_rfl
theorem DyadBetween_f_r49 (b17 b18 b19 b20 b21 : Bool) : @comes (DyadBetween_f_k true false false true true true false true true true true b17 b18 b19 b20 b21) Tryd.prog glT 3000 DyadBetween_f_f DyadBetween_f_a = some (.lit (.bool true)) := by kernel_rfl
theorem DyadBetween_f_r50 (b20 b21 : Bool) : @comes (DyadBetween_f_k true false false true true true false true true true false true true true b20 b21) Tryd.prog glT 3000 DyadBetween_f_f DyadBetween_f_a = some (.lit (.bool true)) := by kernel_rfl
theorem DyadBetween_f_r51 (b17 b18 b19 b21 : Bool) : @comes (DyadBetween_f_k true false false true true true false true false false true b17 b18 b19 true b21) Tryd.prog glT 3000 DyadBetween_f_f DyadBetween_f_a = some (.lit (.bool true)) := by kernel_rfl
theorem DyadBetween_f_r52 (b21 : Bool) : @comes (DyadBetween_f_k true false false true true true false true false false false true true true true b21) Tryd.prog glT 3000 DyadBetween_f_f DyadBetween_f_a = some (.lit (.bool true)) := by kernel_rfl
theorem DyadBetween_f_r53 (b17 b18 b19 b20 : Bool) : @comes (DyadBetween_f_k true false false true true true false false true true true b17 b18 b19 b20 true) Tryd.prog glT 3000 DyadBetween_f_f DyadBetween_f_a = some (.lit (.bool true)) := by kernel_rfl
theorem DyadBetween_f_r54 (b20 : Bool) : @comes (DyadBetween_f_k true false false true true true false false true true false true true true b20 true) Tryd.prog glT 3000 DyadBetween_f_f DyadBetween_f_a = some (.lit (.bool true)) := by kernel_rfl
theorem DyadBetween_f_r55 (b17 b18 b19 : Bool) : @comes (DyadBetween_f_k true false false true true true false false false false true b17 b18 b19 true true) Tryd.prog glT 3000 DyadBetween_f_f DyadBetween_f_a = some (.lit (.bool true)) := by kernel_rfl
theorem DyadBetween_f_r56 : @comes (DyadBetween_f_k true false false true true true false false false false false true true true true true) Tryd.prog glT 3000 DyadBetween_f_f DyadBetween_f_a = some (.lit (.bool true)) := by kernel_rfl
theorem DyadBetween_f_r57 (b17 b18 b19 b20 b21 : Bool) : @comes (DyadBetween_f_k true false false true false true true true true true true b17 b18 b19 b20 b21) Tryd.prog glT 3000 DyadBetween_f_f DyadBetween_f_a = some (.lit (.bool true)) := by kernel_rfl
theorem DyadBetween_f_r58 (b20 b21 : Bool) : @comes (DyadBetween_f_k true false false true false true true true true true false true true true b20 b21) Tryd.prog glT 3000 DyadBetween_f_f DyadBetween_f_a = some (.lit (.bool true)) := by kernel_rfl
theorem DyadBetween_f_r59 (b17 b18 b19 b21 : Bool) : @comes (DyadBetween_f_k true false false true false true true true false false true b17 b18 b19 true b21) Tryd.prog glT 3000 DyadBetween_f_f DyadBetween_f_a = some (.lit (.bool true)) := by kernel_rfl
theorem DyadBetween_f_r60 (b21 : Bool) : @comes (DyadBetween_f_k true false false true false true true true false false false true true true true b21) Tryd.prog glT 3000 DyadBetween_f_f DyadBetween_f_a = some (.lit (.bool true)) := by kernel_rfl
theorem DyadBetween_f_r61 (b17 b18 b19 b20 : Bool) : @comes (DyadBetween_f_k true false false true false true true false true true true b17 b18 b19 b20 true) Tryd.prog glT 3000 DyadBetween_f_f DyadBetween_f_a = some (.lit (.bool true)) := by kernel_rfl
theorem DyadBetween_f_r62 (b20 : Bool) : @comes (DyadBetween_f_k true false false true false true true false true true false true true true b20 true) Tryd.prog glT 3000 DyadBetween_f_f DyadBetween_f_a = some (.lit (.bool true)) := by kernel_rfl
theorem DyadBetween_f_r63 (b17 b18 b19 : Bool) : @comes (DyadBetween_f_k true false false true false true true false false false true b17 b18 b19 true true) Tryd.prog glT 3000 DyadBetween_f_f DyadBetween_f_a = some (.lit (.bool true)) := by kernel_rfl
theorem DyadBetween_f_r64 : @comes (DyadBetween_f_k true false false true false true true false false false false true true true true true) Tryd.prog glT 3000 DyadBetween_f_f DyadBetween_f_a = some (.lit (.bool true)) := by kernel_rfl
theorem DyadBetween_f_r65 (b17 b18 b19 b20 b21 : Bool) : @comes (DyadBetween_f_k true false false true false true false true true true true b17 b18 b19 b20 b21) Tryd.prog glT 3000 DyadBetween_f_f DyadBetween_f_a = some (.lit (.bool true)) := by kernel_rfl
theorem DyadBetween_f_r66 (b20 b21 : Bool) : @comes (DyadBetween_f_k true false false true false true false true true true false true true true b20 b21) Tryd.prog glT 3000 DyadBetween_f_f DyadBetween_f_a = some (.lit (.bool true)) := by kernel_rfl
theorem DyadBetween_f_r67 (b17 b18 b19 b21 : Bool) : @comes (DyadBetween_f_k true false false true false true false true false false true b17 b18 b19 true b21) Tryd.prog glT 3000 DyadBetween_f_f DyadBetween_f_a = some (.lit (.bool true)) := by kernel_rfl
theorem DyadBetween_f_r68 (b21 : Bool) : @comes (DyadBetween_f_k true false false true false true false true false false false true true true true b21) Tryd.prog glT 3000 DyadBetween_f_f DyadBetween_f_a = some (.lit (.bool true)) := by kernel_rfl
theorem DyadBetween_f_r69 (b17 b18 b19 b20 : Bool) : @comes (DyadBetween_f_k true false false true false true false false true true true b17 b18 b19 b20 true) Tryd.prog glT 3000 DyadBetween_f_f DyadBetween_f_a = some (.lit (.bool true)) := by kernel_rfl
theorem DyadBetween_f_r70 (b20 : Bool) : @comes (DyadBetween_f_k true false false true false true false false true true false true true true b20 true) Tryd.prog glT 3000 DyadBetween_f_f DyadBetween_f_a = some (.lit (.bool true)) := by kernel_rfl
theorem DyadBetween_f_r71 (b17 b18 b19 : Bool) : @comes (DyadBetween_f_k true false false true false true false false false false true b17 b18 b19 true true) Tryd.prog glT 3000 DyadBetween_f_f DyadBetween_f_a = some (.lit (.bool true)) := by kernel_rfl
theorem DyadBetween_f_r72 : @comes (DyadBetween_f_k true false false true false true false false false false false true true true true true) Tryd.prog glT 3000 DyadBetween_f_f DyadBetween_f_a = some (.lit (.bool true)) := by kernel_rfl
set_option maxRecDepth 100000 in
set_option maxHeartbeats 4000000 in
theorem DyadBetween_f (a b : Dy) (x : Nat) (w : World) (hG : Globs glT w) (hx : x < 18446744073709551616) (hf : Bt.finB x = true) (ha : a.Ok) (hb : b.Ok) : Calls Tryd.prog 3 #[.agg #[.bool a.g, .string (natS a.n), .int .i64 a.x], .agg #[.bool b.g, .string (natS b.n), .int .i64 b.x], .float .f64 (x)] w fun e w' => e = .returned (.bool true) ∧ Below w.heap.size w w' := by
  have h1 : Bt.feqB (nearW (flt x)) (x) = true := (own_feq hx hf (Or.inr (Or.inr rfl)))
  have i1 : true = true ↔ (Bt.feqB (nearW (flt x)) (x) = true) := ⟨fun _ => h1, fun _ => rfl⟩
  obtain ⟨b2, i2⟩ := bex (x = nearW (flt x))
  obtain ⟨b3, i3⟩ := bex (Bt.Ff.sgn (nearW (flt x)) = true)
  obtain ⟨b4, i4⟩ := bex (Bt.feqB (x) (0) = true)
  have h5 : Bt.feqB (lowW (flt x)) (x) = true := (own_feq hx hf (Or.inl rfl))
  have i5 : true = true ↔ (Bt.feqB (lowW (flt x)) (x) = true) := ⟨fun _ => h5, fun _ => rfl⟩
  obtain ⟨b6, i6⟩ := bex (x = lowW (flt x))
  obtain ⟨b7, i7⟩ := bex (Bt.Ff.sgn (lowW (flt x)) = true)
  have h8 : Bt.feqB (highW (flt x)) (x) = true := (own_feq hx hf (Or.inr (Or.inl rfl)))
  have i8 : true = true ↔ (Bt.feqB (highW (flt x)) (x) = true) := ⟨fun _ => h8, fun _ => rfl⟩
  obtain ⟨b9, i9⟩ := bex (x = highW (flt x))
  obtain ⟨b10, i10⟩ := bex (Bt.Ff.sgn (highW (flt x)) = true)
  have h11 : ¬ (agR a (lowW a) < 0) := (by have := (bw_of ha).al; omega)
  have i11 : false = true ↔ (agR a (lowW a) < 0) := ⟨fun k => absurd k Bool.false_ne_true, fun k => absurd k h11⟩
  have h12 : ¬ (agR a (highW a) > 0) := (by have := (bw_of ha).ah; omega)
  have i12 : false = true ↔ (agR a (highW a) > 0) := ⟨fun k => absurd k Bool.false_ne_true, fun k => absurd k h12⟩
  obtain ⟨b13, i13⟩ := bex (nearW a = lowW a)
  obtain ⟨b14, i14⟩ := bex (agR a (lowW a) = 0)
  obtain ⟨b15, i15⟩ := bex (agR a (highW a) = 0)
  obtain ⟨b16, i16⟩ := bex (cmpD a b > 0)
  obtain ⟨b17, i17⟩ := bex (fleB (lowW a) (lowW b) = true)
  obtain ⟨b18, i18⟩ := bex (fleB (highW a) (highW b) = true)
  obtain ⟨b19, i19⟩ := bex (fleB (nearW a) (nearW b) = true)
  obtain ⟨b20, i20⟩ := bex (Bt.feqB (Bt.upF (lowW a)) (highW a) = true)
  obtain ⟨b21, i21⟩ := bex (nearW a = highW a)
  letI : Env := mkEnv glT [.bool a.g, .string (natS a.n), .int .i64 a.x, .bool b.g, .string (natS b.n), .int .i64 b.x, .float .f64 (x), .bool (flt x).g, .string (natS (flt x).n), .int .i64 (flt x).x, .float .f64 (nearW (flt x)), .float .f64 (lowW (flt x)), .float .f64 (highW (flt x)), .float .f64 (lowW a), .float .f64 (highW a), .float .f64 (nearW a), .int .i64 (agR a (lowW a)), .int .i64 (agR a (highW a)), .int .i64 (cmpD a b), .float .f64 (lowW b), .float .f64 (highW b), .float .f64 (nearW b), .float .f64 (9218868437227405312), .float .f64 (Bt.upF (lowW a))] rfl
  have hops : OpsT Tryd.prog (@Know.ops (DyadBetween_f_k b2 b3 b4 b6 b7 b9 b10 b13 b14 b15 b16 b17 b18 b19 b20 b21)) := ⟨optQ_neq_i rfl rfl i1,
    optQ_neq_i rfl rfl i4,
    optQ_eql_i rfl rfl i4,
    optQ_neq_i rfl rfl i5,
    optQ_neq_i rfl rfl i8,
    opt_lss_i rfl rfl i11,
    opt_gtr_i rfl rfl i12,
    opt_eql_i rfl rfl i14,
    opt_eql_i rfl rfl i15,
    opt_neq_i rfl rfl i14,
    opt_gtr_i rfl rfl i16,
    optQ_leq_i rfl rfl i17,
    optQ_leq_i rfl rfl i18,
    optQ_leq_i rfl rfl i19,
    optQ_neq_i rfl rfl i20,
    trivial⟩
  have hcalls : CallsT Tryd.prog (@Know.calls (DyadBetween_f_k b2 b3 b4 b6 b7 b9 b10 b13 b14 b15 b16 b17 b18 b19 b20 b21)) := ⟨callt rfl rfl fun w hG => awake3_c w hG,
    callt rfl rfl fun w hG => DFloat_f x w hx hf hG,
    callt rfl rfl fun w hG => DNear_any (flt x) w (flt_Ok x) hG,
    callt rfl rfl fun w hG => lBits_i (x) (nearW (flt x)) w ((fin_isn hf)) ((bw_of (flt_Ok x)).nn) i2,
    callt rfl rfl fun w hG => PSign3_c (nearW (flt x)) ((bw_of (flt_Ok x)).ln) w i3,
    callt rfl rfl fun w hG => DBelow_any (flt x) w (flt_Ok x) hG,
    callt rfl rfl fun w hG => lBits_i (x) (lowW (flt x)) w ((fin_isn hf)) ((bw_of (flt_Ok x)).nl) i6,
    callt rfl rfl fun w hG => PSign3_c (lowW (flt x)) ((bw_of (flt_Ok x)).ll) w i7,
    callt rfl rfl fun w hG => DAbove_any (flt x) w (flt_Ok x) hG,
    callt rfl rfl fun w hG => lBits_i (x) (highW (flt x)) w ((fin_isn hf)) ((bw_of (flt_Ok x)).nh) i9,
    callt rfl rfl fun w hG => PSign3_c (highW (flt x)) ((bw_of (flt_Ok x)).lh) w i10,
    callt rfl rfl fun w hG => DCheck_dyr a ha w,
    callt rfl rfl fun w hG => DCheck_dyr b hb w,
    callt rfl rfl fun w hG => DBelow_any a w ha hG,
    callt rfl rfl fun w hG => DAbove_any a w ha hG,
    callt rfl rfl fun w hG => DNear_any a w ha hG,
    callt rfl rfl fun w hG => DAgainst_w a (lowW a) w ha ((bw_of ha).ll) ((bw_of ha).nl) hG,
    callt rfl rfl fun w hG => DAgainst_w a (highW a) w ha ((bw_of ha).lh) ((bw_of ha).nh) hG,
    callt rfl rfl fun w hG => lBits_i (nearW a) (lowW a) w ((bw_of ha).nn) ((bw_of ha).nl) i13,
    callt rfl rfl fun w hG => DCmp_c a b w ha hb,
    callt rfl rfl fun w hG => DBelow_any b w hb hG,
    callt rfl rfl fun w hG => DAbove_any b w hb hG,
    callt rfl rfl fun w hG => DNear_any b w hb hG,
    callt rfl rfl fun w hG => PInf_c w,
    callt rfl rfl fun w hG => PNext_c (lowW a) ((bw_of ha).ll) ((bw_of ha).nl) w,
    callt rfl rfl fun w hG => lBits_i (nearW a) (highW a) w ((bw_of ha).nn) ((bw_of ha).nh) i21,
    trivial⟩
  have fin : ∀ v, @comes (DyadBetween_f_k b2 b3 b4 b6 b7 b9 b10 b13 b14 b15 b16 b17 b18 b19 b20 b21) Tryd.prog glT 3000 DyadBetween_f_f DyadBetween_f_a = some v → ground v = true → Ending.returned (gval v) = .returned (.bool true) → Calls Tryd.prog 3 #[.agg #[.bool a.g, .string (natS a.n), .int .i64 a.x], .agg #[.bool b.g, .string (natS b.n), .int .i64 b.x], .float .f64 (x)] w fun e w' => e = .returned (.bool true) ∧ Below w.heap.size w w' := fun v h1 h2 h3 => (@sym_ok _ (DyadBetween_f_k b2 b3 b4 b6 b7 b9 b10 b13 b14 b15 b16 b17 b18 b19 b20 b21) _ (@KnowOk.of _ (DyadBetween_f_k b2 b3 b4 b6 b7 b9 b10 b13 b14 b15 b16 b17 b18 b19 b20 b21) _ hops hcalls) (by kernel_rfl) _ _ _ _ h1 rfl h2 _ hG).mono fun e w' h => ⟨h.1.trans h3, h.2⟩
  clear hops hcalls
  cases b4 with
  | true =>
    have h4 : Bt.feqB (x) (0) = true := i4.1 rfl
    cases b3 with
    | true =>
      exact absurd (i3.1 rfl) ((fun c => by rw [((own_words hx hf).1 (of_feqz h4)).2.2] at c; exact absurd c (by decide)))
    | false =>
      have h3 : ¬ (Bt.Ff.sgn (nearW (flt x)) = true) := fun c => Bool.false_ne_true (i3.2 c)
      cases b7 with
      | true =>
        exact absurd (i7.1 rfl) ((fun c => by rw [((own_words hx hf).1 (of_feqz h4)).1] at c; exact absurd c (by decide)))
      | false =>
        have h7 : ¬ (Bt.Ff.sgn (lowW (flt x)) = true) := fun c => Bool.false_ne_true (i7.2 c)
        cases b10 with
        | true =>
          exact absurd (i10.1 rfl) ((fun c => by rw [((own_words hx hf).1 (of_feqz h4)).2.1] at c; exact absurd c (by decide)))
        | false =>
          have h10 : ¬ (Bt.Ff.sgn (highW (flt x)) = true) := fun c => Bool.false_ne_true (i10.2 c)
          cases b13 with
          | true =>
            have h13 : nearW a = lowW a := i13.1 rfl
            cases b14 with
            | true =>
              have h14 : agR a (lowW a) = 0 := i14.1 rfl
              cases b15 with
              | true =>
                have h15 : agR a (highW a) = 0 := i15.1 rfl
                cases b16 with
                | true =>
                  have h16 : cmpD a b > 0 := i16.1 rfl
                  exact fin _ (DyadBetween_f_r1 b2 b6 b9 b17 b18 b19 b20 b21) rfl rfl
                | false =>
                  have h16 : ¬ (cmpD a b > 0) := fun c => Bool.false_ne_true (i16.2 c)
                  cases b17 with
                  | true =>
                    have h17 : fleB (lowW a) (lowW b) = true := i17.1 rfl
                    cases b18 with
                    | true =>
                      have h18 : fleB (highW a) (highW b) = true := i18.1 rfl
                      cases b19 with
                      | true =>
                        have h19 : fleB (nearW a) (nearW b) = true := i19.1 rfl
                        exact fin _ (DyadBetween_f_r2 b2 b6 b9 b20 b21) rfl rfl
                      | false =>
                        exact absurd (i19.2 ((by unfold fleB; exact decide_eq_true ⟨(bw_of ha).nn, (bw_of hb).nn, (rise ha hb h16).2.2⟩))) Bool.false_ne_true
                    | false =>
                      exact absurd (i18.2 ((by unfold fleB; exact decide_eq_true ⟨(bw_of ha).nh, (bw_of hb).nh, (rise ha hb h16).2.1⟩))) Bool.false_ne_true
                  | false =>
                    exact absurd (i17.2 ((by unfold fleB; exact decide_eq_true ⟨(bw_of ha).nl, (bw_of hb).nl, (rise ha hb h16).1⟩))) Bool.false_ne_true
              | false =>
                exact absurd (i15.2 (((bw_of ha).z.1 h14))) Bool.false_ne_true
            | false =>
              have h14 : ¬ (agR a (lowW a) = 0) := fun c => Bool.false_ne_true (i14.2 c)
              cases b15 with
              | true =>
                exact absurd (i15.1 rfl) ((fun c => h14 ((bw_of ha).z.2 c)))
              | false =>
                have h15 : ¬ (agR a (highW a) = 0) := fun c => Bool.false_ne_true (i15.2 c)
                cases b20 with
                | true =>
                  have h20 : Bt.feqB (Bt.upF (lowW a)) (highW a) = true := i20.1 rfl
                  cases b16 with
                  | true =>
                    have h16 : cmpD a b > 0 := i16.1 rfl
                    exact fin _ (DyadBetween_f_r3 b2 b6 b9 b17 b18 b19 b21) rfl rfl
                  | false =>
                    have h16 : ¬ (cmpD a b > 0) := fun c => Bool.false_ne_true (i16.2 c)
                    cases b17 with
                    | true =>
                      have h17 : fleB (lowW a) (lowW b) = true := i17.1 rfl
                      cases b18 with
                      | true =>
                        have h18 : fleB (highW a) (highW b) = true := i18.1 rfl
                        cases b19 with
                        | true =>
                          have h19 : fleB (nearW a) (nearW b) = true := i19.1 rfl
                          exact fin _ (DyadBetween_f_r4 b2 b6 b9 b21) rfl rfl
                        | false =>
                          exact absurd (i19.2 ((by unfold fleB; exact decide_eq_true ⟨(bw_of ha).nn, (bw_of hb).nn, (rise ha hb h16).2.2⟩))) Bool.false_ne_true
                      | false =>
                        exact absurd (i18.2 ((by unfold fleB; exact decide_eq_true ⟨(bw_of ha).nh, (bw_of hb).nh, (rise ha hb h16).2.1⟩))) Bool.false_ne_true
                    | false =>
                      exact absurd (i17.2 ((by unfold fleB; exact decide_eq_true ⟨(bw_of ha).nl, (bw_of hb).nl, (rise ha hb h16).1⟩))) Bool.false_ne_true
                | false =>
                  exact absurd (i20.2 ((by rw [(bw_of ha).nx h14]; exact Bt.feq_ok (bw_of ha).nh))) Bool.false_ne_true
          | false =>
            have h13 : ¬ (nearW a = lowW a) := fun c => Bool.false_ne_true (i13.2 c)
            cases b21 with
            | true =>
              have h21 : nearW a = highW a := i21.1 rfl
              cases b14 with
              | true =>
                have h14 : agR a (lowW a) = 0 := i14.1 rfl
                cases b15 with
                | true =>
                  have h15 : agR a (highW a) = 0 := i15.1 rfl
                  cases b16 with
                  | true =>
                    have h16 : cmpD a b > 0 := i16.1 rfl
                    exact fin _ (DyadBetween_f_r5 b2 b6 b9 b17 b18 b19 b20) rfl rfl
                  | false =>
                    have h16 : ¬ (cmpD a b > 0) := fun c => Bool.false_ne_true (i16.2 c)
                    cases b17 with
                    | true =>
                      have h17 : fleB (lowW a) (lowW b) = true := i17.1 rfl
                      cases b18 with
                      | true =>
                        have h18 : fleB (highW a) (highW b) = true := i18.1 rfl
                        cases b19 with
                        | true =>
                          have h19 : fleB (nearW a) (nearW b) = true := i19.1 rfl
                          exact fin _ (DyadBetween_f_r6 b2 b6 b9 b20) rfl rfl
                        | false =>
                          exact absurd (i19.2 ((by unfold fleB; exact decide_eq_true ⟨(bw_of ha).nn, (bw_of hb).nn, (rise ha hb h16).2.2⟩))) Bool.false_ne_true
                      | false =>
                        exact absurd (i18.2 ((by unfold fleB; exact decide_eq_true ⟨(bw_of ha).nh, (bw_of hb).nh, (rise ha hb h16).2.1⟩))) Bool.false_ne_true
                    | false =>
                      exact absurd (i17.2 ((by unfold fleB; exact decide_eq_true ⟨(bw_of ha).nl, (bw_of hb).nl, (rise ha hb h16).1⟩))) Bool.false_ne_true
                | false =>
                  exact absurd (i15.2 (((bw_of ha).z.1 h14))) Bool.false_ne_true
              | false =>
                have h14 : ¬ (agR a (lowW a) = 0) := fun c => Bool.false_ne_true (i14.2 c)
                cases b15 with
                | true =>
                  exact absurd (i15.1 rfl) ((fun c => h14 ((bw_of ha).z.2 c)))
                | false =>
                  have h15 : ¬ (agR a (highW a) = 0) := fun c => Bool.false_ne_true (i15.2 c)
                  cases b20 with
                  | true =>
                    have h20 : Bt.feqB (Bt.upF (lowW a)) (highW a) = true := i20.1 rfl
                    cases b16 with
                    | true =>
                      have h16 : cmpD a b > 0 := i16.1 rfl
                      exact fin _ (DyadBetween_f_r7 b2 b6 b9 b17 b18 b19) rfl rfl
                    | false =>
                      have h16 : ¬ (cmpD a b > 0) := fun c => Bool.false_ne_true (i16.2 c)
                      cases b17 with
                      | true =>
                        have h17 : fleB (lowW a) (lowW b) = true := i17.1 rfl
                        cases b18 with
                        | true =>
                          have h18 : fleB (highW a) (highW b) = true := i18.1 rfl
                          cases b19 with
                          | true =>
                            have h19 : fleB (nearW a) (nearW b) = true := i19.1 rfl
                            exact fin _ (DyadBetween_f_r8 b2 b6 b9) rfl rfl
                          | false =>
                            exact absurd (i19.2 ((by unfold fleB; exact decide_eq_true ⟨(bw_of ha).nn, (bw_of hb).nn, (rise ha hb h16).2.2⟩))) Bool.false_ne_true
                        | false =>
                          exact absurd (i18.2 ((by unfold fleB; exact decide_eq_true ⟨(bw_of ha).nh, (bw_of hb).nh, (rise ha hb h16).2.1⟩))) Bool.false_ne_true
                      | false =>
                        exact absurd (i17.2 ((by unfold fleB; exact decide_eq_true ⟨(bw_of ha).nl, (bw_of hb).nl, (rise ha hb h16).1⟩))) Bool.false_ne_true
                  | false =>
                    exact absurd (i20.2 ((by rw [(bw_of ha).nx h14]; exact Bt.feq_ok (bw_of ha).nh))) Bool.false_ne_true
            | false =>
              exact absurd (i21.2 (((bw_of ha).nw.resolve_left h13))) Bool.false_ne_true
  | false =>
    have h4 : ¬ (Bt.feqB (x) (0) = true) := fun c => Bool.false_ne_true (i4.2 c)
    cases b2 with
    | true =>
      have h2 : x = nearW (flt x) := i2.1 rfl
      cases b3 with
      | true =>
        have h3 : Bt.Ff.sgn (nearW (flt x)) = true := i3.1 rfl
        cases b6 with
        | true =>
          have h6 : x = lowW (flt x) := i6.1 rfl
          cases b7 with
          | true =>
            have h7 : Bt.Ff.sgn (lowW (flt x)) = true := i7.1 rfl
            cases b9 with
            | true =>
              have h9 : x = highW (flt x) := i9.1 rfl
              cases b10 with
              | true =>
                have h10 : Bt.Ff.sgn (highW (flt x)) = true := i10.1 rfl
                cases b13 with
                | true =>
                  have h13 : nearW a = lowW a := i13.1 rfl
                  cases b14 with
                  | true =>
                    have h14 : agR a (lowW a) = 0 := i14.1 rfl
                    cases b15 with
                    | true =>
                      have h15 : agR a (highW a) = 0 := i15.1 rfl
                      cases b16 with
                      | true =>
                        have h16 : cmpD a b > 0 := i16.1 rfl
                        exact fin _ (DyadBetween_f_r9 b17 b18 b19 b20 b21) rfl rfl
                      | false =>
                        have h16 : ¬ (cmpD a b > 0) := fun c => Bool.false_ne_true (i16.2 c)
                        cases b17 with
                        | true =>
                          have h17 : fleB (lowW a) (lowW b) = true := i17.1 rfl
                          cases b18 with
                          | true =>
                            have h18 : fleB (highW a) (highW b) = true := i18.1 rfl
                            cases b19 with
                            | true =>
                              have h19 : fleB (nearW a) (nearW b) = true := i19.1 rfl
                              exact fin _ (DyadBetween_f_r10 b20 b21) rfl rfl
                            | false =>
                              exact absurd (i19.2 ((by unfold fleB; exact decide_eq_true ⟨(bw_of ha).nn, (bw_of hb).nn, (rise ha hb h16).2.2⟩))) Bool.false_ne_true
                          | false =>
                            exact absurd (i18.2 ((by unfold fleB; exact decide_eq_true ⟨(bw_of ha).nh, (bw_of hb).nh, (rise ha hb h16).2.1⟩))) Bool.false_ne_true
                        | false =>
                          exact absurd (i17.2 ((by unfold fleB; exact decide_eq_true ⟨(bw_of ha).nl, (bw_of hb).nl, (rise ha hb h16).1⟩))) Bool.false_ne_true
                    | false =>
                      exact absurd (i15.2 (((bw_of ha).z.1 h14))) Bool.false_ne_true
                  | false =>
                    have h14 : ¬ (agR a (lowW a) = 0) := fun c => Bool.false_ne_true (i14.2 c)
                    cases b15 with
                    | true =>
                      exact absurd (i15.1 rfl) ((fun c => h14 ((bw_of ha).z.2 c)))
                    | false =>
                      have h15 : ¬ (agR a (highW a) = 0) := fun c => Bool.false_ne_true (i15.2 c)
                      cases b20 with
                      | true =>
                        have h20 : Bt.feqB (Bt.upF (lowW a)) (highW a) = true := i20.1 rfl
                        cases b16 with
                        | true =>
                          have h16 : cmpD a b > 0 := i16.1 rfl
                          exact fin _ (DyadBetween_f_r11 b17 b18 b19 b21) rfl rfl
                        | false =>
                          have h16 : ¬ (cmpD a b > 0) := fun c => Bool.false_ne_true (i16.2 c)
                          cases b17 with
                          | true =>
                            have h17 : fleB (lowW a) (lowW b) = true := i17.1 rfl
                            cases b18 with
                            | true =>
                              have h18 : fleB (highW a) (highW b) = true := i18.1 rfl
                              cases b19 with
                              | true =>
                                have h19 : fleB (nearW a) (nearW b) = true := i19.1 rfl
                                exact fin _ (DyadBetween_f_r12 b21) rfl rfl
                              | false =>
                                exact absurd (i19.2 ((by unfold fleB; exact decide_eq_true ⟨(bw_of ha).nn, (bw_of hb).nn, (rise ha hb h16).2.2⟩))) Bool.false_ne_true
                            | false =>
                              exact absurd (i18.2 ((by unfold fleB; exact decide_eq_true ⟨(bw_of ha).nh, (bw_of hb).nh, (rise ha hb h16).2.1⟩))) Bool.false_ne_true
                          | false =>
                            exact absurd (i17.2 ((by unfold fleB; exact decide_eq_true ⟨(bw_of ha).nl, (bw_of hb).nl, (rise ha hb h16).1⟩))) Bool.false_ne_true
                      | false =>
                        exact absurd (i20.2 ((by rw [(bw_of ha).nx h14]; exact Bt.feq_ok (bw_of ha).nh))) Bool.false_ne_true
                | false =>
                  have h13 : ¬ (nearW a = lowW a) := fun c => Bool.false_ne_true (i13.2 c)
                  cases b21 with
                  | true =>
                    have h21 : nearW a = highW a := i21.1 rfl
                    cases b14 with
                    | true =>
                      have h14 : agR a (lowW a) = 0 := i14.1 rfl
                      cases b15 with
                      | true =>
                        have h15 : agR a (highW a) = 0 := i15.1 rfl
                        cases b16 with
                        | true =>
                          have h16 : cmpD a b > 0 := i16.1 rfl
                          exact fin _ (DyadBetween_f_r13 b17 b18 b19 b20) rfl rfl
                        | false =>
                          have h16 : ¬ (cmpD a b > 0) := fun c => Bool.false_ne_true (i16.2 c)
                          cases b17 with
                          | true =>
                            have h17 : fleB (lowW a) (lowW b) = true := i17.1 rfl
                            cases b18 with
                            | true =>
                              have h18 : fleB (highW a) (highW b) = true := i18.1 rfl
                              cases b19 with
                              | true =>
                                have h19 : fleB (nearW a) (nearW b) = true := i19.1 rfl
                                exact fin _ (DyadBetween_f_r14 b20) rfl rfl
                              | false =>
                                exact absurd (i19.2 ((by unfold fleB; exact decide_eq_true ⟨(bw_of ha).nn, (bw_of hb).nn, (rise ha hb h16).2.2⟩))) Bool.false_ne_true
                            | false =>
                              exact absurd (i18.2 ((by unfold fleB; exact decide_eq_true ⟨(bw_of ha).nh, (bw_of hb).nh, (rise ha hb h16).2.1⟩))) Bool.false_ne_true
                          | false =>
                            exact absurd (i17.2 ((by unfold fleB; exact decide_eq_true ⟨(bw_of ha).nl, (bw_of hb).nl, (rise ha hb h16).1⟩))) Bool.false_ne_true
                      | false =>
                        exact absurd (i15.2 (((bw_of ha).z.1 h14))) Bool.false_ne_true
                    | false =>
                      have h14 : ¬ (agR a (lowW a) = 0) := fun c => Bool.false_ne_true (i14.2 c)
                      cases b15 with
                      | true =>
                        exact absurd (i15.1 rfl) ((fun c => h14 ((bw_of ha).z.2 c)))
                      | false =>
                        have h15 : ¬ (agR a (highW a) = 0) := fun c => Bool.false_ne_true (i15.2 c)
                        cases b20 with
                        | true =>
                          have h20 : Bt.feqB (Bt.upF (lowW a)) (highW a) = true := i20.1 rfl
                          cases b16 with
                          | true =>
                            have h16 : cmpD a b > 0 := i16.1 rfl
                            exact fin _ (DyadBetween_f_r15 b17 b18 b19) rfl rfl
                          | false =>
                            have h16 : ¬ (cmpD a b > 0) := fun c => Bool.false_ne_true (i16.2 c)
                            cases b17 with
                            | true =>
                              have h17 : fleB (lowW a) (lowW b) = true := i17.1 rfl
                              cases b18 with
                              | true =>
                                have h18 : fleB (highW a) (highW b) = true := i18.1 rfl
                                cases b19 with
                                | true =>
                                  have h19 : fleB (nearW a) (nearW b) = true := i19.1 rfl
                                  exact fin _ (DyadBetween_f_r16) rfl rfl
                                | false =>
                                  exact absurd (i19.2 ((by unfold fleB; exact decide_eq_true ⟨(bw_of ha).nn, (bw_of hb).nn, (rise ha hb h16).2.2⟩))) Bool.false_ne_true
                              | false =>
                                exact absurd (i18.2 ((by unfold fleB; exact decide_eq_true ⟨(bw_of ha).nh, (bw_of hb).nh, (rise ha hb h16).2.1⟩))) Bool.false_ne_true
                            | false =>
                              exact absurd (i17.2 ((by unfold fleB; exact decide_eq_true ⟨(bw_of ha).nl, (bw_of hb).nl, (rise ha hb h16).1⟩))) Bool.false_ne_true
                        | false =>
                          exact absurd (i20.2 ((by rw [(bw_of ha).nx h14]; exact Bt.feq_ok (bw_of ha).nh))) Bool.false_ne_true
                  | false =>
                    exact absurd (i21.2 (((bw_of ha).nw.resolve_left h13))) Bool.false_ne_true
              | false =>
                have h10 : ¬ (Bt.Ff.sgn (highW (flt x)) = true) := fun c => Bool.false_ne_true (i10.2 c)
                cases b13 with
                | true =>
                  have h13 : nearW a = lowW a := i13.1 rfl
                  cases b14 with
                  | true =>
                    have h14 : agR a (lowW a) = 0 := i14.1 rfl
                    cases b15 with
                    | true =>
                      have h15 : agR a (highW a) = 0 := i15.1 rfl
                      cases b16 with
                      | true =>
                        have h16 : cmpD a b > 0 := i16.1 rfl
                        exact fin _ (DyadBetween_f_r17 b17 b18 b19 b20 b21) rfl rfl
                      | false =>
                        have h16 : ¬ (cmpD a b > 0) := fun c => Bool.false_ne_true (i16.2 c)
                        cases b17 with
                        | true =>
                          have h17 : fleB (lowW a) (lowW b) = true := i17.1 rfl
                          cases b18 with
                          | true =>
                            have h18 : fleB (highW a) (highW b) = true := i18.1 rfl
                            cases b19 with
                            | true =>
                              have h19 : fleB (nearW a) (nearW b) = true := i19.1 rfl
                              exact fin _ (DyadBetween_f_r18 b20 b21) rfl rfl
                            | false =>
                              exact absurd (i19.2 ((by unfold fleB; exact decide_eq_true ⟨(bw_of ha).nn, (bw_of hb).nn, (rise ha hb h16).2.2⟩))) Bool.false_ne_true
                          | false =>
                            exact absurd (i18.2 ((by unfold fleB; exact decide_eq_true ⟨(bw_of ha).nh, (bw_of hb).nh, (rise ha hb h16).2.1⟩))) Bool.false_ne_true
                        | false =>
                          exact absurd (i17.2 ((by unfold fleB; exact decide_eq_true ⟨(bw_of ha).nl, (bw_of hb).nl, (rise ha hb h16).1⟩))) Bool.false_ne_true
                    | false =>
                      exact absurd (i15.2 (((bw_of ha).z.1 h14))) Bool.false_ne_true
                  | false =>
                    have h14 : ¬ (agR a (lowW a) = 0) := fun c => Bool.false_ne_true (i14.2 c)
                    cases b15 with
                    | true =>
                      exact absurd (i15.1 rfl) ((fun c => h14 ((bw_of ha).z.2 c)))
                    | false =>
                      have h15 : ¬ (agR a (highW a) = 0) := fun c => Bool.false_ne_true (i15.2 c)
                      cases b20 with
                      | true =>
                        have h20 : Bt.feqB (Bt.upF (lowW a)) (highW a) = true := i20.1 rfl
                        cases b16 with
                        | true =>
                          have h16 : cmpD a b > 0 := i16.1 rfl
                          exact fin _ (DyadBetween_f_r19 b17 b18 b19 b21) rfl rfl
                        | false =>
                          have h16 : ¬ (cmpD a b > 0) := fun c => Bool.false_ne_true (i16.2 c)
                          cases b17 with
                          | true =>
                            have h17 : fleB (lowW a) (lowW b) = true := i17.1 rfl
                            cases b18 with
                            | true =>
                              have h18 : fleB (highW a) (highW b) = true := i18.1 rfl
                              cases b19 with
                              | true =>
                                have h19 : fleB (nearW a) (nearW b) = true := i19.1 rfl
                                exact fin _ (DyadBetween_f_r20 b21) rfl rfl
                              | false =>
                                exact absurd (i19.2 ((by unfold fleB; exact decide_eq_true ⟨(bw_of ha).nn, (bw_of hb).nn, (rise ha hb h16).2.2⟩))) Bool.false_ne_true
                            | false =>
                              exact absurd (i18.2 ((by unfold fleB; exact decide_eq_true ⟨(bw_of ha).nh, (bw_of hb).nh, (rise ha hb h16).2.1⟩))) Bool.false_ne_true
                          | false =>
                            exact absurd (i17.2 ((by unfold fleB; exact decide_eq_true ⟨(bw_of ha).nl, (bw_of hb).nl, (rise ha hb h16).1⟩))) Bool.false_ne_true
                      | false =>
                        exact absurd (i20.2 ((by rw [(bw_of ha).nx h14]; exact Bt.feq_ok (bw_of ha).nh))) Bool.false_ne_true
                | false =>
                  have h13 : ¬ (nearW a = lowW a) := fun c => Bool.false_ne_true (i13.2 c)
                  cases b21 with
                  | true =>
                    have h21 : nearW a = highW a := i21.1 rfl
                    cases b14 with
                    | true =>
                      have h14 : agR a (lowW a) = 0 := i14.1 rfl
                      cases b15 with
                      | true =>
                        have h15 : agR a (highW a) = 0 := i15.1 rfl
                        cases b16 with
                        | true =>
                          have h16 : cmpD a b > 0 := i16.1 rfl
                          exact fin _ (DyadBetween_f_r21 b17 b18 b19 b20) rfl rfl
                        | false =>
                          have h16 : ¬ (cmpD a b > 0) := fun c => Bool.false_ne_true (i16.2 c)
                          cases b17 with
                          | true =>
                            have h17 : fleB (lowW a) (lowW b) = true := i17.1 rfl
                            cases b18 with
                            | true =>
                              have h18 : fleB (highW a) (highW b) = true := i18.1 rfl
                              cases b19 with
                              | true =>
                                have h19 : fleB (nearW a) (nearW b) = true := i19.1 rfl
                                exact fin _ (DyadBetween_f_r22 b20) rfl rfl
                              | false =>
                                exact absurd (i19.2 ((by unfold fleB; exact decide_eq_true ⟨(bw_of ha).nn, (bw_of hb).nn, (rise ha hb h16).2.2⟩))) Bool.false_ne_true
                            | false =>
                              exact absurd (i18.2 ((by unfold fleB; exact decide_eq_true ⟨(bw_of ha).nh, (bw_of hb).nh, (rise ha hb h16).2.1⟩))) Bool.false_ne_true
                          | false =>
                            exact absurd (i17.2 ((by unfold fleB; exact decide_eq_true ⟨(bw_of ha).nl, (bw_of hb).nl, (rise ha hb h16).1⟩))) Bool.false_ne_true
                      | false =>
                        exact absurd (i15.2 (((bw_of ha).z.1 h14))) Bool.false_ne_true
                    | false =>
                      have h14 : ¬ (agR a (lowW a) = 0) := fun c => Bool.false_ne_true (i14.2 c)
                      cases b15 with
                      | true =>
                        exact absurd (i15.1 rfl) ((fun c => h14 ((bw_of ha).z.2 c)))
                      | false =>
                        have h15 : ¬ (agR a (highW a) = 0) := fun c => Bool.false_ne_true (i15.2 c)
                        cases b20 with
                        | true =>
                          have h20 : Bt.feqB (Bt.upF (lowW a)) (highW a) = true := i20.1 rfl
                          cases b16 with
                          | true =>
                            have h16 : cmpD a b > 0 := i16.1 rfl
                            exact fin _ (DyadBetween_f_r23 b17 b18 b19) rfl rfl
                          | false =>
                            have h16 : ¬ (cmpD a b > 0) := fun c => Bool.false_ne_true (i16.2 c)
                            cases b17 with
                            | true =>
                              have h17 : fleB (lowW a) (lowW b) = true := i17.1 rfl
                              cases b18 with
                              | true =>
                                have h18 : fleB (highW a) (highW b) = true := i18.1 rfl
                                cases b19 with
                                | true =>
                                  have h19 : fleB (nearW a) (nearW b) = true := i19.1 rfl
                                  exact fin _ (DyadBetween_f_r24) rfl rfl
                                | false =>
                                  exact absurd (i19.2 ((by unfold fleB; exact decide_eq_true ⟨(bw_of ha).nn, (bw_of hb).nn, (rise ha hb h16).2.2⟩))) Bool.false_ne_true
                              | false =>
                                exact absurd (i18.2 ((by unfold fleB; exact decide_eq_true ⟨(bw_of ha).nh, (bw_of hb).nh, (rise ha hb h16).2.1⟩))) Bool.false_ne_true
                            | false =>
                              exact absurd (i17.2 ((by unfold fleB; exact decide_eq_true ⟨(bw_of ha).nl, (bw_of hb).nl, (rise ha hb h16).1⟩))) Bool.false_ne_true
                        | false =>
                          exact absurd (i20.2 ((by rw [(bw_of ha).nx h14]; exact Bt.feq_ok (bw_of ha).nh))) Bool.false_ne_true
                  | false =>
                    exact absurd (i21.2 (((bw_of ha).nw.resolve_left h13))) Bool.false_ne_true
            | false =>
              exact absurd (i9.2 ((((own_words hx hf).2 (fun c => h4 (Bt.feq_z c))).2.1.symm))) Bool.false_ne_true
          | false =>
            have h7 : ¬ (Bt.Ff.sgn (lowW (flt x)) = true) := fun c => Bool.false_ne_true (i7.2 c)
            cases b9 with
            | true =>
              have h9 : x = highW (flt x) := i9.1 rfl
              cases b10 with
              | true =>
                have h10 : Bt.Ff.sgn (highW (flt x)) = true := i10.1 rfl
                cases b13 with
                | true =>
                  have h13 : nearW a = lowW a := i13.1 rfl
                  cases b14 with
                  | true =>
                    have h14 : agR a (lowW a) = 0 := i14.1 rfl
                    cases b15 with
                    | true =>
                      have h15 : agR a (highW a) = 0 := i15.1 rfl
                      cases b16 with
                      | true =>
                        have h16 : cmpD a b > 0 := i16.1 rfl
                        exact fin _ (DyadBetween_f_r25 b17 b18 b19 b20 b21) rfl rfl
                      | false =>
                        have h16 : ¬ (cmpD a b > 0) := fun c => Bool.false_ne_true (i16.2 c)
                        cases b17 with
                        | true =>
                          have h17 : fleB (lowW a) (lowW b) = true := i17.1 rfl
                          cases b18 with
                          | true =>
                            have h18 : fleB (highW a) (highW b) = true := i18.1 rfl
                            cases b19 with
                            | true =>
                              have h19 : fleB (nearW a) (nearW b) = true := i19.1 rfl
                              exact fin _ (DyadBetween_f_r26 b20 b21) rfl rfl
                            | false =>
                              exact absurd (i19.2 ((by unfold fleB; exact decide_eq_true ⟨(bw_of ha).nn, (bw_of hb).nn, (rise ha hb h16).2.2⟩))) Bool.false_ne_true
                          | false =>
                            exact absurd (i18.2 ((by unfold fleB; exact decide_eq_true ⟨(bw_of ha).nh, (bw_of hb).nh, (rise ha hb h16).2.1⟩))) Bool.false_ne_true
                        | false =>
                          exact absurd (i17.2 ((by unfold fleB; exact decide_eq_true ⟨(bw_of ha).nl, (bw_of hb).nl, (rise ha hb h16).1⟩))) Bool.false_ne_true
                    | false =>
                      exact absurd (i15.2 (((bw_of ha).z.1 h14))) Bool.false_ne_true
                  | false =>
                    have h14 : ¬ (agR a (lowW a) = 0) := fun c => Bool.false_ne_true (i14.2 c)
                    cases b15 with
                    | true =>
                      exact absurd (i15.1 rfl) ((fun c => h14 ((bw_of ha).z.2 c)))
                    | false =>
                      have h15 : ¬ (agR a (highW a) = 0) := fun c => Bool.false_ne_true (i15.2 c)
                      cases b20 with
                      | true =>
                        have h20 : Bt.feqB (Bt.upF (lowW a)) (highW a) = true := i20.1 rfl
                        cases b16 with
                        | true =>
                          have h16 : cmpD a b > 0 := i16.1 rfl
                          exact fin _ (DyadBetween_f_r27 b17 b18 b19 b21) rfl rfl
                        | false =>
                          have h16 : ¬ (cmpD a b > 0) := fun c => Bool.false_ne_true (i16.2 c)
                          cases b17 with
                          | true =>
                            have h17 : fleB (lowW a) (lowW b) = true := i17.1 rfl
                            cases b18 with
                            | true =>
                              have h18 : fleB (highW a) (highW b) = true := i18.1 rfl
                              cases b19 with
                              | true =>
                                have h19 : fleB (nearW a) (nearW b) = true := i19.1 rfl
                                exact fin _ (DyadBetween_f_r28 b21) rfl rfl
                              | false =>
                                exact absurd (i19.2 ((by unfold fleB; exact decide_eq_true ⟨(bw_of ha).nn, (bw_of hb).nn, (rise ha hb h16).2.2⟩))) Bool.false_ne_true
                            | false =>
                              exact absurd (i18.2 ((by unfold fleB; exact decide_eq_true ⟨(bw_of ha).nh, (bw_of hb).nh, (rise ha hb h16).2.1⟩))) Bool.false_ne_true
                          | false =>
                            exact absurd (i17.2 ((by unfold fleB; exact decide_eq_true ⟨(bw_of ha).nl, (bw_of hb).nl, (rise ha hb h16).1⟩))) Bool.false_ne_true
                      | false =>
                        exact absurd (i20.2 ((by rw [(bw_of ha).nx h14]; exact Bt.feq_ok (bw_of ha).nh))) Bool.false_ne_true
                | false =>
                  have h13 : ¬ (nearW a = lowW a) := fun c => Bool.false_ne_true (i13.2 c)
                  cases b21 with
                  | true =>
                    have h21 : nearW a = highW a := i21.1 rfl
                    cases b14 with
                    | true =>
                      have h14 : agR a (lowW a) = 0 := i14.1 rfl
                      cases b15 with
                      | true =>
                        have h15 : agR a (highW a) = 0 := i15.1 rfl
                        cases b16 with
                        | true =>
                          have h16 : cmpD a b > 0 := i16.1 rfl
                          exact fin _ (DyadBetween_f_r29 b17 b18 b19 b20) rfl rfl
                        | false =>
                          have h16 : ¬ (cmpD a b > 0) := fun c => Bool.false_ne_true (i16.2 c)
                          cases b17 with
                          | true =>
                            have h17 : fleB (lowW a) (lowW b) = true := i17.1 rfl
                            cases b18 with
                            | true =>
                              have h18 : fleB (highW a) (highW b) = true := i18.1 rfl
                              cases b19 with
                              | true =>
                                have h19 : fleB (nearW a) (nearW b) = true := i19.1 rfl
                                exact fin _ (DyadBetween_f_r30 b20) rfl rfl
                              | false =>
                                exact absurd (i19.2 ((by unfold fleB; exact decide_eq_true ⟨(bw_of ha).nn, (bw_of hb).nn, (rise ha hb h16).2.2⟩))) Bool.false_ne_true
                            | false =>
                              exact absurd (i18.2 ((by unfold fleB; exact decide_eq_true ⟨(bw_of ha).nh, (bw_of hb).nh, (rise ha hb h16).2.1⟩))) Bool.false_ne_true
                          | false =>
                            exact absurd (i17.2 ((by unfold fleB; exact decide_eq_true ⟨(bw_of ha).nl, (bw_of hb).nl, (rise ha hb h16).1⟩))) Bool.false_ne_true
                      | false =>
                        exact absurd (i15.2 (((bw_of ha).z.1 h14))) Bool.false_ne_true
                    | false =>
                      have h14 : ¬ (agR a (lowW a) = 0) := fun c => Bool.false_ne_true (i14.2 c)
                      cases b15 with
                      | true =>
                        exact absurd (i15.1 rfl) ((fun c => h14 ((bw_of ha).z.2 c)))
                      | false =>
                        have h15 : ¬ (agR a (highW a) = 0) := fun c => Bool.false_ne_true (i15.2 c)
                        cases b20 with
                        | true =>
                          have h20 : Bt.feqB (Bt.upF (lowW a)) (highW a) = true := i20.1 rfl
                          cases b16 with
                          | true =>
                            have h16 : cmpD a b > 0 := i16.1 rfl
                            exact fin _ (DyadBetween_f_r31 b17 b18 b19) rfl rfl
                          | false =>
                            have h16 : ¬ (cmpD a b > 0) := fun c => Bool.false_ne_true (i16.2 c)
                            cases b17 with
                            | true =>
                              have h17 : fleB (lowW a) (lowW b) = true := i17.1 rfl
                              cases b18 with
                              | true =>
                                have h18 : fleB (highW a) (highW b) = true := i18.1 rfl
                                cases b19 with
                                | true =>
                                  have h19 : fleB (nearW a) (nearW b) = true := i19.1 rfl
                                  exact fin _ (DyadBetween_f_r32) rfl rfl
                                | false =>
                                  exact absurd (i19.2 ((by unfold fleB; exact decide_eq_true ⟨(bw_of ha).nn, (bw_of hb).nn, (rise ha hb h16).2.2⟩))) Bool.false_ne_true
                              | false =>
                                exact absurd (i18.2 ((by unfold fleB; exact decide_eq_true ⟨(bw_of ha).nh, (bw_of hb).nh, (rise ha hb h16).2.1⟩))) Bool.false_ne_true
                            | false =>
                              exact absurd (i17.2 ((by unfold fleB; exact decide_eq_true ⟨(bw_of ha).nl, (bw_of hb).nl, (rise ha hb h16).1⟩))) Bool.false_ne_true
                        | false =>
                          exact absurd (i20.2 ((by rw [(bw_of ha).nx h14]; exact Bt.feq_ok (bw_of ha).nh))) Bool.false_ne_true
                  | false =>
                    exact absurd (i21.2 (((bw_of ha).nw.resolve_left h13))) Bool.false_ne_true
              | false =>
                have h10 : ¬ (Bt.Ff.sgn (highW (flt x)) = true) := fun c => Bool.false_ne_true (i10.2 c)
                cases b13 with
                | true =>
                  have h13 : nearW a = lowW a := i13.1 rfl
                  cases b14 with
                  | true =>
                    have h14 : agR a (lowW a) = 0 := i14.1 rfl
                    cases b15 with
                    | true =>
                      have h15 : agR a (highW a) = 0 := i15.1 rfl
                      cases b16 with
                      | true =>
                        have h16 : cmpD a b > 0 := i16.1 rfl
                        exact fin _ (DyadBetween_f_r33 b17 b18 b19 b20 b21) rfl rfl
                      | false =>
                        have h16 : ¬ (cmpD a b > 0) := fun c => Bool.false_ne_true (i16.2 c)
                        cases b17 with
                        | true =>
                          have h17 : fleB (lowW a) (lowW b) = true := i17.1 rfl
                          cases b18 with
                          | true =>
                            have h18 : fleB (highW a) (highW b) = true := i18.1 rfl
                            cases b19 with
                            | true =>
                              have h19 : fleB (nearW a) (nearW b) = true := i19.1 rfl
                              exact fin _ (DyadBetween_f_r34 b20 b21) rfl rfl
                            | false =>
                              exact absurd (i19.2 ((by unfold fleB; exact decide_eq_true ⟨(bw_of ha).nn, (bw_of hb).nn, (rise ha hb h16).2.2⟩))) Bool.false_ne_true
                          | false =>
                            exact absurd (i18.2 ((by unfold fleB; exact decide_eq_true ⟨(bw_of ha).nh, (bw_of hb).nh, (rise ha hb h16).2.1⟩))) Bool.false_ne_true
                        | false =>
                          exact absurd (i17.2 ((by unfold fleB; exact decide_eq_true ⟨(bw_of ha).nl, (bw_of hb).nl, (rise ha hb h16).1⟩))) Bool.false_ne_true
                    | false =>
                      exact absurd (i15.2 (((bw_of ha).z.1 h14))) Bool.false_ne_true
                  | false =>
                    have h14 : ¬ (agR a (lowW a) = 0) := fun c => Bool.false_ne_true (i14.2 c)
                    cases b15 with
                    | true =>
                      exact absurd (i15.1 rfl) ((fun c => h14 ((bw_of ha).z.2 c)))
                    | false =>
                      have h15 : ¬ (agR a (highW a) = 0) := fun c => Bool.false_ne_true (i15.2 c)
                      cases b20 with
                      | true =>
                        have h20 : Bt.feqB (Bt.upF (lowW a)) (highW a) = true := i20.1 rfl
                        cases b16 with
                        | true =>
                          have h16 : cmpD a b > 0 := i16.1 rfl
                          exact fin _ (DyadBetween_f_r35 b17 b18 b19 b21) rfl rfl
                        | false =>
                          have h16 : ¬ (cmpD a b > 0) := fun c => Bool.false_ne_true (i16.2 c)
                          cases b17 with
                          | true =>
                            have h17 : fleB (lowW a) (lowW b) = true := i17.1 rfl
                            cases b18 with
                            | true =>
                              have h18 : fleB (highW a) (highW b) = true := i18.1 rfl
                              cases b19 with
                              | true =>
                                have h19 : fleB (nearW a) (nearW b) = true := i19.1 rfl
                                exact fin _ (DyadBetween_f_r36 b21) rfl rfl
                              | false =>
                                exact absurd (i19.2 ((by unfold fleB; exact decide_eq_true ⟨(bw_of ha).nn, (bw_of hb).nn, (rise ha hb h16).2.2⟩))) Bool.false_ne_true
                            | false =>
                              exact absurd (i18.2 ((by unfold fleB; exact decide_eq_true ⟨(bw_of ha).nh, (bw_of hb).nh, (rise ha hb h16).2.1⟩))) Bool.false_ne_true
                          | false =>
                            exact absurd (i17.2 ((by unfold fleB; exact decide_eq_true ⟨(bw_of ha).nl, (bw_of hb).nl, (rise ha hb h16).1⟩))) Bool.false_ne_true
                      | false =>
                        exact absurd (i20.2 ((by rw [(bw_of ha).nx h14]; exact Bt.feq_ok (bw_of ha).nh))) Bool.false_ne_true
                | false =>
                  have h13 : ¬ (nearW a = lowW a) := fun c => Bool.false_ne_true (i13.2 c)
                  cases b21 with
                  | true =>
                    have h21 : nearW a = highW a := i21.1 rfl
                    cases b14 with
                    | true =>
                      have h14 : agR a (lowW a) = 0 := i14.1 rfl
                      cases b15 with
                      | true =>
                        have h15 : agR a (highW a) = 0 := i15.1 rfl
                        cases b16 with
                        | true =>
                          have h16 : cmpD a b > 0 := i16.1 rfl
                          exact fin _ (DyadBetween_f_r37 b17 b18 b19 b20) rfl rfl
                        | false =>
                          have h16 : ¬ (cmpD a b > 0) := fun c => Bool.false_ne_true (i16.2 c)
                          cases b17 with
                          | true =>
                            have h17 : fleB (lowW a) (lowW b) = true := i17.1 rfl
                            cases b18 with
                            | true =>
                              have h18 : fleB (highW a) (highW b) = true := i18.1 rfl
                              cases b19 with
                              | true =>
                                have h19 : fleB (nearW a) (nearW b) = true := i19.1 rfl
                                exact fin _ (DyadBetween_f_r38 b20) rfl rfl
                              | false =>
                                exact absurd (i19.2 ((by unfold fleB; exact decide_eq_true ⟨(bw_of ha).nn, (bw_of hb).nn, (rise ha hb h16).2.2⟩))) Bool.false_ne_true
                            | false =>
                              exact absurd (i18.2 ((by unfold fleB; exact decide_eq_true ⟨(bw_of ha).nh, (bw_of hb).nh, (rise ha hb h16).2.1⟩))) Bool.false_ne_true
                          | false =>
                            exact absurd (i17.2 ((by unfold fleB; exact decide_eq_true ⟨(bw_of ha).nl, (bw_of hb).nl, (rise ha hb h16).1⟩))) Bool.false_ne_true
                      | false =>
                        exact absurd (i15.2 (((bw_of ha).z.1 h14))) Bool.false_ne_true
                    | false =>
                      have h14 : ¬ (agR a (lowW a) = 0) := fun c => Bool.false_ne_true (i14.2 c)
                      cases b15 with
                      | true =>
                        exact absurd (i15.1 rfl) ((fun c => h14 ((bw_of ha).z.2 c)))
                      | false =>
                        have h15 : ¬ (agR a (highW a) = 0) := fun c => Bool.false_ne_true (i15.2 c)
                        cases b20 with
                        | true =>
                          have h20 : Bt.feqB (Bt.upF (lowW a)) (highW a) = true := i20.1 rfl
                          cases b16 with
                          | true =>
                            have h16 : cmpD a b > 0 := i16.1 rfl
                            exact fin _ (DyadBetween_f_r39 b17 b18 b19) rfl rfl
                          | false =>
                            have h16 : ¬ (cmpD a b > 0) := fun c => Bool.false_ne_true (i16.2 c)
                            cases b17 with
                            | true =>
                              have h17 : fleB (lowW a) (lowW b) = true := i17.1 rfl
                              cases b18 with
                              | true =>
                                have h18 : fleB (highW a) (highW b) = true := i18.1 rfl
                                cases b19 with
                                | true =>
                                  have h19 : fleB (nearW a) (nearW b) = true := i19.1 rfl
                                  exact fin _ (DyadBetween_f_r40) rfl rfl
                                | false =>
                                  exact absurd (i19.2 ((by unfold fleB; exact decide_eq_true ⟨(bw_of ha).nn, (bw_of hb).nn, (rise ha hb h16).2.2⟩))) Bool.false_ne_true
                              | false =>
                                exact absurd (i18.2 ((by unfold fleB; exact decide_eq_true ⟨(bw_of ha).nh, (bw_of hb).nh, (rise ha hb h16).2.1⟩))) Bool.false_ne_true
                            | false =>
                              exact absurd (i17.2 ((by unfold fleB; exact decide_eq_true ⟨(bw_of ha).nl, (bw_of hb).nl, (rise ha hb h16).1⟩))) Bool.false_ne_true
                        | false =>
                          exact absurd (i20.2 ((by rw [(bw_of ha).nx h14]; exact Bt.feq_ok (bw_of ha).nh))) Bool.false_ne_true
                  | false =>
                    exact absurd (i21.2 (((bw_of ha).nw.resolve_left h13))) Bool.false_ne_true
            | false =>
              exact absurd (i9.2 ((((own_words hx hf).2 (fun c => h4 (Bt.feq_z c))).2.1.symm))) Bool.false_ne_true
        | false =>
          exact absurd (i6.2 ((((own_words hx hf).2 (fun c => h4 (Bt.feq_z c))).1.symm))) Bool.false_ne_true
      | false =>
        have h3 : ¬ (Bt.Ff.sgn (nearW (flt x)) = true) := fun c => Bool.false_ne_true (i3.2 c)
        cases b6 with
        | true =>
          have h6 : x = lowW (flt x) := i6.1 rfl
          cases b7 with
          | true =>
            have h7 : Bt.Ff.sgn (lowW (flt x)) = true := i7.1 rfl
            cases b9 with
            | true =>
              have h9 : x = highW (flt x) := i9.1 rfl
              cases b10 with
              | true =>
                have h10 : Bt.Ff.sgn (highW (flt x)) = true := i10.1 rfl
                cases b13 with
                | true =>
                  have h13 : nearW a = lowW a := i13.1 rfl
                  cases b14 with
                  | true =>
                    have h14 : agR a (lowW a) = 0 := i14.1 rfl
                    cases b15 with
                    | true =>
                      have h15 : agR a (highW a) = 0 := i15.1 rfl
                      cases b16 with
                      | true =>
                        have h16 : cmpD a b > 0 := i16.1 rfl
                        exact fin _ (DyadBetween_f_r41 b17 b18 b19 b20 b21) rfl rfl
                      | false =>
                        have h16 : ¬ (cmpD a b > 0) := fun c => Bool.false_ne_true (i16.2 c)
                        cases b17 with
                        | true =>
                          have h17 : fleB (lowW a) (lowW b) = true := i17.1 rfl
                          cases b18 with
                          | true =>
                            have h18 : fleB (highW a) (highW b) = true := i18.1 rfl
                            cases b19 with
                            | true =>
                              have h19 : fleB (nearW a) (nearW b) = true := i19.1 rfl
                              exact fin _ (DyadBetween_f_r42 b20 b21) rfl rfl
                            | false =>
                              exact absurd (i19.2 ((by unfold fleB; exact decide_eq_true ⟨(bw_of ha).nn, (bw_of hb).nn, (rise ha hb h16).2.2⟩))) Bool.false_ne_true
                          | false =>
                            exact absurd (i18.2 ((by unfold fleB; exact decide_eq_true ⟨(bw_of ha).nh, (bw_of hb).nh, (rise ha hb h16).2.1⟩))) Bool.false_ne_true
                        | false =>
                          exact absurd (i17.2 ((by unfold fleB; exact decide_eq_true ⟨(bw_of ha).nl, (bw_of hb).nl, (rise ha hb h16).1⟩))) Bool.false_ne_true
                    | false =>
                      exact absurd (i15.2 (((bw_of ha).z.1 h14))) Bool.false_ne_true
                  | false =>
                    have h14 : ¬ (agR a (lowW a) = 0) := fun c => Bool.false_ne_true (i14.2 c)
                    cases b15 with
                    | true =>
                      exact absurd (i15.1 rfl) ((fun c => h14 ((bw_of ha).z.2 c)))
                    | false =>
                      have h15 : ¬ (agR a (highW a) = 0) := fun c => Bool.false_ne_true (i15.2 c)
                      cases b20 with
                      | true =>
                        have h20 : Bt.feqB (Bt.upF (lowW a)) (highW a) = true := i20.1 rfl
                        cases b16 with
                        | true =>
                          have h16 : cmpD a b > 0 := i16.1 rfl
                          exact fin _ (DyadBetween_f_r43 b17 b18 b19 b21) rfl rfl
                        | false =>
                          have h16 : ¬ (cmpD a b > 0) := fun c => Bool.false_ne_true (i16.2 c)
                          cases b17 with
                          | true =>
                            have h17 : fleB (lowW a) (lowW b) = true := i17.1 rfl
                            cases b18 with
                            | true =>
                              have h18 : fleB (highW a) (highW b) = true := i18.1 rfl
                              cases b19 with
                              | true =>
                                have h19 : fleB (nearW a) (nearW b) = true := i19.1 rfl
                                exact fin _ (DyadBetween_f_r44 b21) rfl rfl
                              | false =>
                                exact absurd (i19.2 ((by unfold fleB; exact decide_eq_true ⟨(bw_of ha).nn, (bw_of hb).nn, (rise ha hb h16).2.2⟩))) Bool.false_ne_true
                            | false =>
                              exact absurd (i18.2 ((by unfold fleB; exact decide_eq_true ⟨(bw_of ha).nh, (bw_of hb).nh, (rise ha hb h16).2.1⟩))) Bool.false_ne_true
                          | false =>
                            exact absurd (i17.2 ((by unfold fleB; exact decide_eq_true ⟨(bw_of ha).nl, (bw_of hb).nl, (rise ha hb h16).1⟩))) Bool.false_ne_true
                      | false =>
                        exact absurd (i20.2 ((by rw [(bw_of ha).nx h14]; exact Bt.feq_ok (bw_of ha).nh))) Bool.false_ne_true
                | false =>
                  have h13 : ¬ (nearW a = lowW a) := fun c => Bool.false_ne_true (i13.2 c)
                  cases b21 with
                  | true =>
                    have h21 : nearW a = highW a := i21.1 rfl
                    cases b14 with
                    | true =>
                      have h14 : agR a (lowW a) = 0 := i14.1 rfl
                      cases b15 with
                      | true =>
                        have h15 : agR a (highW a) = 0 := i15.1 rfl
                        cases b16 with
                        | true =>
                          have h16 : cmpD a b > 0 := i16.1 rfl
                          exact fin _ (DyadBetween_f_r45 b17 b18 b19 b20) rfl rfl
                        | false =>
                          have h16 : ¬ (cmpD a b > 0) := fun c => Bool.false_ne_true (i16.2 c)
                          cases b17 with
                          | true =>
                            have h17 : fleB (lowW a) (lowW b) = true := i17.1 rfl
                            cases b18 with
                            | true =>
                              have h18 : fleB (highW a) (highW b) = true := i18.1 rfl
                              cases b19 with
                              | true =>
                                have h19 : fleB (nearW a) (nearW b) = true := i19.1 rfl
                                exact fin _ (DyadBetween_f_r46 b20) rfl rfl
                              | false =>
                                exact absurd (i19.2 ((by unfold fleB; exact decide_eq_true ⟨(bw_of ha).nn, (bw_of hb).nn, (rise ha hb h16).2.2⟩))) Bool.false_ne_true
                            | false =>
                              exact absurd (i18.2 ((by unfold fleB; exact decide_eq_true ⟨(bw_of ha).nh, (bw_of hb).nh, (rise ha hb h16).2.1⟩))) Bool.false_ne_true
                          | false =>
                            exact absurd (i17.2 ((by unfold fleB; exact decide_eq_true ⟨(bw_of ha).nl, (bw_of hb).nl, (rise ha hb h16).1⟩))) Bool.false_ne_true
                      | false =>
                        exact absurd (i15.2 (((bw_of ha).z.1 h14))) Bool.false_ne_true
                    | false =>
                      have h14 : ¬ (agR a (lowW a) = 0) := fun c => Bool.false_ne_true (i14.2 c)
                      cases b15 with
                      | true =>
                        exact absurd (i15.1 rfl) ((fun c => h14 ((bw_of ha).z.2 c)))
                      | false =>
                        have h15 : ¬ (agR a (highW a) = 0) := fun c => Bool.false_ne_true (i15.2 c)
                        cases b20 with
                        | true =>
                          have h20 : Bt.feqB (Bt.upF (lowW a)) (highW a) = true := i20.1 rfl
                          cases b16 with
                          | true =>
                            have h16 : cmpD a b > 0 := i16.1 rfl
                            exact fin _ (DyadBetween_f_r47 b17 b18 b19) rfl rfl
                          | false =>
                            have h16 : ¬ (cmpD a b > 0) := fun c => Bool.false_ne_true (i16.2 c)
                            cases b17 with
                            | true =>
                              have h17 : fleB (lowW a) (lowW b) = true := i17.1 rfl
                              cases b18 with
                              | true =>
                                have h18 : fleB (highW a) (highW b) = true := i18.1 rfl
                                cases b19 with
                                | true =>
                                  have h19 : fleB (nearW a) (nearW b) = true := i19.1 rfl
                                  exact fin _ (DyadBetween_f_r48) rfl rfl
                                | false =>
                                  exact absurd (i19.2 ((by unfold fleB; exact decide_eq_true ⟨(bw_of ha).nn, (bw_of hb).nn, (rise ha hb h16).2.2⟩))) Bool.false_ne_true
                              | false =>
                                exact absurd (i18.2 ((by unfold fleB; exact decide_eq_true ⟨(bw_of ha).nh, (bw_of hb).nh, (rise ha hb h16).2.1⟩))) Bool.false_ne_true
                            | false =>
                              exact absurd (i17.2 ((by unfold fleB; exact decide_eq_true ⟨(bw_of ha).nl, (bw_of hb).nl, (rise ha hb h16).1⟩))) Bool.false_ne_true
                        | false =>
                          exact absurd (i20.2 ((by rw [(bw_of ha).nx h14]; exact Bt.feq_ok (bw_of ha).nh))) Bool.false_ne_true
                  | false =>
                    exact absurd (i21.2 (((bw_of ha).nw.resolve_left h13))) Bool.false_ne_true
              | false =>
                have h10 : ¬ (Bt.Ff.sgn (highW (flt x)) = true) := fun c => Bool.false_ne_true (i10.2 c)
                cases b13 with
                | true =>
                  have h13 : nearW a = lowW a := i13.1 rfl
                  cases b14 with
                  | true =>
                    have h14 : agR a (lowW a) = 0 := i14.1 rfl
                    cases b15 with
                    | true =>
                      have h15 : agR a (highW a) = 0 := i15.1 rfl
                      cases b16 with
                      | true =>
                        have h16 : cmpD a b > 0 := i16.1 rfl
                        exact fin _ (DyadBetween_f_r49 b17 b18 b19 b20 b21) rfl rfl
                      | false =>
                        have h16 : ¬ (cmpD a b > 0) := fun c => Bool.false_ne_true (i16.2 c)
                        cases b17 with
                        | true =>
                          have h17 : fleB (lowW a) (lowW b) = true := i17.1 rfl
                          cases b18 with
                          | true =>
                            have h18 : fleB (highW a) (highW b) = true := i18.1 rfl
                            cases b19 with
                            | true =>
                              have h19 : fleB (nearW a) (nearW b) = true := i19.1 rfl
                              exact fin _ (DyadBetween_f_r50 b20 b21) rfl rfl
                            | false =>
                              exact absurd (i19.2 ((by unfold fleB; exact decide_eq_true ⟨(bw_of ha).nn, (bw_of hb).nn, (rise ha hb h16).2.2⟩))) Bool.false_ne_true
                          | false =>
                            exact absurd (i18.2 ((by unfold fleB; exact decide_eq_true ⟨(bw_of ha).nh, (bw_of hb).nh, (rise ha hb h16).2.1⟩))) Bool.false_ne_true
                        | false =>
                          exact absurd (i17.2 ((by unfold fleB; exact decide_eq_true ⟨(bw_of ha).nl, (bw_of hb).nl, (rise ha hb h16).1⟩))) Bool.false_ne_true
                    | false =>
                      exact absurd (i15.2 (((bw_of ha).z.1 h14))) Bool.false_ne_true
                  | false =>
                    have h14 : ¬ (agR a (lowW a) = 0) := fun c => Bool.false_ne_true (i14.2 c)
                    cases b15 with
                    | true =>
                      exact absurd (i15.1 rfl) ((fun c => h14 ((bw_of ha).z.2 c)))
                    | false =>
                      have h15 : ¬ (agR a (highW a) = 0) := fun c => Bool.false_ne_true (i15.2 c)
                      cases b20 with
                      | true =>
                        have h20 : Bt.feqB (Bt.upF (lowW a)) (highW a) = true := i20.1 rfl
                        cases b16 with
                        | true =>
                          have h16 : cmpD a b > 0 := i16.1 rfl
                          exact fin _ (DyadBetween_f_r51 b17 b18 b19 b21) rfl rfl
                        | false =>
                          have h16 : ¬ (cmpD a b > 0) := fun c => Bool.false_ne_true (i16.2 c)
                          cases b17 with
                          | true =>
                            have h17 : fleB (lowW a) (lowW b) = true := i17.1 rfl
                            cases b18 with
                            | true =>
                              have h18 : fleB (highW a) (highW b) = true := i18.1 rfl
                              cases b19 with
                              | true =>
                                have h19 : fleB (nearW a) (nearW b) = true := i19.1 rfl
                                exact fin _ (DyadBetween_f_r52 b21) rfl rfl
                              | false =>
                                exact absurd (i19.2 ((by unfold fleB; exact decide_eq_true ⟨(bw_of ha).nn, (bw_of hb).nn, (rise ha hb h16).2.2⟩))) Bool.false_ne_true
                            | false =>
                              exact absurd (i18.2 ((by unfold fleB; exact decide_eq_true ⟨(bw_of ha).nh, (bw_of hb).nh, (rise ha hb h16).2.1⟩))) Bool.false_ne_true
                          | false =>
                            exact absurd (i17.2 ((by unfold fleB; exact decide_eq_true ⟨(bw_of ha).nl, (bw_of hb).nl, (rise ha hb h16).1⟩))) Bool.false_ne_true
                      | false =>
                        exact absurd (i20.2 ((by rw [(bw_of ha).nx h14]; exact Bt.feq_ok (bw_of ha).nh))) Bool.false_ne_true
                | false =>
                  have h13 : ¬ (nearW a = lowW a) := fun c => Bool.false_ne_true (i13.2 c)
                  cases b21 with
                  | true =>
                    have h21 : nearW a = highW a := i21.1 rfl
                    cases b14 with
                    | true =>
                      have h14 : agR a (lowW a) = 0 := i14.1 rfl
                      cases b15 with
                      | true =>
                        have h15 : agR a (highW a) = 0 := i15.1 rfl
                        cases b16 with
                        | true =>
                          have h16 : cmpD a b > 0 := i16.1 rfl
                          exact fin _ (DyadBetween_f_r53 b17 b18 b19 b20) rfl rfl
                        | false =>
                          have h16 : ¬ (cmpD a b > 0) := fun c => Bool.false_ne_true (i16.2 c)
                          cases b17 with
                          | true =>
                            have h17 : fleB (lowW a) (lowW b) = true := i17.1 rfl
                            cases b18 with
                            | true =>
                              have h18 : fleB (highW a) (highW b) = true := i18.1 rfl
                              cases b19 with
                              | true =>
                                have h19 : fleB (nearW a) (nearW b) = true := i19.1 rfl
                                exact fin _ (DyadBetween_f_r54 b20) rfl rfl
                              | false =>
                                exact absurd (i19.2 ((by unfold fleB; exact decide_eq_true ⟨(bw_of ha).nn, (bw_of hb).nn, (rise ha hb h16).2.2⟩))) Bool.false_ne_true
                            | false =>
                              exact absurd (i18.2 ((by unfold fleB; exact decide_eq_true ⟨(bw_of ha).nh, (bw_of hb).nh, (rise ha hb h16).2.1⟩))) Bool.false_ne_true
                          | false =>
                            exact absurd (i17.2 ((by unfold fleB; exact decide_eq_true ⟨(bw_of ha).nl, (bw_of hb).nl, (rise ha hb h16).1⟩))) Bool.false_ne_true
                      | false =>
                        exact absurd (i15.2 (((bw_of ha).z.1 h14))) Bool.false_ne_true
                    | false =>
                      have h14 : ¬ (agR a (lowW a) = 0) := fun c => Bool.false_ne_true (i14.2 c)
                      cases b15 with
                      | true =>
                        exact absurd (i15.1 rfl) ((fun c => h14 ((bw_of ha).z.2 c)))
                      | false =>
                        have h15 : ¬ (agR a (highW a) = 0) := fun c => Bool.false_ne_true (i15.2 c)
                        cases b20 with
                        | true =>
                          have h20 : Bt.feqB (Bt.upF (lowW a)) (highW a) = true := i20.1 rfl
                          cases b16 with
                          | true =>
                            have h16 : cmpD a b > 0 := i16.1 rfl
                            exact fin _ (DyadBetween_f_r55 b17 b18 b19) rfl rfl
                          | false =>
                            have h16 : ¬ (cmpD a b > 0) := fun c => Bool.false_ne_true (i16.2 c)
                            cases b17 with
                            | true =>
                              have h17 : fleB (lowW a) (lowW b) = true := i17.1 rfl
                              cases b18 with
                              | true =>
                                have h18 : fleB (highW a) (highW b) = true := i18.1 rfl
                                cases b19 with
                                | true =>
                                  have h19 : fleB (nearW a) (nearW b) = true := i19.1 rfl
                                  exact fin _ (DyadBetween_f_r56) rfl rfl
                                | false =>
                                  exact absurd (i19.2 ((by unfold fleB; exact decide_eq_true ⟨(bw_of ha).nn, (bw_of hb).nn, (rise ha hb h16).2.2⟩))) Bool.false_ne_true
                              | false =>
                                exact absurd (i18.2 ((by unfold fleB; exact decide_eq_true ⟨(bw_of ha).nh, (bw_of hb).nh, (rise ha hb h16).2.1⟩))) Bool.false_ne_true
                            | false =>
                              exact absurd (i17.2 ((by unfold fleB; exact decide_eq_true ⟨(bw_of ha).nl, (bw_of hb).nl, (rise ha hb h16).1⟩))) Bool.false_ne_true
                        | false =>
                          exact absurd (i20.2 ((by rw [(bw_of ha).nx h14]; exact Bt.feq_ok (bw_of ha).nh))) Bool.false_ne_true
                  | false =>
                    exact absurd (i21.2 (((bw_of ha).nw.resolve_left h13))) Bool.false_ne_true
            | false =>
              exact absurd (i9.2 ((((own_words hx hf).2 (fun c => h4 (Bt.feq_z c))).2.1.symm))) Bool.false_ne_true
          | false =>
            have h7 : ¬ (Bt.Ff.sgn (lowW (flt x)) = true) := fun c => Bool.false_ne_true (i7.2 c)
            cases b9 with
            | true =>
              have h9 : x = highW (flt x) := i9.1 rfl
              cases b10 with
              | true =>
                have h10 : Bt.Ff.sgn (highW (flt x)) = true := i10.1 rfl
                cases b13 with
                | true =>
                  have h13 : nearW a = lowW a := i13.1 rfl
                  cases b14 with
                  | true =>
                    have h14 : agR a (lowW a) = 0 := i14.1 rfl
                    cases b15 with
                    | true =>
                      have h15 : agR a (highW a) = 0 := i15.1 rfl
                      cases b16 with
                      | true =>
                        have h16 : cmpD a b > 0 := i16.1 rfl
                        exact fin _ (DyadBetween_f_r57 b17 b18 b19 b20 b21) rfl rfl
                      | false =>
                        have h16 : ¬ (cmpD a b > 0) := fun c => Bool.false_ne_true (i16.2 c)
                        cases b17 with
                        | true =>
                          have h17 : fleB (lowW a) (lowW b) = true := i17.1 rfl
                          cases b18 with
                          | true =>
                            have h18 : fleB (highW a) (highW b) = true := i18.1 rfl
                            cases b19 with
                            | true =>
                              have h19 : fleB (nearW a) (nearW b) = true := i19.1 rfl
                              exact fin _ (DyadBetween_f_r58 b20 b21) rfl rfl
                            | false =>
                              exact absurd (i19.2 ((by unfold fleB; exact decide_eq_true ⟨(bw_of ha).nn, (bw_of hb).nn, (rise ha hb h16).2.2⟩))) Bool.false_ne_true
                          | false =>
                            exact absurd (i18.2 ((by unfold fleB; exact decide_eq_true ⟨(bw_of ha).nh, (bw_of hb).nh, (rise ha hb h16).2.1⟩))) Bool.false_ne_true
                        | false =>
                          exact absurd (i17.2 ((by unfold fleB; exact decide_eq_true ⟨(bw_of ha).nl, (bw_of hb).nl, (rise ha hb h16).1⟩))) Bool.false_ne_true
                    | false =>
                      exact absurd (i15.2 (((bw_of ha).z.1 h14))) Bool.false_ne_true
                  | false =>
                    have h14 : ¬ (agR a (lowW a) = 0) := fun c => Bool.false_ne_true (i14.2 c)
                    cases b15 with
                    | true =>
                      exact absurd (i15.1 rfl) ((fun c => h14 ((bw_of ha).z.2 c)))
                    | false =>
                      have h15 : ¬ (agR a (highW a) = 0) := fun c => Bool.false_ne_true (i15.2 c)
                      cases b20 with
                      | true =>
                        have h20 : Bt.feqB (Bt.upF (lowW a)) (highW a) = true := i20.1 rfl
                        cases b16 with
                        | true =>
                          have h16 : cmpD a b > 0 := i16.1 rfl
                          exact fin _ (DyadBetween_f_r59 b17 b18 b19 b21) rfl rfl
                        | false =>
                          have h16 : ¬ (cmpD a b > 0) := fun c => Bool.false_ne_true (i16.2 c)
                          cases b17 with
                          | true =>
                            have h17 : fleB (lowW a) (lowW b) = true := i17.1 rfl
                            cases b18 with
                            | true =>
                              have h18 : fleB (highW a) (highW b) = true := i18.1 rfl
                              cases b19 with
                              | true =>
                                have h19 : fleB (nearW a) (nearW b) = true := i19.1 rfl
                                exact fin _ (DyadBetween_f_r60 b21) rfl rfl
                              | false =>
                                exact absurd (i19.2 ((by unfold fleB; exact decide_eq_true ⟨(bw_of ha).nn, (bw_of hb).nn, (rise ha hb h16).2.2⟩))) Bool.false_ne_true
                            | false =>
                              exact absurd (i18.2 ((by unfold fleB; exact decide_eq_true ⟨(bw_of ha).nh, (bw_of hb).nh, (rise ha hb h16).2.1⟩))) Bool.false_ne_true
                          | false =>
                            exact absurd (i17.2 ((by unfold fleB; exact decide_eq_true ⟨(bw_of ha).nl, (bw_of hb).nl, (rise ha hb h16).1⟩))) Bool.false_ne_true
                      | false =>
                        exact absurd (i20.2 ((by rw [(bw_of ha).nx h14]; exact Bt.feq_ok (bw_of ha).nh))) Bool.false_ne_true
                | false =>
                  have h13 : ¬ (nearW a = lowW a) := fun c => Bool.false_ne_true (i13.2 c)
                  cases b21 with
                  | true =>
                    have h21 : nearW a = highW a := i21.1 rfl
                    cases b14 with
                    | true =>
                      have h14 : agR a (lowW a) = 0 := i14.1 rfl
                      cases b15 with
                      | true =>
                        have h15 : agR a (highW a) = 0 := i15.1 rfl
                        cases b16 with
                        | true =>
                          have h16 : cmpD a b > 0 := i16.1 rfl
                          exact fin _ (DyadBetween_f_r61 b17 b18 b19 b20) rfl rfl
                        | false =>
                          have h16 : ¬ (cmpD a b > 0) := fun c => Bool.false_ne_true (i16.2 c)
                          cases b17 with
                          | true =>
                            have h17 : fleB (lowW a) (lowW b) = true := i17.1 rfl
                            cases b18 with
                            | true =>
                              have h18 : fleB (highW a) (highW b) = true := i18.1 rfl
                              cases b19 with
                              | true =>
                                have h19 : fleB (nearW a) (nearW b) = true := i19.1 rfl
                                exact fin _ (DyadBetween_f_r62 b20) rfl rfl
                              | false =>
                                exact absurd (i19.2 ((by unfold fleB; exact decide_eq_true ⟨(bw_of ha).nn, (bw_of hb).nn, (rise ha hb h16).2.2⟩))) Bool.false_ne_true
                            | false =>
                              exact absurd (i18.2 ((by unfold fleB; exact decide_eq_true ⟨(bw_of ha).nh, (bw_of hb).nh, (rise ha hb h16).2.1⟩))) Bool.false_ne_true
                          | false =>
                            exact absurd (i17.2 ((by unfold fleB; exact decide_eq_true ⟨(bw_of ha).nl, (bw_of hb).nl, (rise ha hb h16).1⟩))) Bool.false_ne_true
                      | false =>
                        exact absurd (i15.2 (((bw_of ha).z.1 h14))) Bool.false_ne_true
                    | false =>
                      have h14 : ¬ (agR a (lowW a) = 0) := fun c => Bool.false_ne_true (i14.2 c)
                      cases b15 with
                      | true =>
                        exact absurd (i15.1 rfl) ((fun c => h14 ((bw_of ha).z.2 c)))
                      | false =>
                        have h15 : ¬ (agR a (highW a) = 0) := fun c => Bool.false_ne_true (i15.2 c)
                        cases b20 with
                        | true =>
                          have h20 : Bt.feqB (Bt.upF (lowW a)) (highW a) = true := i20.1 rfl
                          cases b16 with
                          | true =>
                            have h16 : cmpD a b > 0 := i16.1 rfl
                            exact fin _ (DyadBetween_f_r63 b17 b18 b19) rfl rfl
                          | false =>
                            have h16 : ¬ (cmpD a b > 0) := fun c => Bool.false_ne_true (i16.2 c)
                            cases b17 with
                            | true =>
                              have h17 : fleB (lowW a) (lowW b) = true := i17.1 rfl
                              cases b18 with
                              | true =>
                                have h18 : fleB (highW a) (highW b) = true := i18.1 rfl
                                cases b19 with
                                | true =>
                                  have h19 : fleB (nearW a) (nearW b) = true := i19.1 rfl
                                  exact fin _ (DyadBetween_f_r64) rfl rfl
                                | false =>
                                  exact absurd (i19.2 ((by unfold fleB; exact decide_eq_true ⟨(bw_of ha).nn, (bw_of hb).nn, (rise ha hb h16).2.2⟩))) Bool.false_ne_true
                              | false =>
                                exact absurd (i18.2 ((by unfold fleB; exact decide_eq_true ⟨(bw_of ha).nh, (bw_of hb).nh, (rise ha hb h16).2.1⟩))) Bool.false_ne_true
                            | false =>
                              exact absurd (i17.2 ((by unfold fleB; exact decide_eq_true ⟨(bw_of ha).nl, (bw_of hb).nl, (rise ha hb h16).1⟩))) Bool.false_ne_true
                        | false =>
                          exact absurd (i20.2 ((by rw [(bw_of ha).nx h14]; exact Bt.feq_ok (bw_of ha).nh))) Bool.false_ne_true
                  | false =>
                    exact absurd (i21.2 (((bw_of ha).nw.resolve_left h13))) Bool.false_ne_true
              | false =>
                have h10 : ¬ (Bt.Ff.sgn (highW (flt x)) = true) := fun c => Bool.false_ne_true (i10.2 c)
                cases b13 with
                | true =>
                  have h13 : nearW a = lowW a := i13.1 rfl
                  cases b14 with
                  | true =>
                    have h14 : agR a (lowW a) = 0 := i14.1 rfl
                    cases b15 with
                    | true =>
                      have h15 : agR a (highW a) = 0 := i15.1 rfl
                      cases b16 with
                      | true =>
                        have h16 : cmpD a b > 0 := i16.1 rfl
                        exact fin _ (DyadBetween_f_r65 b17 b18 b19 b20 b21) rfl rfl
                      | false =>
                        have h16 : ¬ (cmpD a b > 0) := fun c => Bool.false_ne_true (i16.2 c)
                        cases b17 with
                        | true =>
                          have h17 : fleB (lowW a) (lowW b) = true := i17.1 rfl
                          cases b18 with
                          | true =>
                            have h18 : fleB (highW a) (highW b) = true := i18.1 rfl
                            cases b19 with
                            | true =>
                              have h19 : fleB (nearW a) (nearW b) = true := i19.1 rfl
                              exact fin _ (DyadBetween_f_r66 b20 b21) rfl rfl
                            | false =>
                              exact absurd (i19.2 ((by unfold fleB; exact decide_eq_true ⟨(bw_of ha).nn, (bw_of hb).nn, (rise ha hb h16).2.2⟩))) Bool.false_ne_true
                          | false =>
                            exact absurd (i18.2 ((by unfold fleB; exact decide_eq_true ⟨(bw_of ha).nh, (bw_of hb).nh, (rise ha hb h16).2.1⟩))) Bool.false_ne_true
                        | false =>
                          exact absurd (i17.2 ((by unfold fleB; exact decide_eq_true ⟨(bw_of ha).nl, (bw_of hb).nl, (rise ha hb h16).1⟩))) Bool.false_ne_true
                    | false =>
                      exact absurd (i15.2 (((bw_of ha).z.1 h14))) Bool.false_ne_true
                  | false =>
                    have h14 : ¬ (agR a (lowW a) = 0) := fun c => Bool.false_ne_true (i14.2 c)
                    cases b15 with
                    | true =>
                      exact absurd (i15.1 rfl) ((fun c => h14 ((bw_of ha).z.2 c)))
                    | false =>
                      have h15 : ¬ (agR a (highW a) = 0) := fun c => Bool.false_ne_true (i15.2 c)
                      cases b20 with
                      | true =>
                        have h20 : Bt.feqB (Bt.upF (lowW a)) (highW a) = true := i20.1 rfl
                        cases b16 with
                        | true =>
                          have h16 : cmpD a b > 0 := i16.1 rfl
                          exact fin _ (DyadBetween_f_r67 b17 b18 b19 b21) rfl rfl
                        | false =>
                          have h16 : ¬ (cmpD a b > 0) := fun c => Bool.false_ne_true (i16.2 c)
                          cases b17 with
                          | true =>
                            have h17 : fleB (lowW a) (lowW b) = true := i17.1 rfl
                            cases b18 with
                            | true =>
                              have h18 : fleB (highW a) (highW b) = true := i18.1 rfl
                              cases b19 with
                              | true =>
                                have h19 : fleB (nearW a) (nearW b) = true := i19.1 rfl
                                exact fin _ (DyadBetween_f_r68 b21) rfl rfl
                              | false =>
                                exact absurd (i19.2 ((by unfold fleB; exact decide_eq_true ⟨(bw_of ha).nn, (bw_of hb).nn, (rise ha hb h16).2.2⟩))) Bool.false_ne_true
                            | false =>
                              exact absurd (i18.2 ((by unfold fleB; exact decide_eq_true ⟨(bw_of ha).nh, (bw_of hb).nh, (rise ha hb h16).2.1⟩))) Bool.false_ne_true
                          | false =>
                            exact absurd (i17.2 ((by unfold fleB; exact decide_eq_true ⟨(bw_of ha).nl, (bw_of hb).nl, (rise ha hb h16).1⟩))) Bool.false_ne_true
                      | false =>
                        exact absurd (i20.2 ((by rw [(bw_of ha).nx h14]; exact Bt.feq_ok (bw_of ha).nh))) Bool.false_ne_true
                | false =>
                  have h13 : ¬ (nearW a = lowW a) := fun c => Bool.false_ne_true (i13.2 c)
                  cases b21 with
                  | true =>
                    have h21 : nearW a = highW a := i21.1 rfl
                    cases b14 with
                    | true =>
                      have h14 : agR a (lowW a) = 0 := i14.1 rfl
                      cases b15 with
                      | true =>
                        have h15 : agR a (highW a) = 0 := i15.1 rfl
                        cases b16 with
                        | true =>
                          have h16 : cmpD a b > 0 := i16.1 rfl
                          exact fin _ (DyadBetween_f_r69 b17 b18 b19 b20) rfl rfl
                        | false =>
                          have h16 : ¬ (cmpD a b > 0) := fun c => Bool.false_ne_true (i16.2 c)
                          cases b17 with
                          | true =>
                            have h17 : fleB (lowW a) (lowW b) = true := i17.1 rfl
                            cases b18 with
                            | true =>
                              have h18 : fleB (highW a) (highW b) = true := i18.1 rfl
                              cases b19 with
                              | true =>
                                have h19 : fleB (nearW a) (nearW b) = true := i19.1 rfl
                                exact fin _ (DyadBetween_f_r70 b20) rfl rfl
                              | false =>
                                exact absurd (i19.2 ((by unfold fleB; exact decide_eq_true ⟨(bw_of ha).nn, (bw_of hb).nn, (rise ha hb h16).2.2⟩))) Bool.false_ne_true
                            | false =>
                              exact absurd (i18.2 ((by unfold fleB; exact decide_eq_true ⟨(bw_of ha).nh, (bw_of hb).nh, (rise ha hb h16).2.1⟩))) Bool.false_ne_true
                          | false =>
                            exact absurd (i17.2 ((by unfold fleB; exact decide_eq_true ⟨(bw_of ha).nl, (bw_of hb).nl, (rise ha hb h16).1⟩))) Bool.false_ne_true
                      | false =>
                        exact absurd (i15.2 (((bw_of ha).z.1 h14))) Bool.false_ne_true
                    | false =>
                      have h14 : ¬ (agR a (lowW a) = 0) := fun c => Bool.false_ne_true (i14.2 c)
                      cases b15 with
                      | true =>
                        exact absurd (i15.1 rfl) ((fun c => h14 ((bw_of ha).z.2 c)))
                      | false =>
                        have h15 : ¬ (agR a (highW a) = 0) := fun c => Bool.false_ne_true (i15.2 c)
                        cases b20 with
                        | true =>
                          have h20 : Bt.feqB (Bt.upF (lowW a)) (highW a) = true := i20.1 rfl
                          cases b16 with
                          | true =>
                            have h16 : cmpD a b > 0 := i16.1 rfl
                            exact fin _ (DyadBetween_f_r71 b17 b18 b19) rfl rfl
                          | false =>
                            have h16 : ¬ (cmpD a b > 0) := fun c => Bool.false_ne_true (i16.2 c)
                            cases b17 with
                            | true =>
                              have h17 : fleB (lowW a) (lowW b) = true := i17.1 rfl
                              cases b18 with
                              | true =>
                                have h18 : fleB (highW a) (highW b) = true := i18.1 rfl
                                cases b19 with
                                | true =>
                                  have h19 : fleB (nearW a) (nearW b) = true := i19.1 rfl
                                  exact fin _ (DyadBetween_f_r72) rfl rfl
                                | false =>
                                  exact absurd (i19.2 ((by unfold fleB; exact decide_eq_true ⟨(bw_of ha).nn, (bw_of hb).nn, (rise ha hb h16).2.2⟩))) Bool.false_ne_true
                              | false =>
                                exact absurd (i18.2 ((by unfold fleB; exact decide_eq_true ⟨(bw_of ha).nh, (bw_of hb).nh, (rise ha hb h16).2.1⟩))) Bool.false_ne_true
                            | false =>
                              exact absurd (i17.2 ((by unfold fleB; exact decide_eq_true ⟨(bw_of ha).nl, (bw_of hb).nl, (rise ha hb h16).1⟩))) Bool.false_ne_true
                        | false =>
                          exact absurd (i20.2 ((by rw [(bw_of ha).nx h14]; exact Bt.feq_ok (bw_of ha).nh))) Bool.false_ne_true
                  | false =>
                    exact absurd (i21.2 (((bw_of ha).nw.resolve_left h13))) Bool.false_ne_true
            | false =>
              exact absurd (i9.2 ((((own_words hx hf).2 (fun c => h4 (Bt.feq_z c))).2.1.symm))) Bool.false_ne_true
        | false =>
          exact absurd (i6.2 ((((own_words hx hf).2 (fun c => h4 (Bt.feq_z c))).1.symm))) Bool.false_ne_true
    | false =>
      exact absurd (i2.2 ((((own_words hx hf).2 (fun c => h4 (Bt.feq_z c))).2.2.symm))) Bool.false_ne_true
@[reducible] def DyadBetween_fb_f : FuncId := 3
@[reducible] def DyadBetween_fb_a : List AV := [.agg [.sym 0, .sym 1, .sym 2], .agg [.sym 3, .sym 4, .sym 5], .sym 6]
@[reducible] noncomputable def DyadBetween_fb_k (b2 b3 b4 b6 b7 b9 b10 : Bool) : Know := ⟨[([0, 12, 25], [.sym 10, .sym 6], .lit (.bool false)),
  ([0, 12, 25], [.sym 6, .lit (.float .f64 0)], .lit (.bool (!b4))),
  ([0, 11, 25], [.sym 6, .lit (.float .f64 0)], .lit (.bool b4)),
  ([0, 12, 25], [.sym 11, .sym 6], .lit (.bool false)),
  ([0, 12, 25], [.sym 12, .sym 6], .lit (.bool false))],
  [(4, [], .lit (.bool true)),
  (5, [.sym 6], .tup [.agg [.sym 7, .sym 8, .sym 9], .lit (.int .i64 0)]),
  (6, [.agg [.sym 7, .sym 8, .sym 9]], .tup [.sym 10, .lit (.int .i64 0)]),
  (9, [.sym 6, .sym 10], .lit (.bool b2)),
  (10, [.sym 10], .lit (.bool b3)),
  (7, [.agg [.sym 7, .sym 8, .sym 9]], .tup [.sym 11, .lit (.int .i64 0)]),
  (9, [.sym 6, .sym 11], .lit (.bool b6)),
  (10, [.sym 11], .lit (.bool b7)),
  (8, [.agg [.sym 7, .sym 8, .sym 9]], .tup [.sym 12, .lit (.int .i64 0)]),
  (9, [.sym 6, .sym 12], .lit (.bool b9)),
  (10, [.sym 12], .lit (.bool b10)),
  (12, [.agg [.sym 0, .sym 1, .sym 2]], .lit (.int .i64 0)),
  (12, [.agg [.sym 3, .sym 4, .sym 5]], .lit (.int .i64 2))]⟩
theorem DyadBetween_fb_r1 (b2 b6 b9 : Bool) : @comes (DyadBetween_fb_k b2 false true b6 false b9 false) Tryd.prog glT 3000 DyadBetween_fb_f DyadBetween_fb_a = some (.lit (.bool true)) := by kernel_rfl
theorem DyadBetween_fb_r2 : @comes (DyadBetween_fb_k true true false true true true true) Tryd.prog glT 3000 DyadBetween_fb_f DyadBetween_fb_a = some (.lit (.bool true)) := by kernel_rfl
theorem DyadBetween_fb_r3 : @comes (DyadBetween_fb_k true true false true true true false) Tryd.prog glT 3000 DyadBetween_fb_f DyadBetween_fb_a = some (.lit (.bool true)) := by kernel_rfl
theorem DyadBetween_fb_r4 : @comes (DyadBetween_fb_k true true false true false true true) Tryd.prog glT 3000 DyadBetween_fb_f DyadBetween_fb_a = some (.lit (.bool true)) := by kernel_rfl
theorem DyadBetween_fb_r5 : @comes (DyadBetween_fb_k true true false true false true false) Tryd.prog glT 3000 DyadBetween_fb_f DyadBetween_fb_a = some (.lit (.bool true)) := by kernel_rfl
theorem DyadBetween_fb_r6 : @comes (DyadBetween_fb_k true false false true true true true) Tryd.prog glT 3000 DyadBetween_fb_f DyadBetween_fb_a = some (.lit (.bool true)) := by kernel_rfl
theorem DyadBetween_fb_r7 : @comes (DyadBetween_fb_k true false false true true true false) Tryd.prog glT 3000 DyadBetween_fb_f DyadBetween_fb_a = some (.lit (.bool true)) := by kernel_rfl
theorem DyadBetween_fb_r8 : @comes (DyadBetween_fb_k true false false true false true true) Tryd.prog glT 3000 DyadBetween_fb_f DyadBetween_fb_a = some (.lit (.bool true)) := by kernel_rfl
theorem DyadBetween_fb_r9 : @comes (DyadBetween_fb_k true false false true false true false) Tryd.prog glT 3000 DyadBetween_fb_f DyadBetween_fb_a = some (.lit (.bool true)) := by kernel_rfl
set_option maxRecDepth 100000 in
set_option maxHeartbeats 4000000 in
theorem DyadBetween_fb (a : Dy) (t : Dt) (x : Nat) (w : World) (hG : Globs glT w) (hx : x < 18446744073709551616) (hf : Bt.finB x = true) (ha : a.Ok) (hzt : t.s.size ≤ 9223372036854775807) (hnt : ¬ t.Ok) : Calls Tryd.prog 3 #[.agg #[.bool a.g, .string (natS a.n), .int .i64 a.x], .agg #[.bool t.g, .string t.s, .int .i64 t.x], .float .f64 (x)] w fun e w' => e = .returned (.bool true) ∧ Below w.heap.size w w' := by
  have h1 : Bt.feqB (nearW (flt x)) (x) = true := (own_feq hx hf (Or.inr (Or.inr rfl)))
  have i1 : true = true ↔ (Bt.feqB (nearW (flt x)) (x) = true) := ⟨fun _ => h1, fun _ => rfl⟩
  obtain ⟨b2, i2⟩ := bex (x = nearW (flt x))
  obtain ⟨b3, i3⟩ := bex (Bt.Ff.sgn (nearW (flt x)) = true)
  obtain ⟨b4, i4⟩ := bex (Bt.feqB (x) (0) = true)
  have h5 : Bt.feqB (lowW (flt x)) (x) = true := (own_feq hx hf (Or.inl rfl))
  have i5 : true = true ↔ (Bt.feqB (lowW (flt x)) (x) = true) := ⟨fun _ => h5, fun _ => rfl⟩
  obtain ⟨b6, i6⟩ := bex (x = lowW (flt x))
  obtain ⟨b7, i7⟩ := bex (Bt.Ff.sgn (lowW (flt x)) = true)
  have h8 : Bt.feqB (highW (flt x)) (x) = true := (own_feq hx hf (Or.inr (Or.inl rfl)))
  have i8 : true = true ↔ (Bt.feqB (highW (flt x)) (x) = true) := ⟨fun _ => h8, fun _ => rfl⟩
  obtain ⟨b9, i9⟩ := bex (x = highW (flt x))
  obtain ⟨b10, i10⟩ := bex (Bt.Ff.sgn (highW (flt x)) = true)
  letI : Env := mkEnv glT [.bool a.g, .string (natS a.n), .int .i64 a.x, .bool t.g, .string t.s, .int .i64 t.x, .float .f64 (x), .bool (flt x).g, .string (natS (flt x).n), .int .i64 (flt x).x, .float .f64 (nearW (flt x)), .float .f64 (lowW (flt x)), .float .f64 (highW (flt x))] rfl
  have hops : OpsT Tryd.prog (@Know.ops (DyadBetween_fb_k b2 b3 b4 b6 b7 b9 b10)) := ⟨optQ_neq_i rfl rfl i1,
    optQ_neq_i rfl rfl i4,
    optQ_eql_i rfl rfl i4,
    optQ_neq_i rfl rfl i5,
    optQ_neq_i rfl rfl i8,
    trivial⟩
  have hcalls : CallsT Tryd.prog (@Know.calls (DyadBetween_fb_k b2 b3 b4 b6 b7 b9 b10)) := ⟨callt rfl rfl fun w hG => awake3_c w hG,
    callt rfl rfl fun w hG => DFloat_f x w hx hf hG,
    callt rfl rfl fun w hG => DNear_any (flt x) w (flt_Ok x) hG,
    callt rfl rfl fun w hG => lBits_i (x) (nearW (flt x)) w ((fin_isn hf)) ((bw_of (flt_Ok x)).nn) i2,
    callt rfl rfl fun w hG => PSign3_c (nearW (flt x)) ((bw_of (flt_Ok x)).ln) w i3,
    callt rfl rfl fun w hG => DBelow_any (flt x) w (flt_Ok x) hG,
    callt rfl rfl fun w hG => lBits_i (x) (lowW (flt x)) w ((fin_isn hf)) ((bw_of (flt_Ok x)).nl) i6,
    callt rfl rfl fun w hG => PSign3_c (lowW (flt x)) ((bw_of (flt_Ok x)).ll) w i7,
    callt rfl rfl fun w hG => DAbove_any (flt x) w (flt_Ok x) hG,
    callt rfl rfl fun w hG => lBits_i (x) (highW (flt x)) w ((fin_isn hf)) ((bw_of (flt_Ok x)).nh) i9,
    callt rfl rfl fun w hG => PSign3_c (highW (flt x)) ((bw_of (flt_Ok x)).lh) w i10,
    callt rfl rfl fun w hG => DCheck_dyr a ha w,
    callt rfl rfl fun w hG => DCheck_bd t w hzt hnt,
    trivial⟩
  have fin : ∀ v, @comes (DyadBetween_fb_k b2 b3 b4 b6 b7 b9 b10) Tryd.prog glT 3000 DyadBetween_fb_f DyadBetween_fb_a = some v → ground v = true → Ending.returned (gval v) = .returned (.bool true) → Calls Tryd.prog 3 #[.agg #[.bool a.g, .string (natS a.n), .int .i64 a.x], .agg #[.bool t.g, .string t.s, .int .i64 t.x], .float .f64 (x)] w fun e w' => e = .returned (.bool true) ∧ Below w.heap.size w w' := fun v h1 h2 h3 => (@sym_ok _ (DyadBetween_fb_k b2 b3 b4 b6 b7 b9 b10) _ (@KnowOk.of _ (DyadBetween_fb_k b2 b3 b4 b6 b7 b9 b10) _ hops hcalls) (by kernel_rfl) _ _ _ _ h1 rfl h2 _ hG).mono fun e w' h => ⟨h.1.trans h3, h.2⟩
  clear hops hcalls
  cases b4 with
  | true =>
    have h4 : Bt.feqB (x) (0) = true := i4.1 rfl
    cases b3 with
    | true =>
      exact absurd (i3.1 rfl) ((fun c => by rw [((own_words hx hf).1 (of_feqz h4)).2.2] at c; exact absurd c (by decide)))
    | false =>
      have h3 : ¬ (Bt.Ff.sgn (nearW (flt x)) = true) := fun c => Bool.false_ne_true (i3.2 c)
      cases b7 with
      | true =>
        exact absurd (i7.1 rfl) ((fun c => by rw [((own_words hx hf).1 (of_feqz h4)).1] at c; exact absurd c (by decide)))
      | false =>
        have h7 : ¬ (Bt.Ff.sgn (lowW (flt x)) = true) := fun c => Bool.false_ne_true (i7.2 c)
        cases b10 with
        | true =>
          exact absurd (i10.1 rfl) ((fun c => by rw [((own_words hx hf).1 (of_feqz h4)).2.1] at c; exact absurd c (by decide)))
        | false =>
          have h10 : ¬ (Bt.Ff.sgn (highW (flt x)) = true) := fun c => Bool.false_ne_true (i10.2 c)
          exact fin _ (DyadBetween_fb_r1 b2 b6 b9) rfl rfl
  | false =>
    have h4 : ¬ (Bt.feqB (x) (0) = true) := fun c => Bool.false_ne_true (i4.2 c)
    cases b2 with
    | true =>
      have h2 : x = nearW (flt x) := i2.1 rfl
      cases b3 with
      | true =>
        have h3 : Bt.Ff.sgn (nearW (flt x)) = true := i3.1 rfl
        cases b6 with
        | true =>
          have h6 : x = lowW (flt x) := i6.1 rfl
          cases b7 with
          | true =>
            have h7 : Bt.Ff.sgn (lowW (flt x)) = true := i7.1 rfl
            cases b9 with
            | true =>
              have h9 : x = highW (flt x) := i9.1 rfl
              cases b10 with
              | true =>
                have h10 : Bt.Ff.sgn (highW (flt x)) = true := i10.1 rfl
                exact fin _ (DyadBetween_fb_r2) rfl rfl
              | false =>
                have h10 : ¬ (Bt.Ff.sgn (highW (flt x)) = true) := fun c => Bool.false_ne_true (i10.2 c)
                exact fin _ (DyadBetween_fb_r3) rfl rfl
            | false =>
              exact absurd (i9.2 ((((own_words hx hf).2 (fun c => h4 (Bt.feq_z c))).2.1.symm))) Bool.false_ne_true
          | false =>
            have h7 : ¬ (Bt.Ff.sgn (lowW (flt x)) = true) := fun c => Bool.false_ne_true (i7.2 c)
            cases b9 with
            | true =>
              have h9 : x = highW (flt x) := i9.1 rfl
              cases b10 with
              | true =>
                have h10 : Bt.Ff.sgn (highW (flt x)) = true := i10.1 rfl
                exact fin _ (DyadBetween_fb_r4) rfl rfl
              | false =>
                have h10 : ¬ (Bt.Ff.sgn (highW (flt x)) = true) := fun c => Bool.false_ne_true (i10.2 c)
                exact fin _ (DyadBetween_fb_r5) rfl rfl
            | false =>
              exact absurd (i9.2 ((((own_words hx hf).2 (fun c => h4 (Bt.feq_z c))).2.1.symm))) Bool.false_ne_true
        | false =>
          exact absurd (i6.2 ((((own_words hx hf).2 (fun c => h4 (Bt.feq_z c))).1.symm))) Bool.false_ne_true
      | false =>
        have h3 : ¬ (Bt.Ff.sgn (nearW (flt x)) = true) := fun c => Bool.false_ne_true (i3.2 c)
        cases b6 with
        | true =>
          have h6 : x = lowW (flt x) := i6.1 rfl
          cases b7 with
          | true =>
            have h7 : Bt.Ff.sgn (lowW (flt x)) = true := i7.1 rfl
            cases b9 with
            | true =>
              have h9 : x = highW (flt x) := i9.1 rfl
              cases b10 with
              | true =>
                have h10 : Bt.Ff.sgn (highW (flt x)) = true := i10.1 rfl
                exact fin _ (DyadBetween_fb_r6) rfl rfl
              | false =>
                have h10 : ¬ (Bt.Ff.sgn (highW (flt x)) = true) := fun c => Bool.false_ne_true (i10.2 c)
                exact fin _ (DyadBetween_fb_r7) rfl rfl
            | false =>
              exact absurd (i9.2 ((((own_words hx hf).2 (fun c => h4 (Bt.feq_z c))).2.1.symm))) Bool.false_ne_true
          | false =>
            have h7 : ¬ (Bt.Ff.sgn (lowW (flt x)) = true) := fun c => Bool.false_ne_true (i7.2 c)
            cases b9 with
            | true =>
              have h9 : x = highW (flt x) := i9.1 rfl
              cases b10 with
              | true =>
                have h10 : Bt.Ff.sgn (highW (flt x)) = true := i10.1 rfl
                exact fin _ (DyadBetween_fb_r8) rfl rfl
              | false =>
                have h10 : ¬ (Bt.Ff.sgn (highW (flt x)) = true) := fun c => Bool.false_ne_true (i10.2 c)
                exact fin _ (DyadBetween_fb_r9) rfl rfl
            | false =>
              exact absurd (i9.2 ((((own_words hx hf).2 (fun c => h4 (Bt.feq_z c))).2.1.symm))) Bool.false_ne_true
        | false =>
          exact absurd (i6.2 ((((own_words hx hf).2 (fun c => h4 (Bt.feq_z c))).1.symm))) Bool.false_ne_true
    | false =>
      exact absurd (i2.2 ((((own_words hx hf).2 (fun c => h4 (Bt.feq_z c))).2.2.symm))) Bool.false_ne_true
@[reducible] def DyadBetween_fa_f : FuncId := 3
@[reducible] def DyadBetween_fa_a : List AV := [.agg [.sym 0, .sym 1, .sym 2], .agg [.sym 3, .sym 4, .sym 5], .sym 6]
@[reducible] noncomputable def DyadBetween_fa_k (b2 b3 b4 b6 b7 b9 b10 : Bool) : Know := ⟨[([0, 12, 25], [.sym 10, .sym 6], .lit (.bool false)),
  ([0, 12, 25], [.sym 6, .lit (.float .f64 0)], .lit (.bool (!b4))),
  ([0, 11, 25], [.sym 6, .lit (.float .f64 0)], .lit (.bool b4)),
  ([0, 12, 25], [.sym 11, .sym 6], .lit (.bool false)),
  ([0, 12, 25], [.sym 12, .sym 6], .lit (.bool false))],
  [(4, [], .lit (.bool true)),
  (5, [.sym 6], .tup [.agg [.sym 7, .sym 8, .sym 9], .lit (.int .i64 0)]),
  (6, [.agg [.sym 7, .sym 8, .sym 9]], .tup [.sym 10, .lit (.int .i64 0)]),
  (9, [.sym 6, .sym 10], .lit (.bool b2)),
  (10, [.sym 10], .lit (.bool b3)),
  (7, [.agg [.sym 7, .sym 8, .sym 9]], .tup [.sym 11, .lit (.int .i64 0)]),
  (9, [.sym 6, .sym 11], .lit (.bool b6)),
  (10, [.sym 11], .lit (.bool b7)),
  (8, [.agg [.sym 7, .sym 8, .sym 9]], .tup [.sym 12, .lit (.int .i64 0)]),
  (9, [.sym 6, .sym 12], .lit (.bool b9)),
  (10, [.sym 12], .lit (.bool b10)),
  (12, [.agg [.sym 0, .sym 1, .sym 2]], .lit (.int .i64 2)),
  (12, [.agg [.sym 3, .sym 4, .sym 5]], .sym 13)]⟩
theorem DyadBetween_fa_r1 (b2 b6 b9 : Bool) : @comes (DyadBetween_fa_k b2 false true b6 false b9 false) Tryd.prog glT 3000 DyadBetween_fa_f DyadBetween_fa_a = some (.lit (.bool true)) := by kernel_rfl
theorem DyadBetween_fa_r2 : @comes (DyadBetween_fa_k true true false true true true true) Tryd.prog glT 3000 DyadBetween_fa_f DyadBetween_fa_a = some (.lit (.bool true)) := by kernel_rfl
theorem DyadBetween_fa_r3 : @comes (DyadBetween_fa_k true true false true true true false) Tryd.prog glT 3000 DyadBetween_fa_f DyadBetween_fa_a = some (.lit (.bool true)) := by kernel_rfl
theorem DyadBetween_fa_r4 : @comes (DyadBetween_fa_k true true false true false true true) Tryd.prog glT 3000 DyadBetween_fa_f DyadBetween_fa_a = some (.lit (.bool true)) := by kernel_rfl
theorem DyadBetween_fa_r5 : @comes (DyadBetween_fa_k true true false true false true false) Tryd.prog glT 3000 DyadBetween_fa_f DyadBetween_fa_a = some (.lit (.bool true)) := by kernel_rfl
theorem DyadBetween_fa_r6 : @comes (DyadBetween_fa_k true false false true true true true) Tryd.prog glT 3000 DyadBetween_fa_f DyadBetween_fa_a = some (.lit (.bool true)) := by kernel_rfl
theorem DyadBetween_fa_r7 : @comes (DyadBetween_fa_k true false false true true true false) Tryd.prog glT 3000 DyadBetween_fa_f DyadBetween_fa_a = some (.lit (.bool true)) := by kernel_rfl
theorem DyadBetween_fa_r8 : @comes (DyadBetween_fa_k true false false true false true true) Tryd.prog glT 3000 DyadBetween_fa_f DyadBetween_fa_a = some (.lit (.bool true)) := by kernel_rfl
theorem DyadBetween_fa_r9 : @comes (DyadBetween_fa_k true false false true false true false) Tryd.prog glT 3000 DyadBetween_fa_f DyadBetween_fa_a = some (.lit (.bool true)) := by kernel_rfl
set_option maxRecDepth 100000 in
set_option maxHeartbeats 4000000 in
theorem DyadBetween_fa (s t : Dt) (x : Nat) (w : World) (hG : Globs glT w) (hx : x < 18446744073709551616) (hf : Bt.finB x = true) (hzs : s.s.size ≤ 9223372036854775807) (hns : ¬ s.Ok) (e2 : Int) (hct : ∀ w, Calls Tryd.prog 12 #[.agg #[.bool t.g, .string t.s, .int .i64 t.x]] w fun e w' => e = .returned (.int .i64 e2) ∧ Below w.heap.size w w') : Calls Tryd.prog 3 #[.agg #[.bool s.g, .string s.s, .int .i64 s.x], .agg #[.bool t.g, .string t.s, .int .i64 t.x], .float .f64 (x)] w fun e w' => e = .returned (.bool true) ∧ Below w.heap.size w w' := by
  have h1 : Bt.feqB (nearW (flt x)) (x) = true := (own_feq hx hf (Or.inr (Or.inr rfl)))
  have i1 : true = true ↔ (Bt.feqB (nearW (flt x)) (x) = true) := ⟨fun _ => h1, fun _ => rfl⟩
  obtain ⟨b2, i2⟩ := bex (x = nearW (flt x))
  obtain ⟨b3, i3⟩ := bex (Bt.Ff.sgn (nearW (flt x)) = true)
  obtain ⟨b4, i4⟩ := bex (Bt.feqB (x) (0) = true)
  have h5 : Bt.feqB (lowW (flt x)) (x) = true := (own_feq hx hf (Or.inl rfl))
  have i5 : true = true ↔ (Bt.feqB (lowW (flt x)) (x) = true) := ⟨fun _ => h5, fun _ => rfl⟩
  obtain ⟨b6, i6⟩ := bex (x = lowW (flt x))
  obtain ⟨b7, i7⟩ := bex (Bt.Ff.sgn (lowW (flt x)) = true)
  have h8 : Bt.feqB (highW (flt x)) (x) = true := (own_feq hx hf (Or.inr (Or.inl rfl)))
  have i8 : true = true ↔ (Bt.feqB (highW (flt x)) (x) = true) := ⟨fun _ => h8, fun _ => rfl⟩
  obtain ⟨b9, i9⟩ := bex (x = highW (flt x))
  obtain ⟨b10, i10⟩ := bex (Bt.Ff.sgn (highW (flt x)) = true)
  letI : Env := mkEnv glT [.bool s.g, .string s.s, .int .i64 s.x, .bool t.g, .string t.s, .int .i64 t.x, .float .f64 (x), .bool (flt x).g, .string (natS (flt x).n), .int .i64 (flt x).x, .float .f64 (nearW (flt x)), .float .f64 (lowW (flt x)), .float .f64 (highW (flt x)), .int .i64 e2] rfl
  have hops : OpsT Tryd.prog (@Know.ops (DyadBetween_fa_k b2 b3 b4 b6 b7 b9 b10)) := ⟨optQ_neq_i rfl rfl i1,
    optQ_neq_i rfl rfl i4,
    optQ_eql_i rfl rfl i4,
    optQ_neq_i rfl rfl i5,
    optQ_neq_i rfl rfl i8,
    trivial⟩
  have hcalls : CallsT Tryd.prog (@Know.calls (DyadBetween_fa_k b2 b3 b4 b6 b7 b9 b10)) := ⟨callt rfl rfl fun w hG => awake3_c w hG,
    callt rfl rfl fun w hG => DFloat_f x w hx hf hG,
    callt rfl rfl fun w hG => DNear_any (flt x) w (flt_Ok x) hG,
    callt rfl rfl fun w hG => lBits_i (x) (nearW (flt x)) w ((fin_isn hf)) ((bw_of (flt_Ok x)).nn) i2,
    callt rfl rfl fun w hG => PSign3_c (nearW (flt x)) ((bw_of (flt_Ok x)).ln) w i3,
    callt rfl rfl fun w hG => DBelow_any (flt x) w (flt_Ok x) hG,
    callt rfl rfl fun w hG => lBits_i (x) (lowW (flt x)) w ((fin_isn hf)) ((bw_of (flt_Ok x)).nl) i6,
    callt rfl rfl fun w hG => PSign3_c (lowW (flt x)) ((bw_of (flt_Ok x)).ll) w i7,
    callt rfl rfl fun w hG => DAbove_any (flt x) w (flt_Ok x) hG,
    callt rfl rfl fun w hG => lBits_i (x) (highW (flt x)) w ((fin_isn hf)) ((bw_of (flt_Ok x)).nh) i9,
    callt rfl rfl fun w hG => PSign3_c (highW (flt x)) ((bw_of (flt_Ok x)).lh) w i10,
    callt rfl rfl fun w hG => DCheck_bd s w hzs hns,
    callt rfl rfl fun w hG => hct w,
    trivial⟩
  have fin : ∀ v, @comes (DyadBetween_fa_k b2 b3 b4 b6 b7 b9 b10) Tryd.prog glT 3000 DyadBetween_fa_f DyadBetween_fa_a = some v → ground v = true → Ending.returned (gval v) = .returned (.bool true) → Calls Tryd.prog 3 #[.agg #[.bool s.g, .string s.s, .int .i64 s.x], .agg #[.bool t.g, .string t.s, .int .i64 t.x], .float .f64 (x)] w fun e w' => e = .returned (.bool true) ∧ Below w.heap.size w w' := fun v h1 h2 h3 => (@sym_ok _ (DyadBetween_fa_k b2 b3 b4 b6 b7 b9 b10) _ (@KnowOk.of _ (DyadBetween_fa_k b2 b3 b4 b6 b7 b9 b10) _ hops hcalls) (by kernel_rfl) _ _ _ _ h1 rfl h2 _ hG).mono fun e w' h => ⟨h.1.trans h3, h.2⟩
  clear hops hcalls
  cases b4 with
  | true =>
    have h4 : Bt.feqB (x) (0) = true := i4.1 rfl
    cases b3 with
    | true =>
      exact absurd (i3.1 rfl) ((fun c => by rw [((own_words hx hf).1 (of_feqz h4)).2.2] at c; exact absurd c (by decide)))
    | false =>
      have h3 : ¬ (Bt.Ff.sgn (nearW (flt x)) = true) := fun c => Bool.false_ne_true (i3.2 c)
      cases b7 with
      | true =>
        exact absurd (i7.1 rfl) ((fun c => by rw [((own_words hx hf).1 (of_feqz h4)).1] at c; exact absurd c (by decide)))
      | false =>
        have h7 : ¬ (Bt.Ff.sgn (lowW (flt x)) = true) := fun c => Bool.false_ne_true (i7.2 c)
        cases b10 with
        | true =>
          exact absurd (i10.1 rfl) ((fun c => by rw [((own_words hx hf).1 (of_feqz h4)).2.1] at c; exact absurd c (by decide)))
        | false =>
          have h10 : ¬ (Bt.Ff.sgn (highW (flt x)) = true) := fun c => Bool.false_ne_true (i10.2 c)
          exact fin _ (DyadBetween_fa_r1 b2 b6 b9) rfl rfl
  | false =>
    have h4 : ¬ (Bt.feqB (x) (0) = true) := fun c => Bool.false_ne_true (i4.2 c)
    cases b2 with
    | true =>
      have h2 : x = nearW (flt x) := i2.1 rfl
      cases b3 with
      | true =>
        have h3 : Bt.Ff.sgn (nearW (flt x)) = true := i3.1 rfl
        cases b6 with
        | true =>
          have h6 : x = lowW (flt x) := i6.1 rfl
          cases b7 with
          | true =>
            have h7 : Bt.Ff.sgn (lowW (flt x)) = true := i7.1 rfl
            cases b9 with
            | true =>
              have h9 : x = highW (flt x) := i9.1 rfl
              cases b10 with
              | true =>
                have h10 : Bt.Ff.sgn (highW (flt x)) = true := i10.1 rfl
                exact fin _ (DyadBetween_fa_r2) rfl rfl
              | false =>
                have h10 : ¬ (Bt.Ff.sgn (highW (flt x)) = true) := fun c => Bool.false_ne_true (i10.2 c)
                exact fin _ (DyadBetween_fa_r3) rfl rfl
            | false =>
              exact absurd (i9.2 ((((own_words hx hf).2 (fun c => h4 (Bt.feq_z c))).2.1.symm))) Bool.false_ne_true
          | false =>
            have h7 : ¬ (Bt.Ff.sgn (lowW (flt x)) = true) := fun c => Bool.false_ne_true (i7.2 c)
            cases b9 with
            | true =>
              have h9 : x = highW (flt x) := i9.1 rfl
              cases b10 with
              | true =>
                have h10 : Bt.Ff.sgn (highW (flt x)) = true := i10.1 rfl
                exact fin _ (DyadBetween_fa_r4) rfl rfl
              | false =>
                have h10 : ¬ (Bt.Ff.sgn (highW (flt x)) = true) := fun c => Bool.false_ne_true (i10.2 c)
                exact fin _ (DyadBetween_fa_r5) rfl rfl
            | false =>
              exact absurd (i9.2 ((((own_words hx hf).2 (fun c => h4 (Bt.feq_z c))).2.1.symm))) Bool.false_ne_true
        | false =>
          exact absurd (i6.2 ((((own_words hx hf).2 (fun c => h4 (Bt.feq_z c))).1.symm))) Bool.false_ne_true
      | false =>
        have h3 : ¬ (Bt.Ff.sgn (nearW (flt x)) = true) := fun c => Bool.false_ne_true (i3.2 c)
        cases b6 with
        | true =>
          have h6 : x = lowW (flt x) := i6.1 rfl
          cases b7 with
          | true =>
            have h7 : Bt.Ff.sgn (lowW (flt x)) = true := i7.1 rfl
            cases b9 with
            | true =>
              have h9 : x = highW (flt x) := i9.1 rfl
              cases b10 with
              | true =>
                have h10 : Bt.Ff.sgn (highW (flt x)) = true := i10.1 rfl
                exact fin _ (DyadBetween_fa_r6) rfl rfl
              | false =>
                have h10 : ¬ (Bt.Ff.sgn (highW (flt x)) = true) := fun c => Bool.false_ne_true (i10.2 c)
                exact fin _ (DyadBetween_fa_r7) rfl rfl
            | false =>
              exact absurd (i9.2 ((((own_words hx hf).2 (fun c => h4 (Bt.feq_z c))).2.1.symm))) Bool.false_ne_true
          | false =>
            have h7 : ¬ (Bt.Ff.sgn (lowW (flt x)) = true) := fun c => Bool.false_ne_true (i7.2 c)
            cases b9 with
            | true =>
              have h9 : x = highW (flt x) := i9.1 rfl
              cases b10 with
              | true =>
                have h10 : Bt.Ff.sgn (highW (flt x)) = true := i10.1 rfl
                exact fin _ (DyadBetween_fa_r8) rfl rfl
              | false =>
                have h10 : ¬ (Bt.Ff.sgn (highW (flt x)) = true) := fun c => Bool.false_ne_true (i10.2 c)
                exact fin _ (DyadBetween_fa_r9) rfl rfl
            | false =>
              exact absurd (i9.2 ((((own_words hx hf).2 (fun c => h4 (Bt.feq_z c))).2.1.symm))) Bool.false_ne_true
        | false =>
          exact absurd (i6.2 ((((own_words hx hf).2 (fun c => h4 (Bt.feq_z c))).1.symm))) Bool.false_ne_true
    | false =>
      exact absurd (i2.2 ((((own_words hx hf).2 (fun c => h4 (Bt.feq_z c))).2.2.symm))) Bool.false_ne_true
@[reducible] def DyadBetween_n_f : FuncId := 3
@[reducible] def DyadBetween_n_a : List AV := [.agg [.sym 0, .sym 1, .sym 2], .agg [.sym 3, .sym 4, .sym 5], .sym 6]
@[reducible] noncomputable def DyadBetween_n_k (b3 b4 b5 b6 b7 b8 b9 b10 b11 : Bool) : Know := ⟨[([0, 13, 3], [.sym 10, .lit (.int .i64 0)], .lit (.bool false)),
  ([0, 15, 3], [.sym 11, .lit (.int .i64 0)], .lit (.bool false)),
  ([0, 11, 3], [.sym 10, .lit (.int .i64 0)], .lit (.bool b4)),
  ([0, 11, 3], [.sym 11, .lit (.int .i64 0)], .lit (.bool b5)),
  ([0, 12, 3], [.sym 10, .lit (.int .i64 0)], .lit (.bool (!b4))),
  ([0, 15, 3], [.sym 12, .lit (.int .i64 0)], .lit (.bool b6)),
  ([0, 14, 25], [.sym 7, .sym 13], .lit (.bool b7)),
  ([0, 14, 25], [.sym 8, .sym 14], .lit (.bool b8)),
  ([0, 14, 25], [.sym 9, .sym 15], .lit (.bool b9)),
  ([0, 12, 25], [.sym 17, .sym 8], .lit (.bool (!b10)))],
  [(4, [], .lit (.bool true)),
  (5, [.sym 6], .lit (.tuple #[.agg #[.bool false, .string ⟨#[]⟩, .int .i64 0], .int .i64 5])),
  (12, [.agg [.sym 0, .sym 1, .sym 2]], .lit (.int .i64 0)),
  (12, [.agg [.sym 3, .sym 4, .sym 5]], .lit (.int .i64 0)),
  (7, [.agg [.sym 0, .sym 1, .sym 2]], .tup [.sym 7, .lit (.int .i64 0)]),
  (8, [.agg [.sym 0, .sym 1, .sym 2]], .tup [.sym 8, .lit (.int .i64 0)]),
  (6, [.agg [.sym 0, .sym 1, .sym 2]], .tup [.sym 9, .lit (.int .i64 0)]),
  (13, [.agg [.sym 0, .sym 1, .sym 2], .sym 7], .tup [.sym 10, .lit (.int .i64 0)]),
  (13, [.agg [.sym 0, .sym 1, .sym 2], .sym 8], .tup [.sym 11, .lit (.int .i64 0)]),
  (9, [.sym 9, .sym 7], .lit (.bool b3)),
  (16, [.agg [.sym 0, .sym 1, .sym 2], .agg [.sym 3, .sym 4, .sym 5]], .tup [.sym 12, .lit (.int .i64 0)]),
  (7, [.agg [.sym 3, .sym 4, .sym 5]], .tup [.sym 13, .lit (.int .i64 0)]),
  (8, [.agg [.sym 3, .sym 4, .sym 5]], .tup [.sym 14, .lit (.int .i64 0)]),
  (6, [.agg [.sym 3, .sym 4, .sym 5]], .tup [.sym 15, .lit (.int .i64 0)]),
  (15, [.lit (.int .i64 1)], .sym 16),
  (14, [.sym 7, .sym 16], .sym 17),
  (9, [.sym 9, .sym 8], .lit (.bool b11))]⟩
theorem DyadBetween_n_r1 (b7 b8 b9 b10 b11 : Bool) : @comes (DyadBetween_n_k true true true true b7 b8 b9 b10 b11) Tryd.prog glT 3000 DyadBetween_n_f DyadBetween_n_a = some (.lit (.bool true)) := by kernel_rfl
theorem DyadBetween_n_r2 (b10 b11 : Bool) : @comes (DyadBetween_n_k true true true false true true true b10 b11) Tryd.prog glT 3000 DyadBetween_n_f DyadBetween_n_a = some (.lit (.bool true)) := by kernel_rfl
theorem DyadBetween_n_r3 (b7 b8 b9 b11 : Bool) : @comes (DyadBetween_n_k true false false true b7 b8 b9 true b11) Tryd.prog glT 3000 DyadBetween_n_f DyadBetween_n_a = some (.lit (.bool true)) := by kernel_rfl
theorem DyadBetween_n_r4 (b11 : Bool) : @comes (DyadBetween_n_k true false false false true true true true b11) Tryd.prog glT 3000 DyadBetween_n_f DyadBetween_n_a = some (.lit (.bool true)) := by kernel_rfl
theorem DyadBetween_n_r5 (b7 b8 b9 b10 : Bool) : @comes (DyadBetween_n_k false true true true b7 b8 b9 b10 true) Tryd.prog glT 3000 DyadBetween_n_f DyadBetween_n_a = some (.lit (.bool true)) := by kernel_rfl
theorem DyadBetween_n_r6 (b10 : Bool) : @comes (DyadBetween_n_k false true true false true true true b10 true) Tryd.prog glT 3000 DyadBetween_n_f DyadBetween_n_a = some (.lit (.bool true)) := by kernel_rfl
theorem DyadBetween_n_r7 (b7 b8 b9 : Bool) : @comes (DyadBetween_n_k false false false true b7 b8 b9 true true) Tryd.prog glT 3000 DyadBetween_n_f DyadBetween_n_a = some (.lit (.bool true)) := by kernel_rfl
theorem DyadBetween_n_r8 : @comes (DyadBetween_n_k false false false false true true true true true) Tryd.prog glT 3000 DyadBetween_n_f DyadBetween_n_a = some (.lit (.bool true)) := by kernel_rfl
set_option maxRecDepth 100000 in
set_option maxHeartbeats 4000000 in
theorem DyadBetween_n (a b : Dy) (x : Nat) (w : World) (hG : Globs glT w) (hx : x < 18446744073709551616) (hf : Bt.finB x = false) (ha : a.Ok) (hb : b.Ok) : Calls Tryd.prog 3 #[.agg #[.bool a.g, .string (natS a.n), .int .i64 a.x], .agg #[.bool b.g, .string (natS b.n), .int .i64 b.x], .float .f64 (x)] w fun e w' => e = .returned (.bool true) ∧ Below w.heap.size w w' := by
  have h1 : ¬ (agR a (lowW a) < 0) := (by have := (bw_of ha).al; omega)
  have i1 : false = true ↔ (agR a (lowW a) < 0) := ⟨fun k => absurd k Bool.false_ne_true, fun k => absurd k h1⟩
  have h2 : ¬ (agR a (highW a) > 0) := (by have := (bw_of ha).ah; omega)
  have i2 : false = true ↔ (agR a (highW a) > 0) := ⟨fun k => absurd k Bool.false_ne_true, fun k => absurd k h2⟩
  obtain ⟨b3, i3⟩ := bex (nearW a = lowW a)
  obtain ⟨b4, i4⟩ := bex (agR a (lowW a) = 0)
  obtain ⟨b5, i5⟩ := bex (agR a (highW a) = 0)
  obtain ⟨b6, i6⟩ := bex (cmpD a b > 0)
  obtain ⟨b7, i7⟩ := bex (fleB (lowW a) (lowW b) = true)
  obtain ⟨b8, i8⟩ := bex (fleB (highW a) (highW b) = true)
  obtain ⟨b9, i9⟩ := bex (fleB (nearW a) (nearW b) = true)
  obtain ⟨b10, i10⟩ := bex (Bt.feqB (Bt.upF (lowW a)) (highW a) = true)
  obtain ⟨b11, i11⟩ := bex (nearW a = highW a)
  letI : Env := mkEnv glT [.bool a.g, .string (natS a.n), .int .i64 a.x, .bool b.g, .string (natS b.n), .int .i64 b.x, .float .f64 (x), .float .f64 (lowW a), .float .f64 (highW a), .float .f64 (nearW a), .int .i64 (agR a (lowW a)), .int .i64 (agR a (highW a)), .int .i64 (cmpD a b), .float .f64 (lowW b), .float .f64 (highW b), .float .f64 (nearW b), .float .f64 (9218868437227405312), .float .f64 (Bt.upF (lowW a))] rfl
  have hops : OpsT Tryd.prog (@Know.ops (DyadBetween_n_k b3 b4 b5 b6 b7 b8 b9 b10 b11)) := ⟨opt_lss_i rfl rfl i1,
    opt_gtr_i rfl rfl i2,
    opt_eql_i rfl rfl i4,
    opt_eql_i rfl rfl i5,
    opt_neq_i rfl rfl i4,
    opt_gtr_i rfl rfl i6,
    optQ_leq_i rfl rfl i7,
    optQ_leq_i rfl rfl i8,
    optQ_leq_i rfl rfl i9,
    optQ_neq_i rfl rfl i10,
    trivial⟩
  have hcalls : CallsT Tryd.prog (@Know.calls (DyadBetween_n_k b3 b4 b5 b6 b7 b8 b9 b10 b11)) := ⟨callt rfl rfl fun w hG => awake3_c w hG,
    callt rfl rfl fun w hG => DFloat_no x hx hf w,
    callt rfl rfl fun w hG => DCheck_dyr a ha w,
    callt rfl rfl fun w hG => DCheck_dyr b hb w,
    callt rfl rfl fun w hG => DBelow_any a w ha hG,
    callt rfl rfl fun w hG => DAbove_any a w ha hG,
    callt rfl rfl fun w hG => DNear_any a w ha hG,
    callt rfl rfl fun w hG => DAgainst_w a (lowW a) w ha ((bw_of ha).ll) ((bw_of ha).nl) hG,
    callt rfl rfl fun w hG => DAgainst_w a (highW a) w ha ((bw_of ha).lh) ((bw_of ha).nh) hG,
    callt rfl rfl fun w hG => lBits_i (nearW a) (lowW a) w ((bw_of ha).nn) ((bw_of ha).nl) i3,
    callt rfl rfl fun w hG => DCmp_c a b w ha hb,
    callt rfl rfl fun w hG => DBelow_any b w hb hG,
    callt rfl rfl fun w hG => DAbove_any b w hb hG,
    callt rfl rfl fun w hG => DNear_any b w hb hG,
    callt rfl rfl fun w hG => PInf_c w,
    callt rfl rfl fun w hG => PNext_c (lowW a) ((bw_of ha).ll) ((bw_of ha).nl) w,
    callt rfl rfl fun w hG => lBits_i (nearW a) (highW a) w ((bw_of ha).nn) ((bw_of ha).nh) i11,
    trivial⟩
  have fin : ∀ v, @comes (DyadBetween_n_k b3 b4 b5 b6 b7 b8 b9 b10 b11) Tryd.prog glT 3000 DyadBetween_n_f DyadBetween_n_a = some v → ground v = true → Ending.returned (gval v) = .returned (.bool true) → Calls Tryd.prog 3 #[.agg #[.bool a.g, .string (natS a.n), .int .i64 a.x], .agg #[.bool b.g, .string (natS b.n), .int .i64 b.x], .float .f64 (x)] w fun e w' => e = .returned (.bool true) ∧ Below w.heap.size w w' := fun v h1 h2 h3 => (@sym_ok _ (DyadBetween_n_k b3 b4 b5 b6 b7 b8 b9 b10 b11) _ (@KnowOk.of _ (DyadBetween_n_k b3 b4 b5 b6 b7 b8 b9 b10 b11) _ hops hcalls) (by kernel_rfl) _ _ _ _ h1 rfl h2 _ hG).mono fun e w' h => ⟨h.1.trans h3, h.2⟩
  clear hops hcalls
  cases b3 with
  | true =>
    have h3 : nearW a = lowW a := i3.1 rfl
    cases b4 with
    | true =>
      have h4 : agR a (lowW a) = 0 := i4.1 rfl
      cases b5 with
      | true =>
        have h5 : agR a (highW a) = 0 := i5.1 rfl
        cases b6 with
        | true =>
          have h6 : cmpD a b > 0 := i6.1 rfl
          exact fin _ (DyadBetween_n_r1 b7 b8 b9 b10 b11) rfl rfl
        | false =>
          have h6 : ¬ (cmpD a b > 0) := fun c => Bool.false_ne_true (i6.2 c)
          cases b7 with
          | true =>
            have h7 : fleB (lowW a) (lowW b) = true := i7.1 rfl
            cases b8 with
            | true =>
              have h8 : fleB (highW a) (highW b) = true := i8.1 rfl
              cases b9 with
              | true =>
                have h9 : fleB (nearW a) (nearW b) = true := i9.1 rfl
                exact fin _ (DyadBetween_n_r2 b10 b11) rfl rfl
              | false =>
                exact absurd (i9.2 ((by unfold fleB; exact decide_eq_true ⟨(bw_of ha).nn, (bw_of hb).nn, (rise ha hb h6).2.2⟩))) Bool.false_ne_true
            | false =>
              exact absurd (i8.2 ((by unfold fleB; exact decide_eq_true ⟨(bw_of ha).nh, (bw_of hb).nh, (rise ha hb h6).2.1⟩))) Bool.false_ne_true
          | false =>
            exact absurd (i7.2 ((by unfold fleB; exact decide_eq_true ⟨(bw_of ha).nl, (bw_of hb).nl, (rise ha hb h6).1⟩))) Bool.false_ne_true
      | false =>
        exact absurd (i5.2 (((bw_of ha).z.1 h4))) Bool.false_ne_true
    | false =>
      have h4 : ¬ (agR a (lowW a) = 0) := fun c => Bool.false_ne_true (i4.2 c)
      cases b5 with
      | true =>
        exact absurd (i5.1 rfl) ((fun c => h4 ((bw_of ha).z.2 c)))
      | false =>
        have h5 : ¬ (agR a (highW a) = 0) := fun c => Bool.false_ne_true (i5.2 c)
        cases b10 with
        | true =>
          have h10 : Bt.feqB (Bt.upF (lowW a)) (highW a) = true := i10.1 rfl
          cases b6 with
          | true =>
            have h6 : cmpD a b > 0 := i6.1 rfl
            exact fin _ (DyadBetween_n_r3 b7 b8 b9 b11) rfl rfl
          | false =>
            have h6 : ¬ (cmpD a b > 0) := fun c => Bool.false_ne_true (i6.2 c)
            cases b7 with
            | true =>
              have h7 : fleB (lowW a) (lowW b) = true := i7.1 rfl
              cases b8 with
              | true =>
                have h8 : fleB (highW a) (highW b) = true := i8.1 rfl
                cases b9 with
                | true =>
                  have h9 : fleB (nearW a) (nearW b) = true := i9.1 rfl
                  exact fin _ (DyadBetween_n_r4 b11) rfl rfl
                | false =>
                  exact absurd (i9.2 ((by unfold fleB; exact decide_eq_true ⟨(bw_of ha).nn, (bw_of hb).nn, (rise ha hb h6).2.2⟩))) Bool.false_ne_true
              | false =>
                exact absurd (i8.2 ((by unfold fleB; exact decide_eq_true ⟨(bw_of ha).nh, (bw_of hb).nh, (rise ha hb h6).2.1⟩))) Bool.false_ne_true
            | false =>
              exact absurd (i7.2 ((by unfold fleB; exact decide_eq_true ⟨(bw_of ha).nl, (bw_of hb).nl, (rise ha hb h6).1⟩))) Bool.false_ne_true
        | false =>
          exact absurd (i10.2 ((by rw [(bw_of ha).nx h4]; exact Bt.feq_ok (bw_of ha).nh))) Bool.false_ne_true
  | false =>
    have h3 : ¬ (nearW a = lowW a) := fun c => Bool.false_ne_true (i3.2 c)
    cases b11 with
    | true =>
      have h11 : nearW a = highW a := i11.1 rfl
      cases b4 with
      | true =>
        have h4 : agR a (lowW a) = 0 := i4.1 rfl
        cases b5 with
        | true =>
          have h5 : agR a (highW a) = 0 := i5.1 rfl
          cases b6 with
          | true =>
            have h6 : cmpD a b > 0 := i6.1 rfl
            exact fin _ (DyadBetween_n_r5 b7 b8 b9 b10) rfl rfl
          | false =>
            have h6 : ¬ (cmpD a b > 0) := fun c => Bool.false_ne_true (i6.2 c)
            cases b7 with
            | true =>
              have h7 : fleB (lowW a) (lowW b) = true := i7.1 rfl
              cases b8 with
              | true =>
                have h8 : fleB (highW a) (highW b) = true := i8.1 rfl
                cases b9 with
                | true =>
                  have h9 : fleB (nearW a) (nearW b) = true := i9.1 rfl
                  exact fin _ (DyadBetween_n_r6 b10) rfl rfl
                | false =>
                  exact absurd (i9.2 ((by unfold fleB; exact decide_eq_true ⟨(bw_of ha).nn, (bw_of hb).nn, (rise ha hb h6).2.2⟩))) Bool.false_ne_true
              | false =>
                exact absurd (i8.2 ((by unfold fleB; exact decide_eq_true ⟨(bw_of ha).nh, (bw_of hb).nh, (rise ha hb h6).2.1⟩))) Bool.false_ne_true
            | false =>
              exact absurd (i7.2 ((by unfold fleB; exact decide_eq_true ⟨(bw_of ha).nl, (bw_of hb).nl, (rise ha hb h6).1⟩))) Bool.false_ne_true
        | false =>
          exact absurd (i5.2 (((bw_of ha).z.1 h4))) Bool.false_ne_true
      | false =>
        have h4 : ¬ (agR a (lowW a) = 0) := fun c => Bool.false_ne_true (i4.2 c)
        cases b5 with
        | true =>
          exact absurd (i5.1 rfl) ((fun c => h4 ((bw_of ha).z.2 c)))
        | false =>
          have h5 : ¬ (agR a (highW a) = 0) := fun c => Bool.false_ne_true (i5.2 c)
          cases b10 with
          | true =>
            have h10 : Bt.feqB (Bt.upF (lowW a)) (highW a) = true := i10.1 rfl
            cases b6 with
            | true =>
              have h6 : cmpD a b > 0 := i6.1 rfl
              exact fin _ (DyadBetween_n_r7 b7 b8 b9) rfl rfl
            | false =>
              have h6 : ¬ (cmpD a b > 0) := fun c => Bool.false_ne_true (i6.2 c)
              cases b7 with
              | true =>
                have h7 : fleB (lowW a) (lowW b) = true := i7.1 rfl
                cases b8 with
                | true =>
                  have h8 : fleB (highW a) (highW b) = true := i8.1 rfl
                  cases b9 with
                  | true =>
                    have h9 : fleB (nearW a) (nearW b) = true := i9.1 rfl
                    exact fin _ (DyadBetween_n_r8) rfl rfl
                  | false =>
                    exact absurd (i9.2 ((by unfold fleB; exact decide_eq_true ⟨(bw_of ha).nn, (bw_of hb).nn, (rise ha hb h6).2.2⟩))) Bool.false_ne_true
                | false =>
                  exact absurd (i8.2 ((by unfold fleB; exact decide_eq_true ⟨(bw_of ha).nh, (bw_of hb).nh, (rise ha hb h6).2.1⟩))) Bool.false_ne_true
              | false =>
                exact absurd (i7.2 ((by unfold fleB; exact decide_eq_true ⟨(bw_of ha).nl, (bw_of hb).nl, (rise ha hb h6).1⟩))) Bool.false_ne_true
          | false =>
            exact absurd (i10.2 ((by rw [(bw_of ha).nx h4]; exact Bt.feq_ok (bw_of ha).nh))) Bool.false_ne_true
    | false =>
      exact absurd (i11.2 (((bw_of ha).nw.resolve_left h3))) Bool.false_ne_true
@[reducible] def DyadBetween_nb_f : FuncId := 3
@[reducible] def DyadBetween_nb_a : List AV := [.agg [.sym 0, .sym 1, .sym 2], .agg [.sym 3, .sym 4, .sym 5], .sym 6]
@[reducible] noncomputable def DyadBetween_nb_k : Know := ⟨[],
  [(4, [], .lit (.bool true)),
  (5, [.sym 6], .lit (.tuple #[.agg #[.bool false, .string ⟨#[]⟩, .int .i64 0], .int .i64 5])),
  (12, [.agg [.sym 0, .sym 1, .sym 2]], .lit (.int .i64 0)),
  (12, [.agg [.sym 3, .sym 4, .sym 5]], .lit (.int .i64 2))]⟩
theorem DyadBetween_nb_r1 : @comes DyadBetween_nb_k Tryd.prog glT 3000 DyadBetween_nb_f DyadBetween_nb_a = some (.lit (.bool true)) := by kernel_rfl
set_option maxRecDepth 100000 in
set_option maxHeartbeats 4000000 in
theorem DyadBetween_nb (a : Dy) (t : Dt) (x : Nat) (w : World) (hG : Globs glT w) (hx : x < 18446744073709551616) (hf : Bt.finB x = false) (ha : a.Ok) (hzt : t.s.size ≤ 9223372036854775807) (hnt : ¬ t.Ok) : Calls Tryd.prog 3 #[.agg #[.bool a.g, .string (natS a.n), .int .i64 a.x], .agg #[.bool t.g, .string t.s, .int .i64 t.x], .float .f64 (x)] w fun e w' => e = .returned (.bool true) ∧ Below w.heap.size w w' := by
  letI : Env := mkEnv glT [.bool a.g, .string (natS a.n), .int .i64 a.x, .bool t.g, .string t.s, .int .i64 t.x, .float .f64 (x)] rfl
  have hops : OpsT Tryd.prog (@Know.ops DyadBetween_nb_k) := trivial
  have hcalls : CallsT Tryd.prog (@Know.calls DyadBetween_nb_k) := ⟨callt rfl rfl fun w hG => awake3_c w hG,
    callt rfl rfl fun w hG => DFloat_no x hx hf w,
    callt rfl rfl fun w hG => DCheck_dyr a ha w,
    callt rfl rfl fun w hG => DCheck_bd t w hzt hnt,
    trivial⟩
  have fin : ∀ v, @comes DyadBetween_nb_k Tryd.prog glT 3000 DyadBetween_nb_f DyadBetween_nb_a = some v → ground v = true → Ending.returned (gval v) = .returned (.bool true) → Calls Tryd.prog 3 #[.agg #[.bool a.g, .string (natS a.n), .int .i64 a.x], .agg #[.bool t.g, .string t.s, .int .i64 t.x], .float .f64 (x)] w fun e w' => e = .returned (.bool true) ∧ Below w.heap.size w w' := fun v h1 h2 h3 => (@sym_ok _ DyadBetween_nb_k _ (@KnowOk.of _ DyadBetween_nb_k _ hops hcalls) (by kernel_rfl) _ _ _ _ h1 rfl h2 _ hG).mono fun e w' h => ⟨h.1.trans h3, h.2⟩
  clear hops hcalls
  exact fin _ (DyadBetween_nb_r1) rfl rfl
@[reducible] def DyadBetween_na_f : FuncId := 3
@[reducible] def DyadBetween_na_a : List AV := [.agg [.sym 0, .sym 1, .sym 2], .agg [.sym 3, .sym 4, .sym 5], .sym 6]
@[reducible] noncomputable def DyadBetween_na_k : Know := ⟨[],
  [(4, [], .lit (.bool true)),
  (5, [.sym 6], .lit (.tuple #[.agg #[.bool false, .string ⟨#[]⟩, .int .i64 0], .int .i64 5])),
  (12, [.agg [.sym 0, .sym 1, .sym 2]], .lit (.int .i64 2)),
  (12, [.agg [.sym 3, .sym 4, .sym 5]], .sym 7)]⟩
theorem DyadBetween_na_r1 : @comes DyadBetween_na_k Tryd.prog glT 3000 DyadBetween_na_f DyadBetween_na_a = some (.lit (.bool true)) := by kernel_rfl
set_option maxRecDepth 100000 in
set_option maxHeartbeats 4000000 in
theorem DyadBetween_na (s t : Dt) (x : Nat) (w : World) (hG : Globs glT w) (hx : x < 18446744073709551616) (hf : Bt.finB x = false) (hzs : s.s.size ≤ 9223372036854775807) (hns : ¬ s.Ok) (e2 : Int) (hct : ∀ w, Calls Tryd.prog 12 #[.agg #[.bool t.g, .string t.s, .int .i64 t.x]] w fun e w' => e = .returned (.int .i64 e2) ∧ Below w.heap.size w w') : Calls Tryd.prog 3 #[.agg #[.bool s.g, .string s.s, .int .i64 s.x], .agg #[.bool t.g, .string t.s, .int .i64 t.x], .float .f64 (x)] w fun e w' => e = .returned (.bool true) ∧ Below w.heap.size w w' := by
  letI : Env := mkEnv glT [.bool s.g, .string s.s, .int .i64 s.x, .bool t.g, .string t.s, .int .i64 t.x, .float .f64 (x), .int .i64 e2] rfl
  have hops : OpsT Tryd.prog (@Know.ops DyadBetween_na_k) := trivial
  have hcalls : CallsT Tryd.prog (@Know.calls DyadBetween_na_k) := ⟨callt rfl rfl fun w hG => awake3_c w hG,
    callt rfl rfl fun w hG => DFloat_no x hx hf w,
    callt rfl rfl fun w hG => DCheck_bd s w hzs hns,
    callt rfl rfl fun w hG => hct w,
    trivial⟩
  have fin : ∀ v, @comes DyadBetween_na_k Tryd.prog glT 3000 DyadBetween_na_f DyadBetween_na_a = some v → ground v = true → Ending.returned (gval v) = .returned (.bool true) → Calls Tryd.prog 3 #[.agg #[.bool s.g, .string s.s, .int .i64 s.x], .agg #[.bool t.g, .string t.s, .int .i64 t.x], .float .f64 (x)] w fun e w' => e = .returned (.bool true) ∧ Below w.heap.size w w' := fun v h1 h2 h3 => (@sym_ok _ DyadBetween_na_k _ (@KnowOk.of _ DyadBetween_na_k _ hops hcalls) (by kernel_rfl) _ _ _ _ h1 rfl h2 _ hG).mono fun e w' h => ⟨h.1.trans h3, h.2⟩
  clear hops hcalls
  exact fin _ (DyadBetween_na_r1) rfl rfl
theorem DyadBetween_law (s t : Dt) (x : Nat) (w : World) (hG : Globs glT w) (hx : x < 18446744073709551616) (hs : s.s.size ≤ 9223372036854775807) (ht : t.s.size ≤ 9223372036854775807) : Calls Tryd.prog 3 #[.agg #[.bool s.g, .string s.s, .int .i64 s.x], .agg #[.bool t.g, .string t.s, .int .i64 t.x], .float .f64 x] w fun e w' => e = .returned (.bool true) ∧ Below w.heap.size w w' := by
  by_cases hS : s.Ok
  · obtain ⟨a, ha, e1, e2, e3⟩ := DOk_dy hS
    obtain ⟨g, z, y⟩ := s
    simp only at e1 e2 e3
    subst e1 e2 e3
    by_cases hT : t.Ok
    · obtain ⟨b, hb, e1, e2, e3⟩ := DOk_dy hT
      obtain ⟨g, z, y⟩ := t
      simp only at e1 e2 e3
      subst e1 e2 e3
      cases hf : Bt.finB x
      · exact DyadBetween_n a b x w hG hx hf ha hb
      · exact DyadBetween_f a b x w hG hx hf ha hb
    · cases hf : Bt.finB x
      · exact DyadBetween_nb a t x w hG hx hf ha ht hT
      · exact DyadBetween_fb a t x w hG hx hf ha ht hT
  · have hct : ∃ e2, ∀ w, Calls Tryd.prog 12 #[.agg #[.bool t.g, .string t.s, .int .i64 t.x]] w fun e w' => e = .returned (.int .i64 e2) ∧ Below w.heap.size w w' := by
      by_cases hT : t.Ok
      · obtain ⟨b, hb, e1, e2, e3⟩ := DOk_dy hT
        exact ⟨0, fun w => by rw [e1, e2, e3]; exact DCheck_dyr b hb w⟩
      · exact ⟨2, fun w => DCheck_bd t w ht hT⟩
    obtain ⟨e2, hct⟩ := hct
    cases hf : Bt.finB x
    · exact DyadBetween_na s t x w hG hx hf hs hS e2 hct
    · exact DyadBetween_fa s t x w hG hx hf hs hS e2 hct
end Go.Proofs.YtcljdjocknfaiaaDoor
