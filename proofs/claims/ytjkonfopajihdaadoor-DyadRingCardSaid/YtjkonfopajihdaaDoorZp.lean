/- Texts put together: D27 D28 D29. -/
import Derived.Test.YtjkonfopajihdaaDoorZo
import Derived.Test.YtjkonfopajihdaaDoorZn
set_option linter.unusedSimpArgs false
set_option linter.unusedVariables false
namespace Go.Proofs.YtjkonfopajihdaaDoor
open Go Go.RowKit Nt

theorem fo_gt {x y : Nat} (hx : ¬ Bt.Ff.isn x) (hy : ¬ Bt.Ff.isn y) : (FloatKind.f64.format.order x y == some Ordering.gt) = decide (Bt.Ff.srung y < Bt.Ff.srung x) := by
  rw [show FloatKind.f64.format.order x y = _ from Bt.Ff.order_eq x y, if_neg (fun c => c.elim hx hy)]
  simp only [compare, compareOfLessAndEq]
  rw [Bool.eq_iff_iff, beq_iff_eq, decide_eq_true_iff]
  by_cases h1 : Bt.Ff.srung x < Bt.Ff.srung y
  · rw [if_pos h1]; constructor
    · intro h; cases h
    · intro h; omega
  · rw [if_neg h1]
    by_cases h2 : Bt.Ff.srung x = Bt.Ff.srung y
    · rw [if_pos h2]; constructor
      · intro h; cases h
      · intro h; omega
    · rw [if_neg h2]; exact ⟨fun _ => by omega, fun _ => rfl⟩
theorem fo_lt {x y : Nat} (hx : ¬ Bt.Ff.isn x) (hy : ¬ Bt.Ff.isn y) : (FloatKind.f64.format.order x y == some Ordering.lt) = decide (Bt.Ff.srung x < Bt.Ff.srung y) := by
  rw [show FloatKind.f64.format.order x y = _ from Bt.Ff.order_eq x y, if_neg (fun c => c.elim hx hy)]
  simp only [compare, compareOfLessAndEq]
  rw [Bool.eq_iff_iff, beq_iff_eq, decide_eq_true_iff]
  by_cases h1 : Bt.Ff.srung x < Bt.Ff.srung y
  · rw [if_pos h1]; exact ⟨fun _ => h1, fun _ => rfl⟩
  · rw [if_neg h1]
    by_cases h2 : Bt.Ff.srung x = Bt.Ff.srung y
    · rw [if_pos h2]; constructor
      · intro h; cases h
      · intro h; omega
    · rw [if_neg h2]; constructor
      · intro h; cases h
      · intro h; omega
theorem sr_max : Bt.Ff.srung 9218868437227405311 = 9218868437227405311 := by decide
theorem sr_min : Bt.Ff.srung 18442240474082181119 = -9218868437227405311 := by decide
theorem sr_zero : Bt.Ff.srung 0 = 0 := by decide
theorem in_max : ¬ Bt.Ff.isn 9218868437227405311 := by decide
theorem in_min : ¬ Bt.Ff.isn 18442240474082181119 := by decide
theorem in_zero : ¬ Bt.Ff.isn 0 := by decide
/-- A float is no number, an infinity, or finite: what Go's comparisons say of it. -/
theorem fl_kinds {x : Nat} (hx : x < 18446744073709551616) :
    (Bt.Ff.isn x ∧ (FloatKind.f64.format.order x x != some Ordering.eq) = true) ∨
    (¬ Bt.Ff.isn x ∧ Bt.finB x = false ∧ (FloatKind.f64.format.order x x != some Ordering.eq) = false ∧ (FloatKind.f64.format.order x 9218868437227405311 == some Ordering.gt) = true ∧ (FloatKind.f64.format.order x 0 == some Ordering.gt) = true ∧ Bt.Ff.sgn x = false) ∨
    (¬ Bt.Ff.isn x ∧ Bt.finB x = false ∧ (FloatKind.f64.format.order x x != some Ordering.eq) = false ∧ (FloatKind.f64.format.order x 9218868437227405311 == some Ordering.gt) = false ∧ (FloatKind.f64.format.order x 18442240474082181119 == some Ordering.lt) = true ∧ (FloatKind.f64.format.order x 0 == some Ordering.gt) = false ∧ Bt.Ff.sgn x = true) ∨
    (Bt.finB x = true ∧ (FloatKind.f64.format.order x x != some Ordering.eq) = false ∧ (FloatKind.f64.format.order x 9218868437227405311 == some Ordering.gt) = false ∧ (FloatKind.f64.format.order x 18442240474082181119 == some Ordering.lt) = false) := by
  have hr : Bt.Ff.rung x < 9223372036854775808 := by unfold Bt.Ff.rung; omega
  by_cases hn : Bt.Ff.isn x
  · exact Or.inl ⟨hn, by rw [Bt.isn_ne, decide_eq_true hn]⟩
  · have hnn : (FloatKind.f64.format.order x x != some Ordering.eq) = false := by rw [Bt.isn_ne, decide_eq_false hn]
    have hl : Bt.Ff.rung x ≤ 9218868437227405312 := by unfold Bt.Ff.isn at hn; omega
    rw [fo_gt hn in_max, fo_lt hn in_min, fo_gt hn in_zero, sr_max, sr_min, sr_zero]
    by_cases hf : Bt.finB x = true
    · have hfr := (Bt.finB_true x).1 hf
      refine Or.inr (Or.inr (Or.inr ⟨hf, hnn, decide_eq_false ?_, decide_eq_false ?_⟩))
      · unfold Bt.Ff.srung; split <;> omega
      · unfold Bt.Ff.srung; split <;> omega
    · have hf' : Bt.finB x = false := by simpa using hf
      have hfr := (Bt.finB_false x).1 hf'
      cases hs : Bt.Ff.sgn x
      · refine Or.inr (Or.inl ⟨hn, hf', hnn, decide_eq_true ?_, decide_eq_true ?_, rfl⟩)
        · unfold Bt.Ff.srung; rw [hs, if_neg (by decide)]; omega
        · unfold Bt.Ff.srung; rw [hs, if_neg (by decide)]; omega
      · refine Or.inr (Or.inr (Or.inl ⟨hn, hf', hnn, decide_eq_false ?_, decide_eq_true ?_, decide_eq_false ?_, rfl⟩))
        · unfold Bt.Ff.srung; rw [hs, if_pos rfl]; omega
        · unfold Bt.Ff.srung; rw [hs, if_pos rfl]; omega
        · unfold Bt.Ff.srung; rw [hs, if_pos rfl]; omega
/-- From w on, with one Dyad in a box. -/
def OB (w : World) (a : Dt) (W : World) : Prop := Below w.heap.size w W ∧ Box3 W w.heap.size (.bool a.g) (.string a.s) (.int .i64 a.x)
theorem OB.start (w : World) (a : Dt) : OB w a (w.alloc (.cells #[.bool a.g, .string a.s, .int .i64 a.x] 24)) := ⟨(Below.refl _ _).alloc (Nat.le_refl _) _, Box3.new w _ _ _⟩
theorem OB.step {w : World} {a : Dt} {W W' : World} (h : OB w a W) (hb : Below W.heap.size W W') : OB w a W' := ⟨below_then h.1 hb, h.2.step hb⟩
theorem OB.more {w : World} {a : Dt} {W : World} (h : OB w a W) (o : Obj) : OB w a (W.alloc o) := h.step ((Below.refl _ _).alloc (Nat.le_refl _) _)
/-- A Dyad against a float. -/
@[irreducible] def agR (d : Dy) (x : Nat) : Int := if Bt.Ff.isn x then 0 else if Bt.finB x = true then cmpD d (mkD (Bt.Ff.sgn x) (Bt.pm x) (Bt.pex x)) else if Bt.Ff.sgn x then 1 else -1
@[irreducible] def agE (x : Nat) : Int := if Bt.Ff.isn x then 5 else 0
theorem fin_isn {x : Nat} (h : Bt.finB x = true) : ¬ Bt.Ff.isn x := by have := (Bt.finB_true x).1 h; unfold Bt.Ff.isn; omega
theorem agR_nan {d : Dy} {x : Nat} (h : Bt.Ff.isn x) : agR d x = 0 ∧ agE x = 5 := by unfold agR agE; rw [if_pos h, if_pos h]; exact ⟨rfl, rfl⟩
theorem agR_inf {d : Dy} {x : Nat} (h : ¬ Bt.Ff.isn x) (hf : Bt.finB x = false) (b : Bool) (hs : Bt.Ff.sgn x = b) : agR d x = (if b = true then 1 else -1) ∧ agE x = 0 := by
  unfold agR agE; rw [if_neg h, if_neg h, hf, hs, if_neg (by decide)]; exact ⟨rfl, rfl⟩
theorem agR_fin {d : Dy} {x : Nat} (hf : Bt.finB x = true) : agR d x = cmpD d (mkD (Bt.Ff.sgn x) (Bt.pm x) (Bt.pex x)) ∧ agE x = 0 := by
  unfold agR agE; rw [if_neg (fin_isn hf), if_neg (fin_isn hf), if_pos hf]; exact ⟨rfl, rfl⟩
set_option maxRecDepth 100000 in
theorem DAgainst_bad (a : Dt) (x : Nat) (w : World) (ha : a.s.size ≤ 9223372036854775807) (hn : ¬ a.Ok) :
    Calls Tryd.prog 37 #[.agg #[.bool a.g, .string a.s, .int .i64 a.x], .float .f64 x] w fun e w' => e = .returned (.tuple #[.int .i64 0, .int .i64 2]) ∧ Below w.heap.size w w' := by
  have K := Lib.hid (fun w => DCheck_c a w ha)
  rw [dE_no (List.mem_singleton.2 rfl) hn] at K
  clear hn ha
  go_enter Tryd.func37, Tryd.ntmps37
  go_wp2_with fail
  refine (K.out _).mono ?_
  rintro e w1 ⟨rfl, hb⟩
  go_wp2_with fail
  go_ret2
  exact ⟨rfl, box_below hb⟩
set_option maxRecDepth 100000 in
set_option maxHeartbeats 1000000 in
theorem DAgainst_c (a : Dy) (x : Nat) (w : World) (ha : a.Ok) (hx : x < 18446744073709551616) (hT : Globs glT w) :
    Calls Tryd.prog 37 #[.agg #[.bool a.g, .string (natS a.n), .int .i64 a.x], .float .f64 x] w fun e w' => e = .returned (.tuple #[.int .i64 (agR a x), .int .i64 (agE x)]) ∧ Below w.heap.size w w' := by
  have K := Lib.hid (fun w => DCheck_c a.t w (by have := Dy.small ha; show (natS a.n).size ≤ _; omega))
  rw [dE_ok (fun u hu => by rw [List.mem_singleton.1 hu]; exact Dy.ok_t ha)] at K
  have T0 := OB.start w a.t
  unfold Dy.t at T0 K
  have HA := Lib.hid ha
  have HT := Lib.hid hT
  clear ha hT
  rcases fl_kinds hx with ⟨h1, f1⟩ | ⟨h1, h2, f1, f2, f3, h3⟩ | ⟨h1, h2, f1, f2, f3, f4, h3⟩ | ⟨h1, f1, f2, f3⟩
  · rw [(agR_nan (d := a) h1).1, (agR_nan (d := a) h1).2]
    go_enter Tryd.func37, Tryd.ntmps37
    go_wp2_with fail
    refine (K.out _).mono ?_
    rintro e w1 ⟨rfl, hb⟩
    go_wp2_with fail
    go_ret2
    exact ⟨rfl, box_below hb⟩
  · rw [(agR_inf (d := a) h1 h2 _ h3).1, (agR_inf (d := a) h1 h2 _ h3).2, if_neg (by decide)]
    go_enter Tryd.func37, Tryd.ntmps37
    go_wp2_with fail
    refine (K.out _).mono ?_
    rintro e w1 ⟨rfl, hb⟩
    go_wp2_with fail
    go_ret2
    exact ⟨rfl, box_below hb⟩
  · rw [(agR_inf (d := a) h1 h2 _ h3).1, (agR_inf (d := a) h1 h2 _ h3).2, if_pos rfl]
    go_enter Tryd.func37, Tryd.ntmps37
    go_wp2_with fail
    refine (K.out _).mono ?_
    rintro e w1 ⟨rfl, hb⟩
    go_wp2_with fail
    go_ret2
    exact ⟨rfl, box_below hb⟩
  · rw [(agR_fin (d := a) h1).1, (agR_fin (d := a) h1).2]
    have hmk := mkD_Ok (Bt.Ff.sgn x) (Bt.pm x) (Bt.pex x)
    have KF := Lib.hid (fun w hG => DFloat_c x hx h1 w hG)
    generalize hy : mkD (Bt.Ff.sgn x) (Bt.pm x) (Bt.pex x) = y at *
    have KG : Hid (∀ w, Bt.Tabs w → Calls Tryd.prog 27 #[.float .f64 x] w fun e w' => e = .returned (.tuple #[.agg #[.bool y.g, .string (natS y.n), .int .i64 y.x], .int .i64 0]) ∧ Below w.heap.size w w') := Lib.hid fun w hG => (KF.out w hG).mono fun e w' h => ⟨by have h1 := h.1; rw [hy] at h1; exact h1, h.2⟩
    have KC := Lib.hid (fun w => DCmp_c a y w HA.out hmk)
    clear hmk KF hy h1
    go_enter Tryd.func37, Tryd.ntmps37
    go_wp2_with fail
    refine (K.out _).mono ?_
    rintro e w1 ⟨rfl, hb⟩
    replace T0 := T0.step hb
    have HT1 := Lib.hid (tabs_of (HT.out.below T0.1 (Nat.le_refl _)))
    clear hb
    go_wp2_with fail
    refine (KG.out _ HT1.out).mono ?_
    rintro e w2 ⟨rfl, hb⟩
    replace T0 := T0.step hb
    clear hb
    obtain ⟨p0, p1, p2, p3, p4, p5, p6⟩ := T0.2.facts
    go_wp2_with fail
    refine (KC.out _).mono ?_
    rintro e w3 ⟨rfl, hb⟩
    replace T0 := (T0.more _).step hb
    clear hb p0 p1 p2 p3 p4 p5 p6
    go_wp2_with fail
    go_ret2
    exact ⟨rfl, T0.1⟩
end Go.Proofs.YtjkonfopajihdaaDoor
set_option linter.unusedSimpArgs false
set_option linter.unusedVariables false
namespace Go.Proofs.YtjkonfopajihdaaDoor
open Go Go.RowKit Nt

set_option maxRecDepth 100000 in
set_option maxHeartbeats 1000000 in
theorem rAgainst3_c (a : Dy) (x : Nat) (w : World) (ha : a.Ok) (hx : x < 18446744073709551616) :
    Calls Tryd.prog 38 #[.agg #[.bool a.g, .string (natS a.n), .int .i64 a.x], .float .f64 x] w fun e w' => e = .returned (.tuple #[.int .i64 (agR a x), .int .i64 (agE x)]) ∧ Below w.heap.size w w' := by
  have T0 := OB.start w a.t
  unfold Dy.t at T0
  have HA := Lib.hid ha
  clear ha
  rcases fl_kinds hx with ⟨h1, f1⟩ | ⟨h1, h2, f1, f2, f3, h3⟩ | ⟨h1, h2, f1, f2, f3, f4, h3⟩ | ⟨h1, f1, f2, f3⟩
  · rw [(agR_nan (d := a) h1).1, (agR_nan (d := a) h1).2]
    go_enter Tryd.func38, Tryd.ntmps38
    go_wp2_with fail
    go_ret2
    exact ⟨rfl, T0.1⟩
  · rw [(agR_inf (d := a) h1 h2 _ h3).1, (agR_inf (d := a) h1 h2 _ h3).2, if_neg (by decide)]
    have K := Lib.hid (fun w => rFrom3_no x hx h2 w)
    go_enter Tryd.func38, Tryd.ntmps38
    go_wp2_with fail
    refine (K.out _).mono ?_
    rintro e w1 ⟨rfl, hb⟩
    go_wp2_with fail
    go_ret2
    exact ⟨rfl, (box_below hb).alloc (by have := box1 hb; omega) _⟩
  · rw [(agR_inf (d := a) h1 h2 _ h3).1, (agR_inf (d := a) h1 h2 _ h3).2, if_pos rfl]
    have K := Lib.hid (fun w => rFrom3_no x hx h2 w)
    go_enter Tryd.func38, Tryd.ntmps38
    go_wp2_with fail
    refine (K.out _).mono ?_
    rintro e w1 ⟨rfl, hb⟩
    go_wp2_with fail
    go_ret2
    exact ⟨rfl, (box_below hb).alloc (by have := box1 hb; omega) _⟩
  · rw [(agR_fin (d := a) h1).1, (agR_fin (d := a) h1).2]
    have hmk := mkD_Ok (Bt.Ff.sgn x) (Bt.pm x) (Bt.pex x)
    have KF := Lib.hid (fun w => rFrom3_c x hx h1 w)
    generalize hy : mkD (Bt.Ff.sgn x) (Bt.pm x) (Bt.pex x) = y at *
    have KG : Hid (∀ w, Calls Tryd.prog 28 #[.float .f64 x] w fun e w' => e = .returned (.tuple #[.agg #[.bool y.g, .string (natS y.n), .int .i64 y.x], .int .i64 0]) ∧ Below w.heap.size w w') := Lib.hid fun w => (KF.out w).mono fun e w' h => ⟨by have h1 := h.1; rw [hy] at h1; exact h1, h.2⟩
    have KC := Lib.hid (fun w => rCmpD3_c a y w HA.out hmk)
    clear hmk KF hy h1
    go_enter Tryd.func38, Tryd.ntmps38
    go_wp2_with fail
    refine (KG.out _).mono ?_
    rintro e w2 ⟨rfl, hb⟩
    replace T0 := T0.step hb
    clear hb
    obtain ⟨p0, p1, p2, p3, p4, p5, p6⟩ := T0.2.facts
    go_wp2_with fail
    refine (KC.out _).mono ?_
    rintro e w3 ⟨rfl, hb⟩
    replace T0 := (T0.more _).step hb
    clear hb p0 p1 p2 p3 p4 p5 p6
    go_wp2_with fail
    go_ret2
    exact ⟨rfl, T0.1⟩
theorem rMayT_no (t : Dt) (w : World) (hs : t.s.size ≤ 9223372036854775807) (h : ¬ t.Ok) : Calls Tryd.prog 14 #[.agg #[.bool t.g, .string t.s, .int .i64 t.x]] w fun e w' => e = .returned (.bool false) ∧ Below w.heap.size w w' := rMay3_bad t.g t.s t.x w hs h
theorem rMayT_ok (d : Dy) (w : World) (h : d.Ok) : Calls Tryd.prog 14 #[.agg #[.bool d.g, .string (natS d.n), .int .i64 d.x]] w fun e w' => e = .returned (.bool true) ∧ Below w.heap.size w w' := by
  rcases h with rfl | h
  · show Calls _ _ #[.agg #[.bool false, .string (natS 0), .int .i64 0]] _ _
    rw [natS_zero]; exact rMay3_zero w
  · exact rMay3_num d.g d.n d.x w h.1 h.2.1 h.2.2.1 h.2.2.2
theorem Dt.dy {t : Dt} (h : t.Ok) : ∃ d : Dy, d.Ok ∧ t = d.t := by
  obtain ⟨d, h1, h2, h3, h4⟩ := DOk_dy h
  exact ⟨d, h1, by obtain ⟨g, s, x⟩ := t; simp only at h2 h3 h4; rw [h2, h3, h4]; rfl⟩
end Go.Proofs.YtjkonfopajihdaaDoor
set_option linter.unusedSimpArgs false
set_option linter.unusedVariables false
namespace Go.Proofs.YtjkonfopajihdaaDoor
open Go Go.RowKit Nt

set_option maxRecDepth 100000 in
set_option maxHeartbeats 2000000 in
theorem DyadOrders_a (a b : Dt) (x : Nat) (w : World) (ha : a.s.size ≤ 9223372036854775807) (hb : b.s.size ≤ 9223372036854775807) (hn : ¬ a.Ok) (hG : Globs glT w) :
    Calls Tryd.prog 6 #[.agg #[.bool a.g, .string a.s, .int .i64 a.x], .agg #[.bool b.g, .string b.s, .int .i64 b.x], .float .f64 x] w fun e w' => e = .returned (.bool true) ∧ Below w.heap.size w w' := by
  have K1 := Lib.hid (fun w => DCmp_bad a b w ha hb (fun c => hn c.1))
  have K2 := Lib.hid (fun w => DAgainst_bad a x w ha hn)
  have K3 := Lib.hid (fun w => rMayT_no a w ha hn)
  have T0 := TB.start w a b
  have HG := Lib.hid hG
  clear ha hb hn hG
  go_enter Tryd.func6, Tryd.ntmps6
  go_wp2_with fail
  refine (K1.out _).mono ?_
  rintro e w1 ⟨rfl, hb⟩
  replace T0 := T0.step hb
  clear hb
  obtain ⟨p0, p1, p2, p3, p4, p5, p6⟩ := T0.2.1.facts
  obtain ⟨q0, q1, q2, q3, q4, q5, q6⟩ := T0.2.2.facts
  go_wp2_with fail
  refine (K2.out _).mono ?_
  rintro e w1 ⟨rfl, hb⟩
  replace T0 := T0.step hb
  clear hb p0 p1 p2 p3 p4 p5 p6 q0 q1 q2 q3 q4 q5 q6
  obtain ⟨p0, p1, p2, p3, p4, p5, p6⟩ := T0.2.1.facts
  obtain ⟨q0, q1, q2, q3, q4, q5, q6⟩ := T0.2.2.facts
  go_wp2_with fail
  refine (K3.out _).mono ?_
  rintro e w1 ⟨rfl, hb⟩
  replace T0 := T0.step hb
  clear hb p0 p1 p2 p3 p4 p5 p6 q0 q1 q2 q3 q4 q5 q6
  obtain ⟨p0, p1, p2, p3, p4, p5, p6⟩ := T0.2.1.facts
  obtain ⟨q0, q1, q2, q3, q4, q5, q6⟩ := T0.2.2.facts
  go_wp2_with fail
  refine (awake3_c _ (HG.out.below T0.1 (Nat.le_refl _))).mono ?_
  rintro e w1 ⟨rfl, hb⟩
  replace T0 := T0.step hb
  clear hb p0 p1 p2 p3 p4 p5 p6 q0 q1 q2 q3 q4 q5 q6
  obtain ⟨p0, p1, p2, p3, p4, p5, p6⟩ := T0.2.1.facts
  obtain ⟨q0, q1, q2, q3, q4, q5, q6⟩ := T0.2.2.facts
  go_wp2_with fail
  go_ret
  exact ⟨rfl, T0.1⟩
set_option maxRecDepth 100000 in
set_option maxHeartbeats 2000000 in
theorem DyadOrders_b (a : Dy) (b : Dt) (x : Nat) (w : World) (ha : a.Ok) (hx : x < 18446744073709551616) (hb : b.s.size ≤ 9223372036854775807) (hn : ¬ b.Ok) (hG : Globs glT w) :
    Calls Tryd.prog 6 #[.agg #[.bool a.g, .string (natS a.n), .int .i64 a.x], .agg #[.bool b.g, .string b.s, .int .i64 b.x], .float .f64 x] w fun e w' => e = .returned (.bool true) ∧ Below w.heap.size w w' := by
  have K1 := Lib.hid (fun w => DCmp_bad a.t b w (by have := Dy.small ha; show (natS a.n).size ≤ _; omega) hb (fun c => hn c.2))
  have K2 := Lib.hid (fun w hG => DAgainst_c a x w ha hx hG)
  have K3 := Lib.hid (fun w => rMayT_ok a w ha)
  have K4 := Lib.hid (fun w => rAgainst3_c a x w ha hx)
  have K5 := Lib.hid (fun w => rMayT_no b w hb hn)
  have T0 := TB.start w a.t b
  unfold Dy.t at T0 K1
  have HG := Lib.hid hG
  clear ha hb hn hG hx
  generalize agR a x = r at *
  generalize agE x = u at *
  go_enter Tryd.func6, Tryd.ntmps6
  go_wp2_with fail
  refine (K1.out _).mono ?_
  rintro e w1 ⟨rfl, hb⟩
  replace T0 := T0.step hb
  clear hb
  obtain ⟨p0, p1, p2, p3, p4, p5, p6⟩ := T0.2.1.facts
  obtain ⟨q0, q1, q2, q3, q4, q5, q6⟩ := T0.2.2.facts
  go_wp2_with fail
  refine (K2.out _ (HG.out.below T0.1 (Nat.le_refl _))).mono ?_
  rintro e w1 ⟨rfl, hb⟩
  replace T0 := T0.step hb
  clear hb p0 p1 p2 p3 p4 p5 p6 q0 q1 q2 q3 q4 q5 q6
  obtain ⟨p0, p1, p2, p3, p4, p5, p6⟩ := T0.2.1.facts
  obtain ⟨q0, q1, q2, q3, q4, q5, q6⟩ := T0.2.2.facts
  go_wp2_with fail
  refine (K3.out _).mono ?_
  rintro e w1 ⟨rfl, hb⟩
  replace T0 := T0.step hb
  clear hb p0 p1 p2 p3 p4 p5 p6 q0 q1 q2 q3 q4 q5 q6
  obtain ⟨p0, p1, p2, p3, p4, p5, p6⟩ := T0.2.1.facts
  obtain ⟨q0, q1, q2, q3, q4, q5, q6⟩ := T0.2.2.facts
  go_wp2_with fail
  refine (K4.out _).mono ?_
  rintro e w1 ⟨rfl, hb⟩
  replace T0 := T0.step hb
  clear hb p0 p1 p2 p3 p4 p5 p6 q0 q1 q2 q3 q4 q5 q6
  obtain ⟨p0, p1, p2, p3, p4, p5, p6⟩ := T0.2.1.facts
  obtain ⟨q0, q1, q2, q3, q4, q5, q6⟩ := T0.2.2.facts
  go_wp2_with fail
  refine (K5.out _).mono ?_
  rintro e w1 ⟨rfl, hb⟩
  replace T0 := T0.step hb
  clear hb p0 p1 p2 p3 p4 p5 p6 q0 q1 q2 q3 q4 q5 q6
  obtain ⟨p0, p1, p2, p3, p4, p5, p6⟩ := T0.2.1.facts
  obtain ⟨q0, q1, q2, q3, q4, q5, q6⟩ := T0.2.2.facts
  go_wp2_with fail
  refine (awake3_c _ (HG.out.below T0.1 (Nat.le_refl _))).mono ?_
  rintro e w1 ⟨rfl, hb⟩
  replace T0 := T0.step hb
  clear hb p0 p1 p2 p3 p4 p5 p6 q0 q1 q2 q3 q4 q5 q6
  obtain ⟨p0, p1, p2, p3, p4, p5, p6⟩ := T0.2.1.facts
  obtain ⟨q0, q1, q2, q3, q4, q5, q6⟩ := T0.2.2.facts
  go_wp2_with fail
  go_ret
  exact ⟨rfl, T0.1⟩
set_option maxRecDepth 100000 in
set_option maxHeartbeats 2000000 in
theorem DyadOrders_ab (a b : Dy) (x : Nat) (w : World) (ha : a.Ok) (hb : b.Ok) (hx : x < 18446744073709551616) (hG : Globs glT w) :
    Calls Tryd.prog 6 #[.agg #[.bool a.g, .string (natS a.n), .int .i64 a.x], .agg #[.bool b.g, .string (natS b.n), .int .i64 b.x], .float .f64 x] w fun e w' => e = .returned (.bool true) ∧ Below w.heap.size w w' := by
  have K1 := Lib.hid (fun w => DCmp_c a b w ha hb)
  have K2 := Lib.hid (fun w hG => DAgainst_c a x w ha hx hG)
  have K3 := Lib.hid (fun w => rMayT_ok a w ha)
  have K4 := Lib.hid (fun w => rAgainst3_c a x w ha hx)
  have K5 := Lib.hid (fun w => rMayT_ok b w hb)
  have K6 := Lib.hid (fun w => rCmpD3_c a b w ha hb)
  have T0 := TB.start w a.t b.t
  unfold Dy.t at T0
  have HG := Lib.hid hG
  clear ha hb hG hx
  generalize agR a x = r at *
  generalize agE x = u at *
  generalize cmpD a b = q at *
  go_enter Tryd.func6, Tryd.ntmps6
  go_wp2_with fail
  refine (K1.out _).mono ?_
  rintro e w1 ⟨rfl, hb⟩
  replace T0 := T0.step hb
  clear hb
  obtain ⟨p0, p1, p2, p3, p4, p5, p6⟩ := T0.2.1.facts
  obtain ⟨q0, q1, q2, q3, q4, q5, q6⟩ := T0.2.2.facts
  go_wp2_with fail
  refine (K2.out _ (HG.out.below T0.1 (Nat.le_refl _))).mono ?_
  rintro e w1 ⟨rfl, hb⟩
  replace T0 := T0.step hb
  clear hb p0 p1 p2 p3 p4 p5 p6 q0 q1 q2 q3 q4 q5 q6
  obtain ⟨p0, p1, p2, p3, p4, p5, p6⟩ := T0.2.1.facts
  obtain ⟨q0, q1, q2, q3, q4, q5, q6⟩ := T0.2.2.facts
  go_wp2_with fail
  refine (K3.out _).mono ?_
  rintro e w1 ⟨rfl, hb⟩
  replace T0 := T0.step hb
  clear hb p0 p1 p2 p3 p4 p5 p6 q0 q1 q2 q3 q4 q5 q6
  obtain ⟨p0, p1, p2, p3, p4, p5, p6⟩ := T0.2.1.facts
  obtain ⟨q0, q1, q2, q3, q4, q5, q6⟩ := T0.2.2.facts
  go_wp2_with fail
  refine (K4.out _).mono ?_
  rintro e w1 ⟨rfl, hb⟩
  replace T0 := T0.step hb
  clear hb p0 p1 p2 p3 p4 p5 p6 q0 q1 q2 q3 q4 q5 q6
  obtain ⟨p0, p1, p2, p3, p4, p5, p6⟩ := T0.2.1.facts
  obtain ⟨q0, q1, q2, q3, q4, q5, q6⟩ := T0.2.2.facts
  go_wp2_with fail
  refine (K5.out _).mono ?_
  rintro e w1 ⟨rfl, hb⟩
  replace T0 := T0.step hb
  clear hb p0 p1 p2 p3 p4 p5 p6 q0 q1 q2 q3 q4 q5 q6
  obtain ⟨p0, p1, p2, p3, p4, p5, p6⟩ := T0.2.1.facts
  obtain ⟨q0, q1, q2, q3, q4, q5, q6⟩ := T0.2.2.facts
  go_wp2_with fail
  refine (K6.out _).mono ?_
  rintro e w1 ⟨rfl, hb⟩
  replace T0 := T0.step hb
  clear hb p0 p1 p2 p3 p4 p5 p6 q0 q1 q2 q3 q4 q5 q6
  obtain ⟨p0, p1, p2, p3, p4, p5, p6⟩ := T0.2.1.facts
  obtain ⟨q0, q1, q2, q3, q4, q5, q6⟩ := T0.2.2.facts
  go_wp2_with fail
  refine (awake3_c _ (HG.out.below T0.1 (Nat.le_refl _))).mono ?_
  rintro e w1 ⟨rfl, hb⟩
  replace T0 := T0.step hb
  clear hb p0 p1 p2 p3 p4 p5 p6 q0 q1 q2 q3 q4 q5 q6
  obtain ⟨p0, p1, p2, p3, p4, p5, p6⟩ := T0.2.1.facts
  obtain ⟨q0, q1, q2, q3, q4, q5, q6⟩ := T0.2.2.facts
  go_wp2_with fail
  go_ret
  exact ⟨rfl, T0.1⟩
theorem DyadOrders_law (g1 : Bool) (s1 : ByteArray) (x1 : Int) (g2 : Bool) (s2 : ByteArray) (x2 : Int) (x : Nat) (w : World) (h1 : s1.size ≤ 9223372036854775807) (h2 : s2.size ≤ 9223372036854775807) (hx : x < 18446744073709551616) (hG : Globs glT w) :
    Calls Tryd.prog 6 #[.agg #[.bool g1, .string s1, .int .i64 x1], .agg #[.bool g2, .string s2, .int .i64 x2], .float .f64 x] w fun e w' => e = .returned (.bool true) ∧ Below w.heap.size w w' := by
  by_cases ha : (Dt.mk g1 s1 x1).Ok
  · obtain ⟨a, ha1, ha2⟩ := Dt.dy ha
    unfold Dy.t at ha2
    injection ha2 with e1 e2 e3
    subst e1 e2 e3
    by_cases hb : (Dt.mk g2 s2 x2).Ok
    · obtain ⟨b, hb1, hb2⟩ := Dt.dy hb
      unfold Dy.t at hb2
      injection hb2 with e1 e2 e3
      subst e1 e2 e3
      exact DyadOrders_ab a b x w ha1 hb1 hx hG
    · exact DyadOrders_b a ⟨g2, s2, x2⟩ x w ha1 hx h2 hb hG
  · exact DyadOrders_a ⟨g1, s1, x1⟩ ⟨g2, s2, x2⟩ x w h1 h2 ha hG
end Go.Proofs.YtjkonfopajihdaaDoor
