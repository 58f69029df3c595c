/- Texts put together: D39 D40 D41 D42. -/
import Derived.Test.YtjkonfopajihdaaDoorZr
import Derived.Test.YtjkonfopajihdaaDoorZp
set_option linter.unusedSimpArgs false
set_option linter.unusedVariables false
namespace Go.Proofs.YtjkonfopajihdaaDoor
open Go Go.RowKit Nt

/-- What Add leaves. -/
def AddPost (a b : Dy) (w : World) (e : Ending) (w' : World) : Prop := e = .returned (.tuple #[(addD a b).v, .int .i64 (addE a b)]) ∧ Below w.heap.size w w'
theorem DAdd_c (a b : Dy) (w : World) (ha : a.Ok) (hb : b.Ok) (hG : Globs glT w) :
    Calls Tryd.prog 40 #[.agg #[.bool a.g, .string (natS a.n), .int .i64 a.x], .agg #[.bool b.g, .string (natS b.n), .int .i64 b.x]] w (AddPost a b w) := by
  unfold AddPost
  rcases ha with rfl | ha
  · rw [(add_zl (a := Dy.zero) (b := b) rfl).1, (add_zl (a := Dy.zero) (b := b) rfl).2]
    show Calls _ _ #[.agg #[.bool false, .string (natS 0), .int .i64 0], _] _ _
    rw [natS_zero]; exact DAdd_zl b w hb
  · rcases hb with rfl | hb
    · rw [(add_zr (a := a) (b := Dy.zero) (odd_ne ha.2.1) rfl).1, (add_zr (a := a) (b := Dy.zero) (odd_ne ha.2.1) rfl).2]
      show Calls _ _ #[_, .agg #[.bool false, .string (natS 0), .int .i64 0]] _ _
      rw [natS_zero]; exact DAdd_zr a w ha
    · exact DAdd_num a b w ha hb hG
set_option maxRecDepth 100000 in
set_option maxHeartbeats 2000000 in
theorem rAdd3_swap (a b : Dy) (w : World) (ha : a.Num) (hb : b.Num) (hlt : a.x < b.x) :
    Calls Tryd.prog 44 #[.agg #[.bool a.g, .string (natS a.n), .int .i64 a.x], .agg #[.bool b.g, .string (natS b.n), .int .i64 b.x]] w fun e w' => e = .returned (.tuple #[(hiD b a).v, .int .i64 (hiE b a)]) ∧ Below w.heap.size w w' := by
  have K := Lib.hid (fun w => rAdd3_ge b a w hb ha (by omega))
  have hEp := natS_full (odd_ne ha.2.1)
  have hEp2 := natS_full2 (odd_ne ha.2.1)
  have hEq := natS_full (odd_ne hb.2.1)
  have hEq2 := natS_full2 (odd_ne hb.2.1)
  have T0 := TC.start w a.t b.t
  unfold Dy.t at T0
  obtain ⟨p0, p1, p2, p3, p4, p5, p6⟩ := T0.1.2.1.facts
  obtain ⟨q0, q1, q2, q3, q4, q5, q6⟩ := T0.1.2.2.facts
  clear ha hb
  generalize hiD b a = D at *
  generalize hiE b a = E at *
  go_enter Tryd.func44, Tryd.ntmps44
  go_wp2_with fail
  refine (K.out _).mono ?_
  rintro e w1 ⟨rfl, hb⟩
  replace T0 := T0.step hb
  obtain ⟨r0, r1, r2, r3, r4, r5, r6⟩ := T0.2.facts
  unfold Dy.v
  clear hb p0 p1 p2 p3 p4 p5 p6 q0 q1 q2 q3 q4 q5 q6
  go_wp2_with fail
  refine bodyPost_ret (v := .tuple #[D.v, .int .i64 E]) (by simp [results, Tryd.results44, go_sem, r0, r1, r2, r3, Dy.v]) rfl ⟨rfl, ?_⟩
  exact T0.fin _ _ _
theorem rAdd3_c (a b : Dy) (w : World) (ha : a.Ok) (hb : b.Ok) :
    Calls Tryd.prog 44 #[.agg #[.bool a.g, .string (natS a.n), .int .i64 a.x], .agg #[.bool b.g, .string (natS b.n), .int .i64 b.x]] w (AddPost a b w) := by
  unfold AddPost
  rcases ha with rfl | ha
  · rw [(add_zl (a := Dy.zero) (b := b) rfl).1, (add_zl (a := Dy.zero) (b := b) rfl).2]
    show Calls _ _ #[.agg #[.bool false, .string (natS 0), .int .i64 0], _] _ _
    rw [natS_zero]; exact rAdd3_zl b w false 0
  · rcases hb with rfl | hb
    · rw [(add_zr (a := a) (b := Dy.zero) (odd_ne ha.2.1) rfl).1, (add_zr (a := a) (b := Dy.zero) (odd_ne ha.2.1) rfl).2]
      show Calls _ _ #[_, .agg #[.bool false, .string (natS 0), .int .i64 0]] _ _
      rw [natS_zero]; exact rAdd3_zr a w (odd_ne ha.2.1) false 0
    · by_cases h : a.x < b.x
      · rw [(add_lt (odd_ne ha.2.1) (odd_ne hb.2.1) h).1, (add_lt (odd_ne ha.2.1) (odd_ne hb.2.1) h).2]
        exact rAdd3_swap a b w ha hb h
      · rw [(add_ge (odd_ne ha.2.1) (odd_ne hb.2.1) h).1, (add_ge (odd_ne ha.2.1) (odd_ne hb.2.1) h).2]
        exact rAdd3_ge a b w ha hb (by omega)
def negD (d : Dy) : Dy := if d.n = 0 then d else ⟨!d.g, d.n, d.x⟩
theorem negD_zero : negD Dy.zero = Dy.zero := by unfold negD; exact if_pos rfl
theorem negD_num {d : Dy} (h : d.n ≠ 0) : negD d = ⟨!d.g, d.n, d.x⟩ := by unfold negD; exact if_neg h
theorem negD_Ok {d : Dy} (h : d.Ok) : (negD d).Ok := by
  rcases h with rfl | h
  · rw [negD_zero]; exact Or.inl rfl
  · rw [negD_num (odd_ne h.2.1)]; exact Or.inr h
theorem DNeg_c (d : Dy) (w : World) (h : d.Ok) : Calls Tryd.prog 17 #[.agg #[.bool d.g, .string (natS d.n), .int .i64 d.x]] w fun e w' => e = .returned ((negD d).v) ∧ Below w.heap.size w w' := by
  rcases h with rfl | h
  · rw [negD_zero, Dy.zero_v]
    show Calls _ _ #[.agg #[.bool false, .string (natS 0), .int .i64 0]] _ _
    rw [natS_zero]; exact DNeg_zero w
  · rw [negD_num (odd_ne h.2.1)]
    exact DNeg_num d.g d.n d.x w h.1 h.2.1 h.2.2.1 h.2.2.2
theorem rNegD3_c (d : Dy) (w : World) (h : d.Ok) : Calls Tryd.prog 22 #[.agg #[.bool d.g, .string (natS d.n), .int .i64 d.x]] w fun e w' => e = .returned ((negD d).v) ∧ Below w.heap.size w w' := by
  rcases h with rfl | h
  · rw [negD_zero, Dy.zero_v]
    show Calls _ _ #[.agg #[.bool false, .string (natS 0), .int .i64 0]] _ _
    rw [natS_zero]; exact rNeg3_zero w
  · rw [negD_num (odd_ne h.2.1)]
    exact rNeg3_num d.g d.n d.x w (odd_ne h.2.1)
end Go.Proofs.YtjkonfopajihdaaDoor
set_option linter.unusedSimpArgs false
set_option linter.unusedVariables false
namespace Go.Proofs.YtjkonfopajihdaaDoor
open Go Go.RowKit Nt

set_option maxRecDepth 100000 in
set_option maxHeartbeats 2000000 in
theorem DSub_bad (a b : Dt) (w : World) (ha : a.s.size ≤ 9223372036854775807) (hb : b.s.size ≤ 9223372036854775807) (hn : ¬ (a.Ok ∧ b.Ok)) :
    Calls Tryd.prog 41 #[.agg #[.bool a.g, .string a.s, .int .i64 a.x], .agg #[.bool b.g, .string b.s, .int .i64 b.x]] w fun e w' => e = .returned (.tuple #[.agg #[.bool false, .string ⟨#[]⟩, .int .i64 0], .int .i64 2]) ∧ Below w.heap.size w w' := by
  have he : dE [a, b] = 2 := by
    by_cases h : a.Ok
    · exact dE_no (t := b) (by simp) (fun c => hn ⟨h, c⟩)
    · exact dE_no (t := a) (by simp) h
  have KA := Lib.hid (fun W T A hA => Dall2 a b W T A hA ha hb)
  rw [he] at KA
  have T0 := TC.start w a b
  clear ha hb hn he
  go_enter Tryd.func41, Tryd.ntmps41
  go_wp2_with fail
  refine (KA.out _ _ _ (by simp)).mono ?_
  rintro e w1 ⟨rfl, hb⟩
  replace T0 := (T0.more _).step hb
  clear hb
  obtain ⟨r0, r1, r2, r3, r4, r5, r6⟩ := T0.2.facts
  go_wp2_with fail
  refine bodyPost_ret (v := .tuple #[.agg #[.bool false, .string ⟨#[]⟩, .int .i64 0], .int .i64 2]) (by simp [results, Tryd.results41, go_sem, r0, r1, r2, r3]) rfl ⟨rfl, ?_⟩
  repeat (refine Below.setCell ?_ (by simp; omega) _)
  exact T0.1.1
set_option maxRecDepth 100000 in
set_option maxHeartbeats 2000000 in
theorem DSub_c (a b : Dy) (w : World) (ha : a.Ok) (hb : b.Ok) (hG : Globs glT w) :
    Calls Tryd.prog 41 #[.agg #[.bool a.g, .string (natS a.n), .int .i64 a.x], .agg #[.bool b.g, .string (natS b.n), .int .i64 b.x]] w (AddPost a (negD b) w) := by
  have KA := Lib.hid (fun W T A hA => all_ok2 a b ha hb W T A hA)
  have T0 := TC.start w a.t b.t
  have KN := Lib.hid (fun w => DNeg_c b w hb)
  have KD := Lib.hid (fun w hG => DAdd_c a (negD b) w ha (negD_Ok hb) hG)
  have HG := Lib.hid (fun W (h : TD w a.t b.t W) => hG.below h.1.1 (Nat.le_refl _))
  clear hG
  clear ha hb
  unfold AddPost at KD ⊢
  generalize addD a (negD b) = D at *
  generalize addE a (negD b) = E at *
  generalize negD b = c at *
  unfold Dy.t at T0
  go_enter Tryd.func41, Tryd.ntmps41
  go_wp2_with fail
  refine (KA.out _ _ _ (by simp)).mono ?_
  rintro e w1 ⟨rfl, hb⟩
  replace T0 := (T0.more _).step hb
  clear hb
  have T1 : TD w a.t b.t w1 := T0.td
  clear T0
  go_wp2_with fail
  have M0 : ∀ W, TD w a.t b.t W → W.cell? ⟨w.heap.size, 0, none⟩ = some (.bool a.g) := fun W h => h.1.2.1.facts.2.1
  have M1 : ∀ W, TD w a.t b.t W → W.cell? ⟨w.heap.size, 1, none⟩ = some (.string (natS a.n)) := fun W h => h.1.2.1.facts.2.2.1
  have M2 : ∀ W, TD w a.t b.t W → W.cell? ⟨w.heap.size, 2, none⟩ = some (.int .i64 a.x) := fun W h => h.1.2.1.facts.2.2.2.1
  have M3 : ∀ W, TD w a.t b.t W → W.cell? ⟨w.heap.size + 1, 0, none⟩ = some (.bool b.g) := fun W h => h.1.2.2.facts.2.1
  have M4 : ∀ W, TD w a.t b.t W → W.cell? ⟨w.heap.size + 1, 1, none⟩ = some (.string (natS b.n)) := fun W h => h.1.2.2.facts.2.2.1
  have M5 : ∀ W, TD w a.t b.t W → W.cell? ⟨w.heap.size + 1, 2, none⟩ = some (.int .i64 b.x) := fun W h => h.1.2.2.facts.2.2.2.1
  have M6 := fun W (h : TD w a.t b.t W) => h.cells.2.1
  have M7 := fun W (h : TD w a.t b.t W) => h.cells.2.2.1
  have M8 := fun W (h : TD w a.t b.t W) => h.cells.2.2.2.1
  have M9 := fun W (h : TD w a.t b.t W) => h.cells.2.2.2.2.1
  have M10 := fun W (h : TD w a.t b.t W) => h.cells.2.2.2.2.2.1
  have M11 := fun W (h : TD w a.t b.t W) => h.cells.2.2.2.2.2.2
  go_region_held3 (TD w a.t b.t) (first | assumption | exact TD.step (by assumption) (by assumption) | exact TD.put (by assumption) _ _ _ | exact TD.drew (by assumption) | exact TD.drawn (by assumption) _)
    (first
      | (go_at_call 17; (refine (KN.out _).mono ?_); rintro e wd ⟨rfl, hb10⟩; unfold Dy.v)
      | (go_at_call 40; (refine (KD.out _ (HG.out _ (by assumption))).mono ?_); rintro e we ⟨rfl, hb11⟩; have HSV := Lib.hid (TD.step (a := a.t) (b := b.t) (w := w) (by assumption) hb11); unfold Dy.v))
  obtain ⟨r0, r1, r2, r3, r4, r5, r6⟩ := HSV.out.cells
  have hfin := below_put HSV.out.1.1 (show w.heap.size ≤ w.heap.size + 2 by omega)
  clear M0 M1 M2 M3 M4 M5 M6 M7 M8 M9 M10 M11
  go_wp2_with fail
  refine bodyPost_ret (v := .tuple #[D.v, .int .i64 E]) (by simp [results, Tryd.results41, go_sem, r0, r1, r2, r3, Dy.v]) rfl ⟨rfl, ?_⟩
  exact hfin _ _ _
set_option maxRecDepth 100000 in
set_option maxHeartbeats 2000000 in
theorem rSub3_c (a b : Dy) (w : World) (ha : a.Ok) (hb : b.Ok) :
    Calls Tryd.prog 45 #[.agg #[.bool a.g, .string (natS a.n), .int .i64 a.x], .agg #[.bool b.g, .string (natS b.n), .int .i64 b.x]] w (AddPost a (negD b) w) := by
  have T0 := TC.start w a.t b.t
  have KN := Lib.hid (fun w => rNegD3_c b w hb)
  have KD := Lib.hid (fun w => rAdd3_c a (negD b) w ha (negD_Ok hb))
  clear ha hb
  unfold AddPost at KD ⊢
  generalize addD a (negD b) = D at *
  generalize addE a (negD b) = E at *
  generalize negD b = c at *
  have T1 : TD w a.t b.t _ := T0.td
  clear T0
  unfold Dy.t at T1
  go_enter Tryd.func45, Tryd.ntmps45
  go_wp2_with fail
  have M0 : ∀ W, TD w a.t b.t W → W.cell? ⟨w.heap.size, 0, none⟩ = some (.bool a.g) := fun W h => h.1.2.1.facts.2.1
  have M1 : ∀ W, TD w a.t b.t W → W.cell? ⟨w.heap.size, 1, none⟩ = some (.string (natS a.n)) := fun W h => h.1.2.1.facts.2.2.1
  have M2 : ∀ W, TD w a.t b.t W → W.cell? ⟨w.heap.size, 2, none⟩ = some (.int .i64 a.x) := fun W h => h.1.2.1.facts.2.2.2.1
  have M3 : ∀ W, TD w a.t b.t W → W.cell? ⟨w.heap.size + 1, 0, none⟩ = some (.bool b.g) := fun W h => h.1.2.2.facts.2.1
  have M4 : ∀ W, TD w a.t b.t W → W.cell? ⟨w.heap.size + 1, 1, none⟩ = some (.string (natS b.n)) := fun W h => h.1.2.2.facts.2.2.1
  have M5 : ∀ W, TD w a.t b.t W → W.cell? ⟨w.heap.size + 1, 2, none⟩ = some (.int .i64 b.x) := fun W h => h.1.2.2.facts.2.2.2.1
  have M6 := fun W (h : TD w a.t b.t W) => h.cells.2.1
  have M7 := fun W (h : TD w a.t b.t W) => h.cells.2.2.1
  have M8 := fun W (h : TD w a.t b.t W) => h.cells.2.2.2.1
  have M9 := fun W (h : TD w a.t b.t W) => h.cells.2.2.2.2.1
  have M10 := fun W (h : TD w a.t b.t W) => h.cells.2.2.2.2.2.1
  have M11 := fun W (h : TD w a.t b.t W) => h.cells.2.2.2.2.2.2
  go_region_held3 (TD w a.t b.t) (first | assumption | exact TD.step (by assumption) (by assumption) | exact TD.put (by assumption) _ _ _ | exact TD.drew (by assumption) | exact TD.drawn (by assumption) _)
    (first
      | (go_at_call 22; (refine (KN.out _).mono ?_); rintro e wd ⟨rfl, hb10⟩; unfold Dy.v)
      | (go_at_call 44; (refine (KD.out _).mono ?_); rintro e we ⟨rfl, hb11⟩; have HSV := Lib.hid (TD.step (a := a.t) (b := b.t) (w := w) (by assumption) hb11); unfold Dy.v))
  obtain ⟨r0, r1, r2, r3, r4, r5, r6⟩ := HSV.out.cells
  have hfin := below_put HSV.out.1.1 (show w.heap.size ≤ w.heap.size + 2 by omega)
  clear M0 M1 M2 M3 M4 M5 M6 M7 M8 M9 M10 M11
  go_wp2_with fail
  refine bodyPost_ret (v := .tuple #[D.v, .int .i64 E]) (by simp [results, Tryd.results45, go_sem, r0, r1, r2, r3, Dy.v]) rfl ⟨rfl, ?_⟩
  exact hfin _ _ _
end Go.Proofs.YtjkonfopajihdaaDoor
set_option linter.unusedSimpArgs false
set_option linter.unusedVariables false
namespace Go.Proofs.YtjkonfopajihdaaDoor
open Go Go.RowKit Nt

@[irreducible] def mulD (a b : Dy) : Dy := mkD (a.g != b.g) (a.n * b.n) (a.x + b.x)
@[irreducible] def mulE (a b : Dy) : Int := mkE (a.n * b.n) (a.x + b.x)
theorem mulD_eq (a b : Dy) : mulD a b = mkD (a.g != b.g) (a.n * b.n) (a.x + b.x) := by unfold mulD; rfl
theorem mulE_eq (a b : Dy) : mulE a b = mkE (a.n * b.n) (a.x + b.x) := by unfold mulE; rfl
theorem mul_z {a b : Dy} (h : a.n = 0 ∨ b.n = 0) : mulD a b = Dy.zero ∧ mulE a b = 0 := by
  have e : a.n * b.n = 0 := by rcases h with h | h <;> rw [h] <;> simp
  rw [mulD_eq, mulE_eq, e, mkD_zero, mkE_zero]; exact ⟨rfl, rfl⟩
theorem mulD_Ok (a b : Dy) : (mulD a b).Ok := by rw [mulD_eq]; exact mkD_Ok _ _ _
/-- What Mul leaves. -/
def MulPost (a b : Dy) (w : World) (e : Ending) (w' : World) : Prop := e = .returned (.tuple #[(mulD a b).v, .int .i64 (mulE a b)]) ∧ Below w.heap.size w w'
set_option maxRecDepth 100000 in
set_option maxHeartbeats 2000000 in
theorem DMul_bad (a b : Dt) (w : World) (ha : a.s.size ≤ 9223372036854775807) (hb : b.s.size ≤ 9223372036854775807) (hn : ¬ (a.Ok ∧ b.Ok)) :
    Calls Tryd.prog 42 #[.agg #[.bool a.g, .string a.s, .int .i64 a.x], .agg #[.bool b.g, .string b.s, .int .i64 b.x]] w fun e w' => e = .returned (.tuple #[.agg #[.bool false, .string ⟨#[]⟩, .int .i64 0], .int .i64 2]) ∧ Below w.heap.size w w' := by
  have he : dE [a, b] = 2 := by
    by_cases h : a.Ok
    · exact dE_no (t := b) (by simp) (fun c => hn ⟨h, c⟩)
    · exact dE_no (t := a) (by simp) h
  have KA := Lib.hid (fun W T A hA => Dall2 a b W T A hA ha hb)
  rw [he] at KA
  have T0 := TC.start w a b
  clear ha hb hn he
  go_enter Tryd.func42, Tryd.ntmps42
  go_wp2_with fail
  refine (KA.out _ _ _ (by simp)).mono ?_
  rintro e w1 ⟨rfl, hb⟩
  replace T0 := (T0.more _).step hb
  clear hb
  obtain ⟨r0, r1, r2, r3, r4, r5, r6⟩ := T0.2.facts
  go_wp2_with fail
  refine bodyPost_ret (v := .tuple #[.agg #[.bool false, .string ⟨#[]⟩, .int .i64 0], .int .i64 2]) (by simp [results, Tryd.results42, go_sem, r0, r1, r2, r3]) rfl ⟨rfl, ?_⟩
  repeat (refine Below.setCell ?_ (by simp; omega) _)
  exact T0.1.1
set_option maxRecDepth 100000 in
set_option maxHeartbeats 2000000 in
theorem DMul_zl (b : Dy) (w : World) (hb : b.Ok) :
    Calls Tryd.prog 42 #[.agg #[.bool false, .string ⟨#[]⟩, .int .i64 0], .agg #[.bool b.g, .string (natS b.n), .int .i64 b.x]] w fun e w' => e = .returned (.tuple #[.agg #[.bool false, .string ⟨#[]⟩, .int .i64 0], .int .i64 0]) ∧ Below w.heap.size w w' := by
  have KA := Lib.hid (fun W T A hA => all_ok2 Dy.zero b (Or.inl rfl) hb W T A hA)
  simp only [Dy.zero, natS_zero] at KA
  have T0 := TC.start w ⟨false, ⟨#[]⟩, 0⟩ b.t
  unfold Dy.t at T0
  go_enter Tryd.func42, Tryd.ntmps42
  go_wp2_with fail
  refine (KA.out _ _ _ (by simp)).mono ?_
  rintro e w1 ⟨rfl, hb⟩
  replace T0 := (T0.more _).step hb
  clear hb
  obtain ⟨p0, p1, p2, p3, p4, p5, p6⟩ := T0.1.2.1.facts
  obtain ⟨q0, q1, q2, q3, q4, q5, q6⟩ := T0.1.2.2.facts
  obtain ⟨r0, r1, r2, r3, r4, r5, r6⟩ := T0.2.facts
  go_wp2_with fail
  refine bodyPost_ret (v := .tuple #[.agg #[.bool false, .string ⟨#[]⟩, .int .i64 0], .int .i64 0]) (by simp [results, Tryd.results42, go_sem, r0, r1, r2, r3]) rfl ⟨rfl, ?_⟩
  repeat (refine Below.setCell ?_ (by simp; omega) _)
  first
    | exact T0.1.1
    | exact (((Below.refl _ _).alloc (Nat.le_refl _) _).alloc (by simp) _).alloc (by simp; omega) _
set_option maxRecDepth 100000 in
set_option maxHeartbeats 2000000 in
theorem DMul_zr (a : Dy) (w : World) (ha : a.Num) :
    Calls Tryd.prog 42 #[.agg #[.bool a.g, .string (natS a.n), .int .i64 a.x], .agg #[.bool false, .string ⟨#[]⟩, .int .i64 0]] w fun e w' => e = .returned (.tuple #[.agg #[.bool false, .string ⟨#[]⟩, .int .i64 0], .int .i64 0]) ∧ Below w.heap.size w w' := by
  have KA := Lib.hid (fun W T A hA => all_ok2 a Dy.zero (Or.inr ha) (Or.inl rfl) W T A hA)
  simp only [Dy.zero, natS_zero] at KA
  have T0 := TC.start w a.t ⟨false, ⟨#[]⟩, 0⟩
  unfold Dy.t at T0
  have hE := natS_full (odd_ne ha.2.1)
  have hE2 := natS_full2 (odd_ne ha.2.1)
  clear ha
  go_enter Tryd.func42, Tryd.ntmps42
  go_wp2_with fail
  refine (KA.out _ _ _ (by simp)).mono ?_
  rintro e w1 ⟨rfl, hb⟩
  replace T0 := (T0.more _).step hb
  clear hb
  obtain ⟨p0, p1, p2, p3, p4, p5, p6⟩ := T0.1.2.1.facts
  obtain ⟨q0, q1, q2, q3, q4, q5, q6⟩ := T0.1.2.2.facts
  obtain ⟨r0, r1, r2, r3, r4, r5, r6⟩ := T0.2.facts
  go_wp2_with fail
  refine bodyPost_ret (v := .tuple #[.agg #[.bool false, .string ⟨#[]⟩, .int .i64 0], .int .i64 0]) (by simp [results, Tryd.results42, go_sem, r0, r1, r2, r3]) rfl ⟨rfl, ?_⟩
  repeat (refine Below.setCell ?_ (by simp; omega) _)
  first
    | exact T0.1.1
    | exact (((Below.refl _ _).alloc (Nat.le_refl _) _).alloc (by simp) _).alloc (by simp; omega) _
set_option maxRecDepth 100000 in
set_option maxHeartbeats 2000000 in
theorem rMul3_zl (b : Dy) (w : World) :
    Calls Tryd.prog 46 #[.agg #[.bool false, .string ⟨#[]⟩, .int .i64 0], .agg #[.bool b.g, .string (natS b.n), .int .i64 b.x]] w fun e w' => e = .returned (.tuple #[.agg #[.bool false, .string ⟨#[]⟩, .int .i64 0], .int .i64 0]) ∧ Below w.heap.size w w' := by
  have T0 := TC.start w ⟨false, ⟨#[]⟩, 0⟩ b.t
  unfold Dy.t at T0
  go_enter Tryd.func46, Tryd.ntmps46
  go_wp2_with fail
  refine bodyPost_ret (v := .tuple #[.agg #[.bool false, .string ⟨#[]⟩, .int .i64 0], .int .i64 0]) (by simp [results, Tryd.results46, go_sem]) rfl ⟨rfl, ?_⟩
  repeat (refine Below.setCell ?_ (by simp; omega) _)
  first
    | exact T0.1.1
    | exact (((Below.refl _ _).alloc (Nat.le_refl _) _).alloc (by simp) _).alloc (by simp; omega) _
set_option maxRecDepth 100000 in
set_option maxHeartbeats 2000000 in
theorem rMul3_zr (a : Dy) (w : World) (ha : a.Num) :
    Calls Tryd.prog 46 #[.agg #[.bool a.g, .string (natS a.n), .int .i64 a.x], .agg #[.bool false, .string ⟨#[]⟩, .int .i64 0]] w fun e w' => e = .returned (.tuple #[.agg #[.bool false, .string ⟨#[]⟩, .int .i64 0], .int .i64 0]) ∧ Below w.heap.size w w' := by
  have T0 := TC.start w a.t ⟨false, ⟨#[]⟩, 0⟩
  unfold Dy.t at T0
  have hE := natS_full (odd_ne ha.2.1)
  have hE2 := natS_full2 (odd_ne ha.2.1)
  clear ha
  go_enter Tryd.func46, Tryd.ntmps46
  go_wp2_with fail
  refine bodyPost_ret (v := .tuple #[.agg #[.bool false, .string ⟨#[]⟩, .int .i64 0], .int .i64 0]) (by simp [results, Tryd.results46, go_sem]) rfl ⟨rfl, ?_⟩
  repeat (refine Below.setCell ?_ (by simp; omega) _)
  first
    | exact T0.1.1
    | exact (((Below.refl _ _).alloc (Nat.le_refl _) _).alloc (by simp) _).alloc (by simp; omega) _
set_option maxRecDepth 100000 in
set_option maxHeartbeats 2000000 in
theorem DMul_num (a b : Dy) (w : World) (ha : a.Num) (hb : b.Num) :
    Calls Tryd.prog 42 #[.agg #[.bool a.g, .string (natS a.n), .int .i64 a.x], .agg #[.bool b.g, .string (natS b.n), .int .i64 b.x]] w (MulPost a b w) := by
  have KA := Lib.hid (fun W T A hA => all_ok2 a b (Or.inr ha) (Or.inr hb) W T A hA)
  have T0 := TC.start w a.t b.t
  unfold Dy.t at T0
  have KM := Lib.hid (fun w => NMul_c a.n b.n w ha.1 hb.1)
  have hEp := natS_full (odd_ne ha.2.1)
  have hEp2 := natS_full2 (odd_ne ha.2.1)
  have hEq := natS_full (odd_ne hb.2.1)
  have hEq2 := natS_full2 (odd_ne hb.2.1)
  have hxa := ha.2.2
  have hxb := hb.2.2
  have hodd : (a.n * b.n) % 2 = 1 := by rw [Nat.mul_mod, ha.2.1, hb.2.1]
  unfold MulPost
  by_cases hf : fits (a.n * b.n)
  · rw [resS_ok hf, resE_ok hf] at KM
    have KK : Hid (∀ w, Calls Tryd.prog 25 #[.bool (a.g != b.g), .string (natS (a.n * b.n)), .int .i64 (a.x + b.x)] w fun e w' => e = .returned (.tuple #[(mulD a b).v, .int .i64 (mulE a b)]) ∧ Below w.heap.size w w') := Lib.hid fun w => by
      have := DMake_c (a.g != b.g) (a.n * b.n) (a.x + b.x) w hf (by omega)
      unfold MkPost at this
      rw [← mulD_eq, ← mulE_eq] at this
      exact this
    clear ha hb hf hodd
    generalize mulD a b = D at *
    generalize mulE a b = E at *
    generalize a.n * b.n = z at *
    go_enter Tryd.func42, Tryd.ntmps42
    go_wp2_with fail
    refine (KA.out _ _ _ (by simp)).mono ?_
    rintro e w1 ⟨rfl, hb⟩
    replace T0 := (T0.more _).step hb
    clear hb
    obtain ⟨p0, p1, p2, p3, p4, p5, p6⟩ := T0.1.2.1.facts
    obtain ⟨q0, q1, q2, q3, q4, q5, q6⟩ := T0.1.2.2.facts
    go_wp2_with fail
    refine (KM.out _).mono ?_
    rintro e w2 ⟨rfl, hb⟩
    replace T0 := T0.step hb
    clear hb p0 p1 p2 p3 p4 p5 p6 q0 q1 q2 q3 q4 q5 q6
    obtain ⟨p0, p1, p2, p3, p4, p5, p6⟩ := T0.1.2.1.facts
    obtain ⟨q0, q1, q2, q3, q4, q5, q6⟩ := T0.1.2.2.facts
    go_wp2_with fail
    refine (KK.out _).mono ?_
    rintro e w3 ⟨rfl, hb⟩
    replace T0 := T0.step hb
    obtain ⟨r0, r1, r2, r3, r4, r5, r6⟩ := T0.2.facts
    clear hb p0 p1 p2 p3 p4 p5 p6 q0 q1 q2 q3 q4 q5 q6
    unfold Dy.v
    go_wp2_with fail
    refine bodyPost_ret (v := .tuple #[D.v, .int .i64 E]) (by simp [results, Tryd.results42, go_sem, r0, r1, r2, r3, Dy.v]) rfl ⟨rfl, ?_⟩
    exact T0.fin _ _ _
  · rw [resS_no hf, resE_no hf] at KM
    have hno : ¬ mkOk3 (a.n * b.n) (a.x + b.x) := by
      rintro (h | ⟨h, _⟩)
      · exact odd_ne hodd h
      · rw [odN_odd hodd] at h; exact hf h
    have HR := Lib.hid (show mulD a b = Dy.zero ∧ mulE a b = 4 from ⟨by rw [mulD_eq, mkD_no hno], by rw [mulE_eq, mkE_no hno]⟩)
    clear ha hb hf hodd hno
    go_enter Tryd.func42, Tryd.ntmps42
    go_wp2_with fail
    refine (KA.out _ _ _ (by simp)).mono ?_
    rintro e w1 ⟨rfl, hb⟩
    replace T0 := (T0.more _).step hb
    clear hb
    obtain ⟨p0, p1, p2, p3, p4, p5, p6⟩ := T0.1.2.1.facts
    obtain ⟨q0, q1, q2, q3, q4, q5, q6⟩ := T0.1.2.2.facts
    go_wp2_with fail
    refine (KM.out _).mono ?_
    rintro e w2 ⟨rfl, hb⟩
    replace T0 := T0.step hb
    obtain ⟨r0, r1, r2, r3, r4, r5, r6⟩ := T0.2.facts
    clear hb p0 p1 p2 p3 p4 p5 p6 q0 q1 q2 q3 q4 q5 q6
    go_wp2_with fail
    refine bodyPost_ret (v := .tuple #[.agg #[.bool false, .string ⟨#[]⟩, .int .i64 0], .int .i64 4]) (by simp [results, Tryd.results42, go_sem, r0, r1, r2, r3]) rfl ⟨?_, ?_⟩
    · rw [HR.out.1, HR.out.2, Dy.zero_v]
    · exact T0.fin _ _ _
set_option maxRecDepth 100000 in
set_option maxHeartbeats 2000000 in
theorem rMul3_num (a b : Dy) (w : World) (ha : a.Num) (hb : b.Num) :
    Calls Tryd.prog 46 #[.agg #[.bool a.g, .string (natS a.n), .int .i64 a.x], .agg #[.bool b.g, .string (natS b.n), .int .i64 b.x]] w (MulPost a b w) := by
  have T0 := TC.start w a.t b.t
  have hEp := natS_full (odd_ne ha.2.1)
  have hEp2 := natS_full2 (odd_ne ha.2.1)
  have hEq := natS_full (odd_ne hb.2.1)
  have hEq2 := natS_full2 (odd_ne hb.2.1)
  have hxa := ha.2.2
  have hxb := hb.2.2
  have hfa : nd 256 a.n ≤ 16384 := ha.1
  have hfb : nd 256 b.n ≤ 16384 := hb.1
  have KRp := Lib.hid (fun w => rOf3_c a.n w (by omega))
  have KRq := Lib.hid (fun w => rOf3_c b.n w (by omega))
  have KT : Hid (∀ (B B' : Nat) (A A' : Option Addr) (c c' : Nat) (W' : World), Own W' B 3 .i64 (.slice A (nd 256 a.n) c) (dl 256 a.n (nd 256 a.n)) → Own W' B' 3 .i64 (.slice A' (nd 256 b.n) c') (dl 256 b.n (nd 256 b.n)) → Calls Tryd.prog 89 #[.slice A (nd 256 a.n) c, .slice A' (nd 256 b.n) c'] W' (BigP (a.n * b.n) W')) := Lib.hid fun B B' A A' c c' W' h h' => rTimes3_c a.n b.n B B' A A' c c' W' (by omega) (by omega) h h'
  have KF : Hid (∀ (B : Nat) (A : Option Addr) (c : Nat) (W' : World), Own W' B 3 .i64 (.slice A (nd 256 (a.n * b.n)) c) (dl 256 (a.n * b.n) (nd 256 (a.n * b.n))) → Calls Tryd.prog 66 #[.bool (a.g != b.g), .slice A (nd 256 (a.n * b.n)) c, .int .i64 (a.x + b.x)] W' fun e w' => e = .returned (.tuple #[(mulD a b).v, .int .i64 (mulE a b)]) ∧ Below W'.heap.size W' w') := Lib.hid fun B A c W' h => by
    have h1 := nd_mul3 a.n b.n
    have := rFit3_c (a.g != b.g) (a.n * b.n) (a.x + b.x) B A c W' (by omega) (by omega) h
    unfold MkPost at this
    rw [← mulD_eq, ← mulE_eq] at this
    exact this
  clear ha hb
  unfold MulPost
  generalize mulD a b = D at *
  generalize mulE a b = E at *
  generalize a.n * b.n = z at *
  have T1 : TD w a.t b.t _ := T0.td
  clear T0
  unfold Dy.t at T1
  have M0 : ∀ W, TD w a.t b.t W → W.cell? ⟨w.heap.size, 0, none⟩ = some (.bool a.g) := fun W h => h.1.2.1.facts.2.1
  have M1 : ∀ W, TD w a.t b.t W → W.cell? ⟨w.heap.size, 1, none⟩ = some (.string (natS a.n)) := fun W h => h.1.2.1.facts.2.2.1
  have M2 : ∀ W, TD w a.t b.t W → W.cell? ⟨w.heap.size, 2, none⟩ = some (.int .i64 a.x) := fun W h => h.1.2.1.facts.2.2.2.1
  have M3 : ∀ W, TD w a.t b.t W → W.cell? ⟨w.heap.size + 1, 0, none⟩ = some (.bool b.g) := fun W h => h.1.2.2.facts.2.1
  have M4 : ∀ W, TD w a.t b.t W → W.cell? ⟨w.heap.size + 1, 1, none⟩ = some (.string (natS b.n)) := fun W h => h.1.2.2.facts.2.2.1
  have M5 : ∀ W, TD w a.t b.t W → W.cell? ⟨w.heap.size + 1, 2, none⟩ = some (.int .i64 b.x) := fun W h => h.1.2.2.facts.2.2.2.1
  have M6 := fun W (h : TD w a.t b.t W) => h.cells.2.1
  have M7 := fun W (h : TD w a.t b.t W) => h.cells.2.2.1
  have M8 := fun W (h : TD w a.t b.t W) => h.cells.2.2.2.1
  have M9 := fun W (h : TD w a.t b.t W) => h.cells.2.2.2.2.1
  have M10 := fun W (h : TD w a.t b.t W) => h.cells.2.2.2.2.2.1
  have M11 := fun W (h : TD w a.t b.t W) => h.cells.2.2.2.2.2.2
  have hw1 : IntKind.i64.wrap (a.x + b.x) = a.x + b.x := IntWalk.i64_in _ (by omega)
  go_enter Tryd.func46, Tryd.ntmps46
  go_wp2_with fail
  go_region_held3 (TD w a.t b.t) (first | assumption | exact TD.step (by assumption) (by assumption) | exact TD.put (by assumption) _ _ _ | exact TD.drew (by assumption) | exact TD.drawn (by assumption) _)
    (first
      | (go_at_call 89; (refine (KT.out _ _ _ _ _ _ _ (Own.whole (by assumption) hb9) hown3).mono ?_); rintro e wd ⟨A4, c4, rfl, hown4, hb10⟩)
      | (go_at_call 66; (refine (KF.out _ _ _ _ (by assumption)).mono ?_); rintro e we ⟨rfl, hb11⟩; have HSV := Lib.hid (TD.step (a := a.t) (b := b.t) (w := w) (by assumption) hb11); unfold Dy.v)
      | (go_at_call 61; (with_reducible refine (KRp.out _).mono ?_); rintro e wa ⟨v1, rfl, hown1, hb7⟩; obtain ⟨A1, c1, rfl, hc1⟩ := hown1.len; rw [dl_length] at hown1 hc1 ⊢)
      | (go_at_call 61; (with_reducible refine (KRq.out _).mono ?_); rintro e wc ⟨v3, rfl, hown3, hb9⟩; obtain ⟨A3, c3, rfl, hc3⟩ := hown3.len; rw [dl_length] at hown3 hc3 ⊢))
  obtain ⟨r0, r1, r2, r3, r4, r5, r6⟩ := HSV.out.cells
  have hfin := below_put HSV.out.1.1 (show w.heap.size ≤ w.heap.size + 2 by omega)
  clear M0 M1 M2 M3 M4 M5 M6 M7 M8 M9 M10 M11
  go_wp2_with fail
  refine bodyPost_ret (v := .tuple #[D.v, .int .i64 E]) (by simp [results, Tryd.results46, go_sem, r0, r1, r2, r3, Dy.v]) rfl ⟨rfl, ?_⟩
  exact hfin _ _ _
theorem DMul_c (a b : Dy) (w : World) (ha : a.Ok) (hb : b.Ok) :
    Calls Tryd.prog 42 #[.agg #[.bool a.g, .string (natS a.n), .int .i64 a.x], .agg #[.bool b.g, .string (natS b.n), .int .i64 b.x]] w (MulPost a b w) := by
  rcases ha with rfl | ha
  · unfold MulPost
    rw [(mul_z (a := Dy.zero) (b := b) (Or.inl rfl)).1, (mul_z (a := Dy.zero) (b := b) (Or.inl rfl)).2, Dy.zero_v]
    show Calls _ _ #[.agg #[.bool false, .string (natS 0), .int .i64 0], _] _ _
    rw [natS_zero]; exact DMul_zl b w hb
  · rcases hb with rfl | hb
    · unfold MulPost
      rw [(mul_z (a := a) (b := Dy.zero) (Or.inr rfl)).1, (mul_z (a := a) (b := Dy.zero) (Or.inr rfl)).2, Dy.zero_v]
      show Calls _ _ #[_, .agg #[.bool false, .string (natS 0), .int .i64 0]] _ _
      rw [natS_zero]; exact DMul_zr a w ha
    · exact DMul_num a b w ha hb
theorem rMul3_c (a b : Dy) (w : World) (ha : a.Ok) (hb : b.Ok) :
    Calls Tryd.prog 46 #[.agg #[.bool a.g, .string (natS a.n), .int .i64 a.x], .agg #[.bool b.g, .string (natS b.n), .int .i64 b.x]] w (MulPost a b w) := by
  rcases ha with rfl | ha
  · unfold MulPost
    rw [(mul_z (a := Dy.zero) (b := b) (Or.inl rfl)).1, (mul_z (a := Dy.zero) (b := b) (Or.inl rfl)).2, Dy.zero_v]
    show Calls _ _ #[.agg #[.bool false, .string (natS 0), .int .i64 0], _] _ _
    rw [natS_zero]; exact rMul3_zl b w
  · rcases hb with rfl | hb
    · unfold MulPost
      rw [(mul_z (a := a) (b := Dy.zero) (Or.inr rfl)).1, (mul_z (a := a) (b := Dy.zero) (Or.inr rfl)).2, Dy.zero_v]
      show Calls _ _ #[_, .agg #[.bool false, .string (natS 0), .int .i64 0]] _ _
      rw [natS_zero]; exact rMul3_zr a w ha
    · exact rMul3_num a b w ha hb
end Go.Proofs.YtjkonfopajihdaaDoor
set_option linter.unusedSimpArgs false
set_option linter.unusedVariables false
namespace Go.Proofs.YtjkonfopajihdaaDoor
open Go Go.RowKit Nt

set_option maxRecDepth 100000 in
theorem nothing_c (w : World) : Calls Tryd.prog 43 #[.agg #[.bool false, .string ⟨#[]⟩, .int .i64 0], .int .i64 2] w fun e w' => e = .returned (.bool true) ∧ Below w.heap.size w w' := by
  go_enter Tryd.func43, Tryd.ntmps43
  go_wp2
  go_ret
  exact ⟨rfl, (Below.refl _ _).alloc (Nat.le_refl _) _⟩
set_option maxRecDepth 100000 in
set_option maxHeartbeats 2000000 in
theorem DyadSums_a (a b : Dt) (w : World) (ha : a.s.size ≤ 9223372036854775807) (hb : b.s.size ≤ 9223372036854775807) (hn : ¬ a.Ok) (hG : Globs glT w) :
    Calls Tryd.prog 7 #[.agg #[.bool a.g, .string a.s, .int .i64 a.x], .agg #[.bool b.g, .string b.s, .int .i64 b.x]] w fun e w' => e = .returned (.bool true) ∧ Below w.heap.size w w' := by
  have K1 := Lib.hid (fun w => DAdd_bad a b w ha hb (fun c => hn c.1))
  have K2 := Lib.hid (fun w => DSub_bad a b w ha hb (fun c => hn c.1))
  have K3 := Lib.hid (fun w => DMul_bad a b w ha hb (fun c => hn c.1))
  have K4 := Lib.hid (fun w => rMayT_no a w ha hn)
  have T0 := TB.start w a b
  have HG := Lib.hid hG
  clear ha hb hn hG
  go_enter Tryd.func7, Tryd.ntmps7
  go_wp2_with fail
  refine (K1.out _).mono ?_
  rintro e v1 ⟨rfl, hb⟩
  replace T0 := T0.step hb
  clear hb
  obtain ⟨p0, p1, p2, p3, p4, p5, p6⟩ := T0.2.1.facts
  obtain ⟨q0, q1, q2, q3, q4, q5, q6⟩ := T0.2.2.facts
  go_wp2_with fail
  refine (K2.out _).mono ?_
  rintro e v2 ⟨rfl, hb⟩
  replace T0 := (T0.more (.cells #[.bool false, .string ⟨#[]⟩, .int .i64 0] 24)).step hb
  have X1 := (Box3.new v1 (.bool false) (.string ⟨#[]⟩) (.int .i64 0)).step hb
  obtain ⟨B1, hB1⟩ : ∃ B, B = v1.heap.size := ⟨_, rfl⟩
  rw [← hB1] at X1 ⊢
  clear hB1
  clear hb p0 p1 p2 p3 p4 p5 p6 q0 q1 q2 q3 q4 q5 q6
  obtain ⟨p0, p1, p2, p3, p4, p5, p6⟩ := T0.2.1.facts
  obtain ⟨q0, q1, q2, q3, q4, q5, q6⟩ := T0.2.2.facts
  obtain ⟨m0_0, m0_1, m0_2, m0_3, m0_4, m0_5, m0_6⟩ := X1.facts
  go_wp2_with fail
  refine (K3.out _).mono ?_
  rintro e v3 ⟨rfl, hb⟩
  replace X1 := (X1.more (.cells #[.bool false, .string ⟨#[]⟩, .int .i64 0] 24)).step hb
  replace T0 := (T0.more (.cells #[.bool false, .string ⟨#[]⟩, .int .i64 0] 24)).step hb
  have X2 := (Box3.new v2 (.bool false) (.string ⟨#[]⟩) (.int .i64 0)).step hb
  obtain ⟨B2, hB2⟩ : ∃ B, B = v2.heap.size := ⟨_, rfl⟩
  rw [← hB2] at X2 ⊢
  clear hB2
  clear hb p0 p1 p2 p3 p4 p5 p6 q0 q1 q2 q3 q4 q5 q6 m0_0 m0_1 m0_2 m0_3 m0_4 m0_5 m0_6
  obtain ⟨p0, p1, p2, p3, p4, p5, p6⟩ := T0.2.1.facts
  obtain ⟨q0, q1, q2, q3, q4, q5, q6⟩ := T0.2.2.facts
  obtain ⟨m0_0, m0_1, m0_2, m0_3, m0_4, m0_5, m0_6⟩ := X1.facts
  obtain ⟨m1_0, m1_1, m1_2, m1_3, m1_4, m1_5, m1_6⟩ := X2.facts
  go_wp2_with fail
  refine (K4.out _).mono ?_
  rintro e v4 ⟨rfl, hb⟩
  replace X1 := (X1.more (.cells #[.bool false, .string ⟨#[]⟩, .int .i64 0] 24)).step hb
  replace X2 := (X2.more (.cells #[.bool false, .string ⟨#[]⟩, .int .i64 0] 24)).step hb
  replace T0 := (T0.more (.cells #[.bool false, .string ⟨#[]⟩, .int .i64 0] 24)).step hb
  have X3 := (Box3.new v3 (.bool false) (.string ⟨#[]⟩) (.int .i64 0)).step hb
  obtain ⟨B3, hB3⟩ : ∃ B, B = v3.heap.size := ⟨_, rfl⟩
  rw [← hB3] at X3 ⊢
  clear hB3
  clear hb p0 p1 p2 p3 p4 p5 p6 q0 q1 q2 q3 q4 q5 q6 m0_0 m0_1 m0_2 m0_3 m0_4 m0_5 m0_6 m1_0 m1_1 m1_2 m1_3 m1_4 m1_5 m1_6
  obtain ⟨p0, p1, p2, p3, p4, p5, p6⟩ := T0.2.1.facts
  obtain ⟨q0, q1, q2, q3, q4, q5, q6⟩ := T0.2.2.facts
  obtain ⟨m0_0, m0_1, m0_2, m0_3, m0_4, m0_5, m0_6⟩ := X1.facts
  obtain ⟨m1_0, m1_1, m1_2, m1_3, m1_4, m1_5, m1_6⟩ := X2.facts
  obtain ⟨m2_0, m2_1, m2_2, m2_3, m2_4, m2_5, m2_6⟩ := X3.facts
  go_wp2_with fail
  refine (nothing_c _).mono ?_
  rintro e v5 ⟨rfl, hb⟩
  replace X1 := X1.step hb
  replace X2 := X2.step hb
  replace X3 := X3.step hb
  replace T0 := T0.step hb
  clear hb p0 p1 p2 p3 p4 p5 p6 q0 q1 q2 q3 q4 q5 q6 m0_0 m0_1 m0_2 m0_3 m0_4 m0_5 m0_6 m1_0 m1_1 m1_2 m1_3 m1_4 m1_5 m1_6 m2_0 m2_1 m2_2 m2_3 m2_4 m2_5 m2_6
  obtain ⟨p0, p1, p2, p3, p4, p5, p6⟩ := T0.2.1.facts
  obtain ⟨q0, q1, q2, q3, q4, q5, q6⟩ := T0.2.2.facts
  obtain ⟨m0_0, m0_1, m0_2, m0_3, m0_4, m0_5, m0_6⟩ := X1.facts
  obtain ⟨m1_0, m1_1, m1_2, m1_3, m1_4, m1_5, m1_6⟩ := X2.facts
  obtain ⟨m2_0, m2_1, m2_2, m2_3, m2_4, m2_5, m2_6⟩ := X3.facts
  go_wp2_with fail
  refine (nothing_c _).mono ?_
  rintro e v6 ⟨rfl, hb⟩
  replace X1 := X1.step hb
  replace X2 := X2.step hb
  replace X3 := X3.step hb
  replace T0 := T0.step hb
  clear hb p0 p1 p2 p3 p4 p5 p6 q0 q1 q2 q3 q4 q5 q6 m0_0 m0_1 m0_2 m0_3 m0_4 m0_5 m0_6 m1_0 m1_1 m1_2 m1_3 m1_4 m1_5 m1_6 m2_0 m2_1 m2_2 m2_3 m2_4 m2_5 m2_6
  obtain ⟨p0, p1, p2, p3, p4, p5, p6⟩ := T0.2.1.facts
  obtain ⟨q0, q1, q2, q3, q4, q5, q6⟩ := T0.2.2.facts
  obtain ⟨m0_0, m0_1, m0_2, m0_3, m0_4, m0_5, m0_6⟩ := X1.facts
  obtain ⟨m1_0, m1_1, m1_2, m1_3, m1_4, m1_5, m1_6⟩ := X2.facts
  obtain ⟨m2_0, m2_1, m2_2, m2_3, m2_4, m2_5, m2_6⟩ := X3.facts
  go_wp2_with fail
  refine (nothing_c _).mono ?_
  rintro e v7 ⟨rfl, hb⟩
  replace X1 := X1.step hb
  replace X2 := X2.step hb
  replace X3 := X3.step hb
  replace T0 := T0.step hb
  clear hb p0 p1 p2 p3 p4 p5 p6 q0 q1 q2 q3 q4 q5 q6 m0_0 m0_1 m0_2 m0_3 m0_4 m0_5 m0_6 m1_0 m1_1 m1_2 m1_3 m1_4 m1_5 m1_6 m2_0 m2_1 m2_2 m2_3 m2_4 m2_5 m2_6
  obtain ⟨p0, p1, p2, p3, p4, p5, p6⟩ := T0.2.1.facts
  obtain ⟨q0, q1, q2, q3, q4, q5, q6⟩ := T0.2.2.facts
  obtain ⟨m0_0, m0_1, m0_2, m0_3, m0_4, m0_5, m0_6⟩ := X1.facts
  obtain ⟨m1_0, m1_1, m1_2, m1_3, m1_4, m1_5, m1_6⟩ := X2.facts
  obtain ⟨m2_0, m2_1, m2_2, m2_3, m2_4, m2_5, m2_6⟩ := X3.facts
  go_wp2_with fail
  refine (awake3_c _ (HG.out.below T0.1 (Nat.le_refl _))).mono ?_
  rintro e v8 ⟨rfl, hb⟩
  replace X1 := X1.step hb
  replace X2 := X2.step hb
  replace X3 := X3.step hb
  replace T0 := T0.step hb
  clear hb p0 p1 p2 p3 p4 p5 p6 q0 q1 q2 q3 q4 q5 q6 m0_0 m0_1 m0_2 m0_3 m0_4 m0_5 m0_6 m1_0 m1_1 m1_2 m1_3 m1_4 m1_5 m1_6 m2_0 m2_1 m2_2 m2_3 m2_4 m2_5 m2_6
  obtain ⟨p0, p1, p2, p3, p4, p5, p6⟩ := T0.2.1.facts
  obtain ⟨q0, q1, q2, q3, q4, q5, q6⟩ := T0.2.2.facts
  obtain ⟨m0_0, m0_1, m0_2, m0_3, m0_4, m0_5, m0_6⟩ := X1.facts
  obtain ⟨m1_0, m1_1, m1_2, m1_3, m1_4, m1_5, m1_6⟩ := X2.facts
  obtain ⟨m2_0, m2_1, m2_2, m2_3, m2_4, m2_5, m2_6⟩ := X3.facts
  go_wp2_with fail
  go_ret
  exact ⟨rfl, T0.1⟩
set_option maxRecDepth 100000 in
set_option maxHeartbeats 2000000 in
theorem DyadSums_b (a : Dy) (b : Dt) (w : World) (ha : a.Ok) (hb : b.s.size ≤ 9223372036854775807) (hn : ¬ b.Ok) (hG : Globs glT w) :
    Calls Tryd.prog 7 #[.agg #[.bool a.g, .string (natS a.n), .int .i64 a.x], .agg #[.bool b.g, .string b.s, .int .i64 b.x]] w fun e w' => e = .returned (.bool true) ∧ Below w.heap.size w w' := by
  have hsa : a.t.s.size ≤ 9223372036854775807 := by have := Dy.small ha; show (natS a.n).size ≤ _; omega
  have K1 := Lib.hid (fun w => DAdd_bad a.t b w hsa hb (fun c => hn c.2))
  have K2 := Lib.hid (fun w => DSub_bad a.t b w hsa hb (fun c => hn c.2))
  have K3 := Lib.hid (fun w => DMul_bad a.t b w hsa hb (fun c => hn c.2))
  have K4 := Lib.hid (fun w => rMayT_ok a w ha)
  have K5 := Lib.hid (fun w => rMayT_no b w hb hn)
  have T0 := TB.start w a.t b
  clear hsa
  unfold Dy.t at T0 K1 K2 K3
  have HG := Lib.hid hG
  clear ha hb hn hG
  go_enter Tryd.func7, Tryd.ntmps7
  go_wp2_with fail
  refine (K1.out _).mono ?_
  rintro e v1 ⟨rfl, hb⟩
  replace T0 := T0.step hb
  clear hb
  obtain ⟨p0, p1, p2, p3, p4, p5, p6⟩ := T0.2.1.facts
  obtain ⟨q0, q1, q2, q3, q4, q5, q6⟩ := T0.2.2.facts
  go_wp2_with fail
  refine (K2.out _).mono ?_
  rintro e v2 ⟨rfl, hb⟩
  replace T0 := (T0.more (.cells #[.bool false, .string ⟨#[]⟩, .int .i64 0] 24)).step hb
  have X1 := (Box3.new v1 (.bool false) (.string ⟨#[]⟩) (.int .i64 0)).step hb
  obtain ⟨B1, hB1⟩ : ∃ B, B = v1.heap.size := ⟨_, rfl⟩
  rw [← hB1] at X1 ⊢
  clear hB1
  clear hb p0 p1 p2 p3 p4 p5 p6 q0 q1 q2 q3 q4 q5 q6
  obtain ⟨p0, p1, p2, p3, p4, p5, p6⟩ := T0.2.1.facts
  obtain ⟨q0, q1, q2, q3, q4, q5, q6⟩ := T0.2.2.facts
  obtain ⟨m0_0, m0_1, m0_2, m0_3, m0_4, m0_5, m0_6⟩ := X1.facts
  go_wp2_with fail
  refine (K3.out _).mono ?_
  rintro e v3 ⟨rfl, hb⟩
  replace X1 := (X1.more (.cells #[.bool false, .string ⟨#[]⟩, .int .i64 0] 24)).step hb
  replace T0 := (T0.more (.cells #[.bool false, .string ⟨#[]⟩, .int .i64 0] 24)).step hb
  have X2 := (Box3.new v2 (.bool false) (.string ⟨#[]⟩) (.int .i64 0)).step hb
  obtain ⟨B2, hB2⟩ : ∃ B, B = v2.heap.size := ⟨_, rfl⟩
  rw [← hB2] at X2 ⊢
  clear hB2
  clear hb p0 p1 p2 p3 p4 p5 p6 q0 q1 q2 q3 q4 q5 q6 m0_0 m0_1 m0_2 m0_3 m0_4 m0_5 m0_6
  obtain ⟨p0, p1, p2, p3, p4, p5, p6⟩ := T0.2.1.facts
  obtain ⟨q0, q1, q2, q3, q4, q5, q6⟩ := T0.2.2.facts
  obtain ⟨m0_0, m0_1, m0_2, m0_3, m0_4, m0_5, m0_6⟩ := X1.facts
  obtain ⟨m1_0, m1_1, m1_2, m1_3, m1_4, m1_5, m1_6⟩ := X2.facts
  go_wp2_with fail
  refine (K4.out _).mono ?_
  rintro e v4 ⟨rfl, hb⟩
  replace X1 := (X1.more (.cells #[.bool false, .string ⟨#[]⟩, .int .i64 0] 24)).step hb
  replace X2 := (X2.more (.cells #[.bool false, .string ⟨#[]⟩, .int .i64 0] 24)).step hb
  replace T0 := (T0.more (.cells #[.bool false, .string ⟨#[]⟩, .int .i64 0] 24)).step hb
  have X3 := (Box3.new v3 (.bool false) (.string ⟨#[]⟩) (.int .i64 0)).step hb
  obtain ⟨B3, hB3⟩ : ∃ B, B = v3.heap.size := ⟨_, rfl⟩
  rw [← hB3] at X3 ⊢
  clear hB3
  clear hb p0 p1 p2 p3 p4 p5 p6 q0 q1 q2 q3 q4 q5 q6 m0_0 m0_1 m0_2 m0_3 m0_4 m0_5 m0_6 m1_0 m1_1 m1_2 m1_3 m1_4 m1_5 m1_6
  obtain ⟨p0, p1, p2, p3, p4, p5, p6⟩ := T0.2.1.facts
  obtain ⟨q0, q1, q2, q3, q4, q5, q6⟩ := T0.2.2.facts
  obtain ⟨m0_0, m0_1, m0_2, m0_3, m0_4, m0_5, m0_6⟩ := X1.facts
  obtain ⟨m1_0, m1_1, m1_2, m1_3, m1_4, m1_5, m1_6⟩ := X2.facts
  obtain ⟨m2_0, m2_1, m2_2, m2_3, m2_4, m2_5, m2_6⟩ := X3.facts
  go_wp2_with fail
  refine (K5.out _).mono ?_
  rintro e v5 ⟨rfl, hb⟩
  replace X1 := X1.step hb
  replace X2 := X2.step hb
  replace X3 := X3.step hb
  replace T0 := T0.step hb
  clear hb p0 p1 p2 p3 p4 p5 p6 q0 q1 q2 q3 q4 q5 q6 m0_0 m0_1 m0_2 m0_3 m0_4 m0_5 m0_6 m1_0 m1_1 m1_2 m1_3 m1_4 m1_5 m1_6 m2_0 m2_1 m2_2 m2_3 m2_4 m2_5 m2_6
  obtain ⟨p0, p1, p2, p3, p4, p5, p6⟩ := T0.2.1.facts
  obtain ⟨q0, q1, q2, q3, q4, q5, q6⟩ := T0.2.2.facts
  obtain ⟨m0_0, m0_1, m0_2, m0_3, m0_4, m0_5, m0_6⟩ := X1.facts
  obtain ⟨m1_0, m1_1, m1_2, m1_3, m1_4, m1_5, m1_6⟩ := X2.facts
  obtain ⟨m2_0, m2_1, m2_2, m2_3, m2_4, m2_5, m2_6⟩ := X3.facts
  go_wp2_with fail
  refine (nothing_c _).mono ?_
  rintro e v6 ⟨rfl, hb⟩
  replace X1 := X1.step hb
  replace X2 := X2.step hb
  replace X3 := X3.step hb
  replace T0 := T0.step hb
  clear hb p0 p1 p2 p3 p4 p5 p6 q0 q1 q2 q3 q4 q5 q6 m0_0 m0_1 m0_2 m0_3 m0_4 m0_5 m0_6 m1_0 m1_1 m1_2 m1_3 m1_4 m1_5 m1_6 m2_0 m2_1 m2_2 m2_3 m2_4 m2_5 m2_6
  obtain ⟨p0, p1, p2, p3, p4, p5, p6⟩ := T0.2.1.facts
  obtain ⟨q0, q1, q2, q3, q4, q5, q6⟩ := T0.2.2.facts
  obtain ⟨m0_0, m0_1, m0_2, m0_3, m0_4, m0_5, m0_6⟩ := X1.facts
  obtain ⟨m1_0, m1_1, m1_2, m1_3, m1_4, m1_5, m1_6⟩ := X2.facts
  obtain ⟨m2_0, m2_1, m2_2, m2_3, m2_4, m2_5, m2_6⟩ := X3.facts
  go_wp2_with fail
  refine (nothing_c _).mono ?_
  rintro e v7 ⟨rfl, hb⟩
  replace X1 := X1.step hb
  replace X2 := X2.step hb
  replace X3 := X3.step hb
  replace T0 := T0.step hb
  clear hb p0 p1 p2 p3 p4 p5 p6 q0 q1 q2 q3 q4 q5 q6 m0_0 m0_1 m0_2 m0_3 m0_4 m0_5 m0_6 m1_0 m1_1 m1_2 m1_3 m1_4 m1_5 m1_6 m2_0 m2_1 m2_2 m2_3 m2_4 m2_5 m2_6
  obtain ⟨p0, p1, p2, p3, p4, p5, p6⟩ := T0.2.1.facts
  obtain ⟨q0, q1, q2, q3, q4, q5, q6⟩ := T0.2.2.facts
  obtain ⟨m0_0, m0_1, m0_2, m0_3, m0_4, m0_5, m0_6⟩ := X1.facts
  obtain ⟨m1_0, m1_1, m1_2, m1_3, m1_4, m1_5, m1_6⟩ := X2.facts
  obtain ⟨m2_0, m2_1, m2_2, m2_3, m2_4, m2_5, m2_6⟩ := X3.facts
  go_wp2_with fail
  refine (nothing_c _).mono ?_
  rintro e v8 ⟨rfl, hb⟩
  replace X1 := X1.step hb
  replace X2 := X2.step hb
  replace X3 := X3.step hb
  replace T0 := T0.step hb
  clear hb p0 p1 p2 p3 p4 p5 p6 q0 q1 q2 q3 q4 q5 q6 m0_0 m0_1 m0_2 m0_3 m0_4 m0_5 m0_6 m1_0 m1_1 m1_2 m1_3 m1_4 m1_5 m1_6 m2_0 m2_1 m2_2 m2_3 m2_4 m2_5 m2_6
  obtain ⟨p0, p1, p2, p3, p4, p5, p6⟩ := T0.2.1.facts
  obtain ⟨q0, q1, q2, q3, q4, q5, q6⟩ := T0.2.2.facts
  obtain ⟨m0_0, m0_1, m0_2, m0_3, m0_4, m0_5, m0_6⟩ := X1.facts
  obtain ⟨m1_0, m1_1, m1_2, m1_3, m1_4, m1_5, m1_6⟩ := X2.facts
  obtain ⟨m2_0, m2_1, m2_2, m2_3, m2_4, m2_5, m2_6⟩ := X3.facts
  go_wp2_with fail
  refine (awake3_c _ (HG.out.below T0.1 (Nat.le_refl _))).mono ?_
  rintro e v9 ⟨rfl, hb⟩
  replace X1 := X1.step hb
  replace X2 := X2.step hb
  replace X3 := X3.step hb
  replace T0 := T0.step hb
  clear hb p0 p1 p2 p3 p4 p5 p6 q0 q1 q2 q3 q4 q5 q6 m0_0 m0_1 m0_2 m0_3 m0_4 m0_5 m0_6 m1_0 m1_1 m1_2 m1_3 m1_4 m1_5 m1_6 m2_0 m2_1 m2_2 m2_3 m2_4 m2_5 m2_6
  obtain ⟨p0, p1, p2, p3, p4, p5, p6⟩ := T0.2.1.facts
  obtain ⟨q0, q1, q2, q3, q4, q5, q6⟩ := T0.2.2.facts
  obtain ⟨m0_0, m0_1, m0_2, m0_3, m0_4, m0_5, m0_6⟩ := X1.facts
  obtain ⟨m1_0, m1_1, m1_2, m1_3, m1_4, m1_5, m1_6⟩ := X2.facts
  obtain ⟨m2_0, m2_1, m2_2, m2_3, m2_4, m2_5, m2_6⟩ := X3.facts
  go_wp2_with fail
  go_ret
  exact ⟨rfl, T0.1⟩
set_option maxRecDepth 100000 in
set_option maxHeartbeats 2000000 in
theorem DyadSums_ab (a b : Dy) (w : World) (ha : a.Ok) (hb : b.Ok) (hG : Globs glT w) :
    Calls Tryd.prog 7 #[.agg #[.bool a.g, .string (natS a.n), .int .i64 a.x], .agg #[.bool b.g, .string (natS b.n), .int .i64 b.x]] w fun e w' => e = .returned (.bool true) ∧ Below w.heap.size w w' := by
  have K1 := Lib.hid (fun w hG => DAdd_c a b w ha hb hG)
  have K2 := Lib.hid (fun w hG => DSub_c a b w ha hb hG)
  have K3 := Lib.hid (fun w => DMul_c a b w ha hb)
  have K4 := Lib.hid (fun w => rMayT_ok a w ha)
  have K5 := Lib.hid (fun w => rMayT_ok b w hb)
  have K6 := Lib.hid (fun w => rAdd3_c a b w ha hb)
  have K7 := Lib.hid (fun w => rSub3_c a b w ha hb)
  have K8 := Lib.hid (fun w => rMul3_c a b w ha hb)
  have T0 := TB.start w a.t b.t
  unfold AddPost at K1 K2 K6 K7
  unfold MulPost at K3 K8
  unfold Dy.t at T0
  have HG := Lib.hid hG
  clear ha hb hG
  generalize addD a b = D1 at *
  generalize addE a b = E1 at *
  generalize addD a (negD b) = D2 at *
  generalize addE a (negD b) = E2 at *
  generalize mulD a b = D3 at *
  generalize mulE a b = E3 at *
  go_enter Tryd.func7, Tryd.ntmps7
  go_wp2_with fail
  refine (K1.out _ (HG.out.below T0.1 (Nat.le_refl _))).mono ?_
  rintro e v1 ⟨rfl, hb⟩
  replace T0 := T0.step hb
  clear hb
  obtain ⟨p0, p1, p2, p3, p4, p5, p6⟩ := T0.2.1.facts
  obtain ⟨q0, q1, q2, q3, q4, q5, q6⟩ := T0.2.2.facts
  unfold Dy.v
  go_wp2_with fail
  refine (K2.out _ (HG.out.below (T0.more _).1 (Nat.le_refl _))).mono ?_
  rintro e v2 ⟨rfl, hb⟩
  replace T0 := (T0.more (.cells #[.bool D1.g, .string (natS D1.n), .int .i64 D1.x] 24)).step hb
  have X1 := (Box3.new v1 (.bool D1.g) (.string (natS D1.n)) (.int .i64 D1.x)).step hb
  obtain ⟨B1, hB1⟩ : ∃ B, B = v1.heap.size := ⟨_, rfl⟩
  rw [← hB1] at X1 ⊢
  clear hB1
  clear hb p0 p1 p2 p3 p4 p5 p6 q0 q1 q2 q3 q4 q5 q6
  obtain ⟨p0, p1, p2, p3, p4, p5, p6⟩ := T0.2.1.facts
  obtain ⟨q0, q1, q2, q3, q4, q5, q6⟩ := T0.2.2.facts
  obtain ⟨m0_0, m0_1, m0_2, m0_3, m0_4, m0_5, m0_6⟩ := X1.facts
  unfold Dy.v
  go_wp2_with fail
  refine (K3.out _).mono ?_
  rintro e v3 ⟨rfl, hb⟩
  replace X1 := (X1.more (.cells #[.bool D2.g, .string (natS D2.n), .int .i64 D2.x] 24)).step hb
  replace T0 := (T0.more (.cells #[.bool D2.g, .string (natS D2.n), .int .i64 D2.x] 24)).step hb
  have X2 := (Box3.new v2 (.bool D2.g) (.string (natS D2.n)) (.int .i64 D2.x)).step hb
  obtain ⟨B2, hB2⟩ : ∃ B, B = v2.heap.size := ⟨_, rfl⟩
  rw [← hB2] at X2 ⊢
  clear hB2
  clear hb p0 p1 p2 p3 p4 p5 p6 q0 q1 q2 q3 q4 q5 q6 m0_0 m0_1 m0_2 m0_3 m0_4 m0_5 m0_6
  obtain ⟨p0, p1, p2, p3, p4, p5, p6⟩ := T0.2.1.facts
  obtain ⟨q0, q1, q2, q3, q4, q5, q6⟩ := T0.2.2.facts
  obtain ⟨m0_0, m0_1, m0_2, m0_3, m0_4, m0_5, m0_6⟩ := X1.facts
  obtain ⟨m1_0, m1_1, m1_2, m1_3, m1_4, m1_5, m1_6⟩ := X2.facts
  unfold Dy.v
  go_wp2_with fail
  refine (K4.out _).mono ?_
  rintro e v4 ⟨rfl, hb⟩
  replace X1 := (X1.more (.cells #[.bool D3.g, .string (natS D3.n), .int .i64 D3.x] 24)).step hb
  replace X2 := (X2.more (.cells #[.bool D3.g, .string (natS D3.n), .int .i64 D3.x] 24)).step hb
  replace T0 := (T0.more (.cells #[.bool D3.g, .string (natS D3.n), .int .i64 D3.x] 24)).step hb
  have X3 := (Box3.new v3 (.bool D3.g) (.string (natS D3.n)) (.int .i64 D3.x)).step hb
  obtain ⟨B3, hB3⟩ : ∃ B, B = v3.heap.size := ⟨_, rfl⟩
  rw [← hB3] at X3 ⊢
  clear hB3
  clear hb p0 p1 p2 p3 p4 p5 p6 q0 q1 q2 q3 q4 q5 q6 m0_0 m0_1 m0_2 m0_3 m0_4 m0_5 m0_6 m1_0 m1_1 m1_2 m1_3 m1_4 m1_5 m1_6
  obtain ⟨p0, p1, p2, p3, p4, p5, p6⟩ := T0.2.1.facts
  obtain ⟨q0, q1, q2, q3, q4, q5, q6⟩ := T0.2.2.facts
  obtain ⟨m0_0, m0_1, m0_2, m0_3, m0_4, m0_5, m0_6⟩ := X1.facts
  obtain ⟨m1_0, m1_1, m1_2, m1_3, m1_4, m1_5, m1_6⟩ := X2.facts
  obtain ⟨m2_0, m2_1, m2_2, m2_3, m2_4, m2_5, m2_6⟩ := X3.facts
  go_wp2_with fail
  refine (K5.out _).mono ?_
  rintro e v5 ⟨rfl, hb⟩
  replace X1 := X1.step hb
  replace X2 := X2.step hb
  replace X3 := X3.step hb
  replace T0 := T0.step hb
  clear hb p0 p1 p2 p3 p4 p5 p6 q0 q1 q2 q3 q4 q5 q6 m0_0 m0_1 m0_2 m0_3 m0_4 m0_5 m0_6 m1_0 m1_1 m1_2 m1_3 m1_4 m1_5 m1_6 m2_0 m2_1 m2_2 m2_3 m2_4 m2_5 m2_6
  obtain ⟨p0, p1, p2, p3, p4, p5, p6⟩ := T0.2.1.facts
  obtain ⟨q0, q1, q2, q3, q4, q5, q6⟩ := T0.2.2.facts
  obtain ⟨m0_0, m0_1, m0_2, m0_3, m0_4, m0_5, m0_6⟩ := X1.facts
  obtain ⟨m1_0, m1_1, m1_2, m1_3, m1_4, m1_5, m1_6⟩ := X2.facts
  obtain ⟨m2_0, m2_1, m2_2, m2_3, m2_4, m2_5, m2_6⟩ := X3.facts
  go_wp2_with fail
  refine (K6.out _).mono ?_
  rintro e v6 ⟨rfl, hb⟩
  replace X1 := X1.step hb
  replace X2 := X2.step hb
  replace X3 := X3.step hb
  replace T0 := T0.step hb
  clear hb p0 p1 p2 p3 p4 p5 p6 q0 q1 q2 q3 q4 q5 q6 m0_0 m0_1 m0_2 m0_3 m0_4 m0_5 m0_6 m1_0 m1_1 m1_2 m1_3 m1_4 m1_5 m1_6 m2_0 m2_1 m2_2 m2_3 m2_4 m2_5 m2_6
  obtain ⟨p0, p1, p2, p3, p4, p5, p6⟩ := T0.2.1.facts
  obtain ⟨q0, q1, q2, q3, q4, q5, q6⟩ := T0.2.2.facts
  obtain ⟨m0_0, m0_1, m0_2, m0_3, m0_4, m0_5, m0_6⟩ := X1.facts
  obtain ⟨m1_0, m1_1, m1_2, m1_3, m1_4, m1_5, m1_6⟩ := X2.facts
  obtain ⟨m2_0, m2_1, m2_2, m2_3, m2_4, m2_5, m2_6⟩ := X3.facts
  unfold Dy.v
  go_wp2_with fail
  refine (K7.out _).mono ?_
  rintro e v7 ⟨rfl, hb⟩
  replace X1 := (X1.more (.cells #[.bool D1.g, .string (natS D1.n), .int .i64 D1.x] 24)).step hb
  replace X2 := (X2.more (.cells #[.bool D1.g, .string (natS D1.n), .int .i64 D1.x] 24)).step hb
  replace X3 := (X3.more (.cells #[.bool D1.g, .string (natS D1.n), .int .i64 D1.x] 24)).step hb
  replace T0 := (T0.more (.cells #[.bool D1.g, .string (natS D1.n), .int .i64 D1.x] 24)).step hb
  have X4 := (Box3.new v6 (.bool D1.g) (.string (natS D1.n)) (.int .i64 D1.x)).step hb
  obtain ⟨B4, hB4⟩ : ∃ B, B = v6.heap.size := ⟨_, rfl⟩
  rw [← hB4] at X4 ⊢
  clear hB4
  clear hb p0 p1 p2 p3 p4 p5 p6 q0 q1 q2 q3 q4 q5 q6 m0_0 m0_1 m0_2 m0_3 m0_4 m0_5 m0_6 m1_0 m1_1 m1_2 m1_3 m1_4 m1_5 m1_6 m2_0 m2_1 m2_2 m2_3 m2_4 m2_5 m2_6
  obtain ⟨p0, p1, p2, p3, p4, p5, p6⟩ := T0.2.1.facts
  obtain ⟨q0, q1, q2, q3, q4, q5, q6⟩ := T0.2.2.facts
  obtain ⟨m0_0, m0_1, m0_2, m0_3, m0_4, m0_5, m0_6⟩ := X1.facts
  obtain ⟨m1_0, m1_1, m1_2, m1_3, m1_4, m1_5, m1_6⟩ := X2.facts
  obtain ⟨m2_0, m2_1, m2_2, m2_3, m2_4, m2_5, m2_6⟩ := X3.facts
  obtain ⟨m3_0, m3_1, m3_2, m3_3, m3_4, m3_5, m3_6⟩ := X4.facts
  unfold Dy.v
  go_wp2_with fail
  refine (K8.out _).mono ?_
  rintro e v8 ⟨rfl, hb⟩
  replace X1 := (X1.more (.cells #[.bool D2.g, .string (natS D2.n), .int .i64 D2.x] 24)).step hb
  replace X2 := (X2.more (.cells #[.bool D2.g, .string (natS D2.n), .int .i64 D2.x] 24)).step hb
  replace X3 := (X3.more (.cells #[.bool D2.g, .string (natS D2.n), .int .i64 D2.x] 24)).step hb
  replace X4 := (X4.more (.cells #[.bool D2.g, .string (natS D2.n), .int .i64 D2.x] 24)).step hb
  replace T0 := (T0.more (.cells #[.bool D2.g, .string (natS D2.n), .int .i64 D2.x] 24)).step hb
  have X5 := (Box3.new v7 (.bool D2.g) (.string (natS D2.n)) (.int .i64 D2.x)).step hb
  obtain ⟨B5, hB5⟩ : ∃ B, B = v7.heap.size := ⟨_, rfl⟩
  rw [← hB5] at X5 ⊢
  clear hB5
  clear hb p0 p1 p2 p3 p4 p5 p6 q0 q1 q2 q3 q4 q5 q6 m0_0 m0_1 m0_2 m0_3 m0_4 m0_5 m0_6 m1_0 m1_1 m1_2 m1_3 m1_4 m1_5 m1_6 m2_0 m2_1 m2_2 m2_3 m2_4 m2_5 m2_6 m3_0 m3_1 m3_2 m3_3 m3_4 m3_5 m3_6
  obtain ⟨p0, p1, p2, p3, p4, p5, p6⟩ := T0.2.1.facts
  obtain ⟨q0, q1, q2, q3, q4, q5, q6⟩ := T0.2.2.facts
  obtain ⟨m0_0, m0_1, m0_2, m0_3, m0_4, m0_5, m0_6⟩ := X1.facts
  obtain ⟨m1_0, m1_1, m1_2, m1_3, m1_4, m1_5, m1_6⟩ := X2.facts
  obtain ⟨m2_0, m2_1, m2_2, m2_3, m2_4, m2_5, m2_6⟩ := X3.facts
  obtain ⟨m3_0, m3_1, m3_2, m3_3, m3_4, m3_5, m3_6⟩ := X4.facts
  obtain ⟨m4_0, m4_1, m4_2, m4_3, m4_4, m4_5, m4_6⟩ := X5.facts
  unfold Dy.v
  go_wp2_with fail
  refine (awake3_c _ (HG.out.below (T0.more _).1 (Nat.le_refl _))).mono ?_
  rintro e v9 ⟨rfl, hb⟩
  replace X1 := (X1.more (.cells #[.bool D3.g, .string (natS D3.n), .int .i64 D3.x] 24)).step hb
  replace X2 := (X2.more (.cells #[.bool D3.g, .string (natS D3.n), .int .i64 D3.x] 24)).step hb
  replace X3 := (X3.more (.cells #[.bool D3.g, .string (natS D3.n), .int .i64 D3.x] 24)).step hb
  replace X4 := (X4.more (.cells #[.bool D3.g, .string (natS D3.n), .int .i64 D3.x] 24)).step hb
  replace X5 := (X5.more (.cells #[.bool D3.g, .string (natS D3.n), .int .i64 D3.x] 24)).step hb
  replace T0 := (T0.more (.cells #[.bool D3.g, .string (natS D3.n), .int .i64 D3.x] 24)).step hb
  have X6 := (Box3.new v8 (.bool D3.g) (.string (natS D3.n)) (.int .i64 D3.x)).step hb
  obtain ⟨B6, hB6⟩ : ∃ B, B = v8.heap.size := ⟨_, rfl⟩
  rw [← hB6] at X6 ⊢
  clear hB6
  clear hb p0 p1 p2 p3 p4 p5 p6 q0 q1 q2 q3 q4 q5 q6 m0_0 m0_1 m0_2 m0_3 m0_4 m0_5 m0_6 m1_0 m1_1 m1_2 m1_3 m1_4 m1_5 m1_6 m2_0 m2_1 m2_2 m2_3 m2_4 m2_5 m2_6 m3_0 m3_1 m3_2 m3_3 m3_4 m3_5 m3_6 m4_0 m4_1 m4_2 m4_3 m4_4 m4_5 m4_6
  obtain ⟨p0, p1, p2, p3, p4, p5, p6⟩ := T0.2.1.facts
  obtain ⟨q0, q1, q2, q3, q4, q5, q6⟩ := T0.2.2.facts
  obtain ⟨m0_0, m0_1, m0_2, m0_3, m0_4, m0_5, m0_6⟩ := X1.facts
  obtain ⟨m1_0, m1_1, m1_2, m1_3, m1_4, m1_5, m1_6⟩ := X2.facts
  obtain ⟨m2_0, m2_1, m2_2, m2_3, m2_4, m2_5, m2_6⟩ := X3.facts
  obtain ⟨m3_0, m3_1, m3_2, m3_3, m3_4, m3_5, m3_6⟩ := X4.facts
  obtain ⟨m4_0, m4_1, m4_2, m4_3, m4_4, m4_5, m4_6⟩ := X5.facts
  obtain ⟨m5_0, m5_1, m5_2, m5_3, m5_4, m5_5, m5_6⟩ := X6.facts
  go_wp2_with fail
  go_ret
  exact ⟨rfl, T0.1⟩
theorem DyadSums_law (g1 : Bool) (s1 : ByteArray) (x1 : Int) (g2 : Bool) (s2 : ByteArray) (x2 : Int) (w : World) (h1 : s1.size ≤ 9223372036854775807) (h2 : s2.size ≤ 9223372036854775807) (hG : Globs glT w) :
    Calls Tryd.prog 7 #[.agg #[.bool g1, .string s1, .int .i64 x1], .agg #[.bool g2, .string s2, .int .i64 x2]] w fun e w' => e = .returned (.bool true) ∧ Below w.heap.size w w' := by
  by_cases ha : (Dt.mk g1 s1 x1).Ok
  · obtain ⟨a, ha1, ha2⟩ := Dt.dy ha
    unfold Dy.t at ha2
    injection ha2 with e1 e2 e3
    subst e1 e2 e3
    by_cases hb : (Dt.mk g2 s2 x2).Ok
    · obtain ⟨b, hb1, hb2⟩ := Dt.dy hb
      unfold Dy.t at hb2
      injection hb2 with e1 e2 e3
      subst e1 e2 e3
      exact DyadSums_ab a b w ha1 hb1 hG
    · exact DyadSums_b a ⟨g2, s2, x2⟩ w ha1 h2 hb hG
  · exact DyadSums_a ⟨g1, s1, x1⟩ ⟨g2, s2, x2⟩ w h1 h2 ha hG
end Go.Proofs.YtjkonfopajihdaaDoor
