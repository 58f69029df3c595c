/- Texts put together: D41 D42 D43 SyD SyE D46 G1 G2 G3 GBox GL1 GL2 GL3 GL4 GL5 G4 G5 GL6 GL7 GL8 GL9 GL10 Aw06. -/
import Derived.Test.YtdknipaimfecaaaGreatDoorU3
import Derived.Test.YtdknipaimfecaaaGreatDoorU2
import Derived.Deep.MidRow
import Derived.Deep.RegionHeld3
import Derived.Deep.RegionLaw
set_option linter.unusedSimpArgs false
set_option linter.unusedVariables false
namespace Go.Proofs.YtdknipaimfecaaaGreatDoor
open Go Go.RowKit Nt
@[irreducible] def mulD (a b : Dy) : Dy := mkD (a.g != b.g) (a.n * b.n) (a.x + b.x)
@[irreducible] def mulE (a b : Dy) : Int := mkE (a.n * b.n) (a.x + b.x)
theorem mulD_eq (a b : Dy) : mulD a b = mkD (a.g != b.g) (a.n * b.n) (a.x + b.x) := by unfold mulD; rfl
theorem mulE_eq (a b : Dy) : mulE a b = mkE (a.n * b.n) (a.x + b.x) := by unfold mulE; rfl
theorem mul_z {a b : Dy} (h : a.n = 0 ∨ b.n = 0) : mulD a b = Dy.zero ∧ mulE a b = 0 := by
  have e : a.n * b.n = 0 := by rcases h with h | h <;> rw [h] <;> simp
  rw [mulD_eq, mulE_eq, e, mkD_zero, mkE_zero]; exact ⟨rfl, rfl⟩
theorem mulD_Ok (a b : Dy) : (mulD a b).Ok := by rw [mulD_eq]; exact mkD_Ok _ _ _
def MulPost (a b : Dy) (w : World) (e : Ending) (w' : World) : Prop := e = .returned (.tuple #[(mulD a b).v, .int .i64 (mulE a b)]) ∧ Below w.heap.size w w'
set_option maxRecDepth 100000 in
set_option maxHeartbeats 2000000 in
theorem DMul_zl (b : Dy) (w : World) (hb : b.Ok) :
    Calls Tryz.prog 32 #[.agg #[.bool false, .string ⟨#[]⟩, .int .i64 0], .agg #[.bool b.g, .string (natS b.n), .int .i64 b.x]] w fun e w' => e = .returned (.tuple #[.agg #[.bool false, .string ⟨#[]⟩, .int .i64 0], .int .i64 0]) ∧ Below w.heap.size w w' := by
  have KA := Lib.hid (fun W T A hA => all_ok2 Dy.zero b (Or.inl rfl) hb W T A hA)
  simp only [Dy.zero, natS_zero] at KA
  have T0 := TC.start w ⟨false, ⟨#[]⟩, 0⟩ b.t
  unfold Dy.t at T0
  go_enter Tryz.func32, Tryz.ntmps32
  go_wp2_with fail
  refine (KA.out _ _ _ (by simp)).mono ?_
  rintro e w1 ⟨rfl, hb⟩
  replace T0 := (T0.more _).step hb
  clear hb
  obtain ⟨p0, p1, p2, p3, p4, p5, p6⟩ := T0.1.2.1.facts
  obtain ⟨q0, q1, q2, q3, q4, q5, q6⟩ := T0.1.2.2.facts
  obtain ⟨r0, r1, r2, r3, r4, r5, r6⟩ := T0.2.facts
  go_wp2_with fail
  refine bodyPost_ret (v := .tuple #[.agg #[.bool false, .string ⟨#[]⟩, .int .i64 0], .int .i64 0]) (by simp [results, Tryz.results32, go_sem, r0, r1, r2, r3]) rfl ⟨rfl, ?_⟩
  repeat (refine Below.setCell ?_ (by simp; omega) _)
  first
    | exact T0.1.1
    | exact (((Below.refl _ _).alloc (Nat.le_refl _) _).alloc (by simp) _).alloc (by simp; omega) _
set_option maxRecDepth 100000 in
set_option maxHeartbeats 2000000 in
theorem DMul_zr (a : Dy) (w : World) (ha : a.Num) :
    Calls Tryz.prog 32 #[.agg #[.bool a.g, .string (natS a.n), .int .i64 a.x], .agg #[.bool false, .string ⟨#[]⟩, .int .i64 0]] w fun e w' => e = .returned (.tuple #[.agg #[.bool false, .string ⟨#[]⟩, .int .i64 0], .int .i64 0]) ∧ Below w.heap.size w w' := by
  have KA := Lib.hid (fun W T A hA => all_ok2 a Dy.zero (Or.inr ha) (Or.inl rfl) W T A hA)
  simp only [Dy.zero, natS_zero] at KA
  have T0 := TC.start w a.t ⟨false, ⟨#[]⟩, 0⟩
  unfold Dy.t at T0
  have hE := natS_full (odd_ne ha.2.1)
  have hE2 := natS_full2 (odd_ne ha.2.1)
  clear ha
  go_enter Tryz.func32, Tryz.ntmps32
  go_wp2_with fail
  refine (KA.out _ _ _ (by simp)).mono ?_
  rintro e w1 ⟨rfl, hb⟩
  replace T0 := (T0.more _).step hb
  clear hb
  obtain ⟨p0, p1, p2, p3, p4, p5, p6⟩ := T0.1.2.1.facts
  obtain ⟨q0, q1, q2, q3, q4, q5, q6⟩ := T0.1.2.2.facts
  obtain ⟨r0, r1, r2, r3, r4, r5, r6⟩ := T0.2.facts
  go_wp2_with fail
  refine bodyPost_ret (v := .tuple #[.agg #[.bool false, .string ⟨#[]⟩, .int .i64 0], .int .i64 0]) (by simp [results, Tryz.results32, go_sem, r0, r1, r2, r3]) rfl ⟨rfl, ?_⟩
  repeat (refine Below.setCell ?_ (by simp; omega) _)
  first
    | exact T0.1.1
    | exact (((Below.refl _ _).alloc (Nat.le_refl _) _).alloc (by simp) _).alloc (by simp; omega) _
set_option maxRecDepth 100000 in
set_option maxHeartbeats 2000000 in
theorem rMul3_zl (b : Dy) (w : World) :
    Calls Tryz.prog 41 #[.agg #[.bool false, .string ⟨#[]⟩, .int .i64 0], .agg #[.bool b.g, .string (natS b.n), .int .i64 b.x]] w fun e w' => e = .returned (.tuple #[.agg #[.bool false, .string ⟨#[]⟩, .int .i64 0], .int .i64 0]) ∧ Below w.heap.size w w' := by
  have T0 := TC.start w ⟨false, ⟨#[]⟩, 0⟩ b.t
  unfold Dy.t at T0
  go_enter Tryz.func41, Tryz.ntmps41
  go_wp2_with fail
  refine bodyPost_ret (v := .tuple #[.agg #[.bool false, .string ⟨#[]⟩, .int .i64 0], .int .i64 0]) (by simp [results, Tryz.results41, go_sem]) rfl ⟨rfl, ?_⟩
  repeat (refine Below.setCell ?_ (by simp; omega) _)
  first
    | exact T0.1.1
    | exact (((Below.refl _ _).alloc (Nat.le_refl _) _).alloc (by simp) _).alloc (by simp; omega) _
set_option maxRecDepth 100000 in
set_option maxHeartbeats 2000000 in
theorem rMul3_zr (a : Dy) (w : World) (ha : a.Num) :
    Calls Tryz.prog 41 #[.agg #[.bool a.g, .string (natS a.n), .int .i64 a.x], .agg #[.bool false, .string ⟨#[]⟩, .int .i64 0]] w fun e w' => e = .returned (.tuple #[.agg #[.bool false, .string ⟨#[]⟩, .int .i64 0], .int .i64 0]) ∧ Below w.heap.size w w' := by
  have T0 := TC.start w a.t ⟨false, ⟨#[]⟩, 0⟩
  unfold Dy.t at T0
  have hE := natS_full (odd_ne ha.2.1)
  have hE2 := natS_full2 (odd_ne ha.2.1)
  clear ha
  go_enter Tryz.func41, Tryz.ntmps41
  go_wp2_with fail
  refine bodyPost_ret (v := .tuple #[.agg #[.bool false, .string ⟨#[]⟩, .int .i64 0], .int .i64 0]) (by simp [results, Tryz.results41, go_sem]) rfl ⟨rfl, ?_⟩
  repeat (refine Below.setCell ?_ (by simp; omega) _)
  first
    | exact T0.1.1
    | exact (((Below.refl _ _).alloc (Nat.le_refl _) _).alloc (by simp) _).alloc (by simp; omega) _
set_option maxRecDepth 100000 in
set_option maxHeartbeats 2000000 in
theorem DMul_num (a b : Dy) (w : World) (ha : a.Num) (hb : b.Num) :
    Calls Tryz.prog 32 #[.agg #[.bool a.g, .string (natS a.n), .int .i64 a.x], .agg #[.bool b.g, .string (natS b.n), .int .i64 b.x]] w (MulPost a b w) := by
  have KA := Lib.hid (fun W T A hA => all_ok2 a b (Or.inr ha) (Or.inr hb) W T A hA)
  have T0 := TC.start w a.t b.t
  unfold Dy.t at T0
  have KM := Lib.hid (fun w => NMul_c a.n b.n w ha.1 hb.1)
  have hEp := natS_full (odd_ne ha.2.1)
  have hEp2 := natS_full2 (odd_ne ha.2.1)
  have hEq := natS_full (odd_ne hb.2.1)
  have hEq2 := natS_full2 (odd_ne hb.2.1)
  have hxa := ha.2.2
  have hxb := hb.2.2
  have hodd : (a.n * b.n) % 2 = 1 := by rw [Nat.mul_mod, ha.2.1, hb.2.1]
  unfold MulPost
  by_cases hf : fits (a.n * b.n)
  · rw [resS_ok hf, resE_ok hf] at KM
    have KK : Hid (∀ w, Calls Tryz.prog 53 #[.bool (a.g != b.g), .string (natS (a.n * b.n)), .int .i64 (a.x + b.x)] w fun e w' => e = .returned (.tuple #[(mulD a b).v, .int .i64 (mulE a b)]) ∧ Below w.heap.size w w') := Lib.hid fun w => by
      have := DMake_c (a.g != b.g) (a.n * b.n) (a.x + b.x) w hf (by omega)
      unfold MkPost at this
      rw [← mulD_eq, ← mulE_eq] at this
      exact this
    clear ha hb hf hodd
    generalize mulD a b = D at *
    generalize mulE a b = E at *
    generalize a.n * b.n = z at *
    go_enter Tryz.func32, Tryz.ntmps32
    go_wp2_with fail
    refine (KA.out _ _ _ (by simp)).mono ?_
    rintro e w1 ⟨rfl, hb⟩
    replace T0 := (T0.more _).step hb
    clear hb
    obtain ⟨p0, p1, p2, p3, p4, p5, p6⟩ := T0.1.2.1.facts
    obtain ⟨q0, q1, q2, q3, q4, q5, q6⟩ := T0.1.2.2.facts
    go_wp2_with fail
    refine (KM.out _).mono ?_
    rintro e w2 ⟨rfl, hb⟩
    replace T0 := T0.step hb
    clear hb p0 p1 p2 p3 p4 p5 p6 q0 q1 q2 q3 q4 q5 q6
    obtain ⟨p0, p1, p2, p3, p4, p5, p6⟩ := T0.1.2.1.facts
    obtain ⟨q0, q1, q2, q3, q4, q5, q6⟩ := T0.1.2.2.facts
    go_wp2_with fail
    refine (KK.out _).mono ?_
    rintro e w3 ⟨rfl, hb⟩
    replace T0 := T0.step hb
    obtain ⟨r0, r1, r2, r3, r4, r5, r6⟩ := T0.2.facts
    clear hb p0 p1 p2 p3 p4 p5 p6 q0 q1 q2 q3 q4 q5 q6
    unfold Dy.v
    go_wp2_with fail
    refine bodyPost_ret (v := .tuple #[D.v, .int .i64 E]) (by simp [results, Tryz.results32, go_sem, r0, r1, r2, r3, Dy.v]) rfl ⟨rfl, ?_⟩
    exact T0.fin _ _ _
  · rw [resS_no hf, resE_no hf] at KM
    have hno : ¬ mkOk3 (a.n * b.n) (a.x + b.x) := by
      rintro (h | ⟨h, _⟩)
      · exact odd_ne hodd h
      · rw [odN_odd hodd] at h; exact hf h
    have HR := Lib.hid (show mulD a b = Dy.zero ∧ mulE a b = 4 from ⟨by rw [mulD_eq, mkD_no hno], by rw [mulE_eq, mkE_no hno]⟩)
    clear ha hb hf hodd hno
    go_enter Tryz.func32, Tryz.ntmps32
    go_wp2_with fail
    refine (KA.out _ _ _ (by simp)).mono ?_
    rintro e w1 ⟨rfl, hb⟩
    replace T0 := (T0.more _).step hb
    clear hb
    obtain ⟨p0, p1, p2, p3, p4, p5, p6⟩ := T0.1.2.1.facts
    obtain ⟨q0, q1, q2, q3, q4, q5, q6⟩ := T0.1.2.2.facts
    go_wp2_with fail
    refine (KM.out _).mono ?_
    rintro e w2 ⟨rfl, hb⟩
    replace T0 := T0.step hb
    obtain ⟨r0, r1, r2, r3, r4, r5, r6⟩ := T0.2.facts
    clear hb p0 p1 p2 p3 p4 p5 p6 q0 q1 q2 q3 q4 q5 q6
    go_wp2_with fail
    refine bodyPost_ret (v := .tuple #[.agg #[.bool false, .string ⟨#[]⟩, .int .i64 0], .int .i64 4]) (by simp [results, Tryz.results32, go_sem, r0, r1, r2, r3]) rfl ⟨?_, ?_⟩
    · rw [HR.out.1, HR.out.2, Dy.zero_v]
    · exact T0.fin _ _ _
set_option maxRecDepth 100000 in
set_option maxHeartbeats 2000000 in
theorem rMul3_num (a b : Dy) (w : World) (ha : a.Num) (hb : b.Num) :
    Calls Tryz.prog 41 #[.agg #[.bool a.g, .string (natS a.n), .int .i64 a.x], .agg #[.bool b.g, .string (natS b.n), .int .i64 b.x]] w (MulPost a b w) := by
  have T0 := TC.start w a.t b.t
  have hEp := natS_full (odd_ne ha.2.1)
  have hEp2 := natS_full2 (odd_ne ha.2.1)
  have hEq := natS_full (odd_ne hb.2.1)
  have hEq2 := natS_full2 (odd_ne hb.2.1)
  have hxa := ha.2.2
  have hxb := hb.2.2
  have hfa : nd 256 a.n ≤ 16384 := ha.1
  have hfb : nd 256 b.n ≤ 16384 := hb.1
  have KRp := Lib.hid (fun w => rOf3_c a.n w (by omega))
  have KRq := Lib.hid (fun w => rOf3_c b.n w (by omega))
  have KT : Hid (∀ (B B' : Nat) (A A' : Option Addr) (c c' : Nat) (W' : World), Own W' B 3 .i64 (.slice A (nd 256 a.n) c) (dl 256 a.n (nd 256 a.n)) → Own W' B' 3 .i64 (.slice A' (nd 256 b.n) c') (dl 256 b.n (nd 256 b.n)) → Calls Tryz.prog 67 #[.slice A (nd 256 a.n) c, .slice A' (nd 256 b.n) c'] W' (BigP (a.n * b.n) W')) := Lib.hid fun B B' A A' c c' W' h h' => rTimes3_c a.n b.n B B' A A' c c' W' (by omega) (by omega) h h'
  have KF : Hid (∀ (B : Nat) (A : Option Addr) (c : Nat) (W' : World), Own W' B 3 .i64 (.slice A (nd 256 (a.n * b.n)) c) (dl 256 (a.n * b.n) (nd 256 (a.n * b.n))) → Calls Tryz.prog 59 #[.bool (a.g != b.g), .slice A (nd 256 (a.n * b.n)) c, .int .i64 (a.x + b.x)] W' fun e w' => e = .returned (.tuple #[(mulD a b).v, .int .i64 (mulE a b)]) ∧ Below W'.heap.size W' w') := Lib.hid fun B A c W' h => by
    have h1 := nd_mul3 a.n b.n
    have := rFit3_c (a.g != b.g) (a.n * b.n) (a.x + b.x) B A c W' (by omega) (by omega) h
    unfold MkPost at this
    rw [← mulD_eq, ← mulE_eq] at this
    exact this
  clear ha hb
  unfold MulPost
  generalize mulD a b = D at *
  generalize mulE a b = E at *
  generalize a.n * b.n = z at *
  have T1 : TD w a.t b.t _ := T0.td
  clear T0
  unfold Dy.t at T1
  have M0 : ∀ W, TD w a.t b.t W → W.cell? ⟨w.heap.size, 0, none⟩ = some (.bool a.g) := fun W h => h.1.2.1.facts.2.1
  have M1 : ∀ W, TD w a.t b.t W → W.cell? ⟨w.heap.size, 1, none⟩ = some (.string (natS a.n)) := fun W h => h.1.2.1.facts.2.2.1
  have M2 : ∀ W, TD w a.t b.t W → W.cell? ⟨w.heap.size, 2, none⟩ = some (.int .i64 a.x) := fun W h => h.1.2.1.facts.2.2.2.1
  have M3 : ∀ W, TD w a.t b.t W → W.cell? ⟨w.heap.size + 1, 0, none⟩ = some (.bool b.g) := fun W h => h.1.2.2.facts.2.1
  have M4 : ∀ W, TD w a.t b.t W → W.cell? ⟨w.heap.size + 1, 1, none⟩ = some (.string (natS b.n)) := fun W h => h.1.2.2.facts.2.2.1
  have M5 : ∀ W, TD w a.t b.t W → W.cell? ⟨w.heap.size + 1, 2, none⟩ = some (.int .i64 b.x) := fun W h => h.1.2.2.facts.2.2.2.1
  have M6 := fun W (h : TD w a.t b.t W) => h.cells.2.1
  have M7 := fun W (h : TD w a.t b.t W) => h.cells.2.2.1
  have M8 := fun W (h : TD w a.t b.t W) => h.cells.2.2.2.1
  have M9 := fun W (h : TD w a.t b.t W) => h.cells.2.2.2.2.1
  have M10 := fun W (h : TD w a.t b.t W) => h.cells.2.2.2.2.2.1
  have M11 := fun W (h : TD w a.t b.t W) => h.cells.2.2.2.2.2.2
  have hw1 : IntKind.i64.wrap (a.x + b.x) = a.x + b.x := IntWalk.i64_in _ (by omega)
  go_enter Tryz.func41, Tryz.ntmps41
  go_wp2_with fail
  go_region_held3 (TD w a.t b.t) (first | assumption | exact TD.step (by assumption) (by assumption) | exact TD.put (by assumption) _ _ _ | exact TD.drew (by assumption) | exact TD.drawn (by assumption) _)
    (first
      | (go_at_call 67; (refine (KT.out _ _ _ _ _ _ _ (Own.whole (by assumption) hb9) hown3).mono ?_); rintro e wd ⟨A4, c4, rfl, hown4, hb10⟩)
      | (go_at_call 59; (refine (KF.out _ _ _ _ (by assumption)).mono ?_); rintro e we ⟨rfl, hb11⟩; have HSV := Lib.hid (TD.step (a := a.t) (b := b.t) (w := w) (by assumption) hb11); unfold Dy.v)
      | (go_at_call 58; (with_reducible refine (KRp.out _).mono ?_); rintro e wa ⟨v1, rfl, hown1, hb7⟩; obtain ⟨A1, c1, rfl, hc1⟩ := hown1.len; rw [dl_length] at hown1 hc1 ⊢)
      | (go_at_call 58; (with_reducible refine (KRq.out _).mono ?_); rintro e wc ⟨v3, rfl, hown3, hb9⟩; obtain ⟨A3, c3, rfl, hc3⟩ := hown3.len; rw [dl_length] at hown3 hc3 ⊢))
  obtain ⟨r0, r1, r2, r3, r4, r5, r6⟩ := HSV.out.cells
  have hfin := below_put HSV.out.1.1 (show w.heap.size ≤ w.heap.size + 2 by omega)
  clear M0 M1 M2 M3 M4 M5 M6 M7 M8 M9 M10 M11
  go_wp2_with fail
  refine bodyPost_ret (v := .tuple #[D.v, .int .i64 E]) (by simp [results, Tryz.results41, go_sem, r0, r1, r2, r3, Dy.v]) rfl ⟨rfl, ?_⟩
  exact hfin _ _ _
theorem DMul_c (a b : Dy) (w : World) (ha : a.Ok) (hb : b.Ok) :
    Calls Tryz.prog 32 #[.agg #[.bool a.g, .string (natS a.n), .int .i64 a.x], .agg #[.bool b.g, .string (natS b.n), .int .i64 b.x]] w (MulPost a b w) := by
  rcases ha with rfl | ha
  · unfold MulPost
    rw [(mul_z (a := Dy.zero) (b := b) (Or.inl rfl)).1, (mul_z (a := Dy.zero) (b := b) (Or.inl rfl)).2, Dy.zero_v]
    show Calls _ _ #[.agg #[.bool false, .string (natS 0), .int .i64 0], _] _ _
    rw [natS_zero]; exact DMul_zl b w hb
  · rcases hb with rfl | hb
    · unfold MulPost
      rw [(mul_z (a := a) (b := Dy.zero) (Or.inr rfl)).1, (mul_z (a := a) (b := Dy.zero) (Or.inr rfl)).2, Dy.zero_v]
      show Calls _ _ #[_, .agg #[.bool false, .string (natS 0), .int .i64 0]] _ _
      rw [natS_zero]; exact DMul_zr a w ha
    · exact DMul_num a b w ha hb
theorem rMul3_c (a b : Dy) (w : World) (ha : a.Ok) (hb : b.Ok) :
    Calls Tryz.prog 41 #[.agg #[.bool a.g, .string (natS a.n), .int .i64 a.x], .agg #[.bool b.g, .string (natS b.n), .int .i64 b.x]] w (MulPost a b w) := by
  rcases ha with rfl | ha
  · unfold MulPost
    rw [(mul_z (a := Dy.zero) (b := b) (Or.inl rfl)).1, (mul_z (a := Dy.zero) (b := b) (Or.inl rfl)).2, Dy.zero_v]
    show Calls _ _ #[.agg #[.bool false, .string (natS 0), .int .i64 0], _] _ _
    rw [natS_zero]; exact rMul3_zl b w
  · rcases hb with rfl | hb
    · unfold MulPost
      rw [(mul_z (a := a) (b := Dy.zero) (Or.inr rfl)).1, (mul_z (a := a) (b := Dy.zero) (Or.inr rfl)).2, Dy.zero_v]
      show Calls _ _ #[_, .agg #[.bool false, .string (natS 0), .int .i64 0]] _ _
      rw [natS_zero]; exact rMul3_zr a w ha
    · exact rMul3_num a b w ha hb
end Go.Proofs.YtdknipaimfecaaaGreatDoor
namespace Go.Proofs.YtdknipaimfecaaaGreatDoor
open Go Go.RowKit Nt
end Go.Proofs.YtdknipaimfecaaaGreatDoor
namespace Go.Proofs.YtdknipaimfecaaaGreatDoor
open Go Go.RowKit Nt
def OC (w : World) (a : Dt) (W : World) : Prop := OB w a W ∧ Box3 W (w.heap.size + 1) (.bool false) (.string ⟨#[]⟩) (.int .i64 0)
theorem OC.start (w : World) (a : Dt) : OC w a ((w.alloc (.cells #[.bool a.g, .string a.s, .int .i64 a.x] 24)).alloc (.cells #[.bool false, .string ⟨#[]⟩, .int .i64 0] 24)) := by
  refine ⟨(OB.start w a).more _, ?_⟩
  have := Box3.new (w.alloc (.cells #[.bool a.g, .string a.s, .int .i64 a.x] 24)) (.bool false) (.string ⟨#[]⟩) (.int .i64 0)
  simpa using this
theorem OC.step {w : World} {a : Dt} {W W' : World} (h : OC w a W) (hb : Below W.heap.size W W') : OC w a W' := ⟨h.1.step hb, h.2.step hb⟩
theorem OC.more {w : World} {a : Dt} {W : World} (h : OC w a W) (o : Obj) : OC w a (W.alloc o) := h.step ((Below.refl _ _).alloc (Nat.le_refl _) _)
theorem OC.fin {w : World} {a : Dt} {W : World} (h : OC w a W) (x y z : Value) : Below w.heap.size w (((W.setCell ⟨w.heap.size + 1, 0, none⟩ x).setCell ⟨w.heap.size + 1, 1, none⟩ y).setCell ⟨w.heap.size + 1, 2, none⟩ z) := below_put h.1.1 (by omega) x y z
end Go.Proofs.YtdknipaimfecaaaGreatDoor
set_option linter.unusedSectionVars false
namespace Go.Proofs.YtdknipaimfecaaaGreatDoor
open Go Go.RowKit Nt
theorem natS_inj {m n : Nat} : natS m = natS n ↔ m = n := by
  constructor
  · intro h
    have : (natS m).toList = (natS n).toList := by rw [h]
    exact (natS_list_eq m n).1 this
  · rintro rfl; rfl
theorem Dy.ext_iff' {a b : Dy} : (a.g = b.g ∧ natS a.n = natS b.n ∧ a.x = b.x) ↔ a = b := by
  obtain ⟨g, n, x⟩ := a
  obtain ⟨g', n', x'⟩ := b
  simp [natS_inj]
theorem str_inj {s s' : ByteArray} (h : s.toList = s'.toList) : s = s' := by
  rw [ByteArray.toList_eq, ByteArray.toList_eq] at h
  obtain ⟨a⟩ := s
  obtain ⟨b⟩ := s'
  have : a = b := Array.ext' h
  rw [this]
section
variable [Env]
end
theorem Dy.one_num : (⟨false, 1, 0⟩ : Dy).Num := ⟨(show nd 256 1 ≤ 16384 from Nat.le_trans (nd_le (k := 1) (by omega) (by decide)) (by decide)), (by decide), (by decide), (by decide)⟩
def Dy.one : Dy := ⟨false, 1, 0⟩
theorem Dy.one_Ok : Dy.one.Ok := Or.inr Dy.one_num
end Go.Proofs.YtdknipaimfecaaaGreatDoor
namespace Go.Proofs.YtdknipaimfecaaaGreatDoor
open Go Go.RowKit
def Ers (w : World) (A : Nat) (l : List Int) : Prop := A < w.heap.size ∧ ∀ j (h : j < l.length), w.cell? ⟨A, j, none⟩ = some (.int .i64 l[j])
theorem Ers.below {w w' : World} {A : Nat} {l : List Int} (h : Ers w A l) (hb : Below w.heap.size w w') : Ers w' A l :=
  ⟨Nat.lt_of_lt_of_le h.1 hb.size, fun j hj => (hb.cell (p := ⟨A, j, none⟩) h.1).trans (h.2 j hj)⟩
section
variable [Env]
end
end Go.Proofs.YtdknipaimfecaaaGreatDoor
namespace Go.Proofs.YtdknipaimfecaaaGreatDoor
open Go Go.RowKit Nt
end Go.Proofs.YtdknipaimfecaaaGreatDoor
namespace Go.Proofs.YtdknipaimfecaaaGreatDoor
open Go Go.RowKit Nt
structure Gs where
  re : Dy
  im : Dy
def Gs.v (a : Gs) : Value := .agg #[.bool a.re.g, .string (natS a.re.n), .int .i64 a.re.x, .bool a.im.g, .string (natS a.im.n), .int .i64 a.im.x]
def Gs.zero : Gs := ⟨Dy.zero, Dy.zero⟩
theorem Gs.zero_v : Gs.zero.v = .agg #[.bool false, .string ⟨#[]⟩, .int .i64 0, .bool false, .string ⟨#[]⟩, .int .i64 0] := by
  show Value.agg #[.bool false, .string (natS 0), .int .i64 0, .bool false, .string (natS 0), .int .i64 0] = _
  rw [natS_zero]
def Gs.Ok (a : Gs) : Prop := a.re.Ok ∧ a.im.Ok
theorem Gs.zero_Ok : Gs.zero.Ok := ⟨Or.inl rfl, Or.inl rfl⟩
structure Gt where
  re : Dt
  im : Dt
def Gt.v (a : Gt) : Value := .agg #[.bool a.re.g, .string a.re.s, .int .i64 a.re.x, .bool a.im.g, .string a.im.s, .int .i64 a.im.x]
def Dt.zero : Dt := ⟨false, ⟨#[]⟩, 0⟩
theorem Dt.zero_v : Dt.zero.v = .agg #[.bool false, .string ⟨#[]⟩, .int .i64 0] := rfl
theorem Dt.zero_Ok : Dt.zero.Ok := Or.inl ⟨rfl, rfl, rfl⟩
def Gt.zero : Gt := ⟨Dt.zero, Dt.zero⟩
theorem Gt.zero_v : Gt.zero.v = .agg #[.bool false, .string ⟨#[]⟩, .int .i64 0, .bool false, .string ⟨#[]⟩, .int .i64 0] := rfl
def Gt.Ok (a : Gt) : Prop := a.re.Ok ∧ a.im.Ok
def Gt.Small (a : Gt) : Prop := a.re.s.size ≤ 9223372036854775807 ∧ a.im.s.size ≤ 9223372036854775807
def Gs.t (a : Gs) : Gt := ⟨a.re.t, a.im.t⟩
theorem Gs.ok_t {a : Gs} (h : a.Ok) : a.t.Ok := ⟨Dy.ok_t h.1, Dy.ok_t h.2⟩
theorem Gt.gs {a : Gt} (h : a.Ok) : ∃ d : Gs, d.Ok ∧ a = d.t := by
  obtain ⟨r, i⟩ := a
  obtain ⟨x, h1, h2⟩ := Dt.dy h.1
  obtain ⟨y, h3, h4⟩ := Dt.dy h.2
  simp only at h2 h4
  exact ⟨⟨x, y⟩, ⟨h1, h3⟩, by rw [h2, h4]; rfl⟩
open Classical in
@[irreducible] noncomputable def gE (a : Gt) : Int := if a.Ok then 0 else 2
theorem gE_ok {a : Gt} (h : a.Ok) : gE a = 0 := by unfold gE; rw [if_pos h]
theorem gE_no {a : Gt} (h : ¬ a.Ok) : gE a = 2 := by unfold gE; rw [if_neg h]
theorem dE1 {t : Dt} : dE [t] = 0 ↔ t.Ok := by
  constructor
  · intro h
    by_cases hn : t.Ok
    · exact hn
    · rw [dE_no (List.mem_singleton.2 rfl) hn] at h; cases h
  · intro h
    exact dE_ok fun u hu => by rw [List.mem_singleton.1 hu]; exact h
theorem eqG_run {g g' k k' : Bool} {s s' r r' : ByteArray} {x x' y y' : Int} {c : Bool} (h : c = true ↔ ((g = g' ∧ s = s' ∧ x = x') ∧ (k = k' ∧ r = r' ∧ y = y'))) (p q : Operand) (w : World) : (do eqGuard .eql 26 p q (.agg #[.bool g, .string s, .int .i64 x, .bool k, .string r, .int .i64 y]) (.agg #[.bool g', .string s', .int .i64 x', .bool k', .string r', .int .i64 y']); binOp .eql 26 (.agg #[.bool g, .string s, .int .i64 x, .bool k, .string r, .int .i64 y]) (.agg #[.bool g', .string s', .int .i64 x', .bool k', .string r', .int .i64 y'])).run Tryz.prog w = .ok (.bool c) w := by
  have hs : s.toList = s'.toList ↔ s = s' := ⟨str_inj, fun h => by rw [h]⟩
  have hr : r.toList = r'.toList ↔ r = r' := ⟨str_inj, fun h => by rw [h]⟩
  go_simp
  cases c with
  | true =>
    obtain ⟨⟨rfl, rfl, rfl⟩, rfl, rfl, rfl⟩ := h.1 rfl
    simp
  | false =>
    have hn : ¬ ((g = g' ∧ s = s' ∧ x = x') ∧ (k = k' ∧ r = r' ∧ y = y')) := fun e => Bool.false_ne_true (h.2 e)
    repeat' split
    all_goals first
      | rfl
      | exact absurd ⟨⟨by assumption, by assumption, by assumption⟩, by assumption, by assumption, by assumption⟩ hn
theorem Gs.ext_iff' {a b : Gs} : ((a.re.g = b.re.g ∧ natS a.re.n = natS b.re.n ∧ a.re.x = b.re.x) ∧ (a.im.g = b.im.g ∧ natS a.im.n = natS b.im.n ∧ a.im.x = b.im.x)) ↔ a = b := by
  rw [Dy.ext_iff', Dy.ext_iff']
  obtain ⟨r, i⟩ := a
  obtain ⟨r', i'⟩ := b
  simp
theorem Dt.ext_iff' {a b : Dt} : (a.g = b.g ∧ a.s = b.s ∧ a.x = b.x) ↔ a = b := by
  obtain ⟨g, n, x⟩ := a
  obtain ⟨g', n', x'⟩ := b
  simp
theorem Gt.ext_iff' {a b : Gt} : ((a.re.g = b.re.g ∧ a.re.s = b.re.s ∧ a.re.x = b.re.x) ∧ (a.im.g = b.im.g ∧ a.im.s = b.im.s ∧ a.im.x = b.im.x)) ↔ a = b := by
  rw [Dt.ext_iff', Dt.ext_iff']
  obtain ⟨r, i⟩ := a
  obtain ⟨r', i'⟩ := b
  simp
section
variable [Env]
theorem optU_eql_t {A B : AV} {a b : Gt} (ha : gval A = a.v) (hb : gval B = b.v) (h : a = b) : OpT Tryz.prog [0, 11, 26] [A, B] (.lit (.bool true)) :=
  opt_bin (op := .eql) rfl fun p q w => by rw [ha, hb]; exact eqG_run (c := true) ⟨fun _ => Gt.ext_iff'.2 h, fun _ => rfl⟩ p q w
theorem optU_eql_f {A B : AV} {a b : Gt} (ha : gval A = a.v) (hb : gval B = b.v) (h : ¬ a = b) : OpT Tryz.prog [0, 11, 26] [A, B] (.lit (.bool false)) :=
  opt_bin (op := .eql) rfl fun p q w => by rw [ha, hb]; exact eqG_run (c := false) ⟨(fun c => by cases c), fun c => absurd (Gt.ext_iff'.1 c) h⟩ p q w
end
end Go.Proofs.YtdknipaimfecaaaGreatDoor
namespace Go.Proofs.YtdknipaimfecaaaGreatDoor
open Go Go.RowKit Nt
def All0 : List Int → Prop
  | [] => True
  | t :: l => t = 0 ∧ All0 l
instance All0.dec : ∀ l, Decidable (All0 l)
  | [] => .isTrue trivial
  | t :: l => @instDecidableAnd _ _ _ (All0.dec l)
@[irreducible] def erI (l : List Int) : Int := if All0 l then 0 else 4
@[irreducible] def erG (l : List Int) (d : Gs) : Gs := if All0 l then d else Gs.zero
theorem erI_ok {l : List Int} (h : All0 l) : erI l = 0 := by unfold erI; exact if_pos h
theorem erI_no {l : List Int} (h : ¬ All0 l) : erI l = 4 := by unfold erI; exact if_neg h
theorem erG_ok {l : List Int} {d : Gs} (h : All0 l) : erG l d = d := by unfold erG; exact if_pos h
theorem erG_no {l : List Int} {d : Gs} (h : ¬ All0 l) : erG l d = Gs.zero := by unfold erG; exact if_neg h
theorem erI_zero {l : List Int} : erI l = 0 ↔ All0 l := by
  by_cases h : All0 l
  · rw [erI_ok h]; simp [h]
  · rw [erI_no h]; simp [h]
theorem erG_Ok {l : List Int} {d : Gs} (h : d.Ok) : (erG l d).Ok := by
  by_cases c : All0 l
  · rw [erG_ok c]; exact h
  · rw [erG_no c]; exact Gs.zero_Ok
theorem mkE4 {n : Nat} {x : Int} (h : ¬ mkE n x = 0) : mkE n x = 4 := by
  by_cases c : mkOk3 n x
  · exact absurd (mkE_ok c) h
  · exact mkE_no c
theorem mulE4 {a b : Dy} (h : ¬ mulE a b = 0) : mulE a b = 4 := by rw [mulE_eq] at h ⊢; exact mkE4 h
theorem addE4 {a b : Dy} (h : ¬ addE a b = 0) : addE a b = 4 := by
  by_cases h0 : a.n = 0
  · exact absurd (add_zl h0).2 h
  · by_cases h1 : b.n = 0
    · exact absurd (add_zr h0 h1).2 h
    · by_cases h2 : a.x < b.x
      · rw [(add_lt h0 h1 h2).2, hiE_eq] at h ⊢; exact mkE4 h
      · rw [(add_ge h0 h1 h2).2, hiE_eq] at h ⊢; exact mkE4 h
def gaddL (a b : Gs) : List Int := [addE a.re b.re, addE a.im b.im]
def gaddD (a b : Gs) : Gs := erG (gaddL a b) ⟨addD a.re b.re, addD a.im b.im⟩
def gaddE (a b : Gs) : Int := erI (gaddL a b)
theorem gaddD_Ok {a b : Gs} (ha : a.Ok) (hb : b.Ok) : (gaddD a b).Ok := erG_Ok ⟨add_Ok ha.1 hb.1, add_Ok ha.2 hb.2⟩
def twoL (a b c d : Dy) : List Int := [mulE a b, mulE c d, addE (mulD a b) (mulD c d)]
def twoD (a b c d : Dy) : Dy := addD (mulD a b) (mulD c d)
def lesL (a b c d : Dy) : List Int := [mulE a b, mulE c d, addE (mulD a b) (negD (mulD c d))]
def lesD (a b c d : Dy) : Dy := addD (mulD a b) (negD (mulD c d))
theorem twoD_Ok (a b c d : Dy) : (twoD a b c d).Ok := add_Ok (mulD_Ok _ _) (mulD_Ok _ _)
theorem lesD_Ok (a b c d : Dy) : (lesD a b c d).Ok := add_Ok (mulD_Ok _ _) (negD_Ok (mulD_Ok _ _))
def gmulL (a b : Gs) : List Int := lesL a.re b.re a.im b.im ++ twoL a.re b.im a.im b.re
def gmulD (a b : Gs) : Gs := erG (gmulL a b) ⟨lesD a.re b.re a.im b.im, twoD a.re b.im a.im b.re⟩
def gmulE (a b : Gs) : Int := erI (gmulL a b)
theorem gmulD_Ok (a b : Gs) : (gmulD a b).Ok := erG_Ok ⟨lesD_Ok _ _ _ _, twoD_Ok _ _ _ _⟩
end Go.Proofs.YtdknipaimfecaaaGreatDoor
namespace Go.Proofs.YtdknipaimfecaaaGreatDoor
open Go Go.RowKit Nt
@[reducible] noncomputable def GCheck_c_k1 : Know := ⟨[([0, 11, 26], [.agg [.sym 0, .sym 1, .sym 2, .sym 3, .sym 4, .sym 5], .lit (.agg #[.bool false, .string ⟨#[]⟩, .int .i64 0, .bool false, .string ⟨#[]⟩, .int .i64 0])], .lit (.bool true))],
  []⟩
theorem GCheck_c_r1 : @comes GCheck_c_k1 Tryz.prog glT 3000 12 [.agg [.sym 0, .sym 1, .sym 2, .sym 3, .sym 4, .sym 5]] = some (.lit (.int .i64 0)) := by kernel_rfl
@[reducible] noncomputable def GCheck_c_k2 : Know := ⟨[([0, 11, 26], [.agg [.sym 0, .sym 1, .sym 2, .sym 3, .sym 4, .sym 5], .lit (.agg #[.bool false, .string ⟨#[]⟩, .int .i64 0, .bool false, .string ⟨#[]⟩, .int .i64 0])], .lit (.bool false)),
  ([0, 12, 28], [.sym 6, .lit (.int .i64 0)], .lit (.bool false)),
  ([0, 12, 28], [.sym 7, .lit (.int .i64 0)], .lit (.bool false))],
  [(24, [.agg [.sym 0, .sym 1, .sym 2]], .sym 6),
  (24, [.agg [.sym 3, .sym 4, .sym 5]], .sym 7)]⟩
theorem GCheck_c_r2 : @comes GCheck_c_k2 Tryz.prog glT 3000 12 [.agg [.sym 0, .sym 1, .sym 2, .sym 3, .sym 4, .sym 5]] = some (.lit (.int .i64 0)) := by kernel_rfl
@[reducible] noncomputable def GCheck_c_k3 : Know := ⟨[([0, 11, 26], [.agg [.sym 0, .sym 1, .sym 2, .sym 3, .sym 4, .sym 5], .lit (.agg #[.bool false, .string ⟨#[]⟩, .int .i64 0, .bool false, .string ⟨#[]⟩, .int .i64 0])], .lit (.bool false)),
  ([0, 12, 28], [.sym 6, .lit (.int .i64 0)], .lit (.bool false)),
  ([0, 12, 28], [.sym 7, .lit (.int .i64 0)], .lit (.bool true))],
  [(24, [.agg [.sym 0, .sym 1, .sym 2]], .sym 6),
  (24, [.agg [.sym 3, .sym 4, .sym 5]], .sym 7)]⟩
theorem GCheck_c_r3 : @comes GCheck_c_k3 Tryz.prog glT 3000 12 [.agg [.sym 0, .sym 1, .sym 2, .sym 3, .sym 4, .sym 5]] = some (.lit (.int .i64 2)) := by kernel_rfl
@[reducible] noncomputable def GCheck_c_k4 : Know := ⟨[([0, 11, 26], [.agg [.sym 0, .sym 1, .sym 2, .sym 3, .sym 4, .sym 5], .lit (.agg #[.bool false, .string ⟨#[]⟩, .int .i64 0, .bool false, .string ⟨#[]⟩, .int .i64 0])], .lit (.bool false)),
  ([0, 12, 28], [.sym 6, .lit (.int .i64 0)], .lit (.bool true))],
  [(24, [.agg [.sym 0, .sym 1, .sym 2]], .sym 6)]⟩
theorem GCheck_c_r4 : @comes GCheck_c_k4 Tryz.prog glT 3000 12 [.agg [.sym 0, .sym 1, .sym 2, .sym 3, .sym 4, .sym 5]] = some (.lit (.int .i64 2)) := by kernel_rfl
set_option maxRecDepth 100000 in
theorem GCheck_c (a : Gt) (w : World) (hre : a.re.s.size ≤ 9223372036854775807) (him : a.im.s.size ≤ 9223372036854775807) (hG : Globs glT w) : Calls Tryz.prog 12 #[.agg #[.bool a.re.g, .string a.re.s, .int .i64 a.re.x, .bool a.im.g, .string a.im.s, .int .i64 a.im.x]] w fun e w' => e = .returned (.int .i64 (gE a)) ∧ Below w.heap.size w w' := by
  by_cases h1 : a = Gt.zero
  · letI : Env := mkEnv glT [.bool a.re.g, .string a.re.s, .int .i64 a.re.x, .bool a.im.g, .string a.im.s, .int .i64 a.im.x] rfl
    have hops : OpsT Tryz.prog (@Know.ops GCheck_c_k1) := ⟨optU_eql_t (a := a) (b := Gt.zero) rfl Gt.zero_v.symm h1, trivial⟩
    have hcalls : CallsT Tryz.prog (@Know.calls GCheck_c_k1) := trivial
    exact (@sym_ok _ GCheck_c_k1 _ (@KnowOk.of _ GCheck_c_k1 _ hops hcalls) (by kernel_rfl) _ _ _ _ GCheck_c_r1 rfl rfl _ hG).mono fun e w' h => ⟨h.1.trans (show Ending.returned (.int .i64 0) = .returned (.int .i64 (gE a)) from by rw [gE_ok (show a.Ok from h1 ▸ ⟨Dt.zero_Ok, Dt.zero_Ok⟩)]), h.2⟩
  · by_cases h2 : dE [a.re] = 0
    · by_cases h3 : dE [a.im] = 0
      · letI : Env := mkEnv glT [.bool a.re.g, .string a.re.s, .int .i64 a.re.x, .bool a.im.g, .string a.im.s, .int .i64 a.im.x, .int .i64 (dE [a.re]), .int .i64 (dE [a.im])] rfl
        have hops : OpsT Tryz.prog (@Know.ops GCheck_c_k2) := ⟨optU_eql_f (a := a) (b := Gt.zero) rfl Gt.zero_v.symm h1, opt_neq_f rfl rfl h2, opt_neq_f rfl rfl h3, trivial⟩
        have hcalls : CallsT Tryz.prog (@Know.calls GCheck_c_k2) := ⟨callt rfl rfl fun w hG => DCheck_c a.re w hre, callt rfl rfl fun w hG => DCheck_c a.im w him, trivial⟩
        exact (@sym_ok _ GCheck_c_k2 _ (@KnowOk.of _ GCheck_c_k2 _ hops hcalls) (by kernel_rfl) _ _ _ _ GCheck_c_r2 rfl rfl _ hG).mono fun e w' h => ⟨h.1.trans (show Ending.returned (.int .i64 0) = .returned (.int .i64 (gE a)) from by rw [gE_ok ⟨dE1.1 h2, dE1.1 h3⟩]), h.2⟩
      · letI : Env := mkEnv glT [.bool a.re.g, .string a.re.s, .int .i64 a.re.x, .bool a.im.g, .string a.im.s, .int .i64 a.im.x, .int .i64 (dE [a.re]), .int .i64 (dE [a.im])] rfl
        have hops : OpsT Tryz.prog (@Know.ops GCheck_c_k3) := ⟨optU_eql_f (a := a) (b := Gt.zero) rfl Gt.zero_v.symm h1, opt_neq_f rfl rfl h2, opt_neq_t rfl rfl h3, trivial⟩
        have hcalls : CallsT Tryz.prog (@Know.calls GCheck_c_k3) := ⟨callt rfl rfl fun w hG => DCheck_c a.re w hre, callt rfl rfl fun w hG => DCheck_c a.im w him, trivial⟩
        exact (@sym_ok _ GCheck_c_k3 _ (@KnowOk.of _ GCheck_c_k3 _ hops hcalls) (by kernel_rfl) _ _ _ _ GCheck_c_r3 rfl rfl _ hG).mono fun e w' h => ⟨h.1.trans (show Ending.returned (.int .i64 2) = .returned (.int .i64 (gE a)) from by rw [gE_no (fun c => h3 (dE1.2 c.2))]), h.2⟩
    · letI : Env := mkEnv glT [.bool a.re.g, .string a.re.s, .int .i64 a.re.x, .bool a.im.g, .string a.im.s, .int .i64 a.im.x, .int .i64 (dE [a.re])] rfl
      have hops : OpsT Tryz.prog (@Know.ops GCheck_c_k4) := ⟨optU_eql_f (a := a) (b := Gt.zero) rfl Gt.zero_v.symm h1, opt_neq_t rfl rfl h2, trivial⟩
      have hcalls : CallsT Tryz.prog (@Know.calls GCheck_c_k4) := ⟨callt rfl rfl fun w hG => DCheck_c a.re w hre, trivial⟩
      exact (@sym_ok _ GCheck_c_k4 _ (@KnowOk.of _ GCheck_c_k4 _ hops hcalls) (by kernel_rfl) _ _ _ _ GCheck_c_r4 rfl rfl _ hG).mono fun e w' h => ⟨h.1.trans (show Ending.returned (.int .i64 2) = .returned (.int .i64 (gE a)) from by rw [gE_no (fun c => h2 (dE1.2 c.1))]), h.2⟩
theorem GCheck_gs (a : Gs) (ha : a.Ok) (w : World) (hG : Globs glT w) : Calls Tryz.prog 12 #[.agg #[.bool a.re.g, .string (natS a.re.n), .int .i64 a.re.x, .bool a.im.g, .string (natS a.im.n), .int .i64 a.im.x]] w fun e w' => e = .returned (.int .i64 0) ∧ Below w.heap.size w w' := by
  have h := GCheck_c a.t w (by have := Dy.small ha.1; show (natS a.re.n).size ≤ _; omega) (by have := Dy.small ha.2; show (natS a.im.n).size ≤ _; omega) hG
  rwa [gE_ok (Gs.ok_t ha)] at h
theorem GCheck_no (a : Gt) (hs : a.Small) (hn : ¬ a.Ok) (w : World) (hG : Globs glT w) : Calls Tryz.prog 12 #[.agg #[.bool a.re.g, .string a.re.s, .int .i64 a.re.x, .bool a.im.g, .string a.im.s, .int .i64 a.im.x]] w fun e w' => e = .returned (.int .i64 2) ∧ Below w.heap.size w w' := by
  have h := GCheck_c a w hs.1 hs.2 hG
  rwa [gE_no hn] at h
theorem GCheck_all (a : Gt) (hs : a.Small) (w : World) (hG : Globs glT w) : Calls Tryz.prog 12 #[.agg #[.bool a.re.g, .string a.re.s, .int .i64 a.re.x, .bool a.im.g, .string a.im.s, .int .i64 a.im.x]] w fun e w' => e = .returned (.int .i64 (gE a)) ∧ Below w.heap.size w w' := GCheck_c a w hs.1 hs.2 hG
end Go.Proofs.YtdknipaimfecaaaGreatDoor
namespace Go.Proofs.YtdknipaimfecaaaGreatDoor
open Go Go.RowKit Nt
def B6 (w : World) (B : Nat) (a : Gt) : Prop := Blk w B 26 #[.bool a.re.g, .string a.re.s, .int .i64 a.re.x, .bool a.im.g, .string a.im.s, .int .i64 a.im.x]
theorem B6.facts {w : World} {B : Nat} {a : Gt} (h : B6 w B a) : B < w.heap.size ∧ w.cell? ⟨B, 0, none⟩ = some (.bool a.re.g) ∧ w.cell? ⟨B, 1, none⟩ = some (.string a.re.s) ∧ w.cell? ⟨B, 2, none⟩ = some (.int .i64 a.re.x) ∧ w.cell? ⟨B, 3, none⟩ = some (.bool a.im.g) ∧ w.cell? ⟨B, 4, none⟩ = some (.string a.im.s) ∧ w.cell? ⟨B, 5, none⟩ = some (.int .i64 a.im.x) ∧ w.frozen? ⟨B, 0, none⟩ = false ∧ w.frozen? ⟨B, 1, none⟩ = false ∧ w.frozen? ⟨B, 2, none⟩ = false ∧ w.frozen? ⟨B, 3, none⟩ = false ∧ w.frozen? ⟨B, 4, none⟩ = false ∧ w.frozen? ⟨B, 5, none⟩ = false :=
  ⟨Blk.lt h, (Blk.cell h 0).trans rfl, (Blk.cell h 1).trans rfl, (Blk.cell h 2).trans rfl, (Blk.cell h 3).trans rfl, (Blk.cell h 4).trans rfl, (Blk.cell h 5).trans rfl, Blk.frozen h 0, Blk.frozen h 1, Blk.frozen h 2, Blk.frozen h 3, Blk.frozen h 4, Blk.frozen h 5⟩
def GB (w : World) (a : Gt) (W : World) : Prop := Below w.heap.size w W ∧ B6 W w.heap.size a
theorem GB.start (w : World) (a : Gt) : GB w a (w.alloc (.cells #[.bool a.re.g, .string a.re.s, .int .i64 a.re.x, .bool a.im.g, .string a.im.s, .int .i64 a.im.x] 26)) := ⟨(Below.refl _ _).alloc (Nat.le_refl _) _, Blk.new w _ _⟩
theorem GB.step {w : World} {a : Gt} {W W' : World} (h : GB w a W) (hb : Below W.heap.size W W') : GB w a W' := ⟨below_then h.1 hb, Blk.below h.2 hb (Blk.lt h.2)⟩
theorem GB.more {w : World} {a : Gt} {W : World} (h : GB w a W) (o : Obj) : GB w a (W.alloc o) := h.step ((Below.refl _ _).alloc (Nat.le_refl _) _)
theorem below_put6 {n : Nat} {w W : World} {A : Nat} (hb : Below n w W) (hA : n ≤ A) (a b c d e f : Value) : Below n w ((((((W.setCell ⟨A, 0, none⟩ a).setCell ⟨A, 1, none⟩ b).setCell ⟨A, 2, none⟩ c).setCell ⟨A, 3, none⟩ d).setCell ⟨A, 4, none⟩ e).setCell ⟨A, 5, none⟩ f) :=
  (((((hb.setCell (p := ⟨A, 0, none⟩) hA a).setCell (p := ⟨A, 1, none⟩) hA b).setCell (p := ⟨A, 2, none⟩) hA c).setCell (p := ⟨A, 3, none⟩) hA d).setCell (p := ⟨A, 4, none⟩) hA e).setCell (p := ⟨A, 5, none⟩) hA f
theorem rMayT_c (a : Dt) (w : World) (hs : a.s.size ≤ 9223372036854775807) (m : Bool) (hm : m = true ↔ a.Ok) : Calls Tryz.prog 15 #[.agg #[.bool a.g, .string a.s, .int .i64 a.x]] w fun e w' => e = .returned (.bool m) ∧ Below w.heap.size w w' := by
  cases m with
  | true =>
    obtain ⟨d, hd, e⟩ := Dt.dy (hm.1 rfl)
    have e1 : a.g = d.g := congrArg Dt.g e
    have e2 : a.s = natS d.n := congrArg Dt.s e
    have e3 : a.x = d.x := congrArg Dt.x e
    rw [e1, e2, e3]; exact rMayT_ok d w hd
  | false => exact rMay3_bad _ _ _ w hs (fun c => Bool.false_ne_true (hm.2 c))
set_option maxRecDepth 100000 in
set_option maxHeartbeats 4000000 in
theorem rMay6_c (a : Gt) (w : World) (hs : a.Small) (m k : Bool) (hm : m = true ↔ a.re.Ok) (hk : k = true ↔ a.im.Ok) : Calls Tryz.prog 5 #[.agg #[.bool a.re.g, .string a.re.s, .int .i64 a.re.x, .bool a.im.g, .string a.im.s, .int .i64 a.im.x]] w fun e w' => e = .returned (.bool (m && k)) ∧ Below w.heap.size w w' := by
  have K1 := Lib.hid (fun w => rMayT_c a.re w hs.1 m hm)
  have K2 := Lib.hid (fun w => rMayT_c a.im w hs.2 k hk)
  have T0 := GB.start w a
  obtain ⟨r0, r1, r2, r3, r4, r5, r6, r7, r8, r9, r10, r11, r12⟩ := T0.2.facts
  clear hm hk hs
  cases m
  · go_enter Tryz.func5, Tryz.ntmps5
    go_wp2_with (first | (go_at_call 15; (with_reducible refine (K1.out _).mono ?_); rintro ee w1 ⟨rfl, hb⟩; replace T0 := T0.step hb; clear hb r0 r1 r2 r3 r4 r5 r6 r7 r8 r9 r10 r11 r12; obtain ⟨r0, r1, r2, r3, r4, r5, r6, r7, r8, r9, r10, r11, r12⟩ := T0.2.facts))
    go_ret
    exact ⟨rfl, T0.1⟩
  · go_enter Tryz.func5, Tryz.ntmps5
    go_wp2_with (first | (go_at_call 15; (with_reducible refine (K1.out _).mono ?_); rintro ee w1 ⟨rfl, hb⟩; replace T0 := T0.step hb; clear hb r0 r1 r2 r3 r4 r5 r6 r7 r8 r9 r10 r11 r12; obtain ⟨r0, r1, r2, r3, r4, r5, r6, r7, r8, r9, r10, r11, r12⟩ := T0.2.facts) | (go_at_call 15; (with_reducible refine (K2.out _).mono ?_); rintro ee w1 ⟨rfl, hb⟩; replace T0 := T0.step hb; clear hb r0 r1 r2 r3 r4 r5 r6 r7 r8 r9 r10 r11 r12; obtain ⟨r0, r1, r2, r3, r4, r5, r6, r7, r8, r9, r10, r11, r12⟩ := T0.2.facts))
    go_ret
    exact ⟨rfl, T0.1⟩
end Go.Proofs.YtdknipaimfecaaaGreatDoor
namespace Go.Proofs.YtdknipaimfecaaaGreatDoor
open Go Go.RowKit Nt
noncomputable def sumsG (s : Gs) : List Gs → Gs × Int
  | [] => (s, 0)
  | d :: r => if gaddE s d = 0 then sumsG (gaddD s d) r else (Gs.zero, 4)
theorem sumsG_nil (s : Gs) : sumsG s [] = (s, 0) := rfl
theorem sumsG_on {s d : Gs} {r : List Gs} (h : gaddE s d = 0) : sumsG s (d :: r) = sumsG (gaddD s d) r := by rw [sumsG, if_pos h]
theorem sumsG_off {s d : Gs} {r : List Gs} (h : gaddE s d ≠ 0) : sumsG s (d :: r) = (Gs.zero, 4) := by rw [sumsG, if_neg h]
theorem dropG_at {l : List Gs} {k : Nat} (h : k < l.length) : l.drop k = l[k] :: l.drop (k + 1) := List.drop_eq_getElem_cons h
def SumGPost (l : List Gs) (w : World) (e : Ending) (w' : World) : Prop := e = .returned (.tuple #[(sumsG Gs.zero l).1.v, .int .i64 (sumsG Gs.zero l).2]) ∧ Below w.heap.size w w'
def Gts (w : World) (A : Option Addr) (l : List Gt) : Prop := 0 < l.length → ∃ ad, A = some ad ∧ ad.block < w.heap.size ∧ ∀ j (h : j < l.length), w.cell? (ad.add (j * 6)) = some (.bool l[j].re.g) ∧ w.cell? ⟨(ad.add (j * 6)).block, (ad.add (j * 6)).off + 1, none⟩ = some (.string l[j].re.s) ∧ w.cell? ⟨(ad.add (j * 6)).block, (ad.add (j * 6)).off + 2, none⟩ = some (.int .i64 l[j].re.x) ∧ w.cell? ⟨(ad.add (j * 6)).block, (ad.add (j * 6)).off + 3, none⟩ = some (.bool l[j].im.g) ∧ w.cell? ⟨(ad.add (j * 6)).block, (ad.add (j * 6)).off + 4, none⟩ = some (.string l[j].im.s) ∧ w.cell? ⟨(ad.add (j * 6)).block, (ad.add (j * 6)).off + 5, none⟩ = some (.int .i64 l[j].im.x)
theorem Gts.below {w w' : World} {A : Option Addr} {l : List Gt} (h : Gts w A l) (hb : Below w.heap.size w w') : Gts w' A l := fun h0 => by
  obtain ⟨ad, e, hl, hc⟩ := h h0
  refine ⟨ad, e, Nat.lt_of_lt_of_le hl hb.size, fun j hj => ?_⟩
  obtain ⟨c0, c1, c2, c3, c4, c5⟩ := hc j hj
  exact ⟨(hb.cell (p := ad.add (j * 6)) (by rw [block_of_add']; exact hl)).trans c0, (hb.cell (p := ⟨(ad.add (j * 6)).block, (ad.add (j * 6)).off + 1, none⟩) (by show (ad.add (j * 6)).block < _; rw [block_of_add']; exact hl)).trans c1, (hb.cell (p := ⟨(ad.add (j * 6)).block, (ad.add (j * 6)).off + 2, none⟩) (by show (ad.add (j * 6)).block < _; rw [block_of_add']; exact hl)).trans c2, (hb.cell (p := ⟨(ad.add (j * 6)).block, (ad.add (j * 6)).off + 3, none⟩) (by show (ad.add (j * 6)).block < _; rw [block_of_add']; exact hl)).trans c3, (hb.cell (p := ⟨(ad.add (j * 6)).block, (ad.add (j * 6)).off + 4, none⟩) (by show (ad.add (j * 6)).block < _; rw [block_of_add']; exact hl)).trans c4, (hb.cell (p := ⟨(ad.add (j * 6)).block, (ad.add (j * 6)).off + 5, none⟩) (by show (ad.add (j * 6)).block < _; rw [block_of_add']; exact hl)).trans c5⟩
theorem Gts.at_ {w w' : World} {A : Option Addr} {l : List Gs} (h : Gts w A (l.map Gs.t)) {k : Nat} (hk : k < l.length) (hb : Below w.heap.size w w') :
    ∃ ad, A = some ad ∧ w'.cell? (ad.add (k * 6)) = some (.bool l[k].re.g) ∧ w'.cell? ⟨(ad.add (k * 6)).block, (ad.add (k * 6)).off + 1, none⟩ = some (.string (natS l[k].re.n)) ∧ w'.cell? ⟨(ad.add (k * 6)).block, (ad.add (k * 6)).off + 2, none⟩ = some (.int .i64 l[k].re.x) ∧ w'.cell? ⟨(ad.add (k * 6)).block, (ad.add (k * 6)).off + 3, none⟩ = some (.bool l[k].im.g) ∧ w'.cell? ⟨(ad.add (k * 6)).block, (ad.add (k * 6)).off + 4, none⟩ = some (.string (natS l[k].im.n)) ∧ w'.cell? ⟨(ad.add (k * 6)).block, (ad.add (k * 6)).off + 5, none⟩ = some (.int .i64 l[k].im.x) := by
  obtain ⟨ad, e, hl, hc⟩ := (h.below hb) (by rw [List.length_map]; omega)
  have := hc k (by rw [List.length_map]; exact hk)
  simp only [List.getElem_map, Gs.t, Dy.t] at this
  exact ⟨ad, e, this⟩
theorem Gts.att {w w' : World} {A : Option Addr} {l : List Gt} (h : Gts w A l) {k : Nat} (hk : k < l.length) (hb : Below w.heap.size w w') :
    ∃ ad, A = some ad ∧ w'.cell? (ad.add (k * 6)) = some (.bool l[k].re.g) ∧ w'.cell? ⟨(ad.add (k * 6)).block, (ad.add (k * 6)).off + 1, none⟩ = some (.string l[k].re.s) ∧ w'.cell? ⟨(ad.add (k * 6)).block, (ad.add (k * 6)).off + 2, none⟩ = some (.int .i64 l[k].re.x) ∧ w'.cell? ⟨(ad.add (k * 6)).block, (ad.add (k * 6)).off + 3, none⟩ = some (.bool l[k].im.g) ∧ w'.cell? ⟨(ad.add (k * 6)).block, (ad.add (k * 6)).off + 4, none⟩ = some (.string l[k].im.s) ∧ w'.cell? ⟨(ad.add (k * 6)).block, (ad.add (k * 6)).off + 5, none⟩ = some (.int .i64 l[k].im.x) := by
  obtain ⟨ad, e, hl, hc⟩ := (h.below hb) (by omega)
  exact ⟨ad, e, hc k hk⟩
theorem Gts_gs : ∀ {l : List Gt}, (∀ t ∈ l, t.Ok) → ∃ d : List Gs, l = d.map Gs.t ∧ ∀ x ∈ d, x.Ok
  | [], _ => ⟨[], rfl, fun x h => by cases h⟩
  | t :: r, h => by
    obtain ⟨d, hd, he⟩ := Gts_gs (l := r) (fun u hu => h u (List.mem_cons_of_mem _ hu))
    obtain ⟨x, hx, hxe⟩ := Gt.gs (h t (List.mem_cons_self ..))
    refine ⟨x :: d, by rw [List.map_cons, ← hd, ← hxe], fun y hy => ?_⟩
    rcases List.mem_cons.1 hy with rfl | hy
    · exact hx
    · exact he y hy
def OwnGs (w : World) (G n : Nat) (l : List Gt) (k : Nat) : Prop := ∃ cs : Array Value, Blk w G 26 cs ∧ cs.size = (n + 1) * 6 ∧
  ∀ j (h : j < l.length), j < k → cs[j * 6]? = some (.bool l[j].re.g) ∧ cs[j * 6 + 1]? = some (.string l[j].re.s) ∧ cs[j * 6 + 2]? = some (.int .i64 l[j].re.x) ∧ cs[j * 6 + 3]? = some (.bool l[j].im.g) ∧ cs[j * 6 + 4]? = some (.string l[j].im.s) ∧ cs[j * 6 + 5]? = some (.int .i64 l[j].im.x)
section
variable {w w' : World} {G n k : Nat} {l : List Gt}
theorem OwnGs.lt (h : OwnGs w G n l k) : G < w.heap.size := by obtain ⟨cs, h, _⟩ := h; exact h.lt
theorem OwnGs.below (h : OwnGs w G n l k) (hb : Below w.heap.size w w') : OwnGs w' G n l k := by
  obtain ⟨cs, h1, h2, h3⟩ := h
  exact ⟨cs, h1.below hb h1.lt, h2, h3⟩
theorem OwnGs.new (w : World) (z : Array Value) (hz : z.size = (n + 1) * 6) : OwnGs (w.alloc (.cells z 26)) w.heap.size n l 0 := ⟨_, Blk.new w _ _, hz, fun j _ h => absurd h (by omega)⟩
theorem OwnGs.room (h : OwnGs w G n l k) {i : Nat} (hi : i < (n + 1) * 6) : (w.cell? ⟨G, i, none⟩).isSome = true ∧ w.frozen? ⟨G, i, none⟩ = false := by
  obtain ⟨cs, h1, h2, h3⟩ := h
  exact ⟨by rw [h1.cell]; simp [h2, hi], h1.frozen i⟩
theorem OwnGs.six (h : OwnGs w G n l k) {i : Nat} (hi : i ≤ n) (v0 v1 v2 v3 v4 v5 : Value) :
    ∃ cs : Array Value, Blk ((((((w.setCell ⟨G, i * 6, none⟩ v0).setCell ⟨G, i * 6 + 1, none⟩ v1).setCell ⟨G, i * 6 + 2, none⟩ v2).setCell ⟨G, i * 6 + 3, none⟩ v3).setCell ⟨G, i * 6 + 4, none⟩ v4).setCell ⟨G, i * 6 + 5, none⟩ v5) G 26 cs ∧ cs.size = (n + 1) * 6 ∧
      cs[i * 6]? = some v0 ∧ cs[i * 6 + 1]? = some v1 ∧ cs[i * 6 + 2]? = some v2 ∧ cs[i * 6 + 3]? = some v3 ∧ cs[i * 6 + 4]? = some v4 ∧ cs[i * 6 + 5]? = some v5 ∧
      ∀ j (h : j < l.length), j < k → j ≠ i → cs[j * 6]? = some (.bool l[j].re.g) ∧ cs[j * 6 + 1]? = some (.string l[j].re.s) ∧ cs[j * 6 + 2]? = some (.int .i64 l[j].re.x) ∧ cs[j * 6 + 3]? = some (.bool l[j].im.g) ∧ cs[j * 6 + 4]? = some (.string l[j].im.s) ∧ cs[j * 6 + 5]? = some (.int .i64 l[j].im.x) := by
  obtain ⟨cs, h1, h2, h3⟩ := h
  refine ⟨_, (((((h1.set_ (i * 6) v0).set_ (i * 6 + 1) v1).set_ (i * 6 + 2) v2).set_ (i * 6 + 3) v3).set_ (i * 6 + 4) v4).set_ (i * 6 + 5) v5, by simp [h2], ?_, ?_, ?_, ?_, ?_, ?_, fun j hj hk hne => ?_⟩
  · rw [Array.getElem?_setIfInBounds_ne (by omega), Array.getElem?_setIfInBounds_ne (by omega), Array.getElem?_setIfInBounds_ne (by omega), Array.getElem?_setIfInBounds_ne (by omega), Array.getElem?_setIfInBounds_ne (by omega), Array.getElem?_setIfInBounds_self]; simp [h2]; omega
  · rw [Array.getElem?_setIfInBounds_ne (by omega), Array.getElem?_setIfInBounds_ne (by omega), Array.getElem?_setIfInBounds_ne (by omega), Array.getElem?_setIfInBounds_ne (by omega), Array.getElem?_setIfInBounds_self]; simp [h2]; omega
  · rw [Array.getElem?_setIfInBounds_ne (by omega), Array.getElem?_setIfInBounds_ne (by omega), Array.getElem?_setIfInBounds_ne (by omega), Array.getElem?_setIfInBounds_self]; simp [h2]; omega
  · rw [Array.getElem?_setIfInBounds_ne (by omega), Array.getElem?_setIfInBounds_ne (by omega), Array.getElem?_setIfInBounds_self]; simp [h2]; omega
  · rw [Array.getElem?_setIfInBounds_ne (by omega), Array.getElem?_setIfInBounds_self]; simp [h2]; omega
  · rw [Array.getElem?_setIfInBounds_self]; simp [h2]; omega
  · obtain ⟨e0, e1, e2, e3, e4, e5⟩ := h3 j hj hk
    refine ⟨?_, ?_, ?_, ?_, ?_, ?_⟩
    · rw [Array.getElem?_setIfInBounds_ne (by omega), Array.getElem?_setIfInBounds_ne (by omega), Array.getElem?_setIfInBounds_ne (by omega), Array.getElem?_setIfInBounds_ne (by omega), Array.getElem?_setIfInBounds_ne (by omega), Array.getElem?_setIfInBounds_ne (by omega)]; exact e0
    · rw [Array.getElem?_setIfInBounds_ne (by omega), Array.getElem?_setIfInBounds_ne (by omega), Array.getElem?_setIfInBounds_ne (by omega), Array.getElem?_setIfInBounds_ne (by omega), Array.getElem?_setIfInBounds_ne (by omega), Array.getElem?_setIfInBounds_ne (by omega)]; exact e1
    · rw [Array.getElem?_setIfInBounds_ne (by omega), Array.getElem?_setIfInBounds_ne (by omega), Array.getElem?_setIfInBounds_ne (by omega), Array.getElem?_setIfInBounds_ne (by omega), Array.getElem?_setIfInBounds_ne (by omega), Array.getElem?_setIfInBounds_ne (by omega)]; exact e2
    · rw [Array.getElem?_setIfInBounds_ne (by omega), Array.getElem?_setIfInBounds_ne (by omega), Array.getElem?_setIfInBounds_ne (by omega), Array.getElem?_setIfInBounds_ne (by omega), Array.getElem?_setIfInBounds_ne (by omega), Array.getElem?_setIfInBounds_ne (by omega)]; exact e3
    · rw [Array.getElem?_setIfInBounds_ne (by omega), Array.getElem?_setIfInBounds_ne (by omega), Array.getElem?_setIfInBounds_ne (by omega), Array.getElem?_setIfInBounds_ne (by omega), Array.getElem?_setIfInBounds_ne (by omega), Array.getElem?_setIfInBounds_ne (by omega)]; exact e4
    · rw [Array.getElem?_setIfInBounds_ne (by omega), Array.getElem?_setIfInBounds_ne (by omega), Array.getElem?_setIfInBounds_ne (by omega), Array.getElem?_setIfInBounds_ne (by omega), Array.getElem?_setIfInBounds_ne (by omega), Array.getElem?_setIfInBounds_ne (by omega)]; exact e5
theorem OwnGs.put (h : OwnGs w G n l k) (hk : k < n) (hl : k < l.length) : OwnGs ((((((w.setCell ⟨G, k * 6, none⟩ (.bool l[k].re.g)).setCell ⟨G, k * 6 + 1, none⟩ (.string l[k].re.s)).setCell ⟨G, k * 6 + 2, none⟩ (.int .i64 l[k].re.x)).setCell ⟨G, k * 6 + 3, none⟩ (.bool l[k].im.g)).setCell ⟨G, k * 6 + 4, none⟩ (.string l[k].im.s)).setCell ⟨G, k * 6 + 5, none⟩ (.int .i64 l[k].im.x)) G n l (k + 1) := by
  obtain ⟨cs, h1, h2, e0, e1, e2, e3, e4, e5, h3⟩ := h.six (i := k) (by omega) (.bool l[k].re.g) (.string l[k].re.s) (.int .i64 l[k].re.x) (.bool l[k].im.g) (.string l[k].im.s) (.int .i64 l[k].im.x)
  refine ⟨cs, h1, h2, fun j hj hlt => ?_⟩
  by_cases hjk : j = k
  · subst hjk; exact ⟨e0, e1, e2, e3, e4, e5⟩
  · exact h3 j hj (by omega) hjk
end
def OwnGAll (w : World) (G n : Nat) (l : List Gt) : Prop := G < w.heap.size ∧
  (∀ j (h : j < l.length), w.cell? ⟨G, j * 6, none⟩ = some (.bool l[j].re.g) ∧ w.cell? ⟨G, j * 6 + 1, none⟩ = some (.string l[j].re.s) ∧ w.cell? ⟨G, j * 6 + 2, none⟩ = some (.int .i64 l[j].re.x) ∧ w.cell? ⟨G, j * 6 + 3, none⟩ = some (.bool l[j].im.g) ∧ w.cell? ⟨G, j * 6 + 4, none⟩ = some (.string l[j].im.s) ∧ w.cell? ⟨G, j * 6 + 5, none⟩ = some (.int .i64 l[j].im.x)) ∧
  w.cell? ⟨G, n * 6, none⟩ = some (.bool false) ∧ w.cell? ⟨G, n * 6 + 1, none⟩ = some (.string ⟨#[]⟩) ∧ w.cell? ⟨G, n * 6 + 2, none⟩ = some (.int .i64 77) ∧ w.cell? ⟨G, n * 6 + 3, none⟩ = some (.bool false) ∧ w.cell? ⟨G, n * 6 + 4, none⟩ = some (.string ⟨#[]⟩) ∧ w.cell? ⟨G, n * 6 + 5, none⟩ = some (.int .i64 0)
theorem OwnGs.all_ {w : World} {G n : Nat} {l : List Gt} (h : OwnGs w G n l n) (hn : n = l.length) : OwnGAll ((((((w.setCell ⟨G, n * 6, none⟩ (.bool false)).setCell ⟨G, n * 6 + 1, none⟩ (.string ⟨#[]⟩)).setCell ⟨G, n * 6 + 2, none⟩ (.int .i64 77)).setCell ⟨G, n * 6 + 3, none⟩ (.bool false)).setCell ⟨G, n * 6 + 4, none⟩ (.string ⟨#[]⟩)).setCell ⟨G, n * 6 + 5, none⟩ (.int .i64 0)) G n l := by
  obtain ⟨cs, h1, h2, e0, e1, e2, e3, e4, e5, h3⟩ := h.six (i := n) (Nat.le_refl _) (.bool false) (.string ⟨#[]⟩) (.int .i64 77) (.bool false) (.string ⟨#[]⟩) (.int .i64 0)
  refine ⟨h1.lt, fun j hj => ?_, by rw [h1.cell]; exact e0, by rw [h1.cell]; exact e1, by rw [h1.cell]; exact e2, by rw [h1.cell]; exact e3, by rw [h1.cell]; exact e4, by rw [h1.cell]; exact e5⟩
  rw [h1.cell, h1.cell, h1.cell, h1.cell, h1.cell, h1.cell]
  exact h3 j hj (by omega) (by omega)
theorem OwnGAll.below {w w' : World} {G n : Nat} {l : List Gt} (h : OwnGAll w G n l) (hb : Below w.heap.size w w') : OwnGAll w' G n l := by
  obtain ⟨h0, h1, e0, e1, e2, e3, e4, e5⟩ := h
  refine ⟨Nat.lt_of_lt_of_le h0 hb.size, fun j hj => ?_, (hb.cell (p := ⟨G, n * 6, none⟩) h0).trans e0, (hb.cell (p := ⟨G, n * 6 + 1, none⟩) h0).trans e1, (hb.cell (p := ⟨G, n * 6 + 2, none⟩) h0).trans e2, (hb.cell (p := ⟨G, n * 6 + 3, none⟩) h0).trans e3, (hb.cell (p := ⟨G, n * 6 + 4, none⟩) h0).trans e4, (hb.cell (p := ⟨G, n * 6 + 5, none⟩) h0).trans e5⟩
  obtain ⟨c0, c1, c2, c3, c4, c5⟩ := h1 j hj
  exact ⟨(hb.cell (p := ⟨G, j * 6, none⟩) h0).trans c0, (hb.cell (p := ⟨G, j * 6 + 1, none⟩) h0).trans c1, (hb.cell (p := ⟨G, j * 6 + 2, none⟩) h0).trans c2, (hb.cell (p := ⟨G, j * 6 + 3, none⟩) h0).trans c3, (hb.cell (p := ⟨G, j * 6 + 4, none⟩) h0).trans c4, (hb.cell (p := ⟨G, j * 6 + 5, none⟩) h0).trans c5⟩
theorem OwnGAll.gts {w : World} {G n : Nat} {l : List Gt} (h : OwnGAll w G n l) : Gts w (some ⟨G, 0, none⟩) l := fun _ => ⟨⟨G, 0, none⟩, rfl, h.1, fun j hj => by
  have c := h.2.1 j hj
  rw [add_plain0]
  exact c⟩
theorem wpList_makeG {P : Program} (l : List Gt) (w : World) {ops : Array Oper} {rest : List Oper} {o : Oper} {a : Act} {Q : Exit → Act → World → Prop}
    (hg : o.guard = none) (x c : Operand) (t : TypeId) (hop : o.op = Op.makeSlice t x c)
    (i : TypeInfo) (h1 : P.underlying t = some (.slice 26)) (h2 : P.info? 26 = some i) (h3 : i.zero = some (.agg #[.bool false, .string ⟨#[]⟩, .int .i64 0, .bool false, .string ⟨#[]⟩, .int .i64 0])) (h4 : i.size = 6)
    (kl kc : IntKind) (L C : Int) (n : Nat) (hl : a.eval x = .int kl L) (hc : a.eval c = .int kc C) (hL : L = ((n + 1 : Nat) : Int)) (hC : C = ((n + 1 : Nat) : Int)) (b2 : i.bytes * (n + 1) ≤ 281474976710656) (b3 : n + 1 ≤ maxLen)
    (hK : ∀ w', OwnGs w' w.heap.size n l 0 → Below w.heap.size w w' → wpList P ops Q rest (a.put o.dst (.slice (some ⟨w.heap.size, 0, none⟩) (n + 1) (n + 1))) w') :
    wpList P ops Q (o :: rest) a w := by
  refine wpList_plain hg fun K hK' => ?_
  have hr := run_make (P := P) w t 26 i (.agg #[.bool false, .string ⟨#[]⟩, .int .i64 0, .bool false, .string ⟨#[]⟩, .int .i64 0]) h1 h2 h3 kl kc ((n + 1 : Nat) : Int) ((n + 1 : Nat) : Int) (by omega) (Int.le_refl _) (by
    have h : ((i.bytes * (n + 1) : Nat) : Int) ≤ 281474976710656 := by omega
    rwa [Int.natCast_mul] at h) (by have h := b3; simp [maxLen] at h ⊢; omega)
  rw [Int.toNat_natCast] at hr
  rw [h4] at hr
  subst hL
  subst hC
  have hfin := hK (w.alloc (.cells (madeCells (Value.agg #[.bool false, .string ⟨#[]⟩, .int .i64 0, .bool false, .string ⟨#[]⟩, .int .i64 0]).cells ((n + 1) * 6)) 26)) (OwnGs.new w _ (by simp [madeCells])) ((Below.refl _ _).alloc (Nat.le_refl _) _)
  unfold Oper.wp
  simp only [execOp, hop, hl, hc, Sem.run_bind, Sem.run_pure, hr, Result.andThen_ok]
  exact hK' _ _ hfin
theorem below_six {w w' : World} {N G : Nat} {i0 i1 i2 i3 i4 i5 : Nat} (h : Below N w w') (hG : N ≤ G) (a b c d e f : Value) : Below N w ((((((w'.setCell ⟨G, i0, none⟩ a).setCell ⟨G, i1, none⟩ b).setCell ⟨G, i2, none⟩ c).setCell ⟨G, i3, none⟩ d).setCell ⟨G, i4, none⟩ e).setCell ⟨G, i5, none⟩ f) :=
  (((((h.setCell (p := ⟨G, i0, none⟩) hG a).setCell (p := ⟨G, i1, none⟩) hG b).setCell (p := ⟨G, i2, none⟩) hG c).setCell (p := ⟨G, i3, none⟩) hG d).setCell (p := ⟨G, i4, none⟩) hG e).setCell (p := ⟨G, i5, none⟩) hG f
end Go.Proofs.YtdknipaimfecaaaGreatDoor
namespace Go.Proofs.YtdknipaimfecaaaGreatDoor
open Go Go.RowKit Nt
open Classical in
@[irreducible] noncomputable def gEs (l : List Gt) : Int := if ∀ t ∈ l, t.Ok then 0 else 2
theorem gEs_ok {l : List Gt} (h : ∀ t ∈ l, t.Ok) : gEs l = 0 := by unfold gEs; rw [if_pos h]
theorem gEs_no {l : List Gt} {t : Gt} (h : t ∈ l) (hn : ¬ t.Ok) : gEs l = 2 := by unfold gEs; rw [if_neg (fun c => hn (c t h))]
set_option maxRecDepth 100000 in
set_option maxHeartbeats 1000000 in
theorem Gall_c (A : Option Addr) (c : Nat) (l : List Gt) (w : World) (hl : l.length ≤ 9223372036854775807) (hs : ∀ t ∈ l, t.Small) (h : Gts w A l) (hG : Globs glT w) :
    Calls Tryz.prog 19 #[.slice A l.length c] w fun e w' => e = .returned (.int .i64 (gEs l)) ∧ Below w.heap.size w w' := by
  have HD := Lib.hid h
  have HS := Lib.hid hs
  have HG : Hid (∀ W, Below w.heap.size w W → Globs glT W) := Lib.hid (fun W hW => hG.below hW (Nat.le_refl _))
  clear h hs hG
  go_enter Tryz.func19, Tryz.ntmps19
  go_wp2
  go_loopw [8] (fun i wr => ∃ k : Nat, k ≤ l.length ∧ i = .int .i64 k ∧ Hid (∀ j (h : j < l.length), j < k → l[j].Ok) ∧ Below w.heap.size w wr) (fun i _ => l.length - (intOf i).toNat)
  case atStart => exact ⟨0, Nat.zero_le _, rfl, Lib.hid (fun j _ h => by omega), Below.refl _ _⟩
  case round =>
    obtain ⟨k, hk, rfl, hok, hb⟩ := hrel
    by_cases hlt : k < l.length
    · obtain ⟨ad, rfl, c0, c1, c2, c3, c4, c5⟩ := HD.out.att hlt hb
      have K := Lib.hid (fun W (hW : Below w.heap.size w W) => GCheck_all l[k] (HS.out _ (List.getElem_mem hlt)) W (HG.out W hW))
      by_cases hok1 : l[k].Ok
      · rw [gE_ok hok1] at K
        have HOK := Lib.hid (show ∀ j (h : j < l.length), j < k + 1 → l[j].Ok from fun j hj h2 => by
          rcases Nat.lt_or_ge j k with h3 | h3
          · exact hok.out j hj h3
          · obtain rfl : j = k := by omega
            exact hok1)
        have HLT := Lib.hid hlt
        clear hok1 hok
        generalize l[k] = d at *
        clear hlt
        go_wp2_with fail
        refine (K.out _ (by first | exact hb | exact hb.alloc hb.size _)).mono ?_
        rintro e w2 ⟨rfl, hb2⟩
        have hb3 : Below w.heap.size w w2 := by first | exact below_chain hb hb2 | exact below_chain hb (box_below hb2)
        clear hb2
        go_wp2_with fail
        go_roundw
        case rel => exact ⟨k + 1, by have := HLT.out; omega, by go_num, HOK, hb3⟩
        case measure => have := HLT.out; simp [intOf]; omega
      · have e1 := gEs_no (l := l) (List.getElem_mem hlt) hok1
        rw [gE_no hok1] at K
        have HE := Lib.hid e1
        clear e1 hok1 hok
        generalize l[k] = d at *
        go_wp2_with fail
        refine (K.out _ (by first | exact hb | exact hb.alloc hb.size _)).mono ?_
        rintro e w2 ⟨rfl, hb2⟩
        have hb3 : Below w.heap.size w w2 := by first | exact below_chain hb hb2 | exact below_chain hb (box_below hb2)
        clear hb2
        go_wp2_with fail
        go_ret
        exact ⟨by rw [HE.out]; rfl, hb3⟩
    · have e1 := gEs_ok (l := l) (fun t ht => by
        obtain ⟨j, hj, rfl⟩ := List.getElem_of_mem ht
        exact hok.out j hj (by omega))
      have HE := Lib.hid e1
      clear e1
      go_wp2_with fail
      go_ret
      exact ⟨by rw [HE.out]; rfl, hb⟩
end Go.Proofs.YtdknipaimfecaaaGreatDoor
namespace Go.Proofs.YtdknipaimfecaaaGreatDoor
open Go Go.RowKit Nt
def Box6 (w : World) (B : Nat) (a b c d e f : Value) : Prop := Blk w B 26 #[a, b, c, d, e, f]
theorem Box6.facts {w : World} {B : Nat} {a b c d e f : Value} (h : Box6 w B a b c d e f) : B < w.heap.size ∧ w.cell? ⟨B, 0, none⟩ = some a ∧ w.cell? ⟨B, 1, none⟩ = some b ∧ w.cell? ⟨B, 2, none⟩ = some c ∧ w.cell? ⟨B, 3, none⟩ = some d ∧ w.cell? ⟨B, 4, none⟩ = some e ∧ w.cell? ⟨B, 5, none⟩ = some f ∧ w.frozen? ⟨B, 0, none⟩ = false ∧ w.frozen? ⟨B, 1, none⟩ = false ∧ w.frozen? ⟨B, 2, none⟩ = false ∧ w.frozen? ⟨B, 3, none⟩ = false ∧ w.frozen? ⟨B, 4, none⟩ = false ∧ w.frozen? ⟨B, 5, none⟩ = false :=
  ⟨Blk.lt h, (Blk.cell h 0).trans rfl, (Blk.cell h 1).trans rfl, (Blk.cell h 2).trans rfl, (Blk.cell h 3).trans rfl, (Blk.cell h 4).trans rfl, (Blk.cell h 5).trans rfl, Blk.frozen h 0, Blk.frozen h 1, Blk.frozen h 2, Blk.frozen h 3, Blk.frozen h 4, Blk.frozen h 5⟩
theorem Box6.step {w w' : World} {B : Nat} {a b c d e f : Value} (h : Box6 w B a b c d e f) (hb : Below w.heap.size w w') : Box6 w' B a b c d e f := Blk.below h hb (Blk.lt h)
theorem Box6.new (w : World) (a b c d e f : Value) : Box6 (w.alloc (.cells #[a, b, c, d, e, f] 26)) w.heap.size a b c d e f := Blk.new w _ _
theorem Box6.more {w : World} {B : Nat} {a b c d e f : Value} (h : Box6 w B a b c d e f) (o : Obj) : Box6 (w.alloc o) B a b c d e f := Blk.alloc h o
theorem Box6.put {w : World} {B : Nat} {a b c d e f : Value} (h : Box6 w B a b c d e f) (a' b' c' d' e' f' : Value) : Box6 ((((((w.setCell ⟨B, 0, none⟩ a').setCell ⟨B, 1, none⟩ b').setCell ⟨B, 2, none⟩ c').setCell ⟨B, 3, none⟩ d').setCell ⟨B, 4, none⟩ e').setCell ⟨B, 5, none⟩ f') B a' b' c' d' e' f' := by
  have := (((((Blk.set_ h 0 a').set_ 1 b').set_ 2 c').set_ 3 d').set_ 4 e').set_ 5 f'
  unfold Box6
  simpa using this
theorem Blk.far6 {w : World} {B C : Nat} {t : TypeId} {cs : Array Value} (h : Blk w B t cs) (hne : B ≠ C) (a' b' c' d' e' f' : Value) : Blk ((((((w.setCell ⟨C, 0, none⟩ a').setCell ⟨C, 1, none⟩ b').setCell ⟨C, 2, none⟩ c').setCell ⟨C, 3, none⟩ d').setCell ⟨C, 4, none⟩ e').setCell ⟨C, 5, none⟩ f') B t cs :=
  Blk.far (Blk.far (Blk.far (Blk.far (Blk.far (Blk.far h (p := ⟨C, 0, none⟩) hne a') (p := ⟨C, 1, none⟩) hne b') (p := ⟨C, 2, none⟩) hne c') (p := ⟨C, 3, none⟩) hne d') (p := ⟨C, 4, none⟩) hne e') (p := ⟨C, 5, none⟩) hne f'
def BG (w : World) (B : Nat) (a : Gt) : Prop := Box6 w B (.bool a.re.g) (.string a.re.s) (.int .i64 a.re.x) (.bool a.im.g) (.string a.im.s) (.int .i64 a.im.x)
structure Chg (F : Nat) (f' : Int) (W W' : World) : Prop where
  far : ∀ B t cs, B ≠ F → Blk W B t cs → Blk W' B t cs
  at_ : Blk W' F 28 #[.int .i64 f']
  low : ∀ (n : Nat) (w : World), n ≤ F → Below n w W → Below n w W'
theorem Chg.below {F : Nat} {f : Int} {W W' : World} (h : Blk W F 28 #[.int .i64 f]) (hb : Below W.heap.size W W') : Chg F f W W' :=
  ⟨fun B t cs _ hB => hB.below hb hB.lt, h.below hb h.lt, fun n w hn hw => hw.trans (hb.mono (by have := h.lt; omega))⟩
theorem Chg.set {F : Nat} {f f' : Int} {W W' : World} (h : Chg F f W W') : Chg F f' W (W'.setCell ⟨F, 0, none⟩ (.int .i64 f')) :=
  ⟨fun B t cs hne hB => (h.far B t cs hne hB).far (p := ⟨F, 0, none⟩) hne _, by have := h.at_.set_ 0 (.int .i64 f'); simpa using this, fun n w hn hw => (h.low n w hn hw).setCell (p := ⟨F, 0, none⟩) hn _⟩
theorem Chg.then_ {F : Nat} {f : Int} {W W' W'' : World} (h : Chg F f W W') (hb : Below W'.heap.size W' W'') : Chg F f W W'' :=
  ⟨fun B t cs hne hB => (h.far B t cs hne hB).below hb (h.far B t cs hne hB).lt, h.at_.below hb h.at_.lt, fun n w hn hw => (h.low n w hn hw).trans (hb.mono (by have := h.at_.lt; omega))⟩
theorem Chg.far3 {F N : Nat} {f : Int} {W W' : World} (h : Chg F f W W') (h1 : W.heap.size ≤ N) (h2 : F < N) (a b c : Value) : Chg F f W (((W'.setCell ⟨N, 0, none⟩ a).setCell ⟨N, 1, none⟩ b).setCell ⟨N, 2, none⟩ c) :=
  ⟨fun B t cs hne hB => (((h.far B t cs hne hB).far (p := ⟨N, 0, none⟩) (by have := hB.lt; show B ≠ N; omega) a).far (p := ⟨N, 1, none⟩) (by have := hB.lt; show B ≠ N; omega) b).far (p := ⟨N, 2, none⟩) (by have := hB.lt; show B ≠ N; omega) c,
    ((h.at_.far (p := ⟨N, 0, none⟩) (Nat.ne_of_lt h2) a).far (p := ⟨N, 1, none⟩) (Nat.ne_of_lt h2) b).far (p := ⟨N, 2, none⟩) (Nat.ne_of_lt h2) c,
    fun n w hn hw => (((h.low n w hn hw).setCell (p := ⟨N, 0, none⟩) (by show n ≤ N; omega) a).setCell (p := ⟨N, 1, none⟩) (by show n ≤ N; omega) b).setCell (p := ⟨N, 2, none⟩) (by show n ≤ N; omega) c⟩
set_option maxRecDepth 100000 in
set_option maxHeartbeats 1000000 in
theorem keep_off (a b : Dt) (f : Int) (F D : Nat) (W : World) (hf : f ≠ 0) (hF : Blk W F 28 #[.int .i64 f]) :
    Calls Tryz.prog 29 #[.agg #[.bool a.g, .string a.s, .int .i64 a.x], .agg #[.bool b.g, .string b.s, .int .i64 b.x], .pointer (some ⟨F, 0, none⟩), .pointer (some ⟨D, 0, none⟩)] W fun e w' => e = .returned (.agg #[.bool false, .string ⟨#[]⟩, .int .i64 0]) ∧ Chg F f W w' := by
  have c1 : (((W.alloc (.cells #[.bool a.g, .string a.s, .int .i64 a.x] 24)).alloc (.cells #[.bool b.g, .string b.s, .int .i64 b.x] 24)).alloc (.cells #[.bool false, .string ⟨#[]⟩, .int .i64 0] 24)).cell? ⟨F, 0, none⟩ = some (.int .i64 f) := (Blk.cell (((hF.alloc _).alloc _).alloc _) 0).trans rfl
  have hlt := hF.lt
  have hz : (f != 0) = true := by simpa using hf
  have HF := Lib.hid hF
  clear hF hf
  go_enter Tryz.func29, Tryz.ntmps29
  go_wp2_with fail
  refine bodyPost_ret (v := .agg #[.bool false, .string ⟨#[]⟩, .int .i64 0]) (by simp [results, Tryz.results29, go_sem]) rfl ⟨rfl, ?_⟩
  exact Chg.below HF.out ((((Below.refl _ _).alloc (Nat.le_refl _) _).alloc (by simp) _).alloc (by simp; omega) _)
set_option maxRecDepth 100000 in
set_option maxHeartbeats 1000000 in
theorem keep_on (a b : Dy) (F D : Nat) (W : World) (ha : a.Ok) (hb : b.Ok) (hF : Blk W F 28 #[.int .i64 0]) (hD : Blk W D 64 #[.func (.func 30) #[] #[]]) (hG : Globs glT W) :
    Calls Tryz.prog 29 #[.agg #[.bool a.g, .string (natS a.n), .int .i64 a.x], .agg #[.bool b.g, .string (natS b.n), .int .i64 b.x], .pointer (some ⟨F, 0, none⟩), .pointer (some ⟨D, 0, none⟩)] W fun e w' => e = .returned (addD a b).v ∧ Chg F (addE a b) W w' := by
  have c1 : (((W.alloc (.cells #[.bool a.g, .string (natS a.n), .int .i64 a.x] 24)).alloc (.cells #[.bool b.g, .string (natS b.n), .int .i64 b.x] 24)).alloc (.cells #[.bool false, .string ⟨#[]⟩, .int .i64 0] 24)).cell? ⟨F, 0, none⟩ = some (.int .i64 0) := (Blk.cell (((hF.alloc _).alloc _).alloc _) 0).trans rfl
  have c2 : (((W.alloc (.cells #[.bool a.g, .string (natS a.n), .int .i64 a.x] 24)).alloc (.cells #[.bool b.g, .string (natS b.n), .int .i64 b.x] 24)).alloc (.cells #[.bool false, .string ⟨#[]⟩, .int .i64 0] 24)).cell? ⟨D, 0, none⟩ = some (.func (.func 30) #[] #[]) := (Blk.cell (((hD.alloc _).alloc _).alloc _) 0).trans rfl
  have hlt := hF.lt
  have hlt2 := hD.lt
  have HF := Lib.hid hF
  have KD := Lib.hid (fun W' (hW : Below W.heap.size W W') => DAdd_c a b W' ha hb (hG.below hW (Nat.le_refl _)))
  unfold AddPost at KD
  clear hF hD ha hb hG
  generalize addD a b = d at *
  generalize addE a b = x at *
  have hb3 : Below W.heap.size W (((W.alloc (.cells #[.bool a.g, .string (natS a.n), .int .i64 a.x] 24)).alloc (.cells #[.bool b.g, .string (natS b.n), .int .i64 b.x] 24)).alloc (.cells #[.bool false, .string ⟨#[]⟩, .int .i64 0] 24)) := (((Below.refl _ _).alloc (Nat.le_refl _) _).alloc (by simp) _).alloc (by simp; omega) _
  have R0 := Box3.new ((W.alloc (.cells #[.bool a.g, .string (natS a.n), .int .i64 a.x] 24)).alloc (.cells #[.bool b.g, .string (natS b.n), .int .i64 b.x] 24)) (.bool false) (.string ⟨#[]⟩) (.int .i64 0)
  obtain ⟨N, hN⟩ : ∃ N, N = W.heap.size + 1 + 1 := ⟨_, rfl⟩
  have eN : ((W.alloc (.cells #[.bool a.g, .string (natS a.n), .int .i64 a.x] 24)).alloc (.cells #[.bool b.g, .string (natS b.n), .int .i64 b.x] 24)).heap.size = N := by rw [hN]; simp
  rw [eN] at R0
  have HB3 := Lib.hid hb3
  have HR0 := Lib.hid R0
  have HN := Lib.hid hN
  clear hb3 R0 eN hN
  go_enter Tryz.func29, Tryz.ntmps29
  go_wp2_with fail
  refine (KD.out _ HB3.out).mono ?_
  rintro e w2 ⟨rfl, hb2⟩
  obtain ⟨q0, q1, q2, q3, q4, q5, q6⟩ := (HR0.out.step hb2).facts
  have hbw := below_chain HB3.out hb2
  have HBW := Lib.hid hbw
  have hF2 := HF.out.below hbw hlt
  have e1 : w2.cell? ⟨F, 0, none⟩ = some (.int .i64 0) := (hF2.cell 0).trans rfl
  have e2 : w2.frozen? ⟨F, 0, none⟩ = false := hF2.frozen 0
  have hlt3 := hF2.lt
  have hFN : F ≠ N := by have := HN.out; omega
  have HRS := Lib.hid (HR0.out.step hb2)
  have hnw : N ≠ w2.heap.size := by omega
  have hfw : F ≠ w2.heap.size := by omega
  clear hb2 hbw hF2
  unfold Dy.v
  rw [← HN.out]
  have HR9 : Hid (Box3 _ N (.bool d.g) (.string (natS d.n)) (.int .i64 d.x)) := Lib.hid (((show Box3 (w2.setCell ⟨F, 0, none⟩ (.int .i64 x)) N _ _ _ from Blk.far HRS.out (p := ⟨F, 0, none⟩) (Ne.symm hFN) _).put (.bool d.g) (.string (natS d.n)) (.int .i64 d.x)).more (.cells #[.bool d.g, .string (natS d.n), .int .i64 d.x] 24))
  go_wp2_with fail
  obtain ⟨y0, y1, y2, y3, y4, y5, y6⟩ := HR9.out.facts
  refine bodyPost_ret (v := .agg #[.bool d.g, .string (natS d.n), .int .i64 d.x]) (by simp [results, Tryz.results29, go_sem, y0, y1, y2, y3]) rfl ⟨rfl, ?_⟩
  exact (((Chg.below HF.out HBW.out).set).far3 (by have := HN.out; omega) (by have := HN.out; omega) _ _ _).then_ ((Below.refl _ _).alloc (Nat.le_refl _) _)
end Go.Proofs.YtdknipaimfecaaaGreatDoor
namespace Go.Proofs.YtdknipaimfecaaaGreatDoor
open Go Go.RowKit Nt
@[local go_sem] theorem store_func (P : Program) (w : World) (a : Addr) (m : Mode) (fn : Fn) (first captured : Array Value) : (store a (.func fn first captured) m).run P w = stored P w a (.func fn first captured) m := run_store P w a _ m rfl
@[local go_sem] theorem store_nilf (P : Program) (w : World) (a : Addr) (m : Mode) : (store a .nilFunc m).run P w = stored P w a .nilFunc m := run_store P w a _ m rfl
theorem Blk.new_at {w : World} {n : Nat} {t : TypeId} {cs : Array Value} (h : w.heap.size = n) : Blk (w.alloc (.cells cs t)) n t cs := by
  subst h
  exact Blk.new w t cs
theorem Blk.put4 {w : World} {B : Nat} {t : TypeId} {a b c d : Value} (h : Blk w B t #[a, b, c, d]) (a' b' c' d' : Value) : Blk ((((w.setCell ⟨B, 0, none⟩ a').setCell ⟨B, 1, none⟩ b').setCell ⟨B, 2, none⟩ c').setCell ⟨B, 3, none⟩ d') B t #[a', b', c', d'] := by
  have := (((Blk.set_ h 0 a').set_ 1 b').set_ 2 c').set_ 3 d'
  simpa using this
set_option maxRecDepth 100000 in
theorem begin1_c (g : FuncId) (F : Addr) (W : World) : Calls Tryz.prog 28 #[.func (.func g) #[] #[], .pointer (some F)] W fun e w' => e = .returned (.func (.func 29) #[] #[.pointer (some F), .pointer (some ⟨W.heap.size, 0, none⟩)]) ∧ w' = W.alloc (.cells #[.func (.func g) #[] #[]] 64) := by
  go_enter Tryz.func28, Tryz.ntmps28
  go_wp2_with fail
  go_ret
  exact ⟨rfl, rfl⟩
set_option maxRecDepth 100000 in
set_option maxHeartbeats 1000000 in
theorem begin_c (f : Int) (W : World) : Calls Tryz.prog 18 #[.int .i64 f] W fun e w' => e = .returned (.agg #[.func (.func 29) #[] #[.pointer (some ⟨W.heap.size, 0, none⟩), .pointer (some ⟨W.heap.size + 1 + 1, 0, none⟩)], .func (.func 29) #[] #[.pointer (some ⟨W.heap.size, 0, none⟩), .pointer (some ⟨W.heap.size + 1 + 1 + 1, 0, none⟩)], .func (.func 29) #[] #[.pointer (some ⟨W.heap.size, 0, none⟩), .pointer (some ⟨W.heap.size + 1 + 1 + 1 + 1, 0, none⟩)], .pointer (some ⟨W.heap.size, 0, none⟩)]) ∧ (Below W.heap.size W w' ∧ W.heap.size + 1 + 1 < w'.heap.size ∧ Blk w' W.heap.size 28 #[.int .i64 f] ∧ Blk w' (W.heap.size + 1 + 1) 64 #[.func (.func 30) #[] #[]]) := by
  have K := Lib.hid begin1_c
  obtain ⟨WA, hWA⟩ : ∃ WA, WA = W.alloc (.cells #[.int .i64 f] 28) := ⟨_, rfl⟩
  have eA : WA.heap.size = W.heap.size + 1 := by rw [hWA]; simp
  have Q := ((((Blk.new WA 50 #[.nilFunc, .nilFunc, .nilFunc, .pointer none]).alloc (.cells #[.func (.func 30) #[] #[]] 64)).alloc (.cells #[.func (.func 31) #[] #[]] 64)).alloc (.cells #[.func (.func 32) #[] #[]] 64))
  have HF := Lib.hid (((((Blk.new W 28 #[.int .i64 f]).alloc (.cells #[.nilFunc, .nilFunc, .nilFunc, .pointer none] 50)).alloc (.cells #[.func (.func 30) #[] #[]] 64)).alloc (.cells #[.func (.func 31) #[] #[]] 64)).alloc (.cells #[.func (.func 32) #[] #[]] 64))
  have HDD := Lib.hid ((((Blk.new (WA.alloc (.cells #[.nilFunc, .nilFunc, .nilFunc, .pointer none] 50)) 64 #[.func (.func 30) #[] #[]]).alloc (.cells #[.func (.func 31) #[] #[]] 64)).alloc (.cells #[.func (.func 32) #[] #[]] 64)))
  have eB : (WA.alloc (.cells #[.nilFunc, .nilFunc, .nilFunc, .pointer none] 50)).heap.size = W.heap.size + 1 + 1 := by simp [eA]
  rw [eA] at Q
  rw [eB] at HDD
  rw [hWA] at Q HDD
  have c0 := (Q.cell 0).trans (show _ = some Value.nilFunc from rfl)
  have c1 := (Q.cell 1).trans (show _ = some Value.nilFunc from rfl)
  have c2 := (Q.cell 2).trans (show _ = some Value.nilFunc from rfl)
  have c3 := (Q.cell 3).trans (show _ = some (Value.pointer none) from rfl)
  have f0 := Q.frozen 0
  have f1 := Q.frozen 1
  have f2 := Q.frozen 2
  have f3 := Q.frozen 3
  have HQ := Lib.hid Q
  clear Q eA eB hWA
  go_enter Tryz.func18, Tryz.ntmps18
  go_wp2_with (first | (go_at_call 28; (with_reducible refine (K.out _ _ _).mono ?_); rintro e w' ⟨rfl, rfl⟩))
  have HS := Blk.put4 HQ.out (.func (.func 29) #[] #[.pointer (some ⟨W.heap.size, 0, none⟩), .pointer (some ⟨W.heap.size + 1 + 1, 0, none⟩)]) (.func (.func 29) #[] #[.pointer (some ⟨W.heap.size, 0, none⟩), .pointer (some ⟨W.heap.size + 1 + 1 + 1, 0, none⟩)]) (.func (.func 29) #[] #[.pointer (some ⟨W.heap.size, 0, none⟩), .pointer (some ⟨W.heap.size + 1 + 1 + 1 + 1, 0, none⟩)]) (.pointer (some ⟨W.heap.size, 0, none⟩))
  have y0 := (HS.cell 0).trans (show _ = some (.func (.func 29) #[] #[.pointer (some ⟨W.heap.size, 0, none⟩), .pointer (some ⟨W.heap.size + 1 + 1, 0, none⟩)] : Value) from rfl)
  have y1 := (HS.cell 1).trans (show _ = some (.func (.func 29) #[] #[.pointer (some ⟨W.heap.size, 0, none⟩), .pointer (some ⟨W.heap.size + 1 + 1 + 1, 0, none⟩)] : Value) from rfl)
  have y2 := (HS.cell 2).trans (show _ = some (.func (.func 29) #[] #[.pointer (some ⟨W.heap.size, 0, none⟩), .pointer (some ⟨W.heap.size + 1 + 1 + 1 + 1, 0, none⟩)] : Value) from rfl)
  have y3 := (HS.cell 3).trans (show _ = some (.pointer (some ⟨W.heap.size, 0, none⟩) : Value) from rfl)
  have hsz := HS.lt
  refine bodyPost_ret (v := .agg #[.func (.func 29) #[] #[.pointer (some ⟨W.heap.size, 0, none⟩), .pointer (some ⟨W.heap.size + 1 + 1, 0, none⟩)], .func (.func 29) #[] #[.pointer (some ⟨W.heap.size, 0, none⟩), .pointer (some ⟨W.heap.size + 1 + 1 + 1, 0, none⟩)], .func (.func 29) #[] #[.pointer (some ⟨W.heap.size, 0, none⟩), .pointer (some ⟨W.heap.size + 1 + 1 + 1 + 1, 0, none⟩)], .pointer (some ⟨W.heap.size, 0, none⟩)]) (by simp [results, Tryz.results18, go_sem, y0, y1, y2, y3]) rfl ⟨rfl, ?_, ?_, ?_, ?_⟩
  · exact ((((((Below.refl W.heap.size W).alloc (Nat.le_refl _) _).alloc (by simp) _).alloc (by simp; omega) _).alloc (by simp; omega) _).alloc (by simp; omega) _)
  · simp
  · exact (((((Blk.new W _ _).alloc _).alloc _).alloc _).alloc _)
  · exact Blk.alloc (Blk.alloc (Blk.new_at (by simp)) _) _
set_option maxRecDepth 100000 in
theorem work_ok (F : Nat) (s1 s2 s3 : Value) (a : Gt) (W : World) (hF : Blk W F 28 #[.int .i64 0]) : Calls Tryz.prog 20 #[.agg #[s1, s2, s3, .pointer (some ⟨F, 0, none⟩)], .agg #[.bool a.re.g, .string a.re.s, .int .i64 a.re.x], .agg #[.bool a.im.g, .string a.im.s, .int .i64 a.im.x]] W fun e w' => e = .returned (.tuple #[.agg #[.bool a.re.g, .string a.re.s, .int .i64 a.re.x, .bool a.im.g, .string a.im.s, .int .i64 a.im.x], .int .i64 0]) ∧ Below W.heap.size W w' := by
  have c1 : ((((W.alloc (.cells #[s1, s2, s3, .pointer (some ⟨F, 0, none⟩)] 50)).alloc (.cells #[.bool a.re.g, .string a.re.s, .int .i64 a.re.x] 24)).alloc (.cells #[.bool a.im.g, .string a.im.s, .int .i64 a.im.x] 24)).alloc (.cells #[.bool false, .string ⟨#[]⟩, .int .i64 0, .bool false, .string ⟨#[]⟩, .int .i64 0] 26)).cell? ⟨F, 0, none⟩ = some (.int .i64 0) := (Blk.cell ((((hF.alloc _).alloc _).alloc _).alloc _) 0).trans rfl
  have hlt := hF.lt
  clear hF
  go_enter Tryz.func20, Tryz.ntmps20
  go_wp2_with fail
  refine bodyPost_ret (v := .tuple #[.agg #[.bool a.re.g, .string a.re.s, .int .i64 a.re.x, .bool a.im.g, .string a.im.s, .int .i64 a.im.x], .int .i64 0]) (by simp [results, Tryz.results20, go_sem]) rfl ⟨rfl, ?_⟩
  exact ((((Below.refl _ _).alloc (Nat.le_refl _) _).alloc (by simp) _).alloc (by simp; omega) _).alloc (by simp; omega) _
set_option maxRecDepth 100000 in
theorem work_no (F : Nat) (f : Int) (s1 s2 s3 : Value) (a : Gt) (W : World) (hf : f ≠ 0) (hF : Blk W F 28 #[.int .i64 f]) : Calls Tryz.prog 20 #[.agg #[s1, s2, s3, .pointer (some ⟨F, 0, none⟩)], .agg #[.bool a.re.g, .string a.re.s, .int .i64 a.re.x], .agg #[.bool a.im.g, .string a.im.s, .int .i64 a.im.x]] W fun e w' => e = .returned (.tuple #[.agg #[.bool false, .string ⟨#[]⟩, .int .i64 0, .bool false, .string ⟨#[]⟩, .int .i64 0], .int .i64 f]) ∧ Below W.heap.size W w' := by
  have c1 : ((((W.alloc (.cells #[s1, s2, s3, .pointer (some ⟨F, 0, none⟩)] 50)).alloc (.cells #[.bool a.re.g, .string a.re.s, .int .i64 a.re.x] 24)).alloc (.cells #[.bool a.im.g, .string a.im.s, .int .i64 a.im.x] 24)).alloc (.cells #[.bool false, .string ⟨#[]⟩, .int .i64 0, .bool false, .string ⟨#[]⟩, .int .i64 0] 26)).cell? ⟨F, 0, none⟩ = some (.int .i64 f) := (Blk.cell ((((hF.alloc _).alloc _).alloc _).alloc _) 0).trans rfl
  have hlt := hF.lt
  have hz : (f != 0) = true := by simpa using hf
  clear hF hf
  go_enter Tryz.func20, Tryz.ntmps20
  go_wp2_with fail
  go_region_law (fail)
  all_goals
    go_wp2_with fail
    refine bodyPost_ret (v := .tuple #[.agg #[.bool false, .string ⟨#[]⟩, .int .i64 0, .bool false, .string ⟨#[]⟩, .int .i64 0], .int .i64 f]) (by simp [results, Tryz.results20, go_sem]) rfl ⟨rfl, ?_⟩
    exact (((((Below.refl _ _).alloc (Nat.le_refl _) _).alloc (by simp) _).alloc (by simp; omega) _).alloc (by simp; omega) _).drew
end Go.Proofs.YtdknipaimfecaaaGreatDoor
namespace Go.Proofs.YtdknipaimfecaaaGreatDoor
open Go Go.RowKit Nt
attribute [local go_sem] store_func store_nilf
structure PH (w : World) (WB F D P : Nat) (s2 s3 : Value) (a : Gt) (f : Int) (W : World) : Prop where
  low : Below w.heap.size w W
  bR : Box6 W w.heap.size (.bool false) (.string ⟨#[]⟩) (.int .i64 0) (.bool false) (.string ⟨#[]⟩) (.int .i64 0)
  bW : Blk W WB 50 #[.func (.func 29) #[] #[.pointer (some ⟨F, 0, none⟩), .pointer (some ⟨D, 0, none⟩)], s2, s3, .pointer (some ⟨F, 0, none⟩)]
  bF : Blk W F 28 #[.int .i64 f]
  bD : Blk W D 64 #[.func (.func 30) #[] #[]]
  bP : BG W P a
structure Rise (R F D WB P : Nat) : Prop where
  rf : R < F
  fd : F < D
  dw : D < WB
  wp : WB < P
section
variable {w W W' : World} {WB F D P : Nat} {s2 s3 : Value} {a : Gt} {f f' : Int}
theorem PH.step (h : PH w WB F D P s2 s3 a f W) (hb : Below W.heap.size W W') : PH w WB F D P s2 s3 a f W' :=
  ⟨below_chain h.low hb, h.bR.below hb h.bR.lt, h.bW.below hb h.bW.lt, h.bF.below hb h.bF.lt, h.bD.below hb h.bD.lt, Blk.below h.bP hb (Blk.lt h.bP)⟩
theorem PH.chg (r : Rise w.heap.size F D WB P) (h : PH w WB F D P s2 s3 a f W) (hb : Chg F f' W W') : PH w WB F D P s2 s3 a f' W' :=
  ⟨hb.low _ _ (Nat.le_of_lt r.rf) h.low, hb.far _ _ _ (Nat.ne_of_lt r.rf) h.bR, hb.far _ _ _ (by have := r.fd; have := r.dw; omega) h.bW, hb.at_, hb.far _ _ _ (by have := r.fd; omega) h.bD, hb.far _ _ _ (by have := r.fd; have := r.dw; have := r.wp; omega) h.bP⟩
theorem PH.put (r : Rise w.heap.size F D WB P) (h : PH w WB F D P s2 s3 a f W) (b : Gt) : PH w WB F D P s2 s3 b f ((((((W.setCell ⟨P, 0, none⟩ (.bool b.re.g)).setCell ⟨P, 1, none⟩ (.string b.re.s)).setCell ⟨P, 2, none⟩ (.int .i64 b.re.x)).setCell ⟨P, 3, none⟩ (.bool b.im.g)).setCell ⟨P, 4, none⟩ (.string b.im.s)).setCell ⟨P, 5, none⟩ (.int .i64 b.im.x)) := by
  obtain ⟨r1, r2, r3, r4⟩ := r
  exact ⟨below_put6 h.low (by omega) _ _ _ _ _ _, Blk.far6 h.bR (by omega) _ _ _ _ _ _, h.bW.far6 (by omega) _ _ _ _ _ _, h.bF.far6 (by omega) _ _ _ _ _ _, h.bD.far6 (by omega) _ _ _ _ _ _, Box6.put h.bP _ _ _ _ _ _⟩
end
structure PG (w : World) (WB F D P G : Nat) (s2 s3 : Value) (a d : Gt) (f : Int) (W : World) : Prop where
  ph : PH w WB F D P s2 s3 a f W
  bG : BG W G d
def SX (WB F D G : Nat) (s2 s3 : Value) (d : Gt) (W : World) : Prop := Blk W WB 50 #[.func (.func 29) #[] #[.pointer (some ⟨F, 0, none⟩), .pointer (some ⟨D, 0, none⟩)], s2, s3, .pointer (some ⟨F, 0, none⟩)] ∧ BG W G d
section
variable {w W W' : World} {WB F D P G : Nat} {s2 s3 : Value} {a d : Gt} {f f' : Int}
theorem PG.sx (h : PG w WB F D P G s2 s3 a d f W) : SX WB F D G s2 s3 d W := ⟨h.ph.bW, h.bG⟩
theorem PG.step (h : PG w WB F D P G s2 s3 a d f W) (hb : Below W.heap.size W W') : PG w WB F D P G s2 s3 a d f W' := ⟨h.ph.step hb, Blk.below h.bG hb (Blk.lt h.bG)⟩
theorem PG.drew (h : PG w WB F D P G s2 s3 a d f W) : PG w WB F D P G s2 s3 a d f W.drew := h.step (Below.refl _ _).drew
theorem PG.drawn (h : PG w WB F D P G s2 s3 a d f W) (n : Nat) : PG w WB F D P G s2 s3 a d f (W.drewN n) := h.step (below_drewN (Below.refl _ _) n)
theorem PG.chg (r : Rise w.heap.size F D WB P) (hg : P < G) (h : PG w WB F D P G s2 s3 a d f W) (hb : Chg F f' W W') : PG w WB F D P G s2 s3 a d f' W' := ⟨h.ph.chg r hb, hb.far _ _ _ (by have := r.fd; have := r.dw; have := r.wp; omega) h.bG⟩
theorem PG.cells (h : PG w WB F D P G s2 s3 a d f W) : P < W.heap.size ∧ W.cell? ⟨P, 0, none⟩ = some (.bool a.re.g) ∧ W.cell? ⟨P, 1, none⟩ = some (.string a.re.s) ∧ W.cell? ⟨P, 2, none⟩ = some (.int .i64 a.re.x) ∧ W.cell? ⟨P, 3, none⟩ = some (.bool a.im.g) ∧ W.cell? ⟨P, 4, none⟩ = some (.string a.im.s) ∧ W.cell? ⟨P, 5, none⟩ = some (.int .i64 a.im.x) ∧ W.frozen? ⟨P, 0, none⟩ = false ∧ W.frozen? ⟨P, 1, none⟩ = false ∧ W.frozen? ⟨P, 2, none⟩ = false ∧ W.frozen? ⟨P, 3, none⟩ = false ∧ W.frozen? ⟨P, 4, none⟩ = false ∧ W.frozen? ⟨P, 5, none⟩ = false := Box6.facts h.ph.bP
theorem SX.step (h : SX WB F D G s2 s3 d W) (hb : Below W.heap.size W W') : SX WB F D G s2 s3 d W' := ⟨h.1.below hb h.1.lt, Blk.below h.2 hb (Blk.lt h.2)⟩
theorem SX.drew (h : SX WB F D G s2 s3 d W) : SX WB F D G s2 s3 d W.drew := h.step (Below.refl _ _).drew
theorem SX.drawn (h : SX WB F D G s2 s3 d W) (n : Nat) : SX WB F D G s2 s3 d (W.drewN n) := h.step (below_drewN (Below.refl _ _) n)
theorem SX.put (h1 : WB ≠ P) (h2 : G ≠ P) (h : SX WB F D G s2 s3 d W) (v0 v1 v2 v3 v4 v5 : Value) : SX WB F D G s2 s3 d ((((((W.setCell ⟨P, 0, none⟩ v0).setCell ⟨P, 1, none⟩ v1).setCell ⟨P, 2, none⟩ v2).setCell ⟨P, 3, none⟩ v3).setCell ⟨P, 4, none⟩ v4).setCell ⟨P, 5, none⟩ v5) := ⟨h.1.far6 h1 _ _ _ _ _ _, Blk.far6 h.2 h2 _ _ _ _ _ _⟩
theorem SX.reads (h : SX WB F D G s2 s3 d W) : W.cell? ⟨WB, 0, none⟩ = some (.func (.func 29) #[] #[.pointer (some ⟨F, 0, none⟩), .pointer (some ⟨D, 0, none⟩)]) ∧ W.cell? ⟨G, 0, none⟩ = some (.bool d.re.g) ∧ W.cell? ⟨G, 1, none⟩ = some (.string d.re.s) ∧ W.cell? ⟨G, 2, none⟩ = some (.int .i64 d.re.x) ∧ W.cell? ⟨G, 3, none⟩ = some (.bool d.im.g) ∧ W.cell? ⟨G, 4, none⟩ = some (.string d.im.s) ∧ W.cell? ⟨G, 5, none⟩ = some (.int .i64 d.im.x) :=
  ⟨(h.1.cell 0).trans rfl, (Blk.cell h.2 0).trans rfl, (Blk.cell h.2 1).trans rfl, (Blk.cell h.2 2).trans rfl, (Blk.cell h.2 3).trans rfl, (Blk.cell h.2 4).trans rfl, (Blk.cell h.2 5).trans rfl⟩
end
set_option maxRecDepth 100000 in
set_option maxHeartbeats 4000000 in
theorem GSum_loop (l : List Gt) (A : Option Addr) (c : Nat) (w : World) (hl : l.length ≤ 9223372036854775807) (st : Nat → Gt) (fm fs : Nat → Int) (hst : st 0 = Gt.zero)
    (hall : ∀ W, Below w.heap.size w W → Calls Tryz.prog 19 #[.slice A l.length c] W fun e w' => e = .returned (.int .i64 (fs 0)) ∧ Below W.heap.size W w')
    (hK1 : ∀ k (h : k < l.length) F D W, Blk W F 28 #[.int .i64 (fs k)] → Blk W D 64 #[.func (.func 30) #[] #[]] → Globs glT W → Calls Tryz.prog 29 #[.agg #[.bool (st k).re.g, .string (st k).re.s, .int .i64 (st k).re.x], .agg #[.bool l[k].re.g, .string l[k].re.s, .int .i64 l[k].re.x], .pointer (some ⟨F, 0, none⟩), .pointer (some ⟨D, 0, none⟩)] W fun e w' => e = .returned (.agg #[.bool (st (k + 1)).re.g, .string (st (k + 1)).re.s, .int .i64 (st (k + 1)).re.x]) ∧ Chg F (fm k) W w')
    (hK2 : ∀ k (h : k < l.length) F D W, Blk W F 28 #[.int .i64 (fm k)] → Blk W D 64 #[.func (.func 30) #[] #[]] → Globs glT W → Calls Tryz.prog 29 #[.agg #[.bool (st k).im.g, .string (st k).im.s, .int .i64 (st k).im.x], .agg #[.bool l[k].im.g, .string l[k].im.s, .int .i64 l[k].im.x], .pointer (some ⟨F, 0, none⟩), .pointer (some ⟨D, 0, none⟩)] W fun e w' => e = .returned (.agg #[.bool (st (k + 1)).im.g, .string (st (k + 1)).im.s, .int .i64 (st (k + 1)).im.x]) ∧ Chg F (fs (k + 1)) W w')
    (h : Gts w A l) (hG : Globs glT w) (V : Value) (hV : (fs l.length = 0 → V = .tuple #[(st l.length).v, .int .i64 0]) ∧ (fs l.length ≠ 0 → V = .tuple #[Gt.zero.v, .int .i64 (fs l.length)])) :
    Calls Tryz.prog 9 #[.slice A l.length c] w fun e w' => e = .returned V ∧ Below w.heap.size w w' := by
  have HD := Lib.hid h
  have HG : Hid (∀ W, Below w.heap.size w W → Globs glT W) := Lib.hid (fun W hW => hG.below hW (Nat.le_refl _))
  have KA := Lib.hid hall
  have KX := Lib.hid hK1
  have KY := Lib.hid hK2
  have HV := Lib.hid hV
  have BR := Box6.new w (.bool false) (.string ⟨#[]⟩) (.int .i64 0) (.bool false) (.string ⟨#[]⟩) (.int .i64 0)
  have HR : Below w.heap.size w (w.alloc (.cells #[.bool false, .string ⟨#[]⟩, .int .i64 0, .bool false, .string ⟨#[]⟩, .int .i64 0] 26)) := (Below.refl _ _).alloc (Nat.le_refl _) _
  clear h hG hall hK1 hK2 hV
  go_enter Tryz.func9, Tryz.ntmps9
  go_wp2_with fail
  refine (KA.out _ HR).mono ?_
  rintro e w1 ⟨rfl, hb1⟩
  replace HR := below_chain HR hb1
  replace BR := BR.step hb1
  clear hb1
  go_wp2_with fail
  refine (begin_c (fs 0) w1).mono ?_
  rintro e w2 ⟨rfl, hb2, hn2, bF, bD⟩
  obtain ⟨F, hF⟩ : ∃ F, F = w1.heap.size := ⟨_, rfl⟩
  obtain ⟨D, hD⟩ : ∃ D, D = w1.heap.size + 1 + 1 := ⟨_, rfl⟩
  obtain ⟨WB, hWB⟩ : ∃ WB, WB = w2.heap.size := ⟨_, rfl⟩
  obtain ⟨P, hP⟩ : ∃ P, P = w2.heap.size + 1 := ⟨_, rfl⟩
  obtain ⟨s2, hs2⟩ : ∃ s2, s2 = (.func (.func 29) #[] #[.pointer (some ⟨w1.heap.size, 0, none⟩), .pointer (some ⟨w1.heap.size + 1 + 1 + 1, 0, none⟩)] : Value) := ⟨_, rfl⟩
  obtain ⟨s3, hs3⟩ : ∃ s3, s3 = (.func (.func 29) #[] #[.pointer (some ⟨w1.heap.size, 0, none⟩), .pointer (some ⟨w1.heap.size + 1 + 1 + 1 + 1, 0, none⟩)] : Value) := ⟨_, rfl⟩
  have o2 : s2.oneCell' = true := by rw [hs2]; rfl
  have o3 : s3.oneCell' = true := by rw [hs3]; rfl
  have r2 : ∀ (Pr : Program) (W : World) (ad : Addr) (m : Mode), (store ad s2 m).run Pr W = stored Pr W ad s2 m := fun Pr W ad m => run_store Pr W ad _ m o2
  have r3 : ∀ (Pr : Program) (W : World) (ad : Addr) (m : Mode), (store ad s3 m).run Pr W = stored Pr W ad s3 m := fun Pr W ad m => run_store Pr W ad _ m o3
  have hRise : Rise w.heap.size F D WB P := ⟨by have := BR.facts.1; omega, by omega, by omega, by omega⟩
  rw [← hs2, ← hs3, ← hD, ← hF]
  rw [← hF] at bF
  rw [← hD] at bD
  have T0 : PH w WB F D P s2 s3 Gt.zero (fs 0) ((w2.alloc (.cells #[.func (.func 29) #[] #[.pointer (some ⟨F, 0, none⟩), .pointer (some ⟨D, 0, none⟩)], s2, s3, .pointer (some ⟨F, 0, none⟩)] 50)).alloc (.cells #[.bool false, .string ⟨#[]⟩, .int .i64 0, .bool false, .string ⟨#[]⟩, .int .i64 0] 26)) := by
    have hlow := below_chain HR hb2
    refine ⟨(hlow.alloc hlow.size _).alloc (by have := hlow.size; simp; omega) _, ((BR.step hb2).more _).more _, ?_, (bF.alloc _).alloc _, (bD.alloc _).alloc _, ?_⟩
    · rw [hWB]; exact (Blk.new w2 _ _).alloc _
    · exact Blk.new_at (by rw [hP]; simp)
  have HT0 := Lib.hid T0
  have HRI := Lib.hid hRise
  have HP := Lib.hid hP
  have HWB := Lib.hid hWB
  clear T0 BR HR hb2 hn2 bF bD hs2 hs3 hF hD hRise KA hP hWB
  go_wp2_with fail
  rw [← HP.out, ← HWB.out]
  generalize (w2.alloc (.cells #[.func (.func 29) #[] #[.pointer (some ⟨F, 0, none⟩), .pointer (some ⟨D, 0, none⟩)], s2, s3, .pointer (some ⟨F, 0, none⟩)] 50)).alloc (.cells #[.bool false, .string ⟨#[]⟩, .int .i64 0, .bool false, .string ⟨#[]⟩, .int .i64 0] 26) = w3 at *
  go_loopw [14] (fun i wr => ∃ k : Nat, k ≤ l.length ∧ i = .int .i64 k ∧ Hid (PH w WB F D P s2 s3 (st k) (fs k) wr)) (fun i _ => l.length - (intOf i).toNat)
  case atStart => exact ⟨0, Nat.zero_le _, rfl, Lib.hid (by rw [hst]; exact HT0.out)⟩
  case round =>
    obtain ⟨k, hk, rfl, hph⟩ := hrel
    by_cases hlt : k < l.length
    · obtain ⟨ad, rfl, c0, c1, c2, c3, c4, c5⟩ := HD.out.att hlt hph.out.low
      have hG2 := HG.out
      have K1 := Lib.hid (fun W (hW : PG w WB F D P wr.heap.size s2 s3 (st k) l[k] (fs k) W) => KX.out k hlt F D W hW.ph.bF hW.ph.bD (hG2 W hW.ph.low))
      have K2 := Lib.hid (fun W (hW : PG w WB F D P wr.heap.size s2 s3 (st k) l[k] (fm k) W) => KY.out k hlt F D W hW.ph.bF hW.ph.bD (hG2 W hW.ph.low))
      obtain ⟨G, hGG⟩ : ∃ G, G = wr.heap.size := ⟨_, rfl⟩
      rw [← hGG] at K1 K2
      have hPG : P < G := by rw [hGG]; exact Blk.lt hph.out.bP
      have TG : PG w WB F D P G s2 s3 (st k) l[k] (fs k) (wr.alloc (.cells #[.bool l[k].re.g, .string l[k].re.s, .int .i64 l[k].re.x, .bool l[k].im.g, .string l[k].im.s, .int .i64 l[k].im.x] 26)) := by
        refine ⟨hph.out.step ((Below.refl _ _).alloc (Nat.le_refl _) _), ?_⟩
        rw [hGG]; exact Blk.new wr _ _
      have HLT := Lib.hid hlt
      have HTG := Lib.hid TG
      have HGG := Lib.hid hGG
      clear TG hG2 hGG
      obtain ⟨a, ha⟩ : ∃ a, a = st k := ⟨_, rfl⟩
      obtain ⟨b, hb⟩ : ∃ b, b = st (k + 1) := ⟨_, rfl⟩
      have HBE := Lib.hid hb
      rw [← ha] at K1 K2 HTG
      rw [← hb] at K1 K2
      clear ha hb hph
      generalize l[k] = d at *
      clear hlt
      have K3 : Hid (∀ W, PG w WB F D P G s2 s3 a d (fs k) W → Calls Tryz.prog 29 #[.agg #[.bool a.re.g, .string a.re.s, .int .i64 a.re.x], .agg #[.bool d.re.g, .string d.re.s, .int .i64 d.re.x], .pointer (some ⟨F, 0, none⟩), .pointer (some ⟨D, 0, none⟩)] W fun e w' => e = .returned (.agg #[.bool b.re.g, .string b.re.s, .int .i64 b.re.x]) ∧ PG w WB F D P G s2 s3 a d (fm k) w') := Lib.hid (fun W hW => (K1.out W hW).mono fun e w' h => ⟨h.1, hW.chg HRI.out hPG h.2⟩)
      have K4 : Hid (∀ W, PG w WB F D P G s2 s3 a d (fm k) W → Calls Tryz.prog 29 #[.agg #[.bool a.im.g, .string a.im.s, .int .i64 a.im.x], .agg #[.bool d.im.g, .string d.im.s, .int .i64 d.im.x], .pointer (some ⟨F, 0, none⟩), .pointer (some ⟨D, 0, none⟩)] W fun e w' => e = .returned (.agg #[.bool b.im.g, .string b.im.s, .int .i64 b.im.x]) ∧ PG w WB F D P G s2 s3 a d (fs (k + 1)) w') := Lib.hid (fun W hW => (K2.out W hW).mono fun e w' h => ⟨h.1, hW.chg HRI.out hPG h.2⟩)
      clear K1 K2
      go_wp2_with fail
      rw [← HGG.out]
      generalize wr.alloc (.cells #[.bool d.re.g, .string d.re.s, .int .i64 d.re.x, .bool d.im.g, .string d.im.s, .int .i64 d.im.x] 26) = w4 at *
      have hpg := HTG.out
      have hsx := hpg.sx
      have L0 := fun W (s : SX WB F D G s2 s3 d W) => s.reads.1
      have L1 := fun W (s : SX WB F D G s2 s3 d W) => s.reads.2.1
      have L2 := fun W (s : SX WB F D G s2 s3 d W) => s.reads.2.2.1
      have L3 := fun W (s : SX WB F D G s2 s3 d W) => s.reads.2.2.2.1
      have L4 := fun W (s : SX WB F D G s2 s3 d W) => s.reads.2.2.2.2.1
      have L5 := fun W (s : SX WB F D G s2 s3 d W) => s.reads.2.2.2.2.2.1
      have L6 := fun W (s : SX WB F D G s2 s3 d W) => s.reads.2.2.2.2.2.2
      obtain ⟨p0, p1, p2, p3, p4, p5, p6, p7, p8, p9, p10, p11, p12⟩ := hpg.drew.cells
      have n1 : WB ≠ P := Nat.ne_of_lt HRI.out.wp
      have n2 : G ≠ P := Nat.ne_of_gt hPG
      clear c0 c1 c2 c3 c4 c5
      refine wp_region_held_drew (S := SX WB F D G s2 s3 d) (by kernel_rfl) hsx.drew (fun hS0 => ?_)
      refine wpAnyH_take (i := 0) (oi := ({ dst := some 18, op := Op.fieldAddr 50 (Operand.tmp 4) 0, type := 0, pos := "gauss.go:173", after := #[], guard := none } : Oper)) (v := (.pointer (some ⟨WB, 0, none⟩) : Value)) rfl (by kernel_rfl) (by kernel_rfl) (by kernel_rfl) (fun _ _ _ h => h) (Or.inl ⟨by rfl, ?_⟩) hS0 ?_
      · intro w hSw
        go_simp
      simp only [Act.put, List.setIfInBounds_toArray, List.set_cons_zero, List.set_cons_succ]
      refine wpAnyH_take (i := 1) (oi := ({ dst := some 19, op := Op.load 47 (Operand.tmp 18), type := 47, pos := "gauss.go:173", after := #[{ on := 0, ground := Ground.data }], guard := none } : Oper)) (v := (.func (.func 29) #[] #[.pointer (some ⟨F, 0, none⟩), .pointer (some ⟨D, 0, none⟩)] : Value)) rfl (by kernel_rfl) (by kernel_rfl) (by kernel_rfl) (fun _ _ _ h => h) (Or.inl ⟨by rfl, ?_⟩) hS0 ?_
      · intro w hSw
        go_simp
      simp only [Act.put, List.setIfInBounds_toArray, List.set_cons_zero, List.set_cons_succ]
      refine wpAnyH_take (i := 2) (oi := ({ dst := some 20, op := Op.fieldAddr 26 (Operand.tmp 5) 0, type := 0, pos := "gauss.go:173", after := #[], guard := none } : Oper)) (v := (.pointer (some ⟨P, 0, none⟩) : Value)) rfl (by kernel_rfl) (by kernel_rfl) (by kernel_rfl) (fun _ _ _ h => h) (Or.inl ⟨by rfl, ?_⟩) hS0 ?_
      · intro w hSw
        go_simp
      simp only [Act.put, List.setIfInBounds_toArray, List.set_cons_zero, List.set_cons_succ]
      refine wpAnyH_take (i := 4) (oi := ({ dst := some 22, op := Op.fieldAddr 26 (Operand.tmp 7) 0, type := 0, pos := "gauss.go:173", after := #[], guard := none } : Oper)) (v := (.pointer (some ⟨G, 0, none⟩) : Value)) rfl (by kernel_rfl) (by kernel_rfl) (by kernel_rfl) (fun _ _ _ h => h) (Or.inl ⟨by rfl, ?_⟩) hS0 ?_
      · intro w hSw
        go_simp
      simp only [Act.put, List.setIfInBounds_toArray, List.set_cons_zero, List.set_cons_succ]
      refine wpAnyH_take (i := 5) (oi := ({ dst := some 23, op := Op.load 24 (Operand.tmp 22), type := 24, pos := "gauss.go:173", after := #[{ on := 4, ground := Ground.data }], guard := none } : Oper)) (v := (.agg #[.bool d.re.g, .string d.re.s, .int .i64 d.re.x] : Value)) rfl (by kernel_rfl) (by kernel_rfl) (by kernel_rfl) (fun _ _ _ h => h) (Or.inl ⟨by rfl, ?_⟩) hS0 ?_
      · intro w hSw
        go_simp
      simp only [Act.put, List.setIfInBounds_toArray, List.set_cons_zero, List.set_cons_succ]
      refine wpAnyH_take (i := 7) (oi := ({ dst := some 25, op := Op.fieldAddr 50 (Operand.tmp 4) 0, type := 0, pos := "gauss.go:173", after := #[], guard := none } : Oper)) (v := (.pointer (some ⟨WB, 0, none⟩) : Value)) rfl (by kernel_rfl) (by kernel_rfl) (by kernel_rfl) (fun _ _ _ h => h) (Or.inl ⟨by rfl, ?_⟩) hS0 ?_
      · intro w hSw
        go_simp
      simp only [Act.put, List.setIfInBounds_toArray, List.set_cons_zero, List.set_cons_succ]
      refine wpAnyH_take (i := 8) (oi := ({ dst := some 26, op := Op.load 47 (Operand.tmp 25), type := 47, pos := "gauss.go:173", after := #[{ on := 7, ground := Ground.data }], guard := none } : Oper)) (v := (.func (.func 29) #[] #[.pointer (some ⟨F, 0, none⟩), .pointer (some ⟨D, 0, none⟩)] : Value)) rfl (by kernel_rfl) (by kernel_rfl) (by kernel_rfl) (fun _ _ _ h => h) (Or.inl ⟨by rfl, ?_⟩) hS0 ?_
      · intro w hSw
        go_simp
      simp only [Act.put, List.setIfInBounds_toArray, List.set_cons_zero, List.set_cons_succ]
      refine wpAnyH_take (i := 9) (oi := ({ dst := some 27, op := Op.fieldAddr 26 (Operand.tmp 5) 1, type := 0, pos := "gauss.go:173", after := #[], guard := none } : Oper)) (v := (.pointer (some ⟨P, 3, none⟩) : Value)) rfl (by kernel_rfl) (by kernel_rfl) (by kernel_rfl) (fun _ _ _ h => h) (Or.inl ⟨by rfl, ?_⟩) hS0 ?_
      · intro w hSw
        go_simp
      simp only [Act.put, List.setIfInBounds_toArray, List.set_cons_zero, List.set_cons_succ]
      refine wpAnyH_take (i := 11) (oi := ({ dst := some 29, op := Op.fieldAddr 26 (Operand.tmp 7) 1, type := 0, pos := "gauss.go:173", after := #[], guard := none } : Oper)) (v := (.pointer (some ⟨G, 3, none⟩) : Value)) rfl (by kernel_rfl) (by kernel_rfl) (by kernel_rfl) (fun _ _ _ h => h) (Or.inl ⟨by rfl, ?_⟩) hS0 ?_
      · intro w hSw
        go_simp
      simp only [Act.put, List.setIfInBounds_toArray, List.set_cons_zero, List.set_cons_succ]
      refine wpAnyH_take (i := 12) (oi := ({ dst := some 30, op := Op.load 24 (Operand.tmp 29), type := 24, pos := "gauss.go:173", after := #[{ on := 11, ground := Ground.data }], guard := none } : Oper)) (v := (.agg #[.bool d.im.g, .string d.im.s, .int .i64 d.im.x] : Value)) rfl (by kernel_rfl) (by kernel_rfl) (by kernel_rfl) (fun _ _ _ h => h) (Or.inl ⟨by rfl, ?_⟩) hS0 ?_
      · intro w hSw
        go_simp
      simp only [Act.put, List.setIfInBounds_toArray, List.set_cons_zero, List.set_cons_succ]
      refine wpAnyH_ready (rs := [3, 10]) (by kernel_rfl) (by simp) ?_
      refine (AllReadyH.cons (o := ({ dst := some 21, op := Op.load 24 (Operand.tmp 20), type := 24, pos := "gauss.go:173", after := #[{ on := 2, ground := Ground.data }], guard := none } : Oper)) rfl (fun K hK => ?_) (AllReadyH.cons (o := ({ dst := some 28, op := Op.load 24 (Operand.tmp 27), type := 24, pos := "gauss.go:173", after := #[{ on := 9, ground := Ground.data }], guard := none } : Oper)) rfl (fun K hK => ?_) AllReadyH.nil))
      · go_simp
        refine hK.out _ _ (hS0) (fun hS1 => ?_)
        clear hK K
        try simp only [Act.put, List.setIfInBounds_toArray, List.set_cons_zero, List.set_cons_succ]
        refine wpAnyH_ready (rs := [6, 10]) (by kernel_rfl) (by simp) ?_
        refine (AllReadyH.cons (o := ({ dst := some 24, op := Op.call { callee := Callee.value (Operand.tmp 19), args := #[Operand.tmp 21, Operand.tmp 23], argTypes := #[24, 24] }, type := 24, pos := "gauss.go:173", after := #[{ on := 1, ground := Ground.data }, { on := 3, ground := Ground.data }, { on := 5, ground := Ground.data }], guard := none } : Oper)) rfl (fun K hK => ?_) (AllReadyH.cons (o := ({ dst := some 28, op := Op.load 24 (Operand.tmp 27), type := 24, pos := "gauss.go:173", after := #[{ on := 9, ground := Ground.data }], guard := none } : Oper)) rfl (fun K hK => ?_) AllReadyH.nil))
        · go_simp
          (with_reducible refine (K3.out _ ?_).mono ?_)
          · exact hpg.drew
          rintro e w5 ⟨rfl, hpg5⟩
          obtain ⟨q0, q1, q2, q3, q4, q5, q6, q7, q8, q9, q10, q11, q12⟩ := hpg5.cells
          try go_simp
          refine hK.out _ _ (hpg5.sx) (fun hS5 => ?_)
          clear hK K
          try simp only [Act.put, List.setIfInBounds_toArray, List.set_cons_zero, List.set_cons_succ]
          refine wpAnyH_ready (rs := [10]) (by kernel_rfl) (by simp) ?_
          refine (AllReadyH.cons (o := ({ dst := some 28, op := Op.load 24 (Operand.tmp 27), type := 24, pos := "gauss.go:173", after := #[{ on := 9, ground := Ground.data }], guard := none } : Oper)) rfl (fun K hK => ?_) AllReadyH.nil)
          go_simp
          refine hK.out _ _ (hS5) (fun hS8 => ?_)
          clear hK K
          try simp only [Act.put, List.setIfInBounds_toArray, List.set_cons_zero, List.set_cons_succ]
          refine wpAnyH_ready (rs := [13]) (by kernel_rfl) (by simp) ?_
          refine (AllReadyH.cons (o := ({ dst := some 31, op := Op.call { callee := Callee.value (Operand.tmp 26), args := #[Operand.tmp 28, Operand.tmp 30], argTypes := #[24, 24] }, type := 24, pos := "gauss.go:173", after := #[{ on := 8, ground := Ground.data }, { on := 10, ground := Ground.data }, { on := 12, ground := Ground.data }, { on := 6, ground := Ground.chain }], guard := none } : Oper)) rfl (fun K hK => ?_) AllReadyH.nil)
          go_simp
          (with_reducible refine (K4.out _ ?_).mono ?_)
          · exact hpg5
          rintro e w6 ⟨rfl, hpg6⟩
          obtain ⟨r0, r1, r2, r3, r4, r5, r6, r7, r8, r9, r10, r11, r12⟩ := hpg6.cells
          try go_simp
          refine hK.out _ _ (hpg6.sx) (fun hS6 => ?_)
          clear hK K
          try simp only [Act.put, List.setIfInBounds_toArray, List.set_cons_zero, List.set_cons_succ]
          refine wpAnyH_take (i := 14) (oi := ({ dst := some 32, op := Op.build 26 #[(0, Operand.tmp 24), (1, Operand.tmp 31)], type := 26, pos := "gauss.go:173", after := #[{ on := 6, ground := Ground.data }, { on := 13, ground := Ground.data }], guard := none } : Oper)) (v := (.agg #[.bool b.re.g, .string b.re.s, .int .i64 b.re.x, .bool b.im.g, .string b.im.s, .int .i64 b.im.x] : Value)) rfl (by kernel_rfl) (by kernel_rfl) (by kernel_rfl) (fun _ _ _ h => h) (Or.inl ⟨by rfl, ?_⟩) hS6 ?_
          · intro w hSw
            go_simp
          simp only [Act.put, List.setIfInBounds_toArray, List.set_cons_zero, List.set_cons_succ]
          refine wpAnyH_ready (rs := [15]) (by kernel_rfl) (by simp) ?_
          refine (AllReadyH.cons (o := ({ dst := none, op := Op.store 26 (Operand.tmp 5) (Operand.tmp 32), type := 0, pos := "gauss.go:173", after := #[{ on := 14, ground := Ground.data }, { on := 13, ground := Ground.chain }, { on := 0, ground := Ground.phase }, { on := 1, ground := Ground.phase }, { on := 2, ground := Ground.phase }, { on := 3, ground := Ground.phase }, { on := 4, ground := Ground.phase }, { on := 5, ground := Ground.phase }, { on := 6, ground := Ground.phase }, { on := 7, ground := Ground.phase }, { on := 8, ground := Ground.phase }, { on := 9, ground := Ground.phase }, { on := 10, ground := Ground.phase }, { on := 11, ground := Ground.phase }, { on := 12, ground := Ground.phase }, { on := 13, ground := Ground.phase }, { on := 14, ground := Ground.phase }], guard := none } : Oper)) rfl (fun K hK => ?_) AllReadyH.nil)
          go_simp
          refine hK.out _ _ (SX.put n1 n2 hS6 _ _ _ _ _ _) (fun hS7 => ?_)
          clear hK K
          try simp only [Act.put, List.setIfInBounds_toArray, List.set_cons_zero, List.set_cons_succ]
          refine wpAnyH_done (by kernel_rfl) ?_ _
          have HZ := Lib.hid (hpg6.ph.put HRI.out b)
          clear p0 p1 p2 p3 p4 p5 p6 p7 p8 p9 p10 p11 p12 q0 q1 q2 q3 q4 q5 q6 q7 q8 q9 q10 q11 q12 r0 r1 r2 r3 r4 r5 r6 r7 r8 r9 r10 r11 r12 hpg6 hpg5 hpg
          clear L0 L1 L2 L3 L4 L5 L6 K3 K4
          go_wp2_with fail
          go_roundw
          case rel =>
            exact ⟨k + 1, by have := HLT.out; omega, by go_num, by rw [← HBE.out]; exact HZ⟩
          case measure => have := HLT.out; simp [intOf]; omega
        · go_simp
          refine hK.out _ _ (hS1) (fun hS2 => ?_)
          clear hK K
          try simp only [Act.put, List.setIfInBounds_toArray, List.set_cons_zero, List.set_cons_succ]
          refine wpAnyH_ready (rs := [6]) (by kernel_rfl) (by simp) ?_
          refine (AllReadyH.cons (o := ({ dst := some 24, op := Op.call { callee := Callee.value (Operand.tmp 19), args := #[Operand.tmp 21, Operand.tmp 23], argTypes := #[24, 24] }, type := 24, pos := "gauss.go:173", after := #[{ on := 1, ground := Ground.data }, { on := 3, ground := Ground.data }, { on := 5, ground := Ground.data }], guard := none } : Oper)) rfl (fun K hK => ?_) AllReadyH.nil)
          go_simp
          (with_reducible refine (K3.out _ ?_).mono ?_)
          · exact hpg.drew
          rintro e w5 ⟨rfl, hpg5⟩
          obtain ⟨q0, q1, q2, q3, q4, q5, q6, q7, q8, q9, q10, q11, q12⟩ := hpg5.cells
          try go_simp
          refine hK.out _ _ (hpg5.sx) (fun hS5 => ?_)
          clear hK K
          try simp only [Act.put, List.setIfInBounds_toArray, List.set_cons_zero, List.set_cons_succ]
          refine wpAnyH_ready (rs := [13]) (by kernel_rfl) (by simp) ?_
          refine (AllReadyH.cons (o := ({ dst := some 31, op := Op.call { callee := Callee.value (Operand.tmp 26), args := #[Operand.tmp 28, Operand.tmp 30], argTypes := #[24, 24] }, type := 24, pos := "gauss.go:173", after := #[{ on := 8, ground := Ground.data }, { on := 10, ground := Ground.data }, { on := 12, ground := Ground.data }, { on := 6, ground := Ground.chain }], guard := none } : Oper)) rfl (fun K hK => ?_) AllReadyH.nil)
          go_simp
          (with_reducible refine (K4.out _ ?_).mono ?_)
          · exact hpg5
          rintro e w6 ⟨rfl, hpg6⟩
          obtain ⟨r0, r1, r2, r3, r4, r5, r6, r7, r8, r9, r10, r11, r12⟩ := hpg6.cells
          try go_simp
          refine hK.out _ _ (hpg6.sx) (fun hS6 => ?_)
          clear hK K
          try simp only [Act.put, List.setIfInBounds_toArray, List.set_cons_zero, List.set_cons_succ]
          refine wpAnyH_take (i := 14) (oi := ({ dst := some 32, op := Op.build 26 #[(0, Operand.tmp 24), (1, Operand.tmp 31)], type := 26, pos := "gauss.go:173", after := #[{ on := 6, ground := Ground.data }, { on := 13, ground := Ground.data }], guard := none } : Oper)) (v := (.agg #[.bool b.re.g, .string b.re.s, .int .i64 b.re.x, .bool b.im.g, .string b.im.s, .int .i64 b.im.x] : Value)) rfl (by kernel_rfl) (by kernel_rfl) (by kernel_rfl) (fun _ _ _ h => h) (Or.inl ⟨by rfl, ?_⟩) hS6 ?_
          · intro w hSw
            go_simp
          simp only [Act.put, List.setIfInBounds_toArray, List.set_cons_zero, List.set_cons_succ]
          refine wpAnyH_ready (rs := [15]) (by kernel_rfl) (by simp) ?_
          refine (AllReadyH.cons (o := ({ dst := none, op := Op.store 26 (Operand.tmp 5) (Operand.tmp 32), type := 0, pos := "gauss.go:173", after := #[{ on := 14, ground := Ground.data }, { on := 13, ground := Ground.chain }, { on := 0, ground := Ground.phase }, { on := 1, ground := Ground.phase }, { on := 2, ground := Ground.phase }, { on := 3, ground := Ground.phase }, { on := 4, ground := Ground.phase }, { on := 5, ground := Ground.phase }, { on := 6, ground := Ground.phase }, { on := 7, ground := Ground.phase }, { on := 8, ground := Ground.phase }, { on := 9, ground := Ground.phase }, { on := 10, ground := Ground.phase }, { on := 11, ground := Ground.phase }, { on := 12, ground := Ground.phase }, { on := 13, ground := Ground.phase }, { on := 14, ground := Ground.phase }], guard := none } : Oper)) rfl (fun K hK => ?_) AllReadyH.nil)
          go_simp
          refine hK.out _ _ (SX.put n1 n2 hS6 _ _ _ _ _ _) (fun hS7 => ?_)
          clear hK K
          try simp only [Act.put, List.setIfInBounds_toArray, List.set_cons_zero, List.set_cons_succ]
          refine wpAnyH_done (by kernel_rfl) ?_ _
          have HZ := Lib.hid (hpg6.ph.put HRI.out b)
          clear p0 p1 p2 p3 p4 p5 p6 p7 p8 p9 p10 p11 p12 q0 q1 q2 q3 q4 q5 q6 q7 q8 q9 q10 q11 q12 r0 r1 r2 r3 r4 r5 r6 r7 r8 r9 r10 r11 r12 hpg6 hpg5 hpg
          clear L0 L1 L2 L3 L4 L5 L6 K3 K4
          go_wp2_with fail
          go_roundw
          case rel =>
            exact ⟨k + 1, by have := HLT.out; omega, by go_num, by rw [← HBE.out]; exact HZ⟩
          case measure => have := HLT.out; simp [intOf]; omega
      · go_simp
        refine hK.out _ _ (hS0) (fun hS1 => ?_)
        clear hK K
        try simp only [Act.put, List.setIfInBounds_toArray, List.set_cons_zero, List.set_cons_succ]
        refine wpAnyH_ready (rs := [3]) (by kernel_rfl) (by simp) ?_
        refine (AllReadyH.cons (o := ({ dst := some 21, op := Op.load 24 (Operand.tmp 20), type := 24, pos := "gauss.go:173", after := #[{ on := 2, ground := Ground.data }], guard := none } : Oper)) rfl (fun K hK => ?_) AllReadyH.nil)
        go_simp
        refine hK.out _ _ (hS1) (fun hS2 => ?_)
        clear hK K
        try simp only [Act.put, List.setIfInBounds_toArray, List.set_cons_zero, List.set_cons_succ]
        refine wpAnyH_ready (rs := [6]) (by kernel_rfl) (by simp) ?_
        refine (AllReadyH.cons (o := ({ dst := some 24, op := Op.call { callee := Callee.value (Operand.tmp 19), args := #[Operand.tmp 21, Operand.tmp 23], argTypes := #[24, 24] }, type := 24, pos := "gauss.go:173", after := #[{ on := 1, ground := Ground.data }, { on := 3, ground := Ground.data }, { on := 5, ground := Ground.data }], guard := none } : Oper)) rfl (fun K hK => ?_) AllReadyH.nil)
        go_simp
        (with_reducible refine (K3.out _ ?_).mono ?_)
        · exact hpg.drew
        rintro e w5 ⟨rfl, hpg5⟩
        obtain ⟨q0, q1, q2, q3, q4, q5, q6, q7, q8, q9, q10, q11, q12⟩ := hpg5.cells
        try go_simp
        refine hK.out _ _ (hpg5.sx) (fun hS5 => ?_)
        clear hK K
        try simp only [Act.put, List.setIfInBounds_toArray, List.set_cons_zero, List.set_cons_succ]
        refine wpAnyH_ready (rs := [13]) (by kernel_rfl) (by simp) ?_
        refine (AllReadyH.cons (o := ({ dst := some 31, op := Op.call { callee := Callee.value (Operand.tmp 26), args := #[Operand.tmp 28, Operand.tmp 30], argTypes := #[24, 24] }, type := 24, pos := "gauss.go:173", after := #[{ on := 8, ground := Ground.data }, { on := 10, ground := Ground.data }, { on := 12, ground := Ground.data }, { on := 6, ground := Ground.chain }], guard := none } : Oper)) rfl (fun K hK => ?_) AllReadyH.nil)
        go_simp
        (with_reducible refine (K4.out _ ?_).mono ?_)
        · exact hpg5
        rintro e w6 ⟨rfl, hpg6⟩
        obtain ⟨r0, r1, r2, r3, r4, r5, r6, r7, r8, r9, r10, r11, r12⟩ := hpg6.cells
        try go_simp
        refine hK.out _ _ (hpg6.sx) (fun hS6 => ?_)
        clear hK K
        try simp only [Act.put, List.setIfInBounds_toArray, List.set_cons_zero, List.set_cons_succ]
        refine wpAnyH_take (i := 14) (oi := ({ dst := some 32, op := Op.build 26 #[(0, Operand.tmp 24), (1, Operand.tmp 31)], type := 26, pos := "gauss.go:173", after := #[{ on := 6, ground := Ground.data }, { on := 13, ground := Ground.data }], guard := none } : Oper)) (v := (.agg #[.bool b.re.g, .string b.re.s, .int .i64 b.re.x, .bool b.im.g, .string b.im.s, .int .i64 b.im.x] : Value)) rfl (by kernel_rfl) (by kernel_rfl) (by kernel_rfl) (fun _ _ _ h => h) (Or.inl ⟨by rfl, ?_⟩) hS6 ?_
        · intro w hSw
          go_simp
        simp only [Act.put, List.setIfInBounds_toArray, List.set_cons_zero, List.set_cons_succ]
        refine wpAnyH_ready (rs := [15]) (by kernel_rfl) (by simp) ?_
        refine (AllReadyH.cons (o := ({ dst := none, op := Op.store 26 (Operand.tmp 5) (Operand.tmp 32), type := 0, pos := "gauss.go:173", after := #[{ on := 14, ground := Ground.data }, { on := 13, ground := Ground.chain }, { on := 0, ground := Ground.phase }, { on := 1, ground := Ground.phase }, { on := 2, ground := Ground.phase }, { on := 3, ground := Ground.phase }, { on := 4, ground := Ground.phase }, { on := 5, ground := Ground.phase }, { on := 6, ground := Ground.phase }, { on := 7, ground := Ground.phase }, { on := 8, ground := Ground.phase }, { on := 9, ground := Ground.phase }, { on := 10, ground := Ground.phase }, { on := 11, ground := Ground.phase }, { on := 12, ground := Ground.phase }, { on := 13, ground := Ground.phase }, { on := 14, ground := Ground.phase }], guard := none } : Oper)) rfl (fun K hK => ?_) AllReadyH.nil)
        go_simp
        refine hK.out _ _ (SX.put n1 n2 hS6 _ _ _ _ _ _) (fun hS7 => ?_)
        clear hK K
        try simp only [Act.put, List.setIfInBounds_toArray, List.set_cons_zero, List.set_cons_succ]
        refine wpAnyH_done (by kernel_rfl) ?_ _
        have HZ := Lib.hid (hpg6.ph.put HRI.out b)
        clear p0 p1 p2 p3 p4 p5 p6 p7 p8 p9 p10 p11 p12 q0 q1 q2 q3 q4 q5 q6 q7 q8 q9 q10 q11 q12 r0 r1 r2 r3 r4 r5 r6 r7 r8 r9 r10 r11 r12 hpg6 hpg5 hpg
        clear L0 L1 L2 L3 L4 L5 L6 K3 K4
        go_wp2_with fail
        go_roundw
        case rel =>
          exact ⟨k + 1, by have := HLT.out; omega, by go_num, by rw [← HBE.out]; exact HZ⟩
        case measure => have := HLT.out; simp [intOf]; omega
    · have hk9 : k = l.length := by omega
      obtain ⟨hz, hnz⟩ := HV.out
      rw [← hk9] at hz hnz
      have HBF := Lib.hid hph.out.bF
      have HL := Lib.hid hph.out.low
      have HBR := Lib.hid hph.out.bR
      obtain ⟨p0, p1, p2, p3, p4, p5, p6, p7, p8, p9, p10, p11, p12⟩ := (show Box6 wr P _ _ _ _ _ _ from hph.out.bP).facts
      obtain ⟨b0, b1, b2, b3⟩ : wr.cell? ⟨WB, 0, none⟩ = some (.func (.func 29) #[] #[.pointer (some ⟨F, 0, none⟩), .pointer (some ⟨D, 0, none⟩)]) ∧ wr.cell? ⟨WB, 1, none⟩ = some s2 ∧ wr.cell? ⟨WB, 2, none⟩ = some s3 ∧ wr.cell? ⟨WB, 3, none⟩ = some (.pointer (some ⟨F, 0, none⟩)) := ⟨(hph.out.bW.cell 0).trans rfl, (hph.out.bW.cell 1).trans rfl, (hph.out.bW.cell 2).trans rfl, (hph.out.bW.cell 3).trans rfl⟩
      have hlen : (k : Int) = (l.length : Int) := by rw [hk9]
      clear hph HT0 KX KY hk9
      by_cases hE : fs k = 0
      · replace hz := hz hE
        subst hz
        rw [hE] at HBF
        have KW := Lib.hid (fun a => work_ok F (.func (.func 29) #[] #[.pointer (some ⟨F, 0, none⟩), .pointer (some ⟨D, 0, none⟩)]) s2 s3 a wr HBF.out)
        generalize hA : st k = a at *
        have HA := Lib.hid hA
        clear hA
        go_wp2_with fail
        refine (KW.out a).mono ?_
        rintro e w5 ⟨rfl, hb5⟩
        have HR5 := Lib.hid (HBR.out.step hb5)
        have HB5 := Lib.hid (below_chain HL.out hb5)
        obtain ⟨r0, r1, r2, r3, r4, r5, r6, r7, r8, r9, r10, r11, r12⟩ := HR5.out.facts
        obtain ⟨y0, y1, y2, y3, y4, y5, y6, y7, y8, y9, y10, y11, y12⟩ := (HR5.out.put (.bool a.re.g) (.string a.re.s) (.int .i64 a.re.x) (.bool a.im.g) (.string a.im.s) (.int .i64 a.im.x)).facts
        clear hb5 KW
        go_wp2_with fail
        exact bodyPost_ret (v := .tuple #[.agg #[.bool a.re.g, .string a.re.s, .int .i64 a.re.x, .bool a.im.g, .string a.im.s, .int .i64 a.im.x], .int .i64 0]) (by simp [results, Tryz.results9, go_sem, y1, y2, y3, y4, y5, y6]) rfl ⟨by rw [HA.out]; rfl, below_put6 HB5.out (Nat.le_refl _) _ _ _ _ _ _⟩
      · replace hnz := hnz hE
        subst hnz
        have KW := Lib.hid (fun a => work_no F (fs k) (.func (.func 29) #[] #[.pointer (some ⟨F, 0, none⟩), .pointer (some ⟨D, 0, none⟩)]) s2 s3 a wr hE HBF.out)
        generalize hA : st k = a at *
        have HA := Lib.hid hA
        clear hA
        generalize hA2 : fs k = f at *
        have HA2 := Lib.hid hA2
        clear hA2
        go_wp2_with fail
        refine (KW.out a).mono ?_
        rintro e w5 ⟨rfl, hb5⟩
        have HR5 := Lib.hid (HBR.out.step hb5)
        have HB5 := Lib.hid (below_chain HL.out hb5)
        obtain ⟨r0, r1, r2, r3, r4, r5, r6, r7, r8, r9, r10, r11, r12⟩ := HR5.out.facts
        obtain ⟨y0, y1, y2, y3, y4, y5, y6, y7, y8, y9, y10, y11, y12⟩ := (HR5.out.put (.bool false) (.string ⟨#[]⟩) (.int .i64 0) (.bool false) (.string ⟨#[]⟩) (.int .i64 0)).facts
        clear hb5 KW
        go_wp2_with fail
        exact bodyPost_ret (v := .tuple #[.agg #[.bool false, .string ⟨#[]⟩, .int .i64 0, .bool false, .string ⟨#[]⟩, .int .i64 0], .int .i64 f]) (by simp [results, Tryz.results9, go_sem, y1, y2, y3, y4, y5, y6]) rfl ⟨by rw [HA2.out]; rfl, below_put6 HB5.out (Nat.le_refl _) _ _ _ _ _ _⟩
end Go.Proofs.YtdknipaimfecaaaGreatDoor
namespace Go.Proofs.YtdknipaimfecaaaGreatDoor
open Go Go.RowKit Nt
@[reducible] noncomputable def GMul_c_k1 : Know := ⟨[([0, 12, 28], [.sym 15, .lit (.int .i64 0)], .lit (.bool false)),
  ([0, 12, 28], [.sym 19, .lit (.int .i64 0)], .lit (.bool false)),
  ([0, 12, 28], [.sym 23, .lit (.int .i64 0)], .lit (.bool false)),
  ([0, 12, 28], [.sym 27, .lit (.int .i64 0)], .lit (.bool false)),
  ([0, 12, 28], [.sym 31, .lit (.int .i64 0)], .lit (.bool false)),
  ([0, 12, 28], [.sym 35, .lit (.int .i64 0)], .lit (.bool false))],
  [(12, [.agg [.sym 0, .sym 1, .sym 2, .sym 3, .sym 4, .sym 5]], .lit (.int .i64 0)),
  (12, [.agg [.sym 6, .sym 7, .sym 8, .sym 9, .sym 10, .sym 11]], .lit (.int .i64 0)),
  (32, [.agg [.sym 0, .sym 1, .sym 2], .agg [.sym 6, .sym 7, .sym 8]], .tup [.agg [.sym 12, .sym 13, .sym 14], .sym 15]),
  (32, [.agg [.sym 3, .sym 4, .sym 5], .agg [.sym 9, .sym 10, .sym 11]], .tup [.agg [.sym 16, .sym 17, .sym 18], .sym 19]),
  (31, [.agg [.sym 12, .sym 13, .sym 14], .agg [.sym 16, .sym 17, .sym 18]], .tup [.agg [.sym 20, .sym 21, .sym 22], .sym 23]),
  (32, [.agg [.sym 0, .sym 1, .sym 2], .agg [.sym 9, .sym 10, .sym 11]], .tup [.agg [.sym 24, .sym 25, .sym 26], .sym 27]),
  (32, [.agg [.sym 3, .sym 4, .sym 5], .agg [.sym 6, .sym 7, .sym 8]], .tup [.agg [.sym 28, .sym 29, .sym 30], .sym 31]),
  (30, [.agg [.sym 24, .sym 25, .sym 26], .agg [.sym 28, .sym 29, .sym 30]], .tup [.agg [.sym 32, .sym 33, .sym 34], .sym 35])]⟩
theorem GMul_c_r1 : @comes GMul_c_k1 Tryz.prog glT 3000 14 [.agg [.sym 0, .sym 1, .sym 2, .sym 3, .sym 4, .sym 5], .agg [.sym 6, .sym 7, .sym 8, .sym 9, .sym 10, .sym 11]] = some (.tup [.agg [.sym 20, .sym 21, .sym 22, .sym 32, .sym 33, .sym 34], .lit (.int .i64 0)]) := by kernel_rfl
@[reducible] noncomputable def GMul_c_k2 : Know := ⟨[([0, 12, 28], [.sym 15, .lit (.int .i64 0)], .lit (.bool false)),
  ([0, 12, 28], [.sym 19, .lit (.int .i64 0)], .lit (.bool false)),
  ([0, 12, 28], [.sym 23, .lit (.int .i64 0)], .lit (.bool false)),
  ([0, 12, 28], [.sym 27, .lit (.int .i64 0)], .lit (.bool false)),
  ([0, 12, 28], [.sym 31, .lit (.int .i64 0)], .lit (.bool false)),
  ([0, 12, 28], [.sym 35, .lit (.int .i64 0)], .lit (.bool true))],
  [(12, [.agg [.sym 0, .sym 1, .sym 2, .sym 3, .sym 4, .sym 5]], .lit (.int .i64 0)),
  (12, [.agg [.sym 6, .sym 7, .sym 8, .sym 9, .sym 10, .sym 11]], .lit (.int .i64 0)),
  (32, [.agg [.sym 0, .sym 1, .sym 2], .agg [.sym 6, .sym 7, .sym 8]], .tup [.agg [.sym 12, .sym 13, .sym 14], .sym 15]),
  (32, [.agg [.sym 3, .sym 4, .sym 5], .agg [.sym 9, .sym 10, .sym 11]], .tup [.agg [.sym 16, .sym 17, .sym 18], .sym 19]),
  (31, [.agg [.sym 12, .sym 13, .sym 14], .agg [.sym 16, .sym 17, .sym 18]], .tup [.agg [.sym 20, .sym 21, .sym 22], .sym 23]),
  (32, [.agg [.sym 0, .sym 1, .sym 2], .agg [.sym 9, .sym 10, .sym 11]], .tup [.agg [.sym 24, .sym 25, .sym 26], .sym 27]),
  (32, [.agg [.sym 3, .sym 4, .sym 5], .agg [.sym 6, .sym 7, .sym 8]], .tup [.agg [.sym 28, .sym 29, .sym 30], .sym 31]),
  (30, [.agg [.sym 24, .sym 25, .sym 26], .agg [.sym 28, .sym 29, .sym 30]], .tup [.agg [.sym 32, .sym 33, .sym 34], .sym 35])]⟩
theorem GMul_c_r2 : @comes GMul_c_k2 Tryz.prog glT 3000 14 [.agg [.sym 0, .sym 1, .sym 2, .sym 3, .sym 4, .sym 5], .agg [.sym 6, .sym 7, .sym 8, .sym 9, .sym 10, .sym 11]] = some (.tup [.lit (.agg #[.bool false, .string ⟨#[]⟩, .int .i64 0, .bool false, .string ⟨#[]⟩, .int .i64 0]), .sym 35]) := by kernel_rfl
@[reducible] noncomputable def GMul_c_k3 : Know := ⟨[([0, 12, 28], [.sym 15, .lit (.int .i64 0)], .lit (.bool false)),
  ([0, 12, 28], [.sym 19, .lit (.int .i64 0)], .lit (.bool false)),
  ([0, 12, 28], [.sym 23, .lit (.int .i64 0)], .lit (.bool false)),
  ([0, 12, 28], [.sym 27, .lit (.int .i64 0)], .lit (.bool false)),
  ([0, 12, 28], [.sym 31, .lit (.int .i64 0)], .lit (.bool true))],
  [(12, [.agg [.sym 0, .sym 1, .sym 2, .sym 3, .sym 4, .sym 5]], .lit (.int .i64 0)),
  (12, [.agg [.sym 6, .sym 7, .sym 8, .sym 9, .sym 10, .sym 11]], .lit (.int .i64 0)),
  (32, [.agg [.sym 0, .sym 1, .sym 2], .agg [.sym 6, .sym 7, .sym 8]], .tup [.agg [.sym 12, .sym 13, .sym 14], .sym 15]),
  (32, [.agg [.sym 3, .sym 4, .sym 5], .agg [.sym 9, .sym 10, .sym 11]], .tup [.agg [.sym 16, .sym 17, .sym 18], .sym 19]),
  (31, [.agg [.sym 12, .sym 13, .sym 14], .agg [.sym 16, .sym 17, .sym 18]], .tup [.agg [.sym 20, .sym 21, .sym 22], .sym 23]),
  (32, [.agg [.sym 0, .sym 1, .sym 2], .agg [.sym 9, .sym 10, .sym 11]], .tup [.agg [.sym 24, .sym 25, .sym 26], .sym 27]),
  (32, [.agg [.sym 3, .sym 4, .sym 5], .agg [.sym 6, .sym 7, .sym 8]], .tup [.agg [.sym 28, .sym 29, .sym 30], .sym 31])]⟩
theorem GMul_c_r3 : @comes GMul_c_k3 Tryz.prog glT 3000 14 [.agg [.sym 0, .sym 1, .sym 2, .sym 3, .sym 4, .sym 5], .agg [.sym 6, .sym 7, .sym 8, .sym 9, .sym 10, .sym 11]] = some (.tup [.lit (.agg #[.bool false, .string ⟨#[]⟩, .int .i64 0, .bool false, .string ⟨#[]⟩, .int .i64 0]), .sym 31]) := by kernel_rfl
@[reducible] noncomputable def GMul_c_k4 : Know := ⟨[([0, 12, 28], [.sym 15, .lit (.int .i64 0)], .lit (.bool false)),
  ([0, 12, 28], [.sym 19, .lit (.int .i64 0)], .lit (.bool false)),
  ([0, 12, 28], [.sym 23, .lit (.int .i64 0)], .lit (.bool false)),
  ([0, 12, 28], [.sym 27, .lit (.int .i64 0)], .lit (.bool true))],
  [(12, [.agg [.sym 0, .sym 1, .sym 2, .sym 3, .sym 4, .sym 5]], .lit (.int .i64 0)),
  (12, [.agg [.sym 6, .sym 7, .sym 8, .sym 9, .sym 10, .sym 11]], .lit (.int .i64 0)),
  (32, [.agg [.sym 0, .sym 1, .sym 2], .agg [.sym 6, .sym 7, .sym 8]], .tup [.agg [.sym 12, .sym 13, .sym 14], .sym 15]),
  (32, [.agg [.sym 3, .sym 4, .sym 5], .agg [.sym 9, .sym 10, .sym 11]], .tup [.agg [.sym 16, .sym 17, .sym 18], .sym 19]),
  (31, [.agg [.sym 12, .sym 13, .sym 14], .agg [.sym 16, .sym 17, .sym 18]], .tup [.agg [.sym 20, .sym 21, .sym 22], .sym 23]),
  (32, [.agg [.sym 0, .sym 1, .sym 2], .agg [.sym 9, .sym 10, .sym 11]], .tup [.agg [.sym 24, .sym 25, .sym 26], .sym 27])]⟩
theorem GMul_c_r4 : @comes GMul_c_k4 Tryz.prog glT 3000 14 [.agg [.sym 0, .sym 1, .sym 2, .sym 3, .sym 4, .sym 5], .agg [.sym 6, .sym 7, .sym 8, .sym 9, .sym 10, .sym 11]] = some (.tup [.lit (.agg #[.bool false, .string ⟨#[]⟩, .int .i64 0, .bool false, .string ⟨#[]⟩, .int .i64 0]), .sym 27]) := by kernel_rfl
@[reducible] noncomputable def GMul_c_k5 : Know := ⟨[([0, 12, 28], [.sym 15, .lit (.int .i64 0)], .lit (.bool false)),
  ([0, 12, 28], [.sym 19, .lit (.int .i64 0)], .lit (.bool false)),
  ([0, 12, 28], [.sym 23, .lit (.int .i64 0)], .lit (.bool true))],
  [(12, [.agg [.sym 0, .sym 1, .sym 2, .sym 3, .sym 4, .sym 5]], .lit (.int .i64 0)),
  (12, [.agg [.sym 6, .sym 7, .sym 8, .sym 9, .sym 10, .sym 11]], .lit (.int .i64 0)),
  (32, [.agg [.sym 0, .sym 1, .sym 2], .agg [.sym 6, .sym 7, .sym 8]], .tup [.agg [.sym 12, .sym 13, .sym 14], .sym 15]),
  (32, [.agg [.sym 3, .sym 4, .sym 5], .agg [.sym 9, .sym 10, .sym 11]], .tup [.agg [.sym 16, .sym 17, .sym 18], .sym 19]),
  (31, [.agg [.sym 12, .sym 13, .sym 14], .agg [.sym 16, .sym 17, .sym 18]], .tup [.agg [.sym 20, .sym 21, .sym 22], .sym 23])]⟩
theorem GMul_c_r5 : @comes GMul_c_k5 Tryz.prog glT 3000 14 [.agg [.sym 0, .sym 1, .sym 2, .sym 3, .sym 4, .sym 5], .agg [.sym 6, .sym 7, .sym 8, .sym 9, .sym 10, .sym 11]] = some (.tup [.lit (.agg #[.bool false, .string ⟨#[]⟩, .int .i64 0, .bool false, .string ⟨#[]⟩, .int .i64 0]), .sym 23]) := by kernel_rfl
@[reducible] noncomputable def GMul_c_k6 : Know := ⟨[([0, 12, 28], [.sym 15, .lit (.int .i64 0)], .lit (.bool false)),
  ([0, 12, 28], [.sym 19, .lit (.int .i64 0)], .lit (.bool true))],
  [(12, [.agg [.sym 0, .sym 1, .sym 2, .sym 3, .sym 4, .sym 5]], .lit (.int .i64 0)),
  (12, [.agg [.sym 6, .sym 7, .sym 8, .sym 9, .sym 10, .sym 11]], .lit (.int .i64 0)),
  (32, [.agg [.sym 0, .sym 1, .sym 2], .agg [.sym 6, .sym 7, .sym 8]], .tup [.agg [.sym 12, .sym 13, .sym 14], .sym 15]),
  (32, [.agg [.sym 3, .sym 4, .sym 5], .agg [.sym 9, .sym 10, .sym 11]], .tup [.agg [.sym 16, .sym 17, .sym 18], .sym 19])]⟩
theorem GMul_c_r6 : @comes GMul_c_k6 Tryz.prog glT 3000 14 [.agg [.sym 0, .sym 1, .sym 2, .sym 3, .sym 4, .sym 5], .agg [.sym 6, .sym 7, .sym 8, .sym 9, .sym 10, .sym 11]] = some (.tup [.lit (.agg #[.bool false, .string ⟨#[]⟩, .int .i64 0, .bool false, .string ⟨#[]⟩, .int .i64 0]), .sym 19]) := by kernel_rfl
@[reducible] noncomputable def GMul_c_k7 : Know := ⟨[([0, 12, 28], [.sym 15, .lit (.int .i64 0)], .lit (.bool true))],
  [(12, [.agg [.sym 0, .sym 1, .sym 2, .sym 3, .sym 4, .sym 5]], .lit (.int .i64 0)),
  (12, [.agg [.sym 6, .sym 7, .sym 8, .sym 9, .sym 10, .sym 11]], .lit (.int .i64 0)),
  (32, [.agg [.sym 0, .sym 1, .sym 2], .agg [.sym 6, .sym 7, .sym 8]], .tup [.agg [.sym 12, .sym 13, .sym 14], .sym 15])]⟩
theorem GMul_c_r7 : @comes GMul_c_k7 Tryz.prog glT 3000 14 [.agg [.sym 0, .sym 1, .sym 2, .sym 3, .sym 4, .sym 5], .agg [.sym 6, .sym 7, .sym 8, .sym 9, .sym 10, .sym 11]] = some (.tup [.lit (.agg #[.bool false, .string ⟨#[]⟩, .int .i64 0, .bool false, .string ⟨#[]⟩, .int .i64 0]), .sym 15]) := by kernel_rfl
set_option maxRecDepth 100000 in
theorem GMul_c (a b : Gs) (w : World) (ha : a.Ok) (hb : b.Ok) (hG : Globs glT w) : Calls Tryz.prog 14 #[.agg #[.bool a.re.g, .string (natS a.re.n), .int .i64 a.re.x, .bool a.im.g, .string (natS a.im.n), .int .i64 a.im.x], .agg #[.bool b.re.g, .string (natS b.re.n), .int .i64 b.re.x, .bool b.im.g, .string (natS b.im.n), .int .i64 b.im.x]] w fun e w' => e = .returned (.tuple #[(gmulD a b).v, .int .i64 (gmulE a b)]) ∧ Below w.heap.size w w' := by
  by_cases h1 : mulE a.re b.re = 0
  · by_cases h2 : mulE a.im b.im = 0
    · by_cases h3 : addE (mulD a.re b.re) (negD (mulD a.im b.im)) = 0
      · by_cases h4 : mulE a.re b.im = 0
        · by_cases h5 : mulE a.im b.re = 0
          · by_cases h6 : addE (mulD a.re b.im) (mulD a.im b.re) = 0
            · letI : Env := mkEnv glT [.bool a.re.g, .string (natS a.re.n), .int .i64 a.re.x, .bool a.im.g, .string (natS a.im.n), .int .i64 a.im.x, .bool b.re.g, .string (natS b.re.n), .int .i64 b.re.x, .bool b.im.g, .string (natS b.im.n), .int .i64 b.im.x, .bool (mulD a.re b.re).g, .string (natS (mulD a.re b.re).n), .int .i64 (mulD a.re b.re).x, .int .i64 (mulE a.re b.re), .bool (mulD a.im b.im).g, .string (natS (mulD a.im b.im).n), .int .i64 (mulD a.im b.im).x, .int .i64 (mulE a.im b.im), .bool (addD (mulD a.re b.re) (negD (mulD a.im b.im))).g, .string (natS (addD (mulD a.re b.re) (negD (mulD a.im b.im))).n), .int .i64 (addD (mulD a.re b.re) (negD (mulD a.im b.im))).x, .int .i64 (addE (mulD a.re b.re) (negD (mulD a.im b.im))), .bool (mulD a.re b.im).g, .string (natS (mulD a.re b.im).n), .int .i64 (mulD a.re b.im).x, .int .i64 (mulE a.re b.im), .bool (mulD a.im b.re).g, .string (natS (mulD a.im b.re).n), .int .i64 (mulD a.im b.re).x, .int .i64 (mulE a.im b.re), .bool (addD (mulD a.re b.im) (mulD a.im b.re)).g, .string (natS (addD (mulD a.re b.im) (mulD a.im b.re)).n), .int .i64 (addD (mulD a.re b.im) (mulD a.im b.re)).x, .int .i64 (addE (mulD a.re b.im) (mulD a.im b.re))] rfl
              have hops : OpsT Tryz.prog (@Know.ops GMul_c_k1) := ⟨opt_neq_f rfl rfl h1, opt_neq_f rfl rfl h2, opt_neq_f rfl rfl h3, opt_neq_f rfl rfl h4, opt_neq_f rfl rfl h5, opt_neq_f rfl rfl h6, trivial⟩
              have hcalls : CallsT Tryz.prog (@Know.calls GMul_c_k1) := ⟨callt rfl rfl fun w hG => GCheck_gs a ha w hG, callt rfl rfl fun w hG => GCheck_gs b hb w hG, callt rfl rfl fun w hG => DMul_c a.re b.re w ha.1 hb.1, callt rfl rfl fun w hG => DMul_c a.im b.im w ha.2 hb.2, callt rfl rfl fun w hG => DSub_c (mulD a.re b.re) (mulD a.im b.im) w (mulD_Ok a.re b.re) (mulD_Ok a.im b.im) hG, callt rfl rfl fun w hG => DMul_c a.re b.im w ha.1 hb.2, callt rfl rfl fun w hG => DMul_c a.im b.re w ha.2 hb.1, callt rfl rfl fun w hG => DAdd_c (mulD a.re b.im) (mulD a.im b.re) w (mulD_Ok a.re b.im) (mulD_Ok a.im b.re) hG, trivial⟩
              exact (@sym_ok _ GMul_c_k1 _ (@KnowOk.of _ GMul_c_k1 _ hops hcalls) (by kernel_rfl) _ _ _ _ GMul_c_r1 rfl rfl _ hG).mono fun e w' h => ⟨h.1.trans (show Ending.returned (.tuple #[.agg #[.bool (addD (mulD a.re b.re) (negD (mulD a.im b.im))).g, .string (natS (addD (mulD a.re b.re) (negD (mulD a.im b.im))).n), .int .i64 (addD (mulD a.re b.re) (negD (mulD a.im b.im))).x, .bool (addD (mulD a.re b.im) (mulD a.im b.re)).g, .string (natS (addD (mulD a.re b.im) (mulD a.im b.re)).n), .int .i64 (addD (mulD a.re b.im) (mulD a.im b.re)).x], .int .i64 0]) = .returned (.tuple #[(gmulD a b).v, .int .i64 (gmulE a b)]) from by rw [show gmulD a b = _ from erG_ok (l := gmulL a b) (show All0 (gmulL a b) from ⟨h1, h2, h3, h4, h5, h6, trivial⟩), show gmulE a b = 0 from erI_ok (l := gmulL a b) (show All0 (gmulL a b) from ⟨h1, h2, h3, h4, h5, h6, trivial⟩)]; rfl), h.2⟩
            · letI : Env := mkEnv glT [.bool a.re.g, .string (natS a.re.n), .int .i64 a.re.x, .bool a.im.g, .string (natS a.im.n), .int .i64 a.im.x, .bool b.re.g, .string (natS b.re.n), .int .i64 b.re.x, .bool b.im.g, .string (natS b.im.n), .int .i64 b.im.x, .bool (mulD a.re b.re).g, .string (natS (mulD a.re b.re).n), .int .i64 (mulD a.re b.re).x, .int .i64 (mulE a.re b.re), .bool (mulD a.im b.im).g, .string (natS (mulD a.im b.im).n), .int .i64 (mulD a.im b.im).x, .int .i64 (mulE a.im b.im), .bool (addD (mulD a.re b.re) (negD (mulD a.im b.im))).g, .string (natS (addD (mulD a.re b.re) (negD (mulD a.im b.im))).n), .int .i64 (addD (mulD a.re b.re) (negD (mulD a.im b.im))).x, .int .i64 (addE (mulD a.re b.re) (negD (mulD a.im b.im))), .bool (mulD a.re b.im).g, .string (natS (mulD a.re b.im).n), .int .i64 (mulD a.re b.im).x, .int .i64 (mulE a.re b.im), .bool (mulD a.im b.re).g, .string (natS (mulD a.im b.re).n), .int .i64 (mulD a.im b.re).x, .int .i64 (mulE a.im b.re), .bool (addD (mulD a.re b.im) (mulD a.im b.re)).g, .string (natS (addD (mulD a.re b.im) (mulD a.im b.re)).n), .int .i64 (addD (mulD a.re b.im) (mulD a.im b.re)).x, .int .i64 (addE (mulD a.re b.im) (mulD a.im b.re))] rfl
              have hops : OpsT Tryz.prog (@Know.ops GMul_c_k2) := ⟨opt_neq_f rfl rfl h1, opt_neq_f rfl rfl h2, opt_neq_f rfl rfl h3, opt_neq_f rfl rfl h4, opt_neq_f rfl rfl h5, opt_neq_t rfl rfl h6, trivial⟩
              have hcalls : CallsT Tryz.prog (@Know.calls GMul_c_k2) := ⟨callt rfl rfl fun w hG => GCheck_gs a ha w hG, callt rfl rfl fun w hG => GCheck_gs b hb w hG, callt rfl rfl fun w hG => DMul_c a.re b.re w ha.1 hb.1, callt rfl rfl fun w hG => DMul_c a.im b.im w ha.2 hb.2, callt rfl rfl fun w hG => DSub_c (mulD a.re b.re) (mulD a.im b.im) w (mulD_Ok a.re b.re) (mulD_Ok a.im b.im) hG, callt rfl rfl fun w hG => DMul_c a.re b.im w ha.1 hb.2, callt rfl rfl fun w hG => DMul_c a.im b.re w ha.2 hb.1, callt rfl rfl fun w hG => DAdd_c (mulD a.re b.im) (mulD a.im b.re) w (mulD_Ok a.re b.im) (mulD_Ok a.im b.re) hG, trivial⟩
              exact (@sym_ok _ GMul_c_k2 _ (@KnowOk.of _ GMul_c_k2 _ hops hcalls) (by kernel_rfl) _ _ _ _ GMul_c_r2 rfl rfl _ hG).mono fun e w' h => ⟨h.1.trans (show Ending.returned (.tuple #[.agg #[.bool false, .string ⟨#[]⟩, .int .i64 0, .bool false, .string ⟨#[]⟩, .int .i64 0], .int .i64 (addE (mulD a.re b.im) (mulD a.im b.re))]) = .returned (.tuple #[(gmulD a b).v, .int .i64 (gmulE a b)]) from by rw [show gmulD a b = _ from erG_no (l := gmulL a b) (show ¬ All0 (gmulL a b) from (fun c => h6 c.2.2.2.2.2.1)), show gmulE a b = 4 from erI_no (l := gmulL a b) (show ¬ All0 (gmulL a b) from (fun c => h6 c.2.2.2.2.2.1)), Gs.zero_v, addE4 h6]), h.2⟩
          · letI : Env := mkEnv glT [.bool a.re.g, .string (natS a.re.n), .int .i64 a.re.x, .bool a.im.g, .string (natS a.im.n), .int .i64 a.im.x, .bool b.re.g, .string (natS b.re.n), .int .i64 b.re.x, .bool b.im.g, .string (natS b.im.n), .int .i64 b.im.x, .bool (mulD a.re b.re).g, .string (natS (mulD a.re b.re).n), .int .i64 (mulD a.re b.re).x, .int .i64 (mulE a.re b.re), .bool (mulD a.im b.im).g, .string (natS (mulD a.im b.im).n), .int .i64 (mulD a.im b.im).x, .int .i64 (mulE a.im b.im), .bool (addD (mulD a.re b.re) (negD (mulD a.im b.im))).g, .string (natS (addD (mulD a.re b.re) (negD (mulD a.im b.im))).n), .int .i64 (addD (mulD a.re b.re) (negD (mulD a.im b.im))).x, .int .i64 (addE (mulD a.re b.re) (negD (mulD a.im b.im))), .bool (mulD a.re b.im).g, .string (natS (mulD a.re b.im).n), .int .i64 (mulD a.re b.im).x, .int .i64 (mulE a.re b.im), .bool (mulD a.im b.re).g, .string (natS (mulD a.im b.re).n), .int .i64 (mulD a.im b.re).x, .int .i64 (mulE a.im b.re)] rfl
            have hops : OpsT Tryz.prog (@Know.ops GMul_c_k3) := ⟨opt_neq_f rfl rfl h1, opt_neq_f rfl rfl h2, opt_neq_f rfl rfl h3, opt_neq_f rfl rfl h4, opt_neq_t rfl rfl h5, trivial⟩
            have hcalls : CallsT Tryz.prog (@Know.calls GMul_c_k3) := ⟨callt rfl rfl fun w hG => GCheck_gs a ha w hG, callt rfl rfl fun w hG => GCheck_gs b hb w hG, callt rfl rfl fun w hG => DMul_c a.re b.re w ha.1 hb.1, callt rfl rfl fun w hG => DMul_c a.im b.im w ha.2 hb.2, callt rfl rfl fun w hG => DSub_c (mulD a.re b.re) (mulD a.im b.im) w (mulD_Ok a.re b.re) (mulD_Ok a.im b.im) hG, callt rfl rfl fun w hG => DMul_c a.re b.im w ha.1 hb.2, callt rfl rfl fun w hG => DMul_c a.im b.re w ha.2 hb.1, trivial⟩
            exact (@sym_ok _ GMul_c_k3 _ (@KnowOk.of _ GMul_c_k3 _ hops hcalls) (by kernel_rfl) _ _ _ _ GMul_c_r3 rfl rfl _ hG).mono fun e w' h => ⟨h.1.trans (show Ending.returned (.tuple #[.agg #[.bool false, .string ⟨#[]⟩, .int .i64 0, .bool false, .string ⟨#[]⟩, .int .i64 0], .int .i64 (mulE a.im b.re)]) = .returned (.tuple #[(gmulD a b).v, .int .i64 (gmulE a b)]) from by rw [show gmulD a b = _ from erG_no (l := gmulL a b) (show ¬ All0 (gmulL a b) from (fun c => h5 c.2.2.2.2.1)), show gmulE a b = 4 from erI_no (l := gmulL a b) (show ¬ All0 (gmulL a b) from (fun c => h5 c.2.2.2.2.1)), Gs.zero_v, mulE4 h5]), h.2⟩
        · letI : Env := mkEnv glT [.bool a.re.g, .string (natS a.re.n), .int .i64 a.re.x, .bool a.im.g, .string (natS a.im.n), .int .i64 a.im.x, .bool b.re.g, .string (natS b.re.n), .int .i64 b.re.x, .bool b.im.g, .string (natS b.im.n), .int .i64 b.im.x, .bool (mulD a.re b.re).g, .string (natS (mulD a.re b.re).n), .int .i64 (mulD a.re b.re).x, .int .i64 (mulE a.re b.re), .bool (mulD a.im b.im).g, .string (natS (mulD a.im b.im).n), .int .i64 (mulD a.im b.im).x, .int .i64 (mulE a.im b.im), .bool (addD (mulD a.re b.re) (negD (mulD a.im b.im))).g, .string (natS (addD (mulD a.re b.re) (negD (mulD a.im b.im))).n), .int .i64 (addD (mulD a.re b.re) (negD (mulD a.im b.im))).x, .int .i64 (addE (mulD a.re b.re) (negD (mulD a.im b.im))), .bool (mulD a.re b.im).g, .string (natS (mulD a.re b.im).n), .int .i64 (mulD a.re b.im).x, .int .i64 (mulE a.re b.im)] rfl
          have hops : OpsT Tryz.prog (@Know.ops GMul_c_k4) := ⟨opt_neq_f rfl rfl h1, opt_neq_f rfl rfl h2, opt_neq_f rfl rfl h3, opt_neq_t rfl rfl h4, trivial⟩
          have hcalls : CallsT Tryz.prog (@Know.calls GMul_c_k4) := ⟨callt rfl rfl fun w hG => GCheck_gs a ha w hG, callt rfl rfl fun w hG => GCheck_gs b hb w hG, callt rfl rfl fun w hG => DMul_c a.re b.re w ha.1 hb.1, callt rfl rfl fun w hG => DMul_c a.im b.im w ha.2 hb.2, callt rfl rfl fun w hG => DSub_c (mulD a.re b.re) (mulD a.im b.im) w (mulD_Ok a.re b.re) (mulD_Ok a.im b.im) hG, callt rfl rfl fun w hG => DMul_c a.re b.im w ha.1 hb.2, trivial⟩
          exact (@sym_ok _ GMul_c_k4 _ (@KnowOk.of _ GMul_c_k4 _ hops hcalls) (by kernel_rfl) _ _ _ _ GMul_c_r4 rfl rfl _ hG).mono fun e w' h => ⟨h.1.trans (show Ending.returned (.tuple #[.agg #[.bool false, .string ⟨#[]⟩, .int .i64 0, .bool false, .string ⟨#[]⟩, .int .i64 0], .int .i64 (mulE a.re b.im)]) = .returned (.tuple #[(gmulD a b).v, .int .i64 (gmulE a b)]) from by rw [show gmulD a b = _ from erG_no (l := gmulL a b) (show ¬ All0 (gmulL a b) from (fun c => h4 c.2.2.2.1)), show gmulE a b = 4 from erI_no (l := gmulL a b) (show ¬ All0 (gmulL a b) from (fun c => h4 c.2.2.2.1)), Gs.zero_v, mulE4 h4]), h.2⟩
      · letI : Env := mkEnv glT [.bool a.re.g, .string (natS a.re.n), .int .i64 a.re.x, .bool a.im.g, .string (natS a.im.n), .int .i64 a.im.x, .bool b.re.g, .string (natS b.re.n), .int .i64 b.re.x, .bool b.im.g, .string (natS b.im.n), .int .i64 b.im.x, .bool (mulD a.re b.re).g, .string (natS (mulD a.re b.re).n), .int .i64 (mulD a.re b.re).x, .int .i64 (mulE a.re b.re), .bool (mulD a.im b.im).g, .string (natS (mulD a.im b.im).n), .int .i64 (mulD a.im b.im).x, .int .i64 (mulE a.im b.im), .bool (addD (mulD a.re b.re) (negD (mulD a.im b.im))).g, .string (natS (addD (mulD a.re b.re) (negD (mulD a.im b.im))).n), .int .i64 (addD (mulD a.re b.re) (negD (mulD a.im b.im))).x, .int .i64 (addE (mulD a.re b.re) (negD (mulD a.im b.im)))] rfl
        have hops : OpsT Tryz.prog (@Know.ops GMul_c_k5) := ⟨opt_neq_f rfl rfl h1, opt_neq_f rfl rfl h2, opt_neq_t rfl rfl h3, trivial⟩
        have hcalls : CallsT Tryz.prog (@Know.calls GMul_c_k5) := ⟨callt rfl rfl fun w hG => GCheck_gs a ha w hG, callt rfl rfl fun w hG => GCheck_gs b hb w hG, callt rfl rfl fun w hG => DMul_c a.re b.re w ha.1 hb.1, callt rfl rfl fun w hG => DMul_c a.im b.im w ha.2 hb.2, callt rfl rfl fun w hG => DSub_c (mulD a.re b.re) (mulD a.im b.im) w (mulD_Ok a.re b.re) (mulD_Ok a.im b.im) hG, trivial⟩
        exact (@sym_ok _ GMul_c_k5 _ (@KnowOk.of _ GMul_c_k5 _ hops hcalls) (by kernel_rfl) _ _ _ _ GMul_c_r5 rfl rfl _ hG).mono fun e w' h => ⟨h.1.trans (show Ending.returned (.tuple #[.agg #[.bool false, .string ⟨#[]⟩, .int .i64 0, .bool false, .string ⟨#[]⟩, .int .i64 0], .int .i64 (addE (mulD a.re b.re) (negD (mulD a.im b.im)))]) = .returned (.tuple #[(gmulD a b).v, .int .i64 (gmulE a b)]) from by rw [show gmulD a b = _ from erG_no (l := gmulL a b) (show ¬ All0 (gmulL a b) from (fun c => h3 c.2.2.1)), show gmulE a b = 4 from erI_no (l := gmulL a b) (show ¬ All0 (gmulL a b) from (fun c => h3 c.2.2.1)), Gs.zero_v, addE4 h3]), h.2⟩
    · letI : Env := mkEnv glT [.bool a.re.g, .string (natS a.re.n), .int .i64 a.re.x, .bool a.im.g, .string (natS a.im.n), .int .i64 a.im.x, .bool b.re.g, .string (natS b.re.n), .int .i64 b.re.x, .bool b.im.g, .string (natS b.im.n), .int .i64 b.im.x, .bool (mulD a.re b.re).g, .string (natS (mulD a.re b.re).n), .int .i64 (mulD a.re b.re).x, .int .i64 (mulE a.re b.re), .bool (mulD a.im b.im).g, .string (natS (mulD a.im b.im).n), .int .i64 (mulD a.im b.im).x, .int .i64 (mulE a.im b.im)] rfl
      have hops : OpsT Tryz.prog (@Know.ops GMul_c_k6) := ⟨opt_neq_f rfl rfl h1, opt_neq_t rfl rfl h2, trivial⟩
      have hcalls : CallsT Tryz.prog (@Know.calls GMul_c_k6) := ⟨callt rfl rfl fun w hG => GCheck_gs a ha w hG, callt rfl rfl fun w hG => GCheck_gs b hb w hG, callt rfl rfl fun w hG => DMul_c a.re b.re w ha.1 hb.1, callt rfl rfl fun w hG => DMul_c a.im b.im w ha.2 hb.2, trivial⟩
      exact (@sym_ok _ GMul_c_k6 _ (@KnowOk.of _ GMul_c_k6 _ hops hcalls) (by kernel_rfl) _ _ _ _ GMul_c_r6 rfl rfl _ hG).mono fun e w' h => ⟨h.1.trans (show Ending.returned (.tuple #[.agg #[.bool false, .string ⟨#[]⟩, .int .i64 0, .bool false, .string ⟨#[]⟩, .int .i64 0], .int .i64 (mulE a.im b.im)]) = .returned (.tuple #[(gmulD a b).v, .int .i64 (gmulE a b)]) from by rw [show gmulD a b = _ from erG_no (l := gmulL a b) (show ¬ All0 (gmulL a b) from (fun c => h2 c.2.1)), show gmulE a b = 4 from erI_no (l := gmulL a b) (show ¬ All0 (gmulL a b) from (fun c => h2 c.2.1)), Gs.zero_v, mulE4 h2]), h.2⟩
  · letI : Env := mkEnv glT [.bool a.re.g, .string (natS a.re.n), .int .i64 a.re.x, .bool a.im.g, .string (natS a.im.n), .int .i64 a.im.x, .bool b.re.g, .string (natS b.re.n), .int .i64 b.re.x, .bool b.im.g, .string (natS b.im.n), .int .i64 b.im.x, .bool (mulD a.re b.re).g, .string (natS (mulD a.re b.re).n), .int .i64 (mulD a.re b.re).x, .int .i64 (mulE a.re b.re)] rfl
    have hops : OpsT Tryz.prog (@Know.ops GMul_c_k7) := ⟨opt_neq_t rfl rfl h1, trivial⟩
    have hcalls : CallsT Tryz.prog (@Know.calls GMul_c_k7) := ⟨callt rfl rfl fun w hG => GCheck_gs a ha w hG, callt rfl rfl fun w hG => GCheck_gs b hb w hG, callt rfl rfl fun w hG => DMul_c a.re b.re w ha.1 hb.1, trivial⟩
    exact (@sym_ok _ GMul_c_k7 _ (@KnowOk.of _ GMul_c_k7 _ hops hcalls) (by kernel_rfl) _ _ _ _ GMul_c_r7 rfl rfl _ hG).mono fun e w' h => ⟨h.1.trans (show Ending.returned (.tuple #[.agg #[.bool false, .string ⟨#[]⟩, .int .i64 0, .bool false, .string ⟨#[]⟩, .int .i64 0], .int .i64 (mulE a.re b.re)]) = .returned (.tuple #[(gmulD a b).v, .int .i64 (gmulE a b)]) from by rw [show gmulD a b = _ from erG_no (l := gmulL a b) (show ¬ All0 (gmulL a b) from (fun c => h1 c.1)), show gmulE a b = 4 from erI_no (l := gmulL a b) (show ¬ All0 (gmulL a b) from (fun c => h1 c.1)), Gs.zero_v, mulE4 h1]), h.2⟩
end Go.Proofs.YtdknipaimfecaaaGreatDoor
namespace Go.Proofs.YtdknipaimfecaaaGreatDoor
open Go Go.RowKit Nt
@[reducible] noncomputable def rGAdd_c_k1 : Know := ⟨[([0, 12, 3], [.sym 15, .lit (.int .i64 0)], .lit (.bool false)),
  ([0, 12, 3], [.sym 19, .lit (.int .i64 0)], .lit (.bool false))],
  [(37, [.agg [.sym 0, .sym 1, .sym 2], .agg [.sym 6, .sym 7, .sym 8]], .tup [.agg [.sym 12, .sym 13, .sym 14], .sym 15]),
  (37, [.agg [.sym 3, .sym 4, .sym 5], .agg [.sym 9, .sym 10, .sym 11]], .tup [.agg [.sym 16, .sym 17, .sym 18], .sym 19])]⟩
theorem rGAdd_c_r1 : @comes rGAdd_c_k1 Tryz.prog glT 3000 23 [.agg [.sym 0, .sym 1, .sym 2, .sym 3, .sym 4, .sym 5], .agg [.sym 6, .sym 7, .sym 8, .sym 9, .sym 10, .sym 11]] = some (.tup [.agg [.sym 12, .sym 13, .sym 14, .sym 16, .sym 17, .sym 18], .lit (.int .i64 0)]) := by kernel_rfl
@[reducible] noncomputable def rGAdd_c_k2 : Know := ⟨[([0, 12, 3], [.sym 15, .lit (.int .i64 0)], .lit (.bool false)),
  ([0, 12, 3], [.sym 19, .lit (.int .i64 0)], .lit (.bool true))],
  [(37, [.agg [.sym 0, .sym 1, .sym 2], .agg [.sym 6, .sym 7, .sym 8]], .tup [.agg [.sym 12, .sym 13, .sym 14], .sym 15]),
  (37, [.agg [.sym 3, .sym 4, .sym 5], .agg [.sym 9, .sym 10, .sym 11]], .tup [.agg [.sym 16, .sym 17, .sym 18], .sym 19])]⟩
theorem rGAdd_c_r2 : @comes rGAdd_c_k2 Tryz.prog glT 3000 23 [.agg [.sym 0, .sym 1, .sym 2, .sym 3, .sym 4, .sym 5], .agg [.sym 6, .sym 7, .sym 8, .sym 9, .sym 10, .sym 11]] = some (.lit (.tuple #[.agg #[.bool false, .string ⟨#[]⟩, .int .i64 0, .bool false, .string ⟨#[]⟩, .int .i64 0], .int .i64 4])) := by kernel_rfl
@[reducible] noncomputable def rGAdd_c_k3 : Know := ⟨[([0, 12, 3], [.sym 15, .lit (.int .i64 0)], .lit (.bool true))],
  [(37, [.agg [.sym 0, .sym 1, .sym 2], .agg [.sym 6, .sym 7, .sym 8]], .tup [.agg [.sym 12, .sym 13, .sym 14], .sym 15]),
  (37, [.agg [.sym 3, .sym 4, .sym 5], .agg [.sym 9, .sym 10, .sym 11]], .tup [.agg [.sym 16, .sym 17, .sym 18], .sym 19])]⟩
theorem rGAdd_c_r3 : @comes rGAdd_c_k3 Tryz.prog glT 3000 23 [.agg [.sym 0, .sym 1, .sym 2, .sym 3, .sym 4, .sym 5], .agg [.sym 6, .sym 7, .sym 8, .sym 9, .sym 10, .sym 11]] = some (.lit (.tuple #[.agg #[.bool false, .string ⟨#[]⟩, .int .i64 0, .bool false, .string ⟨#[]⟩, .int .i64 0], .int .i64 4])) := by kernel_rfl
set_option maxRecDepth 100000 in
theorem rGAdd_c (a b : Gs) (w : World) (ha : a.Ok) (hb : b.Ok) (hG : Globs glT w) : Calls Tryz.prog 23 #[.agg #[.bool a.re.g, .string (natS a.re.n), .int .i64 a.re.x, .bool a.im.g, .string (natS a.im.n), .int .i64 a.im.x], .agg #[.bool b.re.g, .string (natS b.re.n), .int .i64 b.re.x, .bool b.im.g, .string (natS b.im.n), .int .i64 b.im.x]] w fun e w' => e = .returned (.tuple #[(gaddD a b).v, .int .i64 (gaddE a b)]) ∧ Below w.heap.size w w' := by
  by_cases h1 : addE a.re b.re = 0
  · by_cases h2 : addE a.im b.im = 0
    · letI : Env := mkEnv glT [.bool a.re.g, .string (natS a.re.n), .int .i64 a.re.x, .bool a.im.g, .string (natS a.im.n), .int .i64 a.im.x, .bool b.re.g, .string (natS b.re.n), .int .i64 b.re.x, .bool b.im.g, .string (natS b.im.n), .int .i64 b.im.x, .bool (addD a.re b.re).g, .string (natS (addD a.re b.re).n), .int .i64 (addD a.re b.re).x, .int .i64 (addE a.re b.re), .bool (addD a.im b.im).g, .string (natS (addD a.im b.im).n), .int .i64 (addD a.im b.im).x, .int .i64 (addE a.im b.im)] rfl
      have hops : OpsT Tryz.prog (@Know.ops rGAdd_c_k1) := ⟨opt_neq_f rfl rfl h1, opt_neq_f rfl rfl h2, trivial⟩
      have hcalls : CallsT Tryz.prog (@Know.calls rGAdd_c_k1) := ⟨callt rfl rfl fun w hG => rAdd3_c a.re b.re w ha.1 hb.1, callt rfl rfl fun w hG => rAdd3_c a.im b.im w ha.2 hb.2, trivial⟩
      exact (@sym_ok _ rGAdd_c_k1 _ (@KnowOk.of _ rGAdd_c_k1 _ hops hcalls) (by kernel_rfl) _ _ _ _ rGAdd_c_r1 rfl rfl _ hG).mono fun e w' h => ⟨h.1.trans (show Ending.returned (.tuple #[.agg #[.bool (addD a.re b.re).g, .string (natS (addD a.re b.re).n), .int .i64 (addD a.re b.re).x, .bool (addD a.im b.im).g, .string (natS (addD a.im b.im).n), .int .i64 (addD a.im b.im).x], .int .i64 0]) = .returned (.tuple #[(gaddD a b).v, .int .i64 (gaddE a b)]) from by rw [show gaddD a b = _ from erG_ok (l := gaddL a b) (show All0 (gaddL a b) from ⟨h1, h2, trivial⟩), show gaddE a b = 0 from erI_ok (l := gaddL a b) (show All0 (gaddL a b) from ⟨h1, h2, trivial⟩)]; rfl), h.2⟩
    · letI : Env := mkEnv glT [.bool a.re.g, .string (natS a.re.n), .int .i64 a.re.x, .bool a.im.g, .string (natS a.im.n), .int .i64 a.im.x, .bool b.re.g, .string (natS b.re.n), .int .i64 b.re.x, .bool b.im.g, .string (natS b.im.n), .int .i64 b.im.x, .bool (addD a.re b.re).g, .string (natS (addD a.re b.re).n), .int .i64 (addD a.re b.re).x, .int .i64 (addE a.re b.re), .bool (addD a.im b.im).g, .string (natS (addD a.im b.im).n), .int .i64 (addD a.im b.im).x, .int .i64 (addE a.im b.im)] rfl
      have hops : OpsT Tryz.prog (@Know.ops rGAdd_c_k2) := ⟨opt_neq_f rfl rfl h1, opt_neq_t rfl rfl h2, trivial⟩
      have hcalls : CallsT Tryz.prog (@Know.calls rGAdd_c_k2) := ⟨callt rfl rfl fun w hG => rAdd3_c a.re b.re w ha.1 hb.1, callt rfl rfl fun w hG => rAdd3_c a.im b.im w ha.2 hb.2, trivial⟩
      exact (@sym_ok _ rGAdd_c_k2 _ (@KnowOk.of _ rGAdd_c_k2 _ hops hcalls) (by kernel_rfl) _ _ _ _ rGAdd_c_r2 rfl rfl _ hG).mono fun e w' h => ⟨h.1.trans (show Ending.returned (.tuple #[.agg #[.bool false, .string ⟨#[]⟩, .int .i64 0, .bool false, .string ⟨#[]⟩, .int .i64 0], .int .i64 4]) = .returned (.tuple #[(gaddD a b).v, .int .i64 (gaddE a b)]) from by rw [show gaddD a b = _ from erG_no (l := gaddL a b) (show ¬ All0 (gaddL a b) from (fun c => h2 c.2.1)), show gaddE a b = 4 from erI_no (l := gaddL a b) (show ¬ All0 (gaddL a b) from (fun c => h2 c.2.1)), Gs.zero_v]), h.2⟩
  · letI : Env := mkEnv glT [.bool a.re.g, .string (natS a.re.n), .int .i64 a.re.x, .bool a.im.g, .string (natS a.im.n), .int .i64 a.im.x, .bool b.re.g, .string (natS b.re.n), .int .i64 b.re.x, .bool b.im.g, .string (natS b.im.n), .int .i64 b.im.x, .bool (addD a.re b.re).g, .string (natS (addD a.re b.re).n), .int .i64 (addD a.re b.re).x, .int .i64 (addE a.re b.re), .bool (addD a.im b.im).g, .string (natS (addD a.im b.im).n), .int .i64 (addD a.im b.im).x, .int .i64 (addE a.im b.im)] rfl
    have hops : OpsT Tryz.prog (@Know.ops rGAdd_c_k3) := ⟨opt_neq_t rfl rfl h1, trivial⟩
    have hcalls : CallsT Tryz.prog (@Know.calls rGAdd_c_k3) := ⟨callt rfl rfl fun w hG => rAdd3_c a.re b.re w ha.1 hb.1, callt rfl rfl fun w hG => rAdd3_c a.im b.im w ha.2 hb.2, trivial⟩
    exact (@sym_ok _ rGAdd_c_k3 _ (@KnowOk.of _ rGAdd_c_k3 _ hops hcalls) (by kernel_rfl) _ _ _ _ rGAdd_c_r3 rfl rfl _ hG).mono fun e w' h => ⟨h.1.trans (show Ending.returned (.tuple #[.agg #[.bool false, .string ⟨#[]⟩, .int .i64 0, .bool false, .string ⟨#[]⟩, .int .i64 0], .int .i64 4]) = .returned (.tuple #[(gaddD a b).v, .int .i64 (gaddE a b)]) from by rw [show gaddD a b = _ from erG_no (l := gaddL a b) (show ¬ All0 (gaddL a b) from (fun c => h1 c.1)), show gaddE a b = 4 from erI_no (l := gaddL a b) (show ¬ All0 (gaddL a b) from (fun c => h1 c.1)), Gs.zero_v]), h.2⟩
@[reducible] noncomputable def rGMul_c_k1 : Know := ⟨[([0, 12, 3], [.sym 15, .lit (.int .i64 0)], .lit (.bool false)),
  ([0, 12, 3], [.sym 19, .lit (.int .i64 0)], .lit (.bool false)),
  ([0, 12, 3], [.sym 30, .lit (.int .i64 0)], .lit (.bool false)),
  ([0, 12, 3], [.sym 34, .lit (.int .i64 0)], .lit (.bool false)),
  ([0, 12, 3], [.sym 26, .lit (.int .i64 0)], .lit (.bool false)),
  ([0, 12, 3], [.sym 38, .lit (.int .i64 0)], .lit (.bool false))],
  [(41, [.agg [.sym 0, .sym 1, .sym 2], .agg [.sym 6, .sym 7, .sym 8]], .tup [.agg [.sym 12, .sym 13, .sym 14], .sym 15]),
  (41, [.agg [.sym 3, .sym 4, .sym 5], .agg [.sym 9, .sym 10, .sym 11]], .tup [.agg [.sym 16, .sym 17, .sym 18], .sym 19]),
  (42, [.agg [.sym 16, .sym 17, .sym 18]], .agg [.sym 20, .sym 21, .sym 22]),
  (37, [.agg [.sym 12, .sym 13, .sym 14], .agg [.sym 20, .sym 21, .sym 22]], .tup [.agg [.sym 23, .sym 24, .sym 25], .sym 26]),
  (41, [.agg [.sym 0, .sym 1, .sym 2], .agg [.sym 9, .sym 10, .sym 11]], .tup [.agg [.sym 27, .sym 28, .sym 29], .sym 30]),
  (41, [.agg [.sym 3, .sym 4, .sym 5], .agg [.sym 6, .sym 7, .sym 8]], .tup [.agg [.sym 31, .sym 32, .sym 33], .sym 34]),
  (37, [.agg [.sym 27, .sym 28, .sym 29], .agg [.sym 31, .sym 32, .sym 33]], .tup [.agg [.sym 35, .sym 36, .sym 37], .sym 38])]⟩
theorem rGMul_c_r1 : @comes rGMul_c_k1 Tryz.prog glT 3000 17 [.agg [.sym 0, .sym 1, .sym 2, .sym 3, .sym 4, .sym 5], .agg [.sym 6, .sym 7, .sym 8, .sym 9, .sym 10, .sym 11]] = some (.tup [.agg [.sym 23, .sym 24, .sym 25, .sym 35, .sym 36, .sym 37], .lit (.int .i64 0)]) := by kernel_rfl
@[reducible] noncomputable def rGMul_c_k2 : Know := ⟨[([0, 12, 3], [.sym 15, .lit (.int .i64 0)], .lit (.bool false)),
  ([0, 12, 3], [.sym 19, .lit (.int .i64 0)], .lit (.bool false)),
  ([0, 12, 3], [.sym 30, .lit (.int .i64 0)], .lit (.bool false)),
  ([0, 12, 3], [.sym 34, .lit (.int .i64 0)], .lit (.bool false)),
  ([0, 12, 3], [.sym 26, .lit (.int .i64 0)], .lit (.bool false)),
  ([0, 12, 3], [.sym 38, .lit (.int .i64 0)], .lit (.bool true))],
  [(41, [.agg [.sym 0, .sym 1, .sym 2], .agg [.sym 6, .sym 7, .sym 8]], .tup [.agg [.sym 12, .sym 13, .sym 14], .sym 15]),
  (41, [.agg [.sym 3, .sym 4, .sym 5], .agg [.sym 9, .sym 10, .sym 11]], .tup [.agg [.sym 16, .sym 17, .sym 18], .sym 19]),
  (42, [.agg [.sym 16, .sym 17, .sym 18]], .agg [.sym 20, .sym 21, .sym 22]),
  (37, [.agg [.sym 12, .sym 13, .sym 14], .agg [.sym 20, .sym 21, .sym 22]], .tup [.agg [.sym 23, .sym 24, .sym 25], .sym 26]),
  (41, [.agg [.sym 0, .sym 1, .sym 2], .agg [.sym 9, .sym 10, .sym 11]], .tup [.agg [.sym 27, .sym 28, .sym 29], .sym 30]),
  (41, [.agg [.sym 3, .sym 4, .sym 5], .agg [.sym 6, .sym 7, .sym 8]], .tup [.agg [.sym 31, .sym 32, .sym 33], .sym 34]),
  (37, [.agg [.sym 27, .sym 28, .sym 29], .agg [.sym 31, .sym 32, .sym 33]], .tup [.agg [.sym 35, .sym 36, .sym 37], .sym 38])]⟩
theorem rGMul_c_r2 : @comes rGMul_c_k2 Tryz.prog glT 3000 17 [.agg [.sym 0, .sym 1, .sym 2, .sym 3, .sym 4, .sym 5], .agg [.sym 6, .sym 7, .sym 8, .sym 9, .sym 10, .sym 11]] = some (.lit (.tuple #[.agg #[.bool false, .string ⟨#[]⟩, .int .i64 0, .bool false, .string ⟨#[]⟩, .int .i64 0], .int .i64 4])) := by kernel_rfl
@[reducible] noncomputable def rGMul_c_k3 : Know := ⟨[([0, 12, 3], [.sym 15, .lit (.int .i64 0)], .lit (.bool false)),
  ([0, 12, 3], [.sym 19, .lit (.int .i64 0)], .lit (.bool false)),
  ([0, 12, 3], [.sym 30, .lit (.int .i64 0)], .lit (.bool false)),
  ([0, 12, 3], [.sym 34, .lit (.int .i64 0)], .lit (.bool false)),
  ([0, 12, 3], [.sym 26, .lit (.int .i64 0)], .lit (.bool true))],
  [(41, [.agg [.sym 0, .sym 1, .sym 2], .agg [.sym 6, .sym 7, .sym 8]], .tup [.agg [.sym 12, .sym 13, .sym 14], .sym 15]),
  (41, [.agg [.sym 3, .sym 4, .sym 5], .agg [.sym 9, .sym 10, .sym 11]], .tup [.agg [.sym 16, .sym 17, .sym 18], .sym 19]),
  (42, [.agg [.sym 16, .sym 17, .sym 18]], .agg [.sym 20, .sym 21, .sym 22]),
  (37, [.agg [.sym 12, .sym 13, .sym 14], .agg [.sym 20, .sym 21, .sym 22]], .tup [.agg [.sym 23, .sym 24, .sym 25], .sym 26]),
  (41, [.agg [.sym 0, .sym 1, .sym 2], .agg [.sym 9, .sym 10, .sym 11]], .tup [.agg [.sym 27, .sym 28, .sym 29], .sym 30]),
  (41, [.agg [.sym 3, .sym 4, .sym 5], .agg [.sym 6, .sym 7, .sym 8]], .tup [.agg [.sym 31, .sym 32, .sym 33], .sym 34]),
  (37, [.agg [.sym 27, .sym 28, .sym 29], .agg [.sym 31, .sym 32, .sym 33]], .tup [.agg [.sym 35, .sym 36, .sym 37], .sym 38])]⟩
theorem rGMul_c_r3 : @comes rGMul_c_k3 Tryz.prog glT 3000 17 [.agg [.sym 0, .sym 1, .sym 2, .sym 3, .sym 4, .sym 5], .agg [.sym 6, .sym 7, .sym 8, .sym 9, .sym 10, .sym 11]] = some (.lit (.tuple #[.agg #[.bool false, .string ⟨#[]⟩, .int .i64 0, .bool false, .string ⟨#[]⟩, .int .i64 0], .int .i64 4])) := by kernel_rfl
@[reducible] noncomputable def rGMul_c_k4 : Know := ⟨[([0, 12, 3], [.sym 15, .lit (.int .i64 0)], .lit (.bool false)),
  ([0, 12, 3], [.sym 19, .lit (.int .i64 0)], .lit (.bool false)),
  ([0, 12, 3], [.sym 30, .lit (.int .i64 0)], .lit (.bool false)),
  ([0, 12, 3], [.sym 34, .lit (.int .i64 0)], .lit (.bool true)),
  ([0, 12, 3], [.sym 26, .lit (.int .i64 0)], .lit (.bool false))],
  [(41, [.agg [.sym 0, .sym 1, .sym 2], .agg [.sym 6, .sym 7, .sym 8]], .tup [.agg [.sym 12, .sym 13, .sym 14], .sym 15]),
  (41, [.agg [.sym 3, .sym 4, .sym 5], .agg [.sym 9, .sym 10, .sym 11]], .tup [.agg [.sym 16, .sym 17, .sym 18], .sym 19]),
  (42, [.agg [.sym 16, .sym 17, .sym 18]], .agg [.sym 20, .sym 21, .sym 22]),
  (37, [.agg [.sym 12, .sym 13, .sym 14], .agg [.sym 20, .sym 21, .sym 22]], .tup [.agg [.sym 23, .sym 24, .sym 25], .sym 26]),
  (41, [.agg [.sym 0, .sym 1, .sym 2], .agg [.sym 9, .sym 10, .sym 11]], .tup [.agg [.sym 27, .sym 28, .sym 29], .sym 30]),
  (41, [.agg [.sym 3, .sym 4, .sym 5], .agg [.sym 6, .sym 7, .sym 8]], .tup [.agg [.sym 31, .sym 32, .sym 33], .sym 34])]⟩
theorem rGMul_c_r4 : @comes rGMul_c_k4 Tryz.prog glT 3000 17 [.agg [.sym 0, .sym 1, .sym 2, .sym 3, .sym 4, .sym 5], .agg [.sym 6, .sym 7, .sym 8, .sym 9, .sym 10, .sym 11]] = some (.lit (.tuple #[.agg #[.bool false, .string ⟨#[]⟩, .int .i64 0, .bool false, .string ⟨#[]⟩, .int .i64 0], .int .i64 4])) := by kernel_rfl
@[reducible] noncomputable def rGMul_c_k5 : Know := ⟨[([0, 12, 3], [.sym 15, .lit (.int .i64 0)], .lit (.bool false)),
  ([0, 12, 3], [.sym 19, .lit (.int .i64 0)], .lit (.bool false)),
  ([0, 12, 3], [.sym 30, .lit (.int .i64 0)], .lit (.bool false)),
  ([0, 12, 3], [.sym 34, .lit (.int .i64 0)], .lit (.bool true)),
  ([0, 12, 3], [.sym 26, .lit (.int .i64 0)], .lit (.bool true))],
  [(41, [.agg [.sym 0, .sym 1, .sym 2], .agg [.sym 6, .sym 7, .sym 8]], .tup [.agg [.sym 12, .sym 13, .sym 14], .sym 15]),
  (41, [.agg [.sym 3, .sym 4, .sym 5], .agg [.sym 9, .sym 10, .sym 11]], .tup [.agg [.sym 16, .sym 17, .sym 18], .sym 19]),
  (42, [.agg [.sym 16, .sym 17, .sym 18]], .agg [.sym 20, .sym 21, .sym 22]),
  (37, [.agg [.sym 12, .sym 13, .sym 14], .agg [.sym 20, .sym 21, .sym 22]], .tup [.agg [.sym 23, .sym 24, .sym 25], .sym 26]),
  (41, [.agg [.sym 0, .sym 1, .sym 2], .agg [.sym 9, .sym 10, .sym 11]], .tup [.agg [.sym 27, .sym 28, .sym 29], .sym 30]),
  (41, [.agg [.sym 3, .sym 4, .sym 5], .agg [.sym 6, .sym 7, .sym 8]], .tup [.agg [.sym 31, .sym 32, .sym 33], .sym 34])]⟩
theorem rGMul_c_r5 : @comes rGMul_c_k5 Tryz.prog glT 3000 17 [.agg [.sym 0, .sym 1, .sym 2, .sym 3, .sym 4, .sym 5], .agg [.sym 6, .sym 7, .sym 8, .sym 9, .sym 10, .sym 11]] = some (.lit (.tuple #[.agg #[.bool false, .string ⟨#[]⟩, .int .i64 0, .bool false, .string ⟨#[]⟩, .int .i64 0], .int .i64 4])) := by kernel_rfl
@[reducible] noncomputable def rGMul_c_k6 : Know := ⟨[([0, 12, 3], [.sym 15, .lit (.int .i64 0)], .lit (.bool false)),
  ([0, 12, 3], [.sym 19, .lit (.int .i64 0)], .lit (.bool false)),
  ([0, 12, 3], [.sym 30, .lit (.int .i64 0)], .lit (.bool true)),
  ([0, 12, 3], [.sym 26, .lit (.int .i64 0)], .lit (.bool false))],
  [(41, [.agg [.sym 0, .sym 1, .sym 2], .agg [.sym 6, .sym 7, .sym 8]], .tup [.agg [.sym 12, .sym 13, .sym 14], .sym 15]),
  (41, [.agg [.sym 3, .sym 4, .sym 5], .agg [.sym 9, .sym 10, .sym 11]], .tup [.agg [.sym 16, .sym 17, .sym 18], .sym 19]),
  (42, [.agg [.sym 16, .sym 17, .sym 18]], .agg [.sym 20, .sym 21, .sym 22]),
  (37, [.agg [.sym 12, .sym 13, .sym 14], .agg [.sym 20, .sym 21, .sym 22]], .tup [.agg [.sym 23, .sym 24, .sym 25], .sym 26]),
  (41, [.agg [.sym 0, .sym 1, .sym 2], .agg [.sym 9, .sym 10, .sym 11]], .tup [.agg [.sym 27, .sym 28, .sym 29], .sym 30]),
  (41, [.agg [.sym 3, .sym 4, .sym 5], .agg [.sym 6, .sym 7, .sym 8]], .tup [.agg [.sym 31, .sym 32, .sym 33], .sym 34])]⟩
theorem rGMul_c_r6 : @comes rGMul_c_k6 Tryz.prog glT 3000 17 [.agg [.sym 0, .sym 1, .sym 2, .sym 3, .sym 4, .sym 5], .agg [.sym 6, .sym 7, .sym 8, .sym 9, .sym 10, .sym 11]] = some (.lit (.tuple #[.agg #[.bool false, .string ⟨#[]⟩, .int .i64 0, .bool false, .string ⟨#[]⟩, .int .i64 0], .int .i64 4])) := by kernel_rfl
@[reducible] noncomputable def rGMul_c_k7 : Know := ⟨[([0, 12, 3], [.sym 15, .lit (.int .i64 0)], .lit (.bool false)),
  ([0, 12, 3], [.sym 19, .lit (.int .i64 0)], .lit (.bool false)),
  ([0, 12, 3], [.sym 30, .lit (.int .i64 0)], .lit (.bool true)),
  ([0, 12, 3], [.sym 26, .lit (.int .i64 0)], .lit (.bool true))],
  [(41, [.agg [.sym 0, .sym 1, .sym 2], .agg [.sym 6, .sym 7, .sym 8]], .tup [.agg [.sym 12, .sym 13, .sym 14], .sym 15]),
  (41, [.agg [.sym 3, .sym 4, .sym 5], .agg [.sym 9, .sym 10, .sym 11]], .tup [.agg [.sym 16, .sym 17, .sym 18], .sym 19]),
  (42, [.agg [.sym 16, .sym 17, .sym 18]], .agg [.sym 20, .sym 21, .sym 22]),
  (37, [.agg [.sym 12, .sym 13, .sym 14], .agg [.sym 20, .sym 21, .sym 22]], .tup [.agg [.sym 23, .sym 24, .sym 25], .sym 26]),
  (41, [.agg [.sym 0, .sym 1, .sym 2], .agg [.sym 9, .sym 10, .sym 11]], .tup [.agg [.sym 27, .sym 28, .sym 29], .sym 30]),
  (41, [.agg [.sym 3, .sym 4, .sym 5], .agg [.sym 6, .sym 7, .sym 8]], .tup [.agg [.sym 31, .sym 32, .sym 33], .sym 34])]⟩
theorem rGMul_c_r7 : @comes rGMul_c_k7 Tryz.prog glT 3000 17 [.agg [.sym 0, .sym 1, .sym 2, .sym 3, .sym 4, .sym 5], .agg [.sym 6, .sym 7, .sym 8, .sym 9, .sym 10, .sym 11]] = some (.lit (.tuple #[.agg #[.bool false, .string ⟨#[]⟩, .int .i64 0, .bool false, .string ⟨#[]⟩, .int .i64 0], .int .i64 4])) := by kernel_rfl
@[reducible] noncomputable def rGMul_c_k8 : Know := ⟨[([0, 12, 3], [.sym 15, .lit (.int .i64 0)], .lit (.bool false)),
  ([0, 12, 3], [.sym 19, .lit (.int .i64 0)], .lit (.bool true)),
  ([0, 12, 3], [.sym 23, .lit (.int .i64 0)], .lit (.bool false)),
  ([0, 12, 3], [.sym 27, .lit (.int .i64 0)], .lit (.bool false))],
  [(41, [.agg [.sym 0, .sym 1, .sym 2], .agg [.sym 6, .sym 7, .sym 8]], .tup [.agg [.sym 12, .sym 13, .sym 14], .sym 15]),
  (41, [.agg [.sym 3, .sym 4, .sym 5], .agg [.sym 9, .sym 10, .sym 11]], .tup [.agg [.sym 16, .sym 17, .sym 18], .sym 19]),
  (41, [.agg [.sym 0, .sym 1, .sym 2], .agg [.sym 9, .sym 10, .sym 11]], .tup [.agg [.sym 20, .sym 21, .sym 22], .sym 23]),
  (41, [.agg [.sym 3, .sym 4, .sym 5], .agg [.sym 6, .sym 7, .sym 8]], .tup [.agg [.sym 24, .sym 25, .sym 26], .sym 27]),
  (37, [.agg [.sym 20, .sym 21, .sym 22], .agg [.sym 24, .sym 25, .sym 26]], .tup [.agg [.sym 28, .sym 29, .sym 30], .sym 31])]⟩
theorem rGMul_c_r8 : @comes rGMul_c_k8 Tryz.prog glT 3000 17 [.agg [.sym 0, .sym 1, .sym 2, .sym 3, .sym 4, .sym 5], .agg [.sym 6, .sym 7, .sym 8, .sym 9, .sym 10, .sym 11]] = some (.lit (.tuple #[.agg #[.bool false, .string ⟨#[]⟩, .int .i64 0, .bool false, .string ⟨#[]⟩, .int .i64 0], .int .i64 4])) := by kernel_rfl
@[reducible] noncomputable def rGMul_c_k9 : Know := ⟨[([0, 12, 3], [.sym 15, .lit (.int .i64 0)], .lit (.bool false)),
  ([0, 12, 3], [.sym 19, .lit (.int .i64 0)], .lit (.bool true)),
  ([0, 12, 3], [.sym 23, .lit (.int .i64 0)], .lit (.bool false)),
  ([0, 12, 3], [.sym 27, .lit (.int .i64 0)], .lit (.bool true))],
  [(41, [.agg [.sym 0, .sym 1, .sym 2], .agg [.sym 6, .sym 7, .sym 8]], .tup [.agg [.sym 12, .sym 13, .sym 14], .sym 15]),
  (41, [.agg [.sym 3, .sym 4, .sym 5], .agg [.sym 9, .sym 10, .sym 11]], .tup [.agg [.sym 16, .sym 17, .sym 18], .sym 19]),
  (41, [.agg [.sym 0, .sym 1, .sym 2], .agg [.sym 9, .sym 10, .sym 11]], .tup [.agg [.sym 20, .sym 21, .sym 22], .sym 23]),
  (41, [.agg [.sym 3, .sym 4, .sym 5], .agg [.sym 6, .sym 7, .sym 8]], .tup [.agg [.sym 24, .sym 25, .sym 26], .sym 27])]⟩
theorem rGMul_c_r9 : @comes rGMul_c_k9 Tryz.prog glT 3000 17 [.agg [.sym 0, .sym 1, .sym 2, .sym 3, .sym 4, .sym 5], .agg [.sym 6, .sym 7, .sym 8, .sym 9, .sym 10, .sym 11]] = some (.lit (.tuple #[.agg #[.bool false, .string ⟨#[]⟩, .int .i64 0, .bool false, .string ⟨#[]⟩, .int .i64 0], .int .i64 4])) := by kernel_rfl
@[reducible] noncomputable def rGMul_c_k10 : Know := ⟨[([0, 12, 3], [.sym 15, .lit (.int .i64 0)], .lit (.bool false)),
  ([0, 12, 3], [.sym 19, .lit (.int .i64 0)], .lit (.bool true)),
  ([0, 12, 3], [.sym 23, .lit (.int .i64 0)], .lit (.bool true))],
  [(41, [.agg [.sym 0, .sym 1, .sym 2], .agg [.sym 6, .sym 7, .sym 8]], .tup [.agg [.sym 12, .sym 13, .sym 14], .sym 15]),
  (41, [.agg [.sym 3, .sym 4, .sym 5], .agg [.sym 9, .sym 10, .sym 11]], .tup [.agg [.sym 16, .sym 17, .sym 18], .sym 19]),
  (41, [.agg [.sym 0, .sym 1, .sym 2], .agg [.sym 9, .sym 10, .sym 11]], .tup [.agg [.sym 20, .sym 21, .sym 22], .sym 23]),
  (41, [.agg [.sym 3, .sym 4, .sym 5], .agg [.sym 6, .sym 7, .sym 8]], .tup [.agg [.sym 24, .sym 25, .sym 26], .sym 27])]⟩
theorem rGMul_c_r10 : @comes rGMul_c_k10 Tryz.prog glT 3000 17 [.agg [.sym 0, .sym 1, .sym 2, .sym 3, .sym 4, .sym 5], .agg [.sym 6, .sym 7, .sym 8, .sym 9, .sym 10, .sym 11]] = some (.lit (.tuple #[.agg #[.bool false, .string ⟨#[]⟩, .int .i64 0, .bool false, .string ⟨#[]⟩, .int .i64 0], .int .i64 4])) := by kernel_rfl
@[reducible] noncomputable def rGMul_c_k11 : Know := ⟨[([0, 12, 3], [.sym 15, .lit (.int .i64 0)], .lit (.bool true)),
  ([0, 12, 3], [.sym 23, .lit (.int .i64 0)], .lit (.bool false)),
  ([0, 12, 3], [.sym 27, .lit (.int .i64 0)], .lit (.bool false))],
  [(41, [.agg [.sym 0, .sym 1, .sym 2], .agg [.sym 6, .sym 7, .sym 8]], .tup [.agg [.sym 12, .sym 13, .sym 14], .sym 15]),
  (41, [.agg [.sym 3, .sym 4, .sym 5], .agg [.sym 9, .sym 10, .sym 11]], .tup [.agg [.sym 16, .sym 17, .sym 18], .sym 19]),
  (41, [.agg [.sym 0, .sym 1, .sym 2], .agg [.sym 9, .sym 10, .sym 11]], .tup [.agg [.sym 20, .sym 21, .sym 22], .sym 23]),
  (41, [.agg [.sym 3, .sym 4, .sym 5], .agg [.sym 6, .sym 7, .sym 8]], .tup [.agg [.sym 24, .sym 25, .sym 26], .sym 27]),
  (37, [.agg [.sym 20, .sym 21, .sym 22], .agg [.sym 24, .sym 25, .sym 26]], .tup [.agg [.sym 28, .sym 29, .sym 30], .sym 31])]⟩
theorem rGMul_c_r11 : @comes rGMul_c_k11 Tryz.prog glT 3000 17 [.agg [.sym 0, .sym 1, .sym 2, .sym 3, .sym 4, .sym 5], .agg [.sym 6, .sym 7, .sym 8, .sym 9, .sym 10, .sym 11]] = some (.lit (.tuple #[.agg #[.bool false, .string ⟨#[]⟩, .int .i64 0, .bool false, .string ⟨#[]⟩, .int .i64 0], .int .i64 4])) := by kernel_rfl
@[reducible] noncomputable def rGMul_c_k12 : Know := ⟨[([0, 12, 3], [.sym 15, .lit (.int .i64 0)], .lit (.bool true)),
  ([0, 12, 3], [.sym 23, .lit (.int .i64 0)], .lit (.bool false)),
  ([0, 12, 3], [.sym 27, .lit (.int .i64 0)], .lit (.bool true))],
  [(41, [.agg [.sym 0, .sym 1, .sym 2], .agg [.sym 6, .sym 7, .sym 8]], .tup [.agg [.sym 12, .sym 13, .sym 14], .sym 15]),
  (41, [.agg [.sym 3, .sym 4, .sym 5], .agg [.sym 9, .sym 10, .sym 11]], .tup [.agg [.sym 16, .sym 17, .sym 18], .sym 19]),
  (41, [.agg [.sym 0, .sym 1, .sym 2], .agg [.sym 9, .sym 10, .sym 11]], .tup [.agg [.sym 20, .sym 21, .sym 22], .sym 23]),
  (41, [.agg [.sym 3, .sym 4, .sym 5], .agg [.sym 6, .sym 7, .sym 8]], .tup [.agg [.sym 24, .sym 25, .sym 26], .sym 27])]⟩
theorem rGMul_c_r12 : @comes rGMul_c_k12 Tryz.prog glT 3000 17 [.agg [.sym 0, .sym 1, .sym 2, .sym 3, .sym 4, .sym 5], .agg [.sym 6, .sym 7, .sym 8, .sym 9, .sym 10, .sym 11]] = some (.lit (.tuple #[.agg #[.bool false, .string ⟨#[]⟩, .int .i64 0, .bool false, .string ⟨#[]⟩, .int .i64 0], .int .i64 4])) := by kernel_rfl
@[reducible] noncomputable def rGMul_c_k13 : Know := ⟨[([0, 12, 3], [.sym 15, .lit (.int .i64 0)], .lit (.bool true)),
  ([0, 12, 3], [.sym 23, .lit (.int .i64 0)], .lit (.bool true))],
  [(41, [.agg [.sym 0, .sym 1, .sym 2], .agg [.sym 6, .sym 7, .sym 8]], .tup [.agg [.sym 12, .sym 13, .sym 14], .sym 15]),
  (41, [.agg [.sym 3, .sym 4, .sym 5], .agg [.sym 9, .sym 10, .sym 11]], .tup [.agg [.sym 16, .sym 17, .sym 18], .sym 19]),
  (41, [.agg [.sym 0, .sym 1, .sym 2], .agg [.sym 9, .sym 10, .sym 11]], .tup [.agg [.sym 20, .sym 21, .sym 22], .sym 23]),
  (41, [.agg [.sym 3, .sym 4, .sym 5], .agg [.sym 6, .sym 7, .sym 8]], .tup [.agg [.sym 24, .sym 25, .sym 26], .sym 27])]⟩
theorem rGMul_c_r13 : @comes rGMul_c_k13 Tryz.prog glT 3000 17 [.agg [.sym 0, .sym 1, .sym 2, .sym 3, .sym 4, .sym 5], .agg [.sym 6, .sym 7, .sym 8, .sym 9, .sym 10, .sym 11]] = some (.lit (.tuple #[.agg #[.bool false, .string ⟨#[]⟩, .int .i64 0, .bool false, .string ⟨#[]⟩, .int .i64 0], .int .i64 4])) := by kernel_rfl
set_option maxRecDepth 100000 in
theorem rGMul_c (a b : Gs) (w : World) (ha : a.Ok) (hb : b.Ok) (hG : Globs glT w) : Calls Tryz.prog 17 #[.agg #[.bool a.re.g, .string (natS a.re.n), .int .i64 a.re.x, .bool a.im.g, .string (natS a.im.n), .int .i64 a.im.x], .agg #[.bool b.re.g, .string (natS b.re.n), .int .i64 b.re.x, .bool b.im.g, .string (natS b.im.n), .int .i64 b.im.x]] w fun e w' => e = .returned (.tuple #[(gmulD a b).v, .int .i64 (gmulE a b)]) ∧ Below w.heap.size w w' := by
  by_cases h1 : mulE a.re b.re = 0
  · by_cases h2 : mulE a.im b.im = 0
    · by_cases h3 : mulE a.re b.im = 0
      · by_cases h4 : mulE a.im b.re = 0
        · by_cases h5 : addE (mulD a.re b.re) (negD (mulD a.im b.im)) = 0
          · by_cases h6 : addE (mulD a.re b.im) (mulD a.im b.re) = 0
            · letI : Env := mkEnv glT [.bool a.re.g, .string (natS a.re.n), .int .i64 a.re.x, .bool a.im.g, .string (natS a.im.n), .int .i64 a.im.x, .bool b.re.g, .string (natS b.re.n), .int .i64 b.re.x, .bool b.im.g, .string (natS b.im.n), .int .i64 b.im.x, .bool (mulD a.re b.re).g, .string (natS (mulD a.re b.re).n), .int .i64 (mulD a.re b.re).x, .int .i64 (mulE a.re b.re), .bool (mulD a.im b.im).g, .string (natS (mulD a.im b.im).n), .int .i64 (mulD a.im b.im).x, .int .i64 (mulE a.im b.im), .bool (negD (mulD a.im b.im)).g, .string (natS (negD (mulD a.im b.im)).n), .int .i64 (negD (mulD a.im b.im)).x, .bool (addD (mulD a.re b.re) (negD (mulD a.im b.im))).g, .string (natS (addD (mulD a.re b.re) (negD (mulD a.im b.im))).n), .int .i64 (addD (mulD a.re b.re) (negD (mulD a.im b.im))).x, .int .i64 (addE (mulD a.re b.re) (negD (mulD a.im b.im))), .bool (mulD a.re b.im).g, .string (natS (mulD a.re b.im).n), .int .i64 (mulD a.re b.im).x, .int .i64 (mulE a.re b.im), .bool (mulD a.im b.re).g, .string (natS (mulD a.im b.re).n), .int .i64 (mulD a.im b.re).x, .int .i64 (mulE a.im b.re), .bool (addD (mulD a.re b.im) (mulD a.im b.re)).g, .string (natS (addD (mulD a.re b.im) (mulD a.im b.re)).n), .int .i64 (addD (mulD a.re b.im) (mulD a.im b.re)).x, .int .i64 (addE (mulD a.re b.im) (mulD a.im b.re))] rfl
              have hops : OpsT Tryz.prog (@Know.ops rGMul_c_k1) := ⟨opt_neq_f rfl rfl h1, opt_neq_f rfl rfl h2, opt_neq_f rfl rfl h3, opt_neq_f rfl rfl h4, opt_neq_f rfl rfl h5, opt_neq_f rfl rfl h6, trivial⟩
              have hcalls : CallsT Tryz.prog (@Know.calls rGMul_c_k1) := ⟨callt rfl rfl fun w hG => rMul3_c a.re b.re w ha.1 hb.1, callt rfl rfl fun w hG => rMul3_c a.im b.im w ha.2 hb.2, callt rfl rfl fun w hG => rNegD3_c (mulD a.im b.im) w (mulD_Ok a.im b.im), callt rfl rfl fun w hG => rAdd3_c (mulD a.re b.re) (negD (mulD a.im b.im)) w (mulD_Ok a.re b.re) (negD_Ok (mulD_Ok a.im b.im)), callt rfl rfl fun w hG => rMul3_c a.re b.im w ha.1 hb.2, callt rfl rfl fun w hG => rMul3_c a.im b.re w ha.2 hb.1, callt rfl rfl fun w hG => rAdd3_c (mulD a.re b.im) (mulD a.im b.re) w (mulD_Ok a.re b.im) (mulD_Ok a.im b.re), trivial⟩
              exact (@sym_ok _ rGMul_c_k1 _ (@KnowOk.of _ rGMul_c_k1 _ hops hcalls) (by kernel_rfl) _ _ _ _ rGMul_c_r1 rfl rfl _ hG).mono fun e w' h => ⟨h.1.trans (show Ending.returned (.tuple #[.agg #[.bool (addD (mulD a.re b.re) (negD (mulD a.im b.im))).g, .string (natS (addD (mulD a.re b.re) (negD (mulD a.im b.im))).n), .int .i64 (addD (mulD a.re b.re) (negD (mulD a.im b.im))).x, .bool (addD (mulD a.re b.im) (mulD a.im b.re)).g, .string (natS (addD (mulD a.re b.im) (mulD a.im b.re)).n), .int .i64 (addD (mulD a.re b.im) (mulD a.im b.re)).x], .int .i64 0]) = .returned (.tuple #[(gmulD a b).v, .int .i64 (gmulE a b)]) from by rw [show gmulD a b = _ from erG_ok (l := gmulL a b) (show All0 (gmulL a b) from ⟨h1, h2, h5, h3, h4, h6, trivial⟩), show gmulE a b = 0 from erI_ok (l := gmulL a b) (show All0 (gmulL a b) from ⟨h1, h2, h5, h3, h4, h6, trivial⟩)]; rfl), h.2⟩
            · letI : Env := mkEnv glT [.bool a.re.g, .string (natS a.re.n), .int .i64 a.re.x, .bool a.im.g, .string (natS a.im.n), .int .i64 a.im.x, .bool b.re.g, .string (natS b.re.n), .int .i64 b.re.x, .bool b.im.g, .string (natS b.im.n), .int .i64 b.im.x, .bool (mulD a.re b.re).g, .string (natS (mulD a.re b.re).n), .int .i64 (mulD a.re b.re).x, .int .i64 (mulE a.re b.re), .bool (mulD a.im b.im).g, .string (natS (mulD a.im b.im).n), .int .i64 (mulD a.im b.im).x, .int .i64 (mulE a.im b.im), .bool (negD (mulD a.im b.im)).g, .string (natS (negD (mulD a.im b.im)).n), .int .i64 (negD (mulD a.im b.im)).x, .bool (addD (mulD a.re b.re) (negD (mulD a.im b.im))).g, .string (natS (addD (mulD a.re b.re) (negD (mulD a.im b.im))).n), .int .i64 (addD (mulD a.re b.re) (negD (mulD a.im b.im))).x, .int .i64 (addE (mulD a.re b.re) (negD (mulD a.im b.im))), .bool (mulD a.re b.im).g, .string (natS (mulD a.re b.im).n), .int .i64 (mulD a.re b.im).x, .int .i64 (mulE a.re b.im), .bool (mulD a.im b.re).g, .string (natS (mulD a.im b.re).n), .int .i64 (mulD a.im b.re).x, .int .i64 (mulE a.im b.re), .bool (addD (mulD a.re b.im) (mulD a.im b.re)).g, .string (natS (addD (mulD a.re b.im) (mulD a.im b.re)).n), .int .i64 (addD (mulD a.re b.im) (mulD a.im b.re)).x, .int .i64 (addE (mulD a.re b.im) (mulD a.im b.re))] rfl
              have hops : OpsT Tryz.prog (@Know.ops rGMul_c_k2) := ⟨opt_neq_f rfl rfl h1, opt_neq_f rfl rfl h2, opt_neq_f rfl rfl h3, opt_neq_f rfl rfl h4, opt_neq_f rfl rfl h5, opt_neq_t rfl rfl h6, trivial⟩
              have hcalls : CallsT Tryz.prog (@Know.calls rGMul_c_k2) := ⟨callt rfl rfl fun w hG => rMul3_c a.re b.re w ha.1 hb.1, callt rfl rfl fun w hG => rMul3_c a.im b.im w ha.2 hb.2, callt rfl rfl fun w hG => rNegD3_c (mulD a.im b.im) w (mulD_Ok a.im b.im), callt rfl rfl fun w hG => rAdd3_c (mulD a.re b.re) (negD (mulD a.im b.im)) w (mulD_Ok a.re b.re) (negD_Ok (mulD_Ok a.im b.im)), callt rfl rfl fun w hG => rMul3_c a.re b.im w ha.1 hb.2, callt rfl rfl fun w hG => rMul3_c a.im b.re w ha.2 hb.1, callt rfl rfl fun w hG => rAdd3_c (mulD a.re b.im) (mulD a.im b.re) w (mulD_Ok a.re b.im) (mulD_Ok a.im b.re), trivial⟩
              exact (@sym_ok _ rGMul_c_k2 _ (@KnowOk.of _ rGMul_c_k2 _ hops hcalls) (by kernel_rfl) _ _ _ _ rGMul_c_r2 rfl rfl _ hG).mono fun e w' h => ⟨h.1.trans (show Ending.returned (.tuple #[.agg #[.bool false, .string ⟨#[]⟩, .int .i64 0, .bool false, .string ⟨#[]⟩, .int .i64 0], .int .i64 4]) = .returned (.tuple #[(gmulD a b).v, .int .i64 (gmulE a b)]) from by rw [show gmulD a b = _ from erG_no (l := gmulL a b) (show ¬ All0 (gmulL a b) from (fun c => h6 c.2.2.2.2.2.1)), show gmulE a b = 4 from erI_no (l := gmulL a b) (show ¬ All0 (gmulL a b) from (fun c => h6 c.2.2.2.2.2.1)), Gs.zero_v]), h.2⟩
          · letI : Env := mkEnv glT [.bool a.re.g, .string (natS a.re.n), .int .i64 a.re.x, .bool a.im.g, .string (natS a.im.n), .int .i64 a.im.x, .bool b.re.g, .string (natS b.re.n), .int .i64 b.re.x, .bool b.im.g, .string (natS b.im.n), .int .i64 b.im.x, .bool (mulD a.re b.re).g, .string (natS (mulD a.re b.re).n), .int .i64 (mulD a.re b.re).x, .int .i64 (mulE a.re b.re), .bool (mulD a.im b.im).g, .string (natS (mulD a.im b.im).n), .int .i64 (mulD a.im b.im).x, .int .i64 (mulE a.im b.im), .bool (negD (mulD a.im b.im)).g, .string (natS (negD (mulD a.im b.im)).n), .int .i64 (negD (mulD a.im b.im)).x, .bool (addD (mulD a.re b.re) (negD (mulD a.im b.im))).g, .string (natS (addD (mulD a.re b.re) (negD (mulD a.im b.im))).n), .int .i64 (addD (mulD a.re b.re) (negD (mulD a.im b.im))).x, .int .i64 (addE (mulD a.re b.re) (negD (mulD a.im b.im))), .bool (mulD a.re b.im).g, .string (natS (mulD a.re b.im).n), .int .i64 (mulD a.re b.im).x, .int .i64 (mulE a.re b.im), .bool (mulD a.im b.re).g, .string (natS (mulD a.im b.re).n), .int .i64 (mulD a.im b.re).x, .int .i64 (mulE a.im b.re), .bool (addD (mulD a.re b.im) (mulD a.im b.re)).g, .string (natS (addD (mulD a.re b.im) (mulD a.im b.re)).n), .int .i64 (addD (mulD a.re b.im) (mulD a.im b.re)).x, .int .i64 (addE (mulD a.re b.im) (mulD a.im b.re))] rfl
            have hops : OpsT Tryz.prog (@Know.ops rGMul_c_k3) := ⟨opt_neq_f rfl rfl h1, opt_neq_f rfl rfl h2, opt_neq_f rfl rfl h3, opt_neq_f rfl rfl h4, opt_neq_t rfl rfl h5, trivial⟩
            have hcalls : CallsT Tryz.prog (@Know.calls rGMul_c_k3) := ⟨callt rfl rfl fun w hG => rMul3_c a.re b.re w ha.1 hb.1, callt rfl rfl fun w hG => rMul3_c a.im b.im w ha.2 hb.2, callt rfl rfl fun w hG => rNegD3_c (mulD a.im b.im) w (mulD_Ok a.im b.im), callt rfl rfl fun w hG => rAdd3_c (mulD a.re b.re) (negD (mulD a.im b.im)) w (mulD_Ok a.re b.re) (negD_Ok (mulD_Ok a.im b.im)), callt rfl rfl fun w hG => rMul3_c a.re b.im w ha.1 hb.2, callt rfl rfl fun w hG => rMul3_c a.im b.re w ha.2 hb.1, callt rfl rfl fun w hG => rAdd3_c (mulD a.re b.im) (mulD a.im b.re) w (mulD_Ok a.re b.im) (mulD_Ok a.im b.re), trivial⟩
            exact (@sym_ok _ rGMul_c_k3 _ (@KnowOk.of _ rGMul_c_k3 _ hops hcalls) (by kernel_rfl) _ _ _ _ rGMul_c_r3 rfl rfl _ hG).mono fun e w' h => ⟨h.1.trans (show Ending.returned (.tuple #[.agg #[.bool false, .string ⟨#[]⟩, .int .i64 0, .bool false, .string ⟨#[]⟩, .int .i64 0], .int .i64 4]) = .returned (.tuple #[(gmulD a b).v, .int .i64 (gmulE a b)]) from by rw [show gmulD a b = _ from erG_no (l := gmulL a b) (show ¬ All0 (gmulL a b) from (fun c => h5 c.2.2.1)), show gmulE a b = 4 from erI_no (l := gmulL a b) (show ¬ All0 (gmulL a b) from (fun c => h5 c.2.2.1)), Gs.zero_v]), h.2⟩
        · by_cases h5 : addE (mulD a.re b.re) (negD (mulD a.im b.im)) = 0
          · letI : Env := mkEnv glT [.bool a.re.g, .string (natS a.re.n), .int .i64 a.re.x, .bool a.im.g, .string (natS a.im.n), .int .i64 a.im.x, .bool b.re.g, .string (natS b.re.n), .int .i64 b.re.x, .bool b.im.g, .string (natS b.im.n), .int .i64 b.im.x, .bool (mulD a.re b.re).g, .string (natS (mulD a.re b.re).n), .int .i64 (mulD a.re b.re).x, .int .i64 (mulE a.re b.re), .bool (mulD a.im b.im).g, .string (natS (mulD a.im b.im).n), .int .i64 (mulD a.im b.im).x, .int .i64 (mulE a.im b.im), .bool (negD (mulD a.im b.im)).g, .string (natS (negD (mulD a.im b.im)).n), .int .i64 (negD (mulD a.im b.im)).x, .bool (addD (mulD a.re b.re) (negD (mulD a.im b.im))).g, .string (natS (addD (mulD a.re b.re) (negD (mulD a.im b.im))).n), .int .i64 (addD (mulD a.re b.re) (negD (mulD a.im b.im))).x, .int .i64 (addE (mulD a.re b.re) (negD (mulD a.im b.im))), .bool (mulD a.re b.im).g, .string (natS (mulD a.re b.im).n), .int .i64 (mulD a.re b.im).x, .int .i64 (mulE a.re b.im), .bool (mulD a.im b.re).g, .string (natS (mulD a.im b.re).n), .int .i64 (mulD a.im b.re).x, .int .i64 (mulE a.im b.re)] rfl
            have hops : OpsT Tryz.prog (@Know.ops rGMul_c_k4) := ⟨opt_neq_f rfl rfl h1, opt_neq_f rfl rfl h2, opt_neq_f rfl rfl h3, opt_neq_t rfl rfl h4, opt_neq_f rfl rfl h5, trivial⟩
            have hcalls : CallsT Tryz.prog (@Know.calls rGMul_c_k4) := ⟨callt rfl rfl fun w hG => rMul3_c a.re b.re w ha.1 hb.1, callt rfl rfl fun w hG => rMul3_c a.im b.im w ha.2 hb.2, callt rfl rfl fun w hG => rNegD3_c (mulD a.im b.im) w (mulD_Ok a.im b.im), callt rfl rfl fun w hG => rAdd3_c (mulD a.re b.re) (negD (mulD a.im b.im)) w (mulD_Ok a.re b.re) (negD_Ok (mulD_Ok a.im b.im)), callt rfl rfl fun w hG => rMul3_c a.re b.im w ha.1 hb.2, callt rfl rfl fun w hG => rMul3_c a.im b.re w ha.2 hb.1, trivial⟩
            exact (@sym_ok _ rGMul_c_k4 _ (@KnowOk.of _ rGMul_c_k4 _ hops hcalls) (by kernel_rfl) _ _ _ _ rGMul_c_r4 rfl rfl _ hG).mono fun e w' h => ⟨h.1.trans (show Ending.returned (.tuple #[.agg #[.bool false, .string ⟨#[]⟩, .int .i64 0, .bool false, .string ⟨#[]⟩, .int .i64 0], .int .i64 4]) = .returned (.tuple #[(gmulD a b).v, .int .i64 (gmulE a b)]) from by rw [show gmulD a b = _ from erG_no (l := gmulL a b) (show ¬ All0 (gmulL a b) from (fun c => h4 c.2.2.2.2.1)), show gmulE a b = 4 from erI_no (l := gmulL a b) (show ¬ All0 (gmulL a b) from (fun c => h4 c.2.2.2.2.1)), Gs.zero_v]), h.2⟩
          · letI : Env := mkEnv glT [.bool a.re.g, .string (natS a.re.n), .int .i64 a.re.x, .bool a.im.g, .string (natS a.im.n), .int .i64 a.im.x, .bool b.re.g, .string (natS b.re.n), .int .i64 b.re.x, .bool b.im.g, .string (natS b.im.n), .int .i64 b.im.x, .bool (mulD a.re b.re).g, .string (natS (mulD a.re b.re).n), .int .i64 (mulD a.re b.re).x, .int .i64 (mulE a.re b.re), .bool (mulD a.im b.im).g, .string (natS (mulD a.im b.im).n), .int .i64 (mulD a.im b.im).x, .int .i64 (mulE a.im b.im), .bool (negD (mulD a.im b.im)).g, .string (natS (negD (mulD a.im b.im)).n), .int .i64 (negD (mulD a.im b.im)).x, .bool (addD (mulD a.re b.re) (negD (mulD a.im b.im))).g, .string (natS (addD (mulD a.re b.re) (negD (mulD a.im b.im))).n), .int .i64 (addD (mulD a.re b.re) (negD (mulD a.im b.im))).x, .int .i64 (addE (mulD a.re b.re) (negD (mulD a.im b.im))), .bool (mulD a.re b.im).g, .string (natS (mulD a.re b.im).n), .int .i64 (mulD a.re b.im).x, .int .i64 (mulE a.re b.im), .bool (mulD a.im b.re).g, .string (natS (mulD a.im b.re).n), .int .i64 (mulD a.im b.re).x, .int .i64 (mulE a.im b.re)] rfl
            have hops : OpsT Tryz.prog (@Know.ops rGMul_c_k5) := ⟨opt_neq_f rfl rfl h1, opt_neq_f rfl rfl h2, opt_neq_f rfl rfl h3, opt_neq_t rfl rfl h4, opt_neq_t rfl rfl h5, trivial⟩
            have hcalls : CallsT Tryz.prog (@Know.calls rGMul_c_k5) := ⟨callt rfl rfl fun w hG => rMul3_c a.re b.re w ha.1 hb.1, callt rfl rfl fun w hG => rMul3_c a.im b.im w ha.2 hb.2, callt rfl rfl fun w hG => rNegD3_c (mulD a.im b.im) w (mulD_Ok a.im b.im), callt rfl rfl fun w hG => rAdd3_c (mulD a.re b.re) (negD (mulD a.im b.im)) w (mulD_Ok a.re b.re) (negD_Ok (mulD_Ok a.im b.im)), callt rfl rfl fun w hG => rMul3_c a.re b.im w ha.1 hb.2, callt rfl rfl fun w hG => rMul3_c a.im b.re w ha.2 hb.1, trivial⟩
            exact (@sym_ok _ rGMul_c_k5 _ (@KnowOk.of _ rGMul_c_k5 _ hops hcalls) (by kernel_rfl) _ _ _ _ rGMul_c_r5 rfl rfl _ hG).mono fun e w' h => ⟨h.1.trans (show Ending.returned (.tuple #[.agg #[.bool false, .string ⟨#[]⟩, .int .i64 0, .bool false, .string ⟨#[]⟩, .int .i64 0], .int .i64 4]) = .returned (.tuple #[(gmulD a b).v, .int .i64 (gmulE a b)]) from by rw [show gmulD a b = _ from erG_no (l := gmulL a b) (show ¬ All0 (gmulL a b) from (fun c => h5 c.2.2.1)), show gmulE a b = 4 from erI_no (l := gmulL a b) (show ¬ All0 (gmulL a b) from (fun c => h5 c.2.2.1)), Gs.zero_v]), h.2⟩
      · by_cases h4 : addE (mulD a.re b.re) (negD (mulD a.im b.im)) = 0
        · letI : Env := mkEnv glT [.bool a.re.g, .string (natS a.re.n), .int .i64 a.re.x, .bool a.im.g, .string (natS a.im.n), .int .i64 a.im.x, .bool b.re.g, .string (natS b.re.n), .int .i64 b.re.x, .bool b.im.g, .string (natS b.im.n), .int .i64 b.im.x, .bool (mulD a.re b.re).g, .string (natS (mulD a.re b.re).n), .int .i64 (mulD a.re b.re).x, .int .i64 (mulE a.re b.re), .bool (mulD a.im b.im).g, .string (natS (mulD a.im b.im).n), .int .i64 (mulD a.im b.im).x, .int .i64 (mulE a.im b.im), .bool (negD (mulD a.im b.im)).g, .string (natS (negD (mulD a.im b.im)).n), .int .i64 (negD (mulD a.im b.im)).x, .bool (addD (mulD a.re b.re) (negD (mulD a.im b.im))).g, .string (natS (addD (mulD a.re b.re) (negD (mulD a.im b.im))).n), .int .i64 (addD (mulD a.re b.re) (negD (mulD a.im b.im))).x, .int .i64 (addE (mulD a.re b.re) (negD (mulD a.im b.im))), .bool (mulD a.re b.im).g, .string (natS (mulD a.re b.im).n), .int .i64 (mulD a.re b.im).x, .int .i64 (mulE a.re b.im), .bool (mulD a.im b.re).g, .string (natS (mulD a.im b.re).n), .int .i64 (mulD a.im b.re).x, .int .i64 (mulE a.im b.re)] rfl
          have hops : OpsT Tryz.prog (@Know.ops rGMul_c_k6) := ⟨opt_neq_f rfl rfl h1, opt_neq_f rfl rfl h2, opt_neq_t rfl rfl h3, opt_neq_f rfl rfl h4, trivial⟩
          have hcalls : CallsT Tryz.prog (@Know.calls rGMul_c_k6) := ⟨callt rfl rfl fun w hG => rMul3_c a.re b.re w ha.1 hb.1, callt rfl rfl fun w hG => rMul3_c a.im b.im w ha.2 hb.2, callt rfl rfl fun w hG => rNegD3_c (mulD a.im b.im) w (mulD_Ok a.im b.im), callt rfl rfl fun w hG => rAdd3_c (mulD a.re b.re) (negD (mulD a.im b.im)) w (mulD_Ok a.re b.re) (negD_Ok (mulD_Ok a.im b.im)), callt rfl rfl fun w hG => rMul3_c a.re b.im w ha.1 hb.2, callt rfl rfl fun w hG => rMul3_c a.im b.re w ha.2 hb.1, trivial⟩
          exact (@sym_ok _ rGMul_c_k6 _ (@KnowOk.of _ rGMul_c_k6 _ hops hcalls) (by kernel_rfl) _ _ _ _ rGMul_c_r6 rfl rfl _ hG).mono fun e w' h => ⟨h.1.trans (show Ending.returned (.tuple #[.agg #[.bool false, .string ⟨#[]⟩, .int .i64 0, .bool false, .string ⟨#[]⟩, .int .i64 0], .int .i64 4]) = .returned (.tuple #[(gmulD a b).v, .int .i64 (gmulE a b)]) from by rw [show gmulD a b = _ from erG_no (l := gmulL a b) (show ¬ All0 (gmulL a b) from (fun c => h3 c.2.2.2.1)), show gmulE a b = 4 from erI_no (l := gmulL a b) (show ¬ All0 (gmulL a b) from (fun c => h3 c.2.2.2.1)), Gs.zero_v]), h.2⟩
        · letI : Env := mkEnv glT [.bool a.re.g, .string (natS a.re.n), .int .i64 a.re.x, .bool a.im.g, .string (natS a.im.n), .int .i64 a.im.x, .bool b.re.g, .string (natS b.re.n), .int .i64 b.re.x, .bool b.im.g, .string (natS b.im.n), .int .i64 b.im.x, .bool (mulD a.re b.re).g, .string (natS (mulD a.re b.re).n), .int .i64 (mulD a.re b.re).x, .int .i64 (mulE a.re b.re), .bool (mulD a.im b.im).g, .string (natS (mulD a.im b.im).n), .int .i64 (mulD a.im b.im).x, .int .i64 (mulE a.im b.im), .bool (negD (mulD a.im b.im)).g, .string (natS (negD (mulD a.im b.im)).n), .int .i64 (negD (mulD a.im b.im)).x, .bool (addD (mulD a.re b.re) (negD (mulD a.im b.im))).g, .string (natS (addD (mulD a.re b.re) (negD (mulD a.im b.im))).n), .int .i64 (addD (mulD a.re b.re) (negD (mulD a.im b.im))).x, .int .i64 (addE (mulD a.re b.re) (negD (mulD a.im b.im))), .bool (mulD a.re b.im).g, .string (natS (mulD a.re b.im).n), .int .i64 (mulD a.re b.im).x, .int .i64 (mulE a.re b.im), .bool (mulD a.im b.re).g, .string (natS (mulD a.im b.re).n), .int .i64 (mulD a.im b.re).x, .int .i64 (mulE a.im b.re)] rfl
          have hops : OpsT Tryz.prog (@Know.ops rGMul_c_k7) := ⟨opt_neq_f rfl rfl h1, opt_neq_f rfl rfl h2, opt_neq_t rfl rfl h3, opt_neq_t rfl rfl h4, trivial⟩
          have hcalls : CallsT Tryz.prog (@Know.calls rGMul_c_k7) := ⟨callt rfl rfl fun w hG => rMul3_c a.re b.re w ha.1 hb.1, callt rfl rfl fun w hG => rMul3_c a.im b.im w ha.2 hb.2, callt rfl rfl fun w hG => rNegD3_c (mulD a.im b.im) w (mulD_Ok a.im b.im), callt rfl rfl fun w hG => rAdd3_c (mulD a.re b.re) (negD (mulD a.im b.im)) w (mulD_Ok a.re b.re) (negD_Ok (mulD_Ok a.im b.im)), callt rfl rfl fun w hG => rMul3_c a.re b.im w ha.1 hb.2, callt rfl rfl fun w hG => rMul3_c a.im b.re w ha.2 hb.1, trivial⟩
          exact (@sym_ok _ rGMul_c_k7 _ (@KnowOk.of _ rGMul_c_k7 _ hops hcalls) (by kernel_rfl) _ _ _ _ rGMul_c_r7 rfl rfl _ hG).mono fun e w' h => ⟨h.1.trans (show Ending.returned (.tuple #[.agg #[.bool false, .string ⟨#[]⟩, .int .i64 0, .bool false, .string ⟨#[]⟩, .int .i64 0], .int .i64 4]) = .returned (.tuple #[(gmulD a b).v, .int .i64 (gmulE a b)]) from by rw [show gmulD a b = _ from erG_no (l := gmulL a b) (show ¬ All0 (gmulL a b) from (fun c => h4 c.2.2.1)), show gmulE a b = 4 from erI_no (l := gmulL a b) (show ¬ All0 (gmulL a b) from (fun c => h4 c.2.2.1)), Gs.zero_v]), h.2⟩
    · by_cases h3 : mulE a.re b.im = 0
      · by_cases h4 : mulE a.im b.re = 0
        · letI : Env := mkEnv glT [.bool a.re.g, .string (natS a.re.n), .int .i64 a.re.x, .bool a.im.g, .string (natS a.im.n), .int .i64 a.im.x, .bool b.re.g, .string (natS b.re.n), .int .i64 b.re.x, .bool b.im.g, .string (natS b.im.n), .int .i64 b.im.x, .bool (mulD a.re b.re).g, .string (natS (mulD a.re b.re).n), .int .i64 (mulD a.re b.re).x, .int .i64 (mulE a.re b.re), .bool (mulD a.im b.im).g, .string (natS (mulD a.im b.im).n), .int .i64 (mulD a.im b.im).x, .int .i64 (mulE a.im b.im), .bool (mulD a.re b.im).g, .string (natS (mulD a.re b.im).n), .int .i64 (mulD a.re b.im).x, .int .i64 (mulE a.re b.im), .bool (mulD a.im b.re).g, .string (natS (mulD a.im b.re).n), .int .i64 (mulD a.im b.re).x, .int .i64 (mulE a.im b.re), .bool (addD (mulD a.re b.im) (mulD a.im b.re)).g, .string (natS (addD (mulD a.re b.im) (mulD a.im b.re)).n), .int .i64 (addD (mulD a.re b.im) (mulD a.im b.re)).x, .int .i64 (addE (mulD a.re b.im) (mulD a.im b.re))] rfl
          have hops : OpsT Tryz.prog (@Know.ops rGMul_c_k8) := ⟨opt_neq_f rfl rfl h1, opt_neq_t rfl rfl h2, opt_neq_f rfl rfl h3, opt_neq_f rfl rfl h4, trivial⟩
          have hcalls : CallsT Tryz.prog (@Know.calls rGMul_c_k8) := ⟨callt rfl rfl fun w hG => rMul3_c a.re b.re w ha.1 hb.1, callt rfl rfl fun w hG => rMul3_c a.im b.im w ha.2 hb.2, callt rfl rfl fun w hG => rMul3_c a.re b.im w ha.1 hb.2, callt rfl rfl fun w hG => rMul3_c a.im b.re w ha.2 hb.1, callt rfl rfl fun w hG => rAdd3_c (mulD a.re b.im) (mulD a.im b.re) w (mulD_Ok a.re b.im) (mulD_Ok a.im b.re), trivial⟩
          exact (@sym_ok _ rGMul_c_k8 _ (@KnowOk.of _ rGMul_c_k8 _ hops hcalls) (by kernel_rfl) _ _ _ _ rGMul_c_r8 rfl rfl _ hG).mono fun e w' h => ⟨h.1.trans (show Ending.returned (.tuple #[.agg #[.bool false, .string ⟨#[]⟩, .int .i64 0, .bool false, .string ⟨#[]⟩, .int .i64 0], .int .i64 4]) = .returned (.tuple #[(gmulD a b).v, .int .i64 (gmulE a b)]) from by rw [show gmulD a b = _ from erG_no (l := gmulL a b) (show ¬ All0 (gmulL a b) from (fun c => h2 c.2.1)), show gmulE a b = 4 from erI_no (l := gmulL a b) (show ¬ All0 (gmulL a b) from (fun c => h2 c.2.1)), Gs.zero_v]), h.2⟩
        · letI : Env := mkEnv glT [.bool a.re.g, .string (natS a.re.n), .int .i64 a.re.x, .bool a.im.g, .string (natS a.im.n), .int .i64 a.im.x, .bool b.re.g, .string (natS b.re.n), .int .i64 b.re.x, .bool b.im.g, .string (natS b.im.n), .int .i64 b.im.x, .bool (mulD a.re b.re).g, .string (natS (mulD a.re b.re).n), .int .i64 (mulD a.re b.re).x, .int .i64 (mulE a.re b.re), .bool (mulD a.im b.im).g, .string (natS (mulD a.im b.im).n), .int .i64 (mulD a.im b.im).x, .int .i64 (mulE a.im b.im), .bool (mulD a.re b.im).g, .string (natS (mulD a.re b.im).n), .int .i64 (mulD a.re b.im).x, .int .i64 (mulE a.re b.im), .bool (mulD a.im b.re).g, .string (natS (mulD a.im b.re).n), .int .i64 (mulD a.im b.re).x, .int .i64 (mulE a.im b.re)] rfl
          have hops : OpsT Tryz.prog (@Know.ops rGMul_c_k9) := ⟨opt_neq_f rfl rfl h1, opt_neq_t rfl rfl h2, opt_neq_f rfl rfl h3, opt_neq_t rfl rfl h4, trivial⟩
          have hcalls : CallsT Tryz.prog (@Know.calls rGMul_c_k9) := ⟨callt rfl rfl fun w hG => rMul3_c a.re b.re w ha.1 hb.1, callt rfl rfl fun w hG => rMul3_c a.im b.im w ha.2 hb.2, callt rfl rfl fun w hG => rMul3_c a.re b.im w ha.1 hb.2, callt rfl rfl fun w hG => rMul3_c a.im b.re w ha.2 hb.1, trivial⟩
          exact (@sym_ok _ rGMul_c_k9 _ (@KnowOk.of _ rGMul_c_k9 _ hops hcalls) (by kernel_rfl) _ _ _ _ rGMul_c_r9 rfl rfl _ hG).mono fun e w' h => ⟨h.1.trans (show Ending.returned (.tuple #[.agg #[.bool false, .string ⟨#[]⟩, .int .i64 0, .bool false, .string ⟨#[]⟩, .int .i64 0], .int .i64 4]) = .returned (.tuple #[(gmulD a b).v, .int .i64 (gmulE a b)]) from by rw [show gmulD a b = _ from erG_no (l := gmulL a b) (show ¬ All0 (gmulL a b) from (fun c => h2 c.2.1)), show gmulE a b = 4 from erI_no (l := gmulL a b) (show ¬ All0 (gmulL a b) from (fun c => h2 c.2.1)), Gs.zero_v]), h.2⟩
      · letI : Env := mkEnv glT [.bool a.re.g, .string (natS a.re.n), .int .i64 a.re.x, .bool a.im.g, .string (natS a.im.n), .int .i64 a.im.x, .bool b.re.g, .string (natS b.re.n), .int .i64 b.re.x, .bool b.im.g, .string (natS b.im.n), .int .i64 b.im.x, .bool (mulD a.re b.re).g, .string (natS (mulD a.re b.re).n), .int .i64 (mulD a.re b.re).x, .int .i64 (mulE a.re b.re), .bool (mulD a.im b.im).g, .string (natS (mulD a.im b.im).n), .int .i64 (mulD a.im b.im).x, .int .i64 (mulE a.im b.im), .bool (mulD a.re b.im).g, .string (natS (mulD a.re b.im).n), .int .i64 (mulD a.re b.im).x, .int .i64 (mulE a.re b.im), .bool (mulD a.im b.re).g, .string (natS (mulD a.im b.re).n), .int .i64 (mulD a.im b.re).x, .int .i64 (mulE a.im b.re)] rfl
        have hops : OpsT Tryz.prog (@Know.ops rGMul_c_k10) := ⟨opt_neq_f rfl rfl h1, opt_neq_t rfl rfl h2, opt_neq_t rfl rfl h3, trivial⟩
        have hcalls : CallsT Tryz.prog (@Know.calls rGMul_c_k10) := ⟨callt rfl rfl fun w hG => rMul3_c a.re b.re w ha.1 hb.1, callt rfl rfl fun w hG => rMul3_c a.im b.im w ha.2 hb.2, callt rfl rfl fun w hG => rMul3_c a.re b.im w ha.1 hb.2, callt rfl rfl fun w hG => rMul3_c a.im b.re w ha.2 hb.1, trivial⟩
        exact (@sym_ok _ rGMul_c_k10 _ (@KnowOk.of _ rGMul_c_k10 _ hops hcalls) (by kernel_rfl) _ _ _ _ rGMul_c_r10 rfl rfl _ hG).mono fun e w' h => ⟨h.1.trans (show Ending.returned (.tuple #[.agg #[.bool false, .string ⟨#[]⟩, .int .i64 0, .bool false, .string ⟨#[]⟩, .int .i64 0], .int .i64 4]) = .returned (.tuple #[(gmulD a b).v, .int .i64 (gmulE a b)]) from by rw [show gmulD a b = _ from erG_no (l := gmulL a b) (show ¬ All0 (gmulL a b) from (fun c => h2 c.2.1)), show gmulE a b = 4 from erI_no (l := gmulL a b) (show ¬ All0 (gmulL a b) from (fun c => h2 c.2.1)), Gs.zero_v]), h.2⟩
  · by_cases h2 : mulE a.re b.im = 0
    · by_cases h3 : mulE a.im b.re = 0
      · letI : Env := mkEnv glT [.bool a.re.g, .string (natS a.re.n), .int .i64 a.re.x, .bool a.im.g, .string (natS a.im.n), .int .i64 a.im.x, .bool b.re.g, .string (natS b.re.n), .int .i64 b.re.x, .bool b.im.g, .string (natS b.im.n), .int .i64 b.im.x, .bool (mulD a.re b.re).g, .string (natS (mulD a.re b.re).n), .int .i64 (mulD a.re b.re).x, .int .i64 (mulE a.re b.re), .bool (mulD a.im b.im).g, .string (natS (mulD a.im b.im).n), .int .i64 (mulD a.im b.im).x, .int .i64 (mulE a.im b.im), .bool (mulD a.re b.im).g, .string (natS (mulD a.re b.im).n), .int .i64 (mulD a.re b.im).x, .int .i64 (mulE a.re b.im), .bool (mulD a.im b.re).g, .string (natS (mulD a.im b.re).n), .int .i64 (mulD a.im b.re).x, .int .i64 (mulE a.im b.re), .bool (addD (mulD a.re b.im) (mulD a.im b.re)).g, .string (natS (addD (mulD a.re b.im) (mulD a.im b.re)).n), .int .i64 (addD (mulD a.re b.im) (mulD a.im b.re)).x, .int .i64 (addE (mulD a.re b.im) (mulD a.im b.re))] rfl
        have hops : OpsT Tryz.prog (@Know.ops rGMul_c_k11) := ⟨opt_neq_t rfl rfl h1, opt_neq_f rfl rfl h2, opt_neq_f rfl rfl h3, trivial⟩
        have hcalls : CallsT Tryz.prog (@Know.calls rGMul_c_k11) := ⟨callt rfl rfl fun w hG => rMul3_c a.re b.re w ha.1 hb.1, callt rfl rfl fun w hG => rMul3_c a.im b.im w ha.2 hb.2, callt rfl rfl fun w hG => rMul3_c a.re b.im w ha.1 hb.2, callt rfl rfl fun w hG => rMul3_c a.im b.re w ha.2 hb.1, callt rfl rfl fun w hG => rAdd3_c (mulD a.re b.im) (mulD a.im b.re) w (mulD_Ok a.re b.im) (mulD_Ok a.im b.re), trivial⟩
        exact (@sym_ok _ rGMul_c_k11 _ (@KnowOk.of _ rGMul_c_k11 _ hops hcalls) (by kernel_rfl) _ _ _ _ rGMul_c_r11 rfl rfl _ hG).mono fun e w' h => ⟨h.1.trans (show Ending.returned (.tuple #[.agg #[.bool false, .string ⟨#[]⟩, .int .i64 0, .bool false, .string ⟨#[]⟩, .int .i64 0], .int .i64 4]) = .returned (.tuple #[(gmulD a b).v, .int .i64 (gmulE a b)]) from by rw [show gmulD a b = _ from erG_no (l := gmulL a b) (show ¬ All0 (gmulL a b) from (fun c => h1 c.1)), show gmulE a b = 4 from erI_no (l := gmulL a b) (show ¬ All0 (gmulL a b) from (fun c => h1 c.1)), Gs.zero_v]), h.2⟩
      · letI : Env := mkEnv glT [.bool a.re.g, .string (natS a.re.n), .int .i64 a.re.x, .bool a.im.g, .string (natS a.im.n), .int .i64 a.im.x, .bool b.re.g, .string (natS b.re.n), .int .i64 b.re.x, .bool b.im.g, .string (natS b.im.n), .int .i64 b.im.x, .bool (mulD a.re b.re).g, .string (natS (mulD a.re b.re).n), .int .i64 (mulD a.re b.re).x, .int .i64 (mulE a.re b.re), .bool (mulD a.im b.im).g, .string (natS (mulD a.im b.im).n), .int .i64 (mulD a.im b.im).x, .int .i64 (mulE a.im b.im), .bool (mulD a.re b.im).g, .string (natS (mulD a.re b.im).n), .int .i64 (mulD a.re b.im).x, .int .i64 (mulE a.re b.im), .bool (mulD a.im b.re).g, .string (natS (mulD a.im b.re).n), .int .i64 (mulD a.im b.re).x, .int .i64 (mulE a.im b.re)] rfl
        have hops : OpsT Tryz.prog (@Know.ops rGMul_c_k12) := ⟨opt_neq_t rfl rfl h1, opt_neq_f rfl rfl h2, opt_neq_t rfl rfl h3, trivial⟩
        have hcalls : CallsT Tryz.prog (@Know.calls rGMul_c_k12) := ⟨callt rfl rfl fun w hG => rMul3_c a.re b.re w ha.1 hb.1, callt rfl rfl fun w hG => rMul3_c a.im b.im w ha.2 hb.2, callt rfl rfl fun w hG => rMul3_c a.re b.im w ha.1 hb.2, callt rfl rfl fun w hG => rMul3_c a.im b.re w ha.2 hb.1, trivial⟩
        exact (@sym_ok _ rGMul_c_k12 _ (@KnowOk.of _ rGMul_c_k12 _ hops hcalls) (by kernel_rfl) _ _ _ _ rGMul_c_r12 rfl rfl _ hG).mono fun e w' h => ⟨h.1.trans (show Ending.returned (.tuple #[.agg #[.bool false, .string ⟨#[]⟩, .int .i64 0, .bool false, .string ⟨#[]⟩, .int .i64 0], .int .i64 4]) = .returned (.tuple #[(gmulD a b).v, .int .i64 (gmulE a b)]) from by rw [show gmulD a b = _ from erG_no (l := gmulL a b) (show ¬ All0 (gmulL a b) from (fun c => h1 c.1)), show gmulE a b = 4 from erI_no (l := gmulL a b) (show ¬ All0 (gmulL a b) from (fun c => h1 c.1)), Gs.zero_v]), h.2⟩
    · letI : Env := mkEnv glT [.bool a.re.g, .string (natS a.re.n), .int .i64 a.re.x, .bool a.im.g, .string (natS a.im.n), .int .i64 a.im.x, .bool b.re.g, .string (natS b.re.n), .int .i64 b.re.x, .bool b.im.g, .string (natS b.im.n), .int .i64 b.im.x, .bool (mulD a.re b.re).g, .string (natS (mulD a.re b.re).n), .int .i64 (mulD a.re b.re).x, .int .i64 (mulE a.re b.re), .bool (mulD a.im b.im).g, .string (natS (mulD a.im b.im).n), .int .i64 (mulD a.im b.im).x, .int .i64 (mulE a.im b.im), .bool (mulD a.re b.im).g, .string (natS (mulD a.re b.im).n), .int .i64 (mulD a.re b.im).x, .int .i64 (mulE a.re b.im), .bool (mulD a.im b.re).g, .string (natS (mulD a.im b.re).n), .int .i64 (mulD a.im b.re).x, .int .i64 (mulE a.im b.re)] rfl
      have hops : OpsT Tryz.prog (@Know.ops rGMul_c_k13) := ⟨opt_neq_t rfl rfl h1, opt_neq_t rfl rfl h2, trivial⟩
      have hcalls : CallsT Tryz.prog (@Know.calls rGMul_c_k13) := ⟨callt rfl rfl fun w hG => rMul3_c a.re b.re w ha.1 hb.1, callt rfl rfl fun w hG => rMul3_c a.im b.im w ha.2 hb.2, callt rfl rfl fun w hG => rMul3_c a.re b.im w ha.1 hb.2, callt rfl rfl fun w hG => rMul3_c a.im b.re w ha.2 hb.1, trivial⟩
      exact (@sym_ok _ rGMul_c_k13 _ (@KnowOk.of _ rGMul_c_k13 _ hops hcalls) (by kernel_rfl) _ _ _ _ rGMul_c_r13 rfl rfl _ hG).mono fun e w' h => ⟨h.1.trans (show Ending.returned (.tuple #[.agg #[.bool false, .string ⟨#[]⟩, .int .i64 0, .bool false, .string ⟨#[]⟩, .int .i64 0], .int .i64 4]) = .returned (.tuple #[(gmulD a b).v, .int .i64 (gmulE a b)]) from by rw [show gmulD a b = _ from erG_no (l := gmulL a b) (show ¬ All0 (gmulL a b) from (fun c => h1 c.1)), show gmulE a b = 4 from erI_no (l := gmulL a b) (show ¬ All0 (gmulL a b) from (fun c => h1 c.1)), Gs.zero_v]), h.2⟩
end Go.Proofs.YtdknipaimfecaaaGreatDoor
namespace Go.Proofs.YtdknipaimfecaaaGreatDoor
open Go Go.RowKit Nt
noncomputable def powG (g : Gs) : Nat → Gs → Gs × Int
  | 0, s => (s, 0)
  | n + 1, s => if gmulE s g = 0 then powG g n (gmulD s g) else (Gs.zero, 4)
theorem powG_on {g s : Gs} {n : Nat} (h : gmulE s g = 0) : powG g (n + 1) s = powG g n (gmulD s g) := by rw [powG, if_pos h]
theorem powG_off {g s : Gs} {n : Nat} (h : gmulE s g ≠ 0) : powG g (n + 1) s = (Gs.zero, 4) := by rw [powG, if_neg h]
theorem gmul_off {a b : Gs} (h : gmulE a b ≠ 0) : gmulE a b = 4 ∧ gmulD a b = Gs.zero := by
  unfold gmulE gmulD at *
  by_cases c : All0 (gmulL a b)
  · exact absurd (erI_ok c) h
  · exact ⟨erI_no c, erG_no c⟩
def oneG : Gs := ⟨⟨false, 1, 0⟩, Dy.zero⟩
theorem flt_one : mkD (Bt.Ff.sgn 4607182418800017408) (Bt.pm 4607182418800017408) (Bt.pex 4607182418800017408) = ⟨false, 1, 0⟩ := by
  have h1 : Bt.Ff.sgn 4607182418800017408 = false := by decide +kernel
  have h2 : Bt.pm 4607182418800017408 = 4503599627370496 := by decide +kernel
  have h3 : Bt.pex 4607182418800017408 = -52 := by decide +kernel
  obtain ⟨e1, e2⟩ := od_unique (n := 4503599627370496) (o := 1) (l := 52) (by decide) (by decide)
  have hk : mkOk3 4503599627370496 (-52) := by have := float_ok (x := 4607182418800017408) (by decide) (by decide +kernel); rwa [h2, h3] at this
  rw [h1, h2, h3, mkD_ok (by decide) hk, e1, e2]
  rfl
theorem flt_nought : mkD (Bt.Ff.sgn 0) (Bt.pm 0) (Bt.pex 0) = Dy.zero := by
  have h2 : Bt.pm 0 = 0 := by decide +kernel
  rw [h2, mkD_zero]
theorem DFloat_one (w : World) (hT : Bt.Tabs w) : Calls Tryz.prog 25 #[.float .f64 4607182418800017408] w fun e w' => e = .returned (.tuple #[.agg #[.bool false, .string (natS 1), .int .i64 0], .int .i64 0]) ∧ Below w.heap.size w w' := by
  have h := DFloat_c 4607182418800017408 (by decide) (by decide +kernel) w hT
  unfold FlPost at h
  rw [flt_one] at h
  exact h
theorem DFloat_nought (w : World) (hT : Bt.Tabs w) : Calls Tryz.prog 25 #[.float .f64 0] w fun e w' => e = .returned (.tuple #[.agg #[.bool false, .string ⟨#[]⟩, .int .i64 0], .int .i64 0]) ∧ Below w.heap.size w w' := by
  have h := DFloat_c 0 (by decide) (by decide +kernel) w hT
  unfold FlPost at h
  rw [flt_nought, Dy.zero_v] at h
  exact h
set_option maxRecDepth 100000 in
set_option maxHeartbeats 1000000 in
theorem Complex_one (w : World) (hG : Globs glT w) : Calls Tryz.prog 13 #[.complex .f64 4607182418800017408 0] w fun e w' => e = .returned (.tuple #[.agg #[.bool false, .string (natS 1), .int .i64 0, .bool false, .string ⟨#[]⟩, .int .i64 0], .int .i64 0]) ∧ Below w.heap.size w w' := by
  have K1 := Lib.hid (fun W (hW : Below w.heap.size w W) => DFloat_one W (tabs_of (hG.below hW (Nat.le_refl _))))
  have K2 := Lib.hid (fun W (hW : Below w.heap.size w W) => DFloat_nought W (tabs_of (hG.below hW (Nat.le_refl _))))
  have HR : Below w.heap.size w (w.alloc (.cells #[.bool false, .string ⟨#[]⟩, .int .i64 0, .bool false, .string ⟨#[]⟩, .int .i64 0] 26)) := (Below.refl _ _).alloc (Nat.le_refl _) _
  have BR := Box6.new w (.bool false) (.string ⟨#[]⟩) (.int .i64 0) (.bool false) (.string ⟨#[]⟩) (.int .i64 0)
  clear hG
  go_enter Tryz.func13, Tryz.ntmps13
  go_wp2_with fail
  refine (K1.out _ HR).mono ?_
  rintro e w1 ⟨rfl, hb1⟩
  replace HR := below_chain HR hb1
  replace BR := BR.step hb1
  have X1 := Box3.new w1 (.bool false) (.string (natS 1)) (.int .i64 0)
  have BR1 := BR.more (.cells #[.bool false, .string (natS 1), .int .i64 0] 24)
  have HR1 := HR.alloc HR.size (.cells #[.bool false, .string (natS 1), .int .i64 0] 24)
  clear hb1 HR BR
  go_wp2_with fail
  refine (K2.out _ HR1).mono ?_
  rintro e w2 ⟨rfl, hb2⟩
  replace HR := below_chain HR1 hb2
  replace BR := BR1.step hb2
  replace X1 := X1.step hb2
  obtain ⟨r0, r1, r2, r3, r4, r5, r6, r7, r8, r9, r10, r11, r12⟩ := BR.facts
  obtain ⟨x0, x1, x2, x3, x4, x5, x6⟩ := X1.facts
  have BRX := Lib.hid BR
  clear hb2 BR X1 HR1 BR1
  go_wp2_with fail
  have RF := ((BRX.out.put (.bool false) (.string (natS 1)) (.int .i64 0) (.bool false) (.string ⟨#[]⟩) (.int .i64 0)).more (.cells #[.bool false, .string ⟨#[]⟩, .int .i64 0] 24)).facts
  obtain ⟨y0, y1, y2, y3, y4, y5, y6, y7, y8, y9, y10, y11, y12⟩ := RF
  refine bodyPost_ret (v := .tuple #[.agg #[.bool false, .string (natS 1), .int .i64 0, .bool false, .string ⟨#[]⟩, .int .i64 0], .int .i64 0]) (by simp [results, Tryz.results13, go_sem, y1, y2, y3, y4, y5, y6]) rfl ⟨rfl, ?_⟩
  exact (below_put6 HR (Nat.le_refl _) _ _ _ _ _ _).alloc (below_put6 HR (Nat.le_refl _) _ _ _ _ _ _).size _
set_option maxRecDepth 100000 in
theorem rOne6_c (w : World) : Calls Tryz.prog 16 #[] w fun e w' => e = .returned (.agg #[.bool false, .string (natS 1), .int .i64 0, .bool false, .string ⟨#[]⟩, .int .i64 0]) ∧ Below w.heap.size w w' := by
  rw [natS_1]
  go_enter Tryz.func16, Tryz.ntmps16
  go_wp2_with fail
  exact bodyPost_ret (v := .agg #[.bool false, .string ⟨#[1]⟩, .int .i64 0, .bool false, .string ⟨#[]⟩, .int .i64 0]) (by simp [results, Tryz.results16, go_sem]) rfl ⟨rfl, (Below.refl _ _).alloc (Nat.le_refl _) _⟩
end Go.Proofs.YtdknipaimfecaaaGreatDoor
namespace Go.Proofs.YtdknipaimfecaaaGreatDoor
open Go Go.RowKit Nt
def PowPost (g : Gs) (n : Nat) (w : World) (e : Ending) (w' : World) : Prop := e = .returned (.tuple #[(powG g n oneG).1.v, .int .i64 (powG g n oneG).2]) ∧ Below w.heap.size w w'
theorem one_Ok : oneG.Ok := by
  refine ⟨?_, Or.inl rfl⟩
  have := flt_one
  have h := mkD_Ok (Bt.Ff.sgn 4607182418800017408) (Bt.pm 4607182418800017408) (Bt.pex 4607182418800017408)
  rw [this] at h
  exact h
theorem pow_step {g S : Gs} {n i : Nat} {r : Gs × Int} (hi : i < n) (h : r = powG g (n - i) S) : gmulE S g = 0 ∧ r = powG g (n - (i + 1)) (gmulD S g) ∨ gmulE S g ≠ 0 ∧ r = (gmulD S g, gmulE S g) := by
  obtain ⟨m, hm⟩ : ∃ m, n - i = m + 1 := ⟨n - i - 1, by omega⟩
  rw [hm] at h
  by_cases c : gmulE S g = 0
  · exact Or.inl ⟨c, by rw [h, powG_on c]; congr 1; omega⟩
  · exact Or.inr ⟨c, by rw [h, powG_off c, (gmul_off c).1, (gmul_off c).2]⟩
set_option maxRecDepth 100000 in
set_option maxHeartbeats 2000000 in
theorem GPow_c (g : Gs) (n : Nat) (w : World) (hn : n ≤ 64) (hg : g.Ok) (hG : Globs glT w) :
    Calls Tryz.prog 4 #[.agg #[.bool g.re.g, .string (natS g.re.n), .int .i64 g.re.x, .bool g.im.g, .string (natS g.im.n), .int .i64 g.im.x], .int .i64 (n : Nat)] w (PowPost g n w) := by
  unfold PowPost
  have HG : Hid (∀ W, Below w.heap.size w W → Globs glT W) := Lib.hid (fun W hW => hG.below hW (Nat.le_refl _))
  have KM := Lib.hid (fun S W (hS : S.Ok) (hW : Below w.heap.size w W) => GMul_c S g W hS hg (hG.below hW (Nat.le_refl _)))
  have KC := Lib.hid (fun W (hW : Below w.heap.size w W) => GCheck_gs g hg W (hG.below hW (Nat.le_refl _)))
  have B0 := Lib.hid ((Box6.new w (.bool g.re.g) (.string (natS g.re.n)) (.int .i64 g.re.x) (.bool g.im.g) (.string (natS g.im.n)) (.int .i64 g.im.x)).more (.cells #[.bool false, .string ⟨#[]⟩, .int .i64 0, .bool false, .string ⟨#[]⟩, .int .i64 0] 26))
  have BR := Lib.hid (Box6.new (w.alloc (.cells #[.bool g.re.g, .string (natS g.re.n), .int .i64 g.re.x, .bool g.im.g, .string (natS g.im.n), .int .i64 g.im.x] 26)) (.bool false) (.string ⟨#[]⟩) (.int .i64 0) (.bool false) (.string ⟨#[]⟩) (.int .i64 0))
  have HB : Hid (Below w.heap.size w ((w.alloc (.cells #[.bool g.re.g, .string (natS g.re.n), .int .i64 g.re.x, .bool g.im.g, .string (natS g.im.n), .int .i64 g.im.x] 26)).alloc (.cells #[.bool false, .string ⟨#[]⟩, .int .i64 0, .bool false, .string ⟨#[]⟩, .int .i64 0] 26))) := Lib.hid (((Below.refl _ _).alloc (Nat.le_refl _) _).alloc (by simp) _)
  obtain ⟨R, hR⟩ : ∃ R, R = w.heap.size + 1 := ⟨_, rfl⟩
  have eR : (w.alloc (.cells #[.bool g.re.g, .string (natS g.re.n), .int .i64 g.re.x, .bool g.im.g, .string (natS g.im.n), .int .i64 g.im.x] 26)).heap.size = R := by rw [hR]; simp
  rw [eR] at BR
  have hRw : w.heap.size < R := by omega
  have HR := Lib.hid hR
  have hnn : (n : Int) ≤ 64 := by omega
  clear hG hg eR hR
  go_enter Tryz.func4, Tryz.ntmps4
  go_wp2_with fail
  refine (KC.out _ HB.out).mono ?_
  rintro e w1 ⟨rfl, hb1⟩
  replace B0 := Lib.hid (B0.out.step hb1)
  replace BR := Lib.hid (BR.out.step hb1)
  replace HB := Lib.hid (below_chain HB.out hb1)
  clear hb1
  go_wp2_with fail
  refine (Complex_one _ (HG.out _ HB.out)).mono ?_
  rintro e w2 ⟨rfl, hb2⟩
  have hRw2 := (BR.out.step hb2).facts.1
  have BP := Lib.hid (Box6.new w2 (.bool false) (.string (natS 1)) (.int .i64 0) (.bool false) (.string ⟨#[]⟩) (.int .i64 0))
  replace B0 := Lib.hid ((B0.out.step hb2).more (.cells #[.bool false, .string (natS 1), .int .i64 0, .bool false, .string ⟨#[]⟩, .int .i64 0] 26))
  replace BR := Lib.hid ((BR.out.step hb2).more (.cells #[.bool false, .string (natS 1), .int .i64 0, .bool false, .string ⟨#[]⟩, .int .i64 0] 26))
  have hbt := below_chain HB.out hb2
  replace HB := Lib.hid (hbt.alloc hbt.size (.cells #[.bool false, .string (natS 1), .int .i64 0, .bool false, .string ⟨#[]⟩, .int .i64 0] 26))
  obtain ⟨P, hP⟩ : ∃ P, P = w2.heap.size := ⟨_, rfl⟩
  have hRP : R < P := by rw [hP]; exact hRw2
  clear hb2 hbt KC hRw2
  have HPE := Lib.hid hP
  rw [← hP] at BP
  clear hP
  go_wp2_with fail
  rw [← HPE.out, ← HR.out]
  go_loopw [7, 8] (fun ve vi wr => ∃ (i : Nat) (S : Gs) (E : Int), i ≤ n ∧ vi = .int .i64 i ∧ ve = .int .i64 E ∧ Hid S.Ok ∧ Hid (E = 0 ∧ powG g n oneG = powG g (n - i) S ∨ E ≠ 0 ∧ powG g n oneG = (S, E)) ∧ Hid (Box6 wr P (.bool S.re.g) (.string (natS S.re.n)) (.int .i64 S.re.x) (.bool S.im.g) (.string (natS S.im.n)) (.int .i64 S.im.x)) ∧ Hid (Box6 wr w.heap.size (.bool g.re.g) (.string (natS g.re.n)) (.int .i64 g.re.x) (.bool g.im.g) (.string (natS g.im.n)) (.int .i64 g.im.x)) ∧ Hid (Box6 wr R (.bool false) (.string ⟨#[]⟩) (.int .i64 0) (.bool false) (.string ⟨#[]⟩) (.int .i64 0)) ∧ Below w.heap.size w wr) (fun _ vi _ => n - (intOf vi).toNat)
  case atStart =>
    refine ⟨0, oneG, 0, Nat.zero_le _, rfl, rfl, Lib.hid one_Ok, Lib.hid (Or.inl ⟨rfl, rfl⟩), Lib.hid ?_, B0, BR, HB.out⟩
    have := BP.out
    show Box6 _ P (.bool false) (.string (natS 1)) (.int .i64 0) (.bool false) (.string (natS 0)) (.int .i64 0)
    rw [natS_zero]; exact this
  case round =>
    clear B0 BR HB BP
    obtain ⟨i, S, E, hi, rfl, rfl, hS, hpow, bP, b0, bR, hb⟩ := hrel
    by_cases hE : E = 0
    · subst hE
      by_cases hlt : i < n
      · have hst : powG g n oneG = powG g (n - i) S := by
          rcases hpow.out with h | h
          · exact h.2
          · exact absurd rfl h.1
        have HST := Lib.hid (pow_step hlt hst)
        have K := Lib.hid (KM.out S _ hS.out hb)
        have HS' := Lib.hid (gmulD_Ok S g)
        obtain ⟨p0, p1, p2, p3, p4, p5, p6, p7, p8, p9, p10, p11, p12⟩ := bP.out.facts
        obtain ⟨q0, q1, q2, q3, q4, q5, q6, q7, q8, q9, q10, q11, q12⟩ := b0.out.facts
        have HLT := Lib.hid hlt
        have HBB := Lib.hid hb
        clear hst hpow
        generalize gmulD S g = S' at *
        generalize gmulE S g = E' at *
        unfold Gs.v at K
        go_wp2_with fail
        refine K.out.mono ?_
        rintro e w3 ⟨rfl, hb3⟩
        have X := Lib.hid (bP.out.step hb3)
        obtain ⟨x0, x1, x2, x3, x4, x5, x6, x7, x8, x9, x10, x11, x12⟩ := X.out.facts
        have Y := Lib.hid (b0.out.step hb3)
        have Z := Lib.hid (bR.out.step hb3)
        have hb4 := Lib.hid (below_chain HBB.out hb3)
        clear hb3 p0 p1 p2 p3 p4 p5 p6 p7 p8 p9 p10 p11 p12 q0 q1 q2 q3 q4 q5 q6 q7 q8 q9 q10 q11 q12 K KM hb
        go_wp2_with fail
        go_roundw
        case rel =>
          refine ⟨i + 1, S', E', by have := HLT.out; omega, by go_num, rfl, HS', Lib.hid HST.out, Lib.hid (X.out.put _ _ _ _ _ _), Lib.hid (Blk.far6 Y.out (by omega) _ _ _ _ _ _), Lib.hid (Blk.far6 Z.out (by omega) _ _ _ _ _ _), below_put6 hb4.out (by omega) _ _ _ _ _ _⟩
        case measure => have := HLT.out; simp [intOf]; omega
      · obtain rfl : i = n := by omega
        have HV : Hid (powG g i oneG = (S, 0)) := Lib.hid (by
          rcases hpow.out with h | h
          · rw [h.2, Nat.sub_self]; rfl
          · exact absurd rfl h.1)
        obtain ⟨p0, p1, p2, p3, p4, p5, p6, p7, p8, p9, p10, p11, p12⟩ := bP.out.facts
        obtain ⟨r0, r1, r2, r3, r4, r5, r6, r7, r8, r9, r10, r11, r12⟩ := bR.out.facts
        clear hpow
        have HBR := Lib.hid (bR.out.put (.bool S.re.g) (.string (natS S.re.n)) (.int .i64 S.re.x) (.bool S.im.g) (.string (natS S.im.n)) (.int .i64 S.im.x))
        have HBB := Lib.hid hb
        clear hb
        go_wp2_with fail
        obtain ⟨y0, y1, y2, y3, y4, y5, y6, y7, y8, y9, y10, y11, y12⟩ := HBR.out.facts
        exact bodyPost_ret (v := .tuple #[.agg #[.bool S.re.g, .string (natS S.re.n), .int .i64 S.re.x, .bool S.im.g, .string (natS S.im.n), .int .i64 S.im.x], .int .i64 0]) (by simp [results, Tryz.results4, go_sem, y1, y2, y3, y4, y5, y6]) rfl ⟨by rw [HV.out]; rfl, below_put6 HBB.out (by omega) _ _ _ _ _ _⟩
    · have HV : Hid (powG g n oneG = (S, E)) := Lib.hid (by
        rcases hpow.out with h | h
        · exact absurd h.1 hE
        · exact h.2)
      have hz : (E == 0) = false := by simpa using hE
      obtain ⟨p0, p1, p2, p3, p4, p5, p6, p7, p8, p9, p10, p11, p12⟩ := bP.out.facts
      obtain ⟨r0, r1, r2, r3, r4, r5, r6, r7, r8, r9, r10, r11, r12⟩ := bR.out.facts
      clear hpow
      by_cases hlt : i < n
      · have HBR := Lib.hid (bR.out.put (.bool S.re.g) (.string (natS S.re.n)) (.int .i64 S.re.x) (.bool S.im.g) (.string (natS S.im.n)) (.int .i64 S.im.x))
        have HBB := Lib.hid hb
        clear hb
        go_wp2_with fail
        obtain ⟨y0, y1, y2, y3, y4, y5, y6, y7, y8, y9, y10, y11, y12⟩ := HBR.out.facts
        exact bodyPost_ret (v := .tuple #[.agg #[.bool S.re.g, .string (natS S.re.n), .int .i64 S.re.x, .bool S.im.g, .string (natS S.im.n), .int .i64 S.im.x], .int .i64 E]) (by simp [results, Tryz.results4, go_sem, y1, y2, y3, y4, y5, y6]) rfl ⟨by rw [HV.out]; rfl, below_put6 HBB.out (by omega) _ _ _ _ _ _⟩
      · have HBR := Lib.hid (bR.out.put (.bool S.re.g) (.string (natS S.re.n)) (.int .i64 S.re.x) (.bool S.im.g) (.string (natS S.im.n)) (.int .i64 S.im.x))
        have HBB := Lib.hid hb
        clear hb
        go_wp2_with fail
        obtain ⟨y0, y1, y2, y3, y4, y5, y6, y7, y8, y9, y10, y11, y12⟩ := HBR.out.facts
        exact bodyPost_ret (v := .tuple #[.agg #[.bool S.re.g, .string (natS S.re.n), .int .i64 S.re.x, .bool S.im.g, .string (natS S.im.n), .int .i64 S.im.x], .int .i64 E]) (by simp [results, Tryz.results4, go_sem, y1, y2, y3, y4, y5, y6]) rfl ⟨by rw [HV.out]; rfl, below_put6 HBB.out (by omega) _ _ _ _ _ _⟩
end Go.Proofs.YtdknipaimfecaaaGreatDoor
namespace Go.Proofs.YtdknipaimfecaaaGreatDoor
open Go Go.RowKit Nt
set_option maxRecDepth 100000 in
set_option maxHeartbeats 1000000 in
theorem GPow_no (a : Gt) (n : Int) (w : World) (hs : a.Small) (hn : ¬ a.Ok) (hG : Globs glT w) :
    Calls Tryz.prog 4 #[.agg #[.bool a.re.g, .string a.re.s, .int .i64 a.re.x, .bool a.im.g, .string a.im.s, .int .i64 a.im.x], .int .i64 n] w fun e w' => e = .returned (.tuple #[.agg #[.bool false, .string ⟨#[]⟩, .int .i64 0, .bool false, .string ⟨#[]⟩, .int .i64 0], .int .i64 2]) ∧ Below w.heap.size w w' := by
  have KC := Lib.hid (fun W (hW : Below w.heap.size w W) => GCheck_no a hs hn W (hG.below hW (Nat.le_refl _)))
  have BR := Lib.hid (Box6.new (w.alloc (.cells #[.bool a.re.g, .string a.re.s, .int .i64 a.re.x, .bool a.im.g, .string a.im.s, .int .i64 a.im.x] 26)) (.bool false) (.string ⟨#[]⟩) (.int .i64 0) (.bool false) (.string ⟨#[]⟩) (.int .i64 0))
  have HB : Hid (Below w.heap.size w ((w.alloc (.cells #[.bool a.re.g, .string a.re.s, .int .i64 a.re.x, .bool a.im.g, .string a.im.s, .int .i64 a.im.x] 26)).alloc (.cells #[.bool false, .string ⟨#[]⟩, .int .i64 0, .bool false, .string ⟨#[]⟩, .int .i64 0] 26))) := Lib.hid (((Below.refl _ _).alloc (Nat.le_refl _) _).alloc (by simp) _)
  obtain ⟨R, hR⟩ : ∃ R, R = w.heap.size + 1 := ⟨_, rfl⟩
  have eR : (w.alloc (.cells #[.bool a.re.g, .string a.re.s, .int .i64 a.re.x, .bool a.im.g, .string a.im.s, .int .i64 a.im.x] 26)).heap.size = R := by rw [hR]; simp
  rw [eR] at BR
  have hRw : w.heap.size ≤ R := by omega
  have HR := Lib.hid hR
  clear hG hs hn eR hR
  go_enter Tryz.func4, Tryz.ntmps4
  go_wp2_with fail
  refine (KC.out _ HB.out).mono ?_
  rintro e w1 ⟨rfl, hb1⟩
  rw [← HR.out]
  replace BR := Lib.hid (BR.out.step hb1)
  have HB1 := Lib.hid (below_chain HB.out hb1)
  obtain ⟨r0, r1, r2, r3, r4, r5, r6, r7, r8, r9, r10, r11, r12⟩ := BR.out.facts
  have HY := Lib.hid (BR.out.put (.bool false) (.string ⟨#[]⟩) (.int .i64 0) (.bool false) (.string ⟨#[]⟩) (.int .i64 0))
  clear hb1 HB
  go_wp2_with fail
  obtain ⟨y0, y1, y2, y3, y4, y5, y6, y7, y8, y9, y10, y11, y12⟩ := HY.out.facts
  exact bodyPost_ret (v := .tuple #[.agg #[.bool false, .string ⟨#[]⟩, .int .i64 0, .bool false, .string ⟨#[]⟩, .int .i64 0], .int .i64 2]) (by simp [results, Tryz.results4, go_sem, y1, y2, y3, y4, y5, y6]) rfl ⟨rfl, below_put6 HB1.out hRw _ _ _ _ _ _⟩
set_option maxRecDepth 100000 in
set_option maxHeartbeats 1000000 in
theorem GPow_far (g : Gs) (n : Int) (w : World) (hg : g.Ok) (hn : n < 0 ∨ 64 < n) (hG : Globs glT w) :
    Calls Tryz.prog 4 #[.agg #[.bool g.re.g, .string (natS g.re.n), .int .i64 g.re.x, .bool g.im.g, .string (natS g.im.n), .int .i64 g.im.x], .int .i64 n] w fun e w' => e = .returned (.tuple #[.agg #[.bool false, .string ⟨#[]⟩, .int .i64 0, .bool false, .string ⟨#[]⟩, .int .i64 0], .int .i64 2]) ∧ Below w.heap.size w w' := by
  have KC := Lib.hid (fun W (hW : Below w.heap.size w W) => GCheck_gs g hg W (hG.below hW (Nat.le_refl _)))
  have BR := Lib.hid (Box6.new (w.alloc (.cells #[.bool g.re.g, .string (natS g.re.n), .int .i64 g.re.x, .bool g.im.g, .string (natS g.im.n), .int .i64 g.im.x] 26)) (.bool false) (.string ⟨#[]⟩) (.int .i64 0) (.bool false) (.string ⟨#[]⟩) (.int .i64 0))
  have HB : Hid (Below w.heap.size w ((w.alloc (.cells #[.bool g.re.g, .string (natS g.re.n), .int .i64 g.re.x, .bool g.im.g, .string (natS g.im.n), .int .i64 g.im.x] 26)).alloc (.cells #[.bool false, .string ⟨#[]⟩, .int .i64 0, .bool false, .string ⟨#[]⟩, .int .i64 0] 26))) := Lib.hid (((Below.refl _ _).alloc (Nat.le_refl _) _).alloc (by simp) _)
  obtain ⟨R, hR⟩ : ∃ R, R = w.heap.size + 1 := ⟨_, rfl⟩
  have eR : (w.alloc (.cells #[.bool g.re.g, .string (natS g.re.n), .int .i64 g.re.x, .bool g.im.g, .string (natS g.im.n), .int .i64 g.im.x] 26)).heap.size = R := by rw [hR]; simp
  rw [eR] at BR
  have hRw : w.heap.size ≤ R := by omega
  have HR := Lib.hid hR
  have HN := Lib.hid hn
  clear hG hg eR hR hn
  by_cases h0 : n < 0
  · go_enter Tryz.func4, Tryz.ntmps4
    go_wp2_with fail
    refine (KC.out _ HB.out).mono ?_
    rintro e w1 ⟨rfl, hb1⟩
    rw [← HR.out]
    replace BR := Lib.hid (BR.out.step hb1)
    have HB1 := Lib.hid (below_chain HB.out hb1)
    obtain ⟨r0, r1, r2, r3, r4, r5, r6, r7, r8, r9, r10, r11, r12⟩ := BR.out.facts
    have HY := Lib.hid (BR.out.put (.bool false) (.string ⟨#[]⟩) (.int .i64 0) (.bool false) (.string ⟨#[]⟩) (.int .i64 0))
    clear hb1 HB
    go_wp2_with fail
    obtain ⟨y0, y1, y2, y3, y4, y5, y6, y7, y8, y9, y10, y11, y12⟩ := HY.out.facts
    exact bodyPost_ret (v := .tuple #[.agg #[.bool false, .string ⟨#[]⟩, .int .i64 0, .bool false, .string ⟨#[]⟩, .int .i64 0], .int .i64 2]) (by simp [results, Tryz.results4, go_sem, y1, y2, y3, y4, y5, y6]) rfl ⟨rfl, below_put6 HB1.out hRw _ _ _ _ _ _⟩
  · have h1 : 64 < n := by have := HN.out; omega
    go_enter Tryz.func4, Tryz.ntmps4
    go_wp2_with fail
    refine (KC.out _ HB.out).mono ?_
    rintro e w1 ⟨rfl, hb1⟩
    rw [← HR.out]
    replace BR := Lib.hid (BR.out.step hb1)
    have HB1 := Lib.hid (below_chain HB.out hb1)
    obtain ⟨r0, r1, r2, r3, r4, r5, r6, r7, r8, r9, r10, r11, r12⟩ := BR.out.facts
    have HY := Lib.hid (BR.out.put (.bool false) (.string ⟨#[]⟩) (.int .i64 0) (.bool false) (.string ⟨#[]⟩) (.int .i64 0))
    clear hb1 HB
    go_wp2_with fail
    obtain ⟨y0, y1, y2, y3, y4, y5, y6, y7, y8, y9, y10, y11, y12⟩ := HY.out.facts
    exact bodyPost_ret (v := .tuple #[.agg #[.bool false, .string ⟨#[]⟩, .int .i64 0, .bool false, .string ⟨#[]⟩, .int .i64 0], .int .i64 2]) (by simp [results, Tryz.results4, go_sem, y1, y2, y3, y4, y5, y6]) rfl ⟨rfl, below_put6 HB1.out hRw _ _ _ _ _ _⟩
set_option maxRecDepth 100000 in
set_option maxHeartbeats 1000000 in
theorem rPow_far (a : Gt) (n : Int) (w : World) (hn : n < 0 ∨ 64 < n) :
    Calls Tryz.prog 7 #[.agg #[.bool a.re.g, .string a.re.s, .int .i64 a.re.x, .bool a.im.g, .string a.im.s, .int .i64 a.im.x], .int .i64 n] w fun e w' => e = .returned (.tuple #[.agg #[.bool false, .string ⟨#[]⟩, .int .i64 0, .bool false, .string ⟨#[]⟩, .int .i64 0], .int .i64 2]) ∧ Below w.heap.size w w' := by
  have HN := Lib.hid hn
  clear hn
  by_cases h0 : n < 0
  · go_enter Tryz.func7, Tryz.ntmps7
    go_wp2_with fail
    exact bodyPost_ret (v := .tuple #[.agg #[.bool false, .string ⟨#[]⟩, .int .i64 0, .bool false, .string ⟨#[]⟩, .int .i64 0], .int .i64 2]) (by simp [results, Tryz.results7, go_sem]) rfl ⟨rfl, ((Below.refl _ _).alloc (Nat.le_refl _) _).alloc (by simp) _⟩
  · have h1 : 64 < n := by have := HN.out; omega
    go_enter Tryz.func7, Tryz.ntmps7
    go_wp2_with fail
    exact bodyPost_ret (v := .tuple #[.agg #[.bool false, .string ⟨#[]⟩, .int .i64 0, .bool false, .string ⟨#[]⟩, .int .i64 0], .int .i64 2]) (by simp [results, Tryz.results7, go_sem]) rfl ⟨rfl, ((Below.refl _ _).alloc (Nat.le_refl _) _).alloc (by simp) _⟩
set_option maxRecDepth 100000 in
set_option maxHeartbeats 2000000 in
theorem rPow_c (g : Gs) (n : Nat) (w : World) (hn : n ≤ 64) (hg : g.Ok) (hG : Globs glT w) :
    Calls Tryz.prog 7 #[.agg #[.bool g.re.g, .string (natS g.re.n), .int .i64 g.re.x, .bool g.im.g, .string (natS g.im.n), .int .i64 g.im.x], .int .i64 (n : Nat)] w (PowPost g n w) := by
  unfold PowPost
  have KM := Lib.hid (fun S W (hS : S.Ok) (hW : Below w.heap.size w W) => rGMul_c S g W hS hg (hG.below hW (Nat.le_refl _)))
  have B0 := Lib.hid ((Box6.new w (.bool g.re.g) (.string (natS g.re.n)) (.int .i64 g.re.x) (.bool g.im.g) (.string (natS g.im.n)) (.int .i64 g.im.x)).more (.cells #[.bool false, .string ⟨#[]⟩, .int .i64 0, .bool false, .string ⟨#[]⟩, .int .i64 0] 26))
  have BR := Lib.hid (Box6.new (w.alloc (.cells #[.bool g.re.g, .string (natS g.re.n), .int .i64 g.re.x, .bool g.im.g, .string (natS g.im.n), .int .i64 g.im.x] 26)) (.bool false) (.string ⟨#[]⟩) (.int .i64 0) (.bool false) (.string ⟨#[]⟩) (.int .i64 0))
  have HB : Hid (Below w.heap.size w ((w.alloc (.cells #[.bool g.re.g, .string (natS g.re.n), .int .i64 g.re.x, .bool g.im.g, .string (natS g.im.n), .int .i64 g.im.x] 26)).alloc (.cells #[.bool false, .string ⟨#[]⟩, .int .i64 0, .bool false, .string ⟨#[]⟩, .int .i64 0] 26))) := Lib.hid (((Below.refl _ _).alloc (Nat.le_refl _) _).alloc (by simp) _)
  obtain ⟨R, hR⟩ : ∃ R, R = w.heap.size + 1 := ⟨_, rfl⟩
  have eR : (w.alloc (.cells #[.bool g.re.g, .string (natS g.re.n), .int .i64 g.re.x, .bool g.im.g, .string (natS g.im.n), .int .i64 g.im.x] 26)).heap.size = R := by rw [hR]; simp
  rw [eR] at BR
  have hRw : w.heap.size < R := by omega
  have HR := Lib.hid hR
  have hnn : (n : Int) ≤ 64 := by omega
  clear hG hg eR hR
  go_enter Tryz.func7, Tryz.ntmps7
  go_wp2_with fail
  refine (rOne6_c _).mono ?_
  rintro e w2 ⟨rfl, hb2⟩
  have hRw2 := (BR.out.step hb2).facts.1
  have BP := Lib.hid (Box6.new w2 (.bool false) (.string (natS 1)) (.int .i64 0) (.bool false) (.string ⟨#[]⟩) (.int .i64 0))
  replace B0 := Lib.hid ((B0.out.step hb2).more (.cells #[.bool false, .string (natS 1), .int .i64 0, .bool false, .string ⟨#[]⟩, .int .i64 0] 26))
  replace BR := Lib.hid ((BR.out.step hb2).more (.cells #[.bool false, .string (natS 1), .int .i64 0, .bool false, .string ⟨#[]⟩, .int .i64 0] 26))
  have hbt := below_chain HB.out hb2
  replace HB := Lib.hid (hbt.alloc hbt.size (.cells #[.bool false, .string (natS 1), .int .i64 0, .bool false, .string ⟨#[]⟩, .int .i64 0] 26))
  obtain ⟨P, hP⟩ : ∃ P, P = w2.heap.size := ⟨_, rfl⟩
  have hRP : R < P := by rw [hP]; exact hRw2
  clear hb2 hbt hRw2
  have HPE := Lib.hid hP
  rw [← hP] at BP
  clear hP
  go_wp2_with fail
  rw [← HPE.out, ← HR.out]
  go_loopw [7] (fun vi wr => ∃ (i : Nat) (S : Gs), i ≤ n ∧ vi = .int .i64 i ∧ Hid S.Ok ∧ Hid (powG g n oneG = powG g (n - i) S) ∧ Hid (Box6 wr P (.bool S.re.g) (.string (natS S.re.n)) (.int .i64 S.re.x) (.bool S.im.g) (.string (natS S.im.n)) (.int .i64 S.im.x)) ∧ Hid (Box6 wr w.heap.size (.bool g.re.g) (.string (natS g.re.n)) (.int .i64 g.re.x) (.bool g.im.g) (.string (natS g.im.n)) (.int .i64 g.im.x)) ∧ Hid (Box6 wr R (.bool false) (.string ⟨#[]⟩) (.int .i64 0) (.bool false) (.string ⟨#[]⟩) (.int .i64 0)) ∧ Below w.heap.size w wr) (fun vi _ => n - (intOf vi).toNat)
  case atStart =>
    refine ⟨0, oneG, Nat.zero_le _, rfl, Lib.hid one_Ok, Lib.hid rfl, Lib.hid ?_, B0, BR, HB.out⟩
    have := BP.out
    show Box6 _ P (.bool false) (.string (natS 1)) (.int .i64 0) (.bool false) (.string (natS 0)) (.int .i64 0)
    rw [natS_zero]; exact this
  case round =>
    clear B0 BR HB BP
    obtain ⟨i, S, hi, rfl, hS, hpow, bP, b0, bR, hb⟩ := hrel
    by_cases hlt : i < n
    · have HST := Lib.hid (pow_step hlt hpow.out)
      have K := Lib.hid (KM.out S _ hS.out hb)
      have HS' := Lib.hid (gmulD_Ok S g)
      obtain ⟨p0, p1, p2, p3, p4, p5, p6, p7, p8, p9, p10, p11, p12⟩ := bP.out.facts
      obtain ⟨q0, q1, q2, q3, q4, q5, q6, q7, q8, q9, q10, q11, q12⟩ := b0.out.facts
      have HLT := Lib.hid hlt
      have HBB := Lib.hid hb
      clear hpow
      by_cases hE : gmulE S g = 0
      · have HST2 : Hid (powG g n oneG = powG g (n - (i + 1)) (gmulD S g)) := Lib.hid (by
          rcases HST.out with h | h
          · exact h.2
          · exact absurd hE h.1)
        rw [hE] at K
        clear hE HST
        generalize gmulD S g = S' at *
        unfold Gs.v at K
        go_wp2_with fail
        refine K.out.mono ?_
        rintro e w3 ⟨rfl, hb3⟩
        have X0 := Lib.hid (bP.out.step hb3)
        have Y0 := Lib.hid (b0.out.step hb3)
        have Z0 := Lib.hid (bR.out.step hb3)
        have X := Lib.hid ((bP.out.step hb3).more (.cells #[.bool S'.re.g, .string (natS S'.re.n), .int .i64 S'.re.x, .bool S'.im.g, .string (natS S'.im.n), .int .i64 S'.im.x] 26))
        have Y := Lib.hid ((b0.out.step hb3).more (.cells #[.bool S'.re.g, .string (natS S'.re.n), .int .i64 S'.re.x, .bool S'.im.g, .string (natS S'.im.n), .int .i64 S'.im.x] 26))
        have Z := Lib.hid ((bR.out.step hb3).more (.cells #[.bool S'.re.g, .string (natS S'.re.n), .int .i64 S'.re.x, .bool S'.im.g, .string (natS S'.im.n), .int .i64 S'.im.x] 26))
        obtain ⟨x0, x1, x2, x3, x4, x5, x6, x7, x8, x9, x10, x11, x12⟩ := (bP.out.step hb3).facts
        have hb4 := Lib.hid (below_chain HBB.out hb3)
        clear hb3 p0 p1 p2 p3 p4 p5 p6 p7 p8 p9 p10 p11 p12 q0 q1 q2 q3 q4 q5 q6 q7 q8 q9 q10 q11 q12 K KM hb
        go_wp2_with fail
        go_roundw
        case rel =>
          refine ⟨i + 1, S', by have := HLT.out; omega, by go_num, HS', HST2, Lib.hid ((X0.out.put _ _ _ _ _ _).more _), Lib.hid ((show Box6 _ _ _ _ _ _ _ _ from Blk.far6 Y0.out (by omega) _ _ _ _ _ _).more _), Lib.hid ((show Box6 _ _ _ _ _ _ _ _ from Blk.far6 Z0.out (by omega) _ _ _ _ _ _).more _), ?_⟩
          have hp := below_put6 hb4.out (show w.heap.size ≤ P by omega) (.bool S'.re.g) (.string (natS S'.re.n)) (.int .i64 S'.re.x) (.bool S'.im.g) (.string (natS S'.im.n)) (.int .i64 S'.im.x)
          exact hp.alloc hp.size _
        case measure => have := HLT.out; simp [intOf]; omega
      · have HV : Hid (powG g n oneG = (gmulD S g, gmulE S g)) := Lib.hid (by
          rcases HST.out with h | h
          · exact absurd h.1 hE
          · exact h.2)
        have hz : (gmulE S g != 0) = true := by simpa using hE
        have HZ : Hid (gmulD S g = Gs.zero) := Lib.hid (gmul_off hE).2
        generalize gmulD S g = S' at *
        generalize gmulE S g = E' at *
        unfold Gs.v at K
        go_wp2_with fail
        refine K.out.mono ?_
        rintro e w3 ⟨rfl, hb3⟩
        have hb4 := Lib.hid (below_chain HBB.out hb3)
        have Z := Lib.hid (bR.out.step hb3)
        obtain ⟨x0, x1, x2, x3, x4, x5, x6, x7, x8, x9, x10, x11, x12⟩ := Z.out.facts
        have HY := Lib.hid ((Z.out.put (.bool false) (.string ⟨#[]⟩) (.int .i64 0) (.bool false) (.string ⟨#[]⟩) (.int .i64 0)).more (.cells #[.bool S'.re.g, .string (natS S'.re.n), .int .i64 S'.re.x, .bool S'.im.g, .string (natS S'.im.n), .int .i64 S'.im.x] 26))
        clear hb3 p0 p1 p2 p3 p4 p5 p6 p7 p8 p9 p10 p11 p12 q0 q1 q2 q3 q4 q5 q6 q7 q8 q9 q10 q11 q12 K KM hb
        go_wp2_with fail
        obtain ⟨y0, y1, y2, y3, y4, y5, y6, y7, y8, y9, y10, y11, y12⟩ := HY.out.facts
        refine bodyPost_ret (v := .tuple #[.agg #[.bool false, .string ⟨#[]⟩, .int .i64 0, .bool false, .string ⟨#[]⟩, .int .i64 0], .int .i64 E']) (by simp [results, Tryz.results7, go_sem, y1, y2, y3, y4, y5, y6]) rfl ⟨by rw [HV.out, HZ.out, Gs.zero_v], ?_⟩
        have hp := below_put6 hb4.out (show w.heap.size ≤ R by omega) (.bool false) (.string ⟨#[]⟩) (.int .i64 0) (.bool false) (.string ⟨#[]⟩) (.int .i64 0)
        exact hp.alloc hp.size _
    · obtain rfl : i = n := by omega
      have HV : Hid (powG g i oneG = (S, 0)) := Lib.hid (by rw [hpow.out, Nat.sub_self]; rfl)
      obtain ⟨p0, p1, p2, p3, p4, p5, p6, p7, p8, p9, p10, p11, p12⟩ := bP.out.facts
      obtain ⟨r0, r1, r2, r3, r4, r5, r6, r7, r8, r9, r10, r11, r12⟩ := bR.out.facts
      have HBR := Lib.hid (bR.out.put (.bool S.re.g) (.string (natS S.re.n)) (.int .i64 S.re.x) (.bool S.im.g) (.string (natS S.im.n)) (.int .i64 S.im.x))
      have HBB := Lib.hid hb
      clear hpow hb
      go_wp2_with fail
      obtain ⟨y0, y1, y2, y3, y4, y5, y6, y7, y8, y9, y10, y11, y12⟩ := HBR.out.facts
      exact bodyPost_ret (v := .tuple #[.agg #[.bool S.re.g, .string (natS S.re.n), .int .i64 S.re.x, .bool S.im.g, .string (natS S.im.n), .int .i64 S.im.x], .int .i64 0]) (by simp [results, Tryz.results7, go_sem, y1, y2, y3, y4, y5, y6]) rfl ⟨by rw [HV.out]; rfl, below_put6 HBB.out (by omega) _ _ _ _ _ _⟩
end Go.Proofs.YtdknipaimfecaaaGreatDoor
namespace Go.Proofs.YtdknipaimfecaaaGreatDoor
open Go Go.RowKit Nt
theorem first_case6 {wr w2 : World} (h : Below wr.drew.heap.size wr.drew w2) : Below wr.heap.size wr w2 := ((Below.refl wr.heap.size wr).drew).trans h
theorem second_case6 {wr w2 : World} {o : Obj} (h : Below (wr.drew.alloc o).heap.size (wr.drew.alloc o) w2) : Below wr.heap.size wr w2 := (((Below.refl wr.heap.size wr).drew).alloc (Nat.le_refl _) o).trans (h.mono (by show wr.heap.size ≤ (wr.alloc o).heap.size; simp))
theorem third_case6 {wr w2 : World} {o : Obj} (h : Below ((wr.alloc o).drew).heap.size ((wr.alloc o).drew) w2) : Below wr.heap.size wr w2 := (((Below.refl wr.heap.size wr).alloc (Nat.le_refl _) o).drew).trans (h.mono (by show wr.heap.size ≤ (wr.alloc o).heap.size; simp))
theorem box_second6 {wr w2 : World} (h : Below ((wr.alloc (.cells #[.bool false, .string ⟨#[]⟩, .int .i64 0, .bool false, .string ⟨#[]⟩, .int .i64 0] 26)).drew).heap.size ((wr.alloc (.cells #[.bool false, .string ⟨#[]⟩, .int .i64 0, .bool false, .string ⟨#[]⟩, .int .i64 0] 26)).drew) w2) : Box6 w2 wr.heap.size (.bool false) (.string ⟨#[]⟩) (.int .i64 0) (.bool false) (.string ⟨#[]⟩) (.int .i64 0) := Box6.step (w := (wr.alloc (.cells #[.bool false, .string ⟨#[]⟩, .int .i64 0, .bool false, .string ⟨#[]⟩, .int .i64 0] 26)).drew) (show Box6 ((wr.alloc _).drew) _ _ _ _ _ _ _ from Box6.new wr _ _ _ _ _ _) h
theorem Box6.far {w : World} {B C : Nat} {a b c d e f : Value} (h : Box6 w B a b c d e f) (hne : B ≠ C) (a' b' c' d' e' f' : Value) : Box6 ((((((w.setCell ⟨C, 0, none⟩ a').setCell ⟨C, 1, none⟩ b').setCell ⟨C, 2, none⟩ c').setCell ⟨C, 3, none⟩ d').setCell ⟨C, 4, none⟩ e').setCell ⟨C, 5, none⟩ f') B a b c d e f := Blk.far6 h hne _ _ _ _ _ _
set_option maxRecDepth 100000 in
set_option maxHeartbeats 4000000 in
theorem rSum6_c (l : List Gs) (A : Option Addr) (c : Nat) (w : World) (hl : l.length ≤ 9223372036854775807) (hok : ∀ d ∈ l, d.Ok) (h : Gts w A (l.map Gs.t)) (hG : Globs glT w) :
    Calls Tryz.prog 11 #[.slice A l.length c] w (SumGPost l w) := by
  unfold SumGPost
  have HD := Lib.hid h
  have HOK := Lib.hid hok
  have KAD := Lib.hid (fun S d W (hS : Gs.Ok S) (hd : Gs.Ok d) (hW : Below w.heap.size w W) => rGAdd_c S d W hS hd (hG.below hW (Nat.le_refl _)))
  obtain ⟨P, hP⟩ : ∃ P, P = w.heap.size + 1 := ⟨_, rfl⟩
  have HPE := Lib.hid hP
  have h2 : Below w.heap.size w ((w.alloc (.cells #[.bool false, .string ⟨#[]⟩, .int .i64 0, .bool false, .string ⟨#[]⟩, .int .i64 0] 26)).alloc (.cells #[.bool false, .string ⟨#[]⟩, .int .i64 0, .bool false, .string ⟨#[]⟩, .int .i64 0] 26)) := ((Below.refl _ _).alloc (Nat.le_refl _) _).alloc (by simp) _
  have e1 : (w.alloc (.cells #[.bool false, .string ⟨#[]⟩, .int .i64 0, .bool false, .string ⟨#[]⟩, .int .i64 0] 26)).heap.size = P := by rw [hP]; simp
  have b1 := (Box6.new w (.bool false) (.string ⟨#[]⟩) (.int .i64 0) (.bool false) (.string ⟨#[]⟩) (.int .i64 0)).more (.cells #[.bool false, .string ⟨#[]⟩, .int .i64 0, .bool false, .string ⟨#[]⟩, .int .i64 0] 26)
  have b2 := Box6.new (w.alloc (.cells #[.bool false, .string ⟨#[]⟩, .int .i64 0, .bool false, .string ⟨#[]⟩, .int .i64 0] 26)) (.bool false) (.string ⟨#[]⟩) (.int .i64 0) (.bool false) (.string ⟨#[]⟩) (.int .i64 0)
  rw [e1] at b2
  have hRP : w.heap.size < P := by omega
  have HB2 := Lib.hid h2
  have HBR := Lib.hid b1
  have HBP := Lib.hid b2
  clear h hok h2 b1 b2 e1 hG
  go_enter Tryz.func11, Tryz.ntmps11
  go_wp2_with fail
  rw [← hP]
  clear hP
  go_loopw [5] (fun i wr => ∃ (k : Nat) (S : Gs), k ≤ l.length ∧ i = .int .i64 k ∧ Hid S.Ok ∧ Hid (sumsG Gs.zero l = sumsG S (l.drop k)) ∧ Hid (Box6 wr P (.bool S.re.g) (.string (natS S.re.n)) (.int .i64 S.re.x) (.bool S.im.g) (.string (natS S.im.n)) (.int .i64 S.im.x)) ∧ Hid (Box6 wr w.heap.size (.bool false) (.string ⟨#[]⟩) (.int .i64 0) (.bool false) (.string ⟨#[]⟩) (.int .i64 0)) ∧ Below w.heap.size w wr) (fun i _ => l.length - (intOf i).toNat)
  case atStart =>
    refine ⟨0, Gs.zero, Nat.zero_le _, rfl, Lib.hid Gs.zero_Ok, Lib.hid (by rw [List.drop_zero]), Lib.hid ?_, Lib.hid HBR.out, HB2.out⟩
    show Box6 _ P (.bool false) (.string (natS 0)) (.int .i64 0) (.bool false) (.string (natS 0)) (.int .i64 0)
    rw [natS_zero]; exact HBP.out
  case round =>
    obtain ⟨k, S, hk, rfl, hS, hsum, hP, hR, hb⟩ := hrel
    by_cases hlt : k < l.length
    · obtain ⟨ad, rfl, c0, c1, c2, c3, c4, c5⟩ := HD.out.at_ hlt hb
      have hbA : Below w.heap.size w ((wr.alloc (.cells #[.bool false, .string ⟨#[]⟩, .int .i64 0, .bool false, .string ⟨#[]⟩, .int .i64 0] 26)).drew) := (hb.alloc hb.size _).drew
      obtain ⟨ad', ead, f0, f1, f2, f3, f4, f5⟩ := HD.out.at_ hlt hbA
      obtain rfl : ad = ad' := by injection ead
      have hPA := (hP.out.more (.cells #[.bool false, .string ⟨#[]⟩, .int .i64 0, .bool false, .string ⟨#[]⟩, .int .i64 0] 26)).facts
      have P0 : ((wr.alloc (.cells #[.bool false, .string ⟨#[]⟩, .int .i64 0, .bool false, .string ⟨#[]⟩, .int .i64 0] 26)).drew).cell? ⟨P, 0, none⟩ = some (.bool S.re.g) := hPA.2.1
      have P1 : ((wr.alloc (.cells #[.bool false, .string ⟨#[]⟩, .int .i64 0, .bool false, .string ⟨#[]⟩, .int .i64 0] 26)).drew).cell? ⟨P, 1, none⟩ = some (.string (natS S.re.n)) := hPA.2.2.1
      have P2 : ((wr.alloc (.cells #[.bool false, .string ⟨#[]⟩, .int .i64 0, .bool false, .string ⟨#[]⟩, .int .i64 0] 26)).drew).cell? ⟨P, 2, none⟩ = some (.int .i64 S.re.x) := hPA.2.2.2.1
      have P3 : ((wr.alloc (.cells #[.bool false, .string ⟨#[]⟩, .int .i64 0, .bool false, .string ⟨#[]⟩, .int .i64 0] 26)).drew).cell? ⟨P, 3, none⟩ = some (.bool S.im.g) := hPA.2.2.2.2.1
      have P4 : ((wr.alloc (.cells #[.bool false, .string ⟨#[]⟩, .int .i64 0, .bool false, .string ⟨#[]⟩, .int .i64 0] 26)).drew).cell? ⟨P, 4, none⟩ = some (.string (natS S.im.n)) := hPA.2.2.2.2.2.1
      have P5 : ((wr.alloc (.cells #[.bool false, .string ⟨#[]⟩, .int .i64 0, .bool false, .string ⟨#[]⟩, .int .i64 0] 26)).drew).cell? ⟨P, 5, none⟩ = some (.int .i64 S.im.x) := hPA.2.2.2.2.2.2.1
      clear hPA ead
      have hd := HOK.out _ (List.getElem_mem hlt)
      have hsd := hsum.out
      rw [dropG_at hlt] at hsd
      generalize l[k] = d at *
      have KD := Lib.hid (fun W (hW : Below w.heap.size w W) => KAD.out S d W hS.out hd hW)
      obtain ⟨p0, p1, p2, p3, p4, p5, p6, p7, p8, p9, p10, p11, p12⟩ := hP.out.facts
      have HLT := Lib.hid hlt
      have hDok := Lib.hid (gaddD_Ok hS.out hd)
      have HBW := Lib.hid hb
      by_cases hE : gaddE S d = 0
      · rw [sumsG_on hE] at hsd
        rw [hE] at KD
        have HSD := Lib.hid hsd
        generalize gaddD S d = D at *
        clear hE hsd hd hlt KAD
        go_wp2_with fail
        go_region_law (first
          | (go_simp; go_at_call 23; (refine (KD.out _ (by first | exact hb.drew | exact (hb.alloc hb.size _).drew | exact (hb.drew).alloc hb.size _)).mono ?_); rintro e w2 ⟨rfl, hb2⟩; have hb9 := first_case6 hb2; obtain ⟨q0, q1, q2, q3, q4, q5, q6, q7, q8, q9, q10, q11, q12⟩ := (hP.out.step hb9).facts; have HB9 := Lib.hid hb9; clear hb9; unfold Gs.v)
          | (go_simp; go_at_call 23; (refine (KD.out _ (by first | exact hb.drew | exact (hb.alloc hb.size _).drew | exact (hb.drew).alloc hb.size _)).mono ?_); rintro e w2 ⟨rfl, hb2⟩; have hb9 := third_case6 hb2; obtain ⟨q0, q1, q2, q3, q4, q5, q6, q7, q8, q9, q10, q11, q12⟩ := (hP.out.step hb9).facts; obtain ⟨z0, z1, z2, z3, z4, z5, z6, z7, z8, z9, z10, z11, z12⟩ := (box_second6 hb2).facts; have HB9 := Lib.hid hb9; clear hb9; unfold Gs.v)
          | (go_simp; go_at_call 23; (refine (KD.out _ (by first | exact hb.drew | exact (hb.alloc hb.size _).drew | exact (hb.drew).alloc hb.size _)).mono ?_); rintro e w2 ⟨rfl, hb2⟩; have hb9 := second_case6 hb2; obtain ⟨q0, q1, q2, q3, q4, q5, q6, q7, q8, q9, q10, q11, q12⟩ := (hP.out.step hb9).facts; have HB9 := Lib.hid hb9; clear hb9; unfold Gs.v))
        all_goals
          go_wp2_with fail
          go_roundw
          case rel =>
            have HLT' := HLT.out
            refine ⟨k + 1, D, by omega, ?_, hDok, HSD, ?_, ?_, ?_⟩
            · clear f0 f1 f2 f3 f4 f5 c0 c1 c2 c3 c4 c5 P0 P1 P2 P3 P4 P5 p0 p1 p2 p3 p4 p5 p6 q0 q1 q2 q3 q4 q5 q6
              go_num
            · first
                | ((with_reducible refine Lib.hid (Box6.more ?_ _)); exact (hP.out.step HB9.out).put _ _ _ _ _ _)
                | ((with_reducible refine Lib.hid (Box6.put (a := .bool S.re.g) (b := .string (natS S.re.n)) (c := .int .i64 S.re.x) (d := .bool S.im.g) (e := .string (natS S.im.n)) (f := .int .i64 S.im.x) ?_ _ _ _ _ _ _)); exact (hP.out.step HB9.out).far (Nat.ne_of_lt p0) _ _ _ _ _ _)
            · first
                | ((with_reducible refine Lib.hid (Box6.more ?_ _)); exact (hR.out.step HB9.out).far (Nat.ne_of_lt hRP) _ _ _ _ _ _)
                | ((with_reducible refine Lib.hid (Box6.far ?_ (Nat.ne_of_lt hRP) _ _ _ _ _ _)); exact (hR.out.step HB9.out).far (Nat.ne_of_lt hR.out.facts.1) _ _ _ _ _ _)
            · have hch := below_chain HBW.out HB9.out
              first
                | (with_reducible refine Below.alloc ?_ ?_ _
                   · exact below_put6 hch (Nat.le_of_lt hRP) _ _ _ _ _ _
                   · exact (below_put6 hch (Nat.le_of_lt hRP) _ _ _ _ _ _).size)
                | exact below_put6 (below_put6 hch HBW.out.size _ _ _ _ _ _) (Nat.le_of_lt hRP) _ _ _ _ _ _
          case measure => have := HLT.out; simp [intOf]; omega
      · rw [sumsG_off hE] at hsd
        have HSD := Lib.hid hsd
        have HE4 : Hid (gaddE S d = 4) := Lib.hid (erI_no (fun c => hE (erI_ok c)))
        rw [HE4.out] at KD
        generalize gaddD S d = D at *
        clear hE hsd hd hlt KAD HE4
        obtain ⟨r0, r1, r2, r3, r4, r5, r6, r7, r8, r9, r10, r11, r12⟩ := hR.out.facts
        go_wp2_with fail
        go_region_law (first
          | (go_simp; go_at_call 23; (refine (KD.out _ (by first | exact hb.drew | exact (hb.alloc hb.size _).drew | exact (hb.drew).alloc hb.size _)).mono ?_); rintro e w2 ⟨rfl, hb2⟩; have hb9 := first_case6 hb2; obtain ⟨q0, q1, q2, q3, q4, q5, q6, q7, q8, q9, q10, q11, q12⟩ := (hP.out.step hb9).facts; have HYY := Lib.hid (((hR.out.step hb9).put (.bool false) (.string ⟨#[]⟩) (.int .i64 0) (.bool false) (.string ⟨#[]⟩) (.int .i64 0)).more (.cells #[.bool D.re.g, .string (natS D.re.n), .int .i64 D.re.x, .bool D.im.g, .string (natS D.im.n), .int .i64 D.im.x] 26)); have HS9 := Lib.hid (hR.out.step hb9); obtain ⟨s0, s1, s2, s3, s4, s5, s6, s7, s8, s9, s10, s11, s12⟩ := HS9.out.facts; have HB9 := Lib.hid hb9; clear hb9; unfold Gs.v)
          | (go_simp; go_at_call 23; (refine (KD.out _ (by first | exact hb.drew | exact (hb.alloc hb.size _).drew | exact (hb.drew).alloc hb.size _)).mono ?_); rintro e w2 ⟨rfl, hb2⟩; have hb9 := third_case6 hb2; obtain ⟨q0, q1, q2, q3, q4, q5, q6, q7, q8, q9, q10, q11, q12⟩ := (hP.out.step hb9).facts; have HYY := Lib.hid ((hR.out.step hb9).far (Nat.ne_of_lt hR.out.facts.1) (.bool D.re.g) (.string (natS D.re.n)) (.int .i64 D.re.x) (.bool D.im.g) (.string (natS D.im.n)) (.int .i64 D.im.x) |>.put (.bool false) (.string ⟨#[]⟩) (.int .i64 0) (.bool false) (.string ⟨#[]⟩) (.int .i64 0)); have HS9 := Lib.hid (hR.out.step hb9); obtain ⟨s0, s1, s2, s3, s4, s5, s6, s7, s8, s9, s10, s11, s12⟩ := HS9.out.facts; obtain ⟨z0, z1, z2, z3, z4, z5, z6, z7, z8, z9, z10, z11, z12⟩ := (box_second6 hb2).facts; have HB9 := Lib.hid hb9; clear hb9; unfold Gs.v)
          | (go_simp; go_at_call 23; (refine (KD.out _ (by first | exact hb.drew | exact (hb.alloc hb.size _).drew | exact (hb.drew).alloc hb.size _)).mono ?_); rintro e w2 ⟨rfl, hb2⟩; have hb9 := second_case6 hb2; obtain ⟨q0, q1, q2, q3, q4, q5, q6, q7, q8, q9, q10, q11, q12⟩ := (hP.out.step hb9).facts; have HYY := Lib.hid ((hR.out.step hb9).far (Nat.ne_of_lt hR.out.facts.1) (.bool D.re.g) (.string (natS D.re.n)) (.int .i64 D.re.x) (.bool D.im.g) (.string (natS D.im.n)) (.int .i64 D.im.x) |>.put (.bool false) (.string ⟨#[]⟩) (.int .i64 0) (.bool false) (.string ⟨#[]⟩) (.int .i64 0)); have HS9 := Lib.hid (hR.out.step hb9); obtain ⟨s0, s1, s2, s3, s4, s5, s6, s7, s8, s9, s10, s11, s12⟩ := HS9.out.facts; have HB9 := Lib.hid hb9; clear hb9; unfold Gs.v))
        all_goals
          go_wp2_with fail
          obtain ⟨y0, y1, y2, y3, y4, y5, y6, y7, y8, y9, y10, y11, y12⟩ := HYY.out.facts
          have hch := below_chain HBW.out HB9.out
          refine bodyPost_ret (v := .tuple #[.agg #[.bool false, .string ⟨#[]⟩, .int .i64 0, .bool false, .string ⟨#[]⟩, .int .i64 0], .int .i64 4]) (by simp [results, Tryz.results11, go_sem, y1, y2, y3, y4, y5, y6]) rfl ⟨by rw [HSD.out, Gs.zero_v], ?_⟩
          first
            | (with_reducible refine Below.alloc ?_ ?_ _
               · exact below_put6 hch (Nat.le_refl _) _ _ _ _ _ _
               · exact (below_put6 hch (Nat.le_refl _) _ _ _ _ _ _).size)
            | exact below_put6 (below_put6 hch HBW.out.size _ _ _ _ _ _) (Nat.le_refl _) _ _ _ _ _ _
    · obtain rfl : k = l.length := by omega
      have HV : Hid (sumsG Gs.zero l = (S, 0)) := Lib.hid (by rw [hsum.out, List.drop_length]; rfl)
      obtain ⟨p0, p1, p2, p3, p4, p5, p6, p7, p8, p9, p10, p11, p12⟩ := hP.out.facts
      obtain ⟨r0, r1, r2, r3, r4, r5, r6, r7, r8, r9, r10, r11, r12⟩ := hR.out.facts
      have HY := Lib.hid (hR.out.put (.bool S.re.g) (.string (natS S.re.n)) (.int .i64 S.re.x) (.bool S.im.g) (.string (natS S.im.n)) (.int .i64 S.im.x))
      have HBB := Lib.hid hb
      clear hb hsum
      go_wp2_with fail
      obtain ⟨y0, y1, y2, y3, y4, y5, y6, y7, y8, y9, y10, y11, y12⟩ := HY.out.facts
      exact bodyPost_ret (v := .tuple #[.agg #[.bool S.re.g, .string (natS S.re.n), .int .i64 S.re.x, .bool S.im.g, .string (natS S.im.n), .int .i64 S.im.x], .int .i64 0]) (by simp [results, Tryz.results11, go_sem, y1, y2, y3, y4, y5, y6]) rfl ⟨by rw [HV.out]; rfl, below_put6 HBB.out (Nat.le_refl _) _ _ _ _ _ _⟩
end Go.Proofs.YtdknipaimfecaaaGreatDoor
namespace Go.Proofs.YtdknipaimfecaaaGreatDoor
open Go Go.RowKit Nt
noncomputable def kpD (f : Int) (a b : Dy) : Dy := if f = 0 then addD a b else Dy.zero
noncomputable def kpE (f : Int) (a b : Dy) : Int := if f = 0 then addE a b else f
theorem gsl_small {a : Gs} (h : a.Ok) : a.t.Small := ⟨by have := Dy.small h.1; show (natS a.re.n).size ≤ _; omega, by have := Dy.small h.2; show (natS a.im.n).size ≤ _; omega⟩
theorem zero_t : Gs.zero.t = Gt.zero := by
  show (⟨⟨false, natS 0, 0⟩, ⟨false, natS 0, 0⟩⟩ : Gt) = _
  rw [natS_zero]; rfl
set_option maxRecDepth 100000 in
theorem keep_any (a b : Dy) (f : Int) (F D : Nat) (W : World) (ha : a.Ok) (hb : b.Ok) (hF : Blk W F 28 #[.int .i64 f]) (hD : Blk W D 64 #[.func (.func 30) #[] #[]]) (hG : Globs glT W) :
    Calls Tryz.prog 29 #[.agg #[.bool a.g, .string (natS a.n), .int .i64 a.x], .agg #[.bool b.g, .string (natS b.n), .int .i64 b.x], .pointer (some ⟨F, 0, none⟩), .pointer (some ⟨D, 0, none⟩)] W fun e w' => e = .returned (kpD f a b).v ∧ Chg F (kpE f a b) W w' := by
  by_cases hf : f = 0
  · subst hf
    have h := keep_on a b F D W ha hb hF hD hG
    unfold kpD kpE
    rw [if_pos rfl, if_pos rfl]
    exact h
  · have h := keep_off a.t b.t f F D W hf hF
    unfold kpD kpE
    rw [if_neg hf, if_neg hf, Dy.zero_v]
    exact h
noncomputable def stG (f0 : Int) (l : List Gs) : Nat → Gs × Int
  | 0 => (Gs.zero, f0)
  | k + 1 => match l[k]? with
    | some d => (⟨kpD (stG f0 l k).2 (stG f0 l k).1.re d.re, kpD (kpE (stG f0 l k).2 (stG f0 l k).1.re d.re) (stG f0 l k).1.im d.im⟩, kpE (kpE (stG f0 l k).2 (stG f0 l k).1.re d.re) (stG f0 l k).1.im d.im)
    | none => stG f0 l k
noncomputable def stM (f0 : Int) (l : List Gs) (k : Nat) : Int := match l[k]? with
    | some d => kpE (stG f0 l k).2 (stG f0 l k).1.re d.re
    | none => 0
theorem stG_on {f0 : Int} {l : List Gs} {k : Nat} (h : k < l.length) : stG f0 l (k + 1) = (⟨kpD (stG f0 l k).2 (stG f0 l k).1.re l[k].re, kpD (stM f0 l k) (stG f0 l k).1.im l[k].im⟩, kpE (stM f0 l k) (stG f0 l k).1.im l[k].im) ∧ stM f0 l k = kpE (stG f0 l k).2 (stG f0 l k).1.re l[k].re := by
  have e : l[k]? = some l[k] := List.getElem?_eq_getElem h
  constructor
  · rw [stG]; unfold stM; rw [e]
  · unfold stM; rw [e]
theorem kpD_Ok {f : Int} {a b : Dy} (ha : a.Ok) (hb : b.Ok) : (kpD f a b).Ok := by
  unfold kpD; split
  · exact add_Ok ha hb
  · exact Or.inl rfl
theorem stG_Ok {f0 : Int} {l : List Gs} (hl : ∀ d ∈ l, d.Ok) : ∀ k, k ≤ l.length → (stG f0 l k).1.Ok
  | 0, _ => Gs.zero_Ok
  | k + 1, h => by
    have ih := stG_Ok hl (f0 := f0) k (by omega)
    have hd := hl _ (List.getElem_mem (show k < l.length by omega))
    rw [(stG_on (by omega)).1]
    exact ⟨kpD_Ok ih.1 hd.1, kpD_Ok ih.2 hd.2⟩
theorem gadd_parts {s d : Gs} : (gaddE s d = 0 ↔ addE s.re d.re = 0 ∧ addE s.im d.im = 0) ∧ (gaddE s d = 0 → gaddD s d = ⟨addD s.re d.re, addD s.im d.im⟩) := by
  have e : All0 (gaddL s d) ↔ addE s.re d.re = 0 ∧ addE s.im d.im = 0 := by unfold gaddL; simp [All0]
  unfold gaddE gaddD
  constructor
  · rw [erI_zero, e]
  · intro h; rw [erG_ok (erI_zero.1 h)]
theorem stG_err {l : List Gs} {k : Nat} (hk : (stG 0 l k).2 ≠ 0) : ∀ j, k ≤ j → (stG 0 l j).2 = (stG 0 l k).2
  | 0, h => by
    have : k = 0 := by omega
    rw [this]
  | j + 1, h => by
    rcases Nat.lt_or_ge j k with c | c
    · have : k = j + 1 := by omega
      rw [this]
    · have ih := stG_err hk j c
      rcases Nat.lt_or_ge j l.length with c2 | c2
      · obtain ⟨h1, h2⟩ := stG_on (f0 := 0) c2
        rw [h1]
        show kpE (stM 0 l j) _ _ = _
        rw [h2]
        have hj : (stG 0 l j).2 ≠ 0 := by rw [ih]; exact hk
        unfold kpE
        rw [if_neg hj, if_neg hj, ih]
      · have e : l[j]? = none := List.getElem?_eq_none c2
        rw [stG, e]; exact ih
theorem st_sums {l : List Gs} : ∀ k, k ≤ l.length → ((stG 0 l k).2 = 0 ∧ sumsG Gs.zero l = sumsG (stG 0 l k).1 (l.drop k)) ∨ ((stG 0 l k).2 = 4 ∧ sumsG Gs.zero l = (Gs.zero, 4))
  | 0, _ => Or.inl ⟨rfl, by rw [List.drop_zero]; rfl⟩
  | k + 1, h => by
    have hlt : k < l.length := by omega
    rcases st_sums (l := l) k (by omega) with ⟨h0, hs⟩ | ⟨h4, hs⟩
    · rw [dropG_at hlt] at hs
      obtain ⟨h1, h2⟩ := stG_on (f0 := 0) hlt
      rw [h0] at h1 h2
      generalize (stG 0 l k).1 = s at *
      generalize l[k] = d at *
      obtain ⟨p1, p2⟩ := gadd_parts (s := s) (d := d)
      have e1 : stM 0 l k = addE s.re d.re := by rw [h2]; unfold kpE; rw [if_pos rfl]
      rw [e1] at h1
      by_cases c : gaddE s d = 0
      · left
        rw [sumsG_on c, p2 c] at hs
        obtain ⟨c1, c2⟩ := p1.1 c
        rw [h1, c1]
        unfold kpD kpE
        rw [if_pos rfl, if_pos rfl, if_pos rfl]
        exact ⟨c2, hs⟩
      · right
        rw [sumsG_off c] at hs
        refine ⟨?_, hs⟩
        rw [h1]
        show kpE _ _ _ = 4
        unfold kpE
        by_cases c1 : addE s.re d.re = 0
        · rw [if_pos c1]
          exact addE4 fun c2 => c (p1.2 ⟨c1, c2⟩)
        · rw [if_neg c1]; exact addE4 c1
    · right
      exact ⟨by rw [stG_err (k := k) (by rw [h4]; decide) (k + 1) (by omega), h4], hs⟩
theorem st_end {l : List Gs} : ((stG 0 l l.length).2 = 0 → sumsG Gs.zero l = ((stG 0 l l.length).1, 0)) ∧ ((stG 0 l l.length).2 ≠ 0 → (stG 0 l l.length).2 = 4 ∧ sumsG Gs.zero l = (Gs.zero, 4)) := by
  rcases st_sums (l := l) l.length (Nat.le_refl _) with ⟨h0, hs⟩ | ⟨h4, hs⟩
  · rw [List.drop_length, sumsG_nil] at hs
    exact ⟨fun _ => hs, fun c => absurd h0 c⟩
  · exact ⟨fun c => absurd (h4.symm.trans c) (by decide), fun _ => ⟨h4, hs⟩⟩
set_option maxRecDepth 100000 in
theorem GSum_c (l : List Gs) (A : Option Addr) (c : Nat) (w : World) (hl : l.length ≤ 9223372036854775807) (hok : ∀ d ∈ l, d.Ok) (h : Gts w A (l.map Gs.t)) (hG : Globs glT w) :
    Calls Tryz.prog 9 #[.slice A l.length c] w (SumGPost l w) := by
  have hlen : (l.map Gs.t).length = l.length := List.length_map ..
  have hall : ∀ W, Below w.heap.size w W → Calls Tryz.prog 19 #[.slice A (l.map Gs.t).length c] W fun e w' => e = .returned (.int .i64 0) ∧ Below W.heap.size W w' := fun W hW => by
    have := Gall_c A c (l.map Gs.t) W (by rw [hlen]; exact hl) (fun t ht => by
      obtain ⟨d, hd, rfl⟩ := List.mem_map.1 ht
      exact gsl_small (hok d hd)) (h.below hW) (hG.below hW (Nat.le_refl _))
    rwa [gEs_ok (fun t ht => by
      obtain ⟨d, hd, rfl⟩ := List.mem_map.1 ht
      exact Gs.ok_t (hok d hd))] at this
  obtain ⟨V, hV⟩ : ∃ V, V = (.tuple #[(sumsG Gs.zero l).1.v, .int .i64 (sumsG Gs.zero l).2] : Value) := ⟨_, rfl⟩
  have key := GSum_loop (l.map Gs.t) A c w (by rw [hlen]; exact hl) (fun k => (stG 0 l k).1.t) (stM 0 l) (fun k => (stG 0 l k).2) zero_t hall
    (fun k hk F D W hF hD hGW => by
      have hk' : k < l.length := by rwa [hlen] at hk
      have hd := hok _ (List.getElem_mem hk')
      have hS := stG_Ok (f0 := 0) hok k (by omega)
      have := keep_any (stG 0 l k).1.re l[k].re (stG 0 l k).2 F D W hS.1 hd.1 hF hD hGW
      obtain ⟨e1, e2⟩ := stG_on (f0 := 0) hk'
      rw [← e2] at this
      simp only [List.getElem_map, e1]
      exact this)
    (fun k hk F D W hF hD hGW => by
      have hk' : k < l.length := by rwa [hlen] at hk
      have hd := hok _ (List.getElem_mem hk')
      have hS := stG_Ok (f0 := 0) hok k (by omega)
      have := keep_any (stG 0 l k).1.im l[k].im (stM 0 l k) F D W hS.2 hd.2 hF hD hGW
      obtain ⟨e1, e2⟩ := stG_on (f0 := 0) hk'
      simp only [List.getElem_map, e1]
      exact this)
    h hG V (by
      rw [hlen]
      obtain ⟨k1, k2⟩ := st_end (l := l)
      constructor
      · intro h0
        rw [hV, k1 h0]; rfl
      · intro h0
        obtain ⟨h4, hs⟩ := k2 h0
        rw [hV, hs, h4, Gs.zero_v]; rfl)
  rw [hlen, hV] at key
  exact key
set_option maxRecDepth 100000 in
theorem GSum_bad (l : List Gt) (A : Option Addr) (c : Nat) (w : World) (hl : l.length ≤ 9223372036854775807) (hs : ∀ t ∈ l, t.Small) (h : Gts w A l) (hn : ∃ t ∈ l, ¬ t.Ok) (hG : Globs glT w) :
    Calls Tryz.prog 9 #[.slice A l.length c] w fun e w' => e = .returned (.tuple #[.agg #[.bool false, .string ⟨#[]⟩, .int .i64 0, .bool false, .string ⟨#[]⟩, .int .i64 0], .int .i64 2]) ∧ Below w.heap.size w w' := by
  obtain ⟨t, ht, hno⟩ := hn
  have key := GSum_loop l A c w hl (fun _ => Gt.zero) (fun _ => 2) (fun _ => 2) rfl
    (fun W hW => by
      have := Gall_c A c l W hl hs (h.below hW) (hG.below hW (Nat.le_refl _))
      rwa [gEs_no ht hno] at this)
    (fun k hk F D W hF hD hGW => keep_off Dt.zero l[k].re 2 F D W (by decide) hF)
    (fun k hk F D W hF hD hGW => keep_off Dt.zero l[k].im 2 F D W (by decide) hF)
    h hG (.tuple #[.agg #[.bool false, .string ⟨#[]⟩, .int .i64 0, .bool false, .string ⟨#[]⟩, .int .i64 0], .int .i64 2]) ⟨fun c => absurd c (by decide), fun _ => rfl⟩
  exact key
end Go.Proofs.YtdknipaimfecaaaGreatDoor
namespace Go.Proofs.YtdknipaimfecaaaGreatDoor
open Go Go.RowKit
set_option maxRecDepth 100000 in
theorem awake6_says : saysG Tryz.prog glT 20000 10 [] true = true := by kernel_rfl
theorem awake6_c (w : World) (hg : Globs glT w) : Calls Tryz.prog 10 #[] w fun e w' => e = .returned (.bool true) ∧ Below w.heap.size w w' := closed_with (by kernel_rfl) awake6_says hg
end Go.Proofs.YtdknipaimfecaaaGreatDoor
