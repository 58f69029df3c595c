/- Texts put together: D37 D38 D39 D40 D41 D42 D43 D45 D62 Sy SyD D63. -/
import Derived.Test.YtmjjodficjjehaaGreatDoorU5
import Derived.Test.YtmjjodficjjehaaGreatDoorU2
set_option linter.unusedSimpArgs false
set_option linter.unusedVariables false
namespace Go.Proofs.YtmjjodficjjehaaGreatDoor
open Go Go.RowKit Nt
def TD (w : World) (a b : Dt) (W : World) : Prop := TB w a b W ∧ ∃ x y z, Box3 W (w.heap.size + 2) x y z
theorem TD.step {w : World} {a b : Dt} {W W' : World} (h : TD w a b W) (hb : Below W.heap.size W W') : TD w a b W' := by
  obtain ⟨h1, x, y, z, h2⟩ := h; exact ⟨h1.step hb, x, y, z, h2.step hb⟩
theorem TD.drawn {w : World} {a b : Dt} {W : World} (h : TD w a b W) (n : Nat) : TD w a b (W.drewN n) := h.step (below_drewN (Below.refl _ _) n)
theorem TD.drew {w : World} {a b : Dt} {W : World} (h : TD w a b W) : TD w a b W.drew := h.step (Below.refl _ _).drew
theorem TC.td {w : World} {a b : Dt} {W : World} (h : TC w a b W) : TD w a b W := ⟨h.1, _, _, _, h.2⟩
theorem TD.put {w : World} {a b : Dt} {W : World} (h : TD w a b W) (x y z : Value) : TD w a b (((W.setCell ⟨w.heap.size + 2, 0, none⟩ x).setCell ⟨w.heap.size + 2, 1, none⟩ y).setCell ⟨w.heap.size + 2, 2, none⟩ z) := by
  obtain ⟨⟨h1, h2, h3⟩, x', y', z', h4⟩ := h
  exact ⟨⟨below_put h1 (by omega) _ _ _, h2.far (by omega) _ _ _, h3.far (by omega) _ _ _⟩, _, _, _, h4.put _ _ _⟩
theorem TD.res {w : World} {a b : Dt} {W : World} (h : TD w a b W) : w.heap.size + 2 < W.heap.size ∧ (W.cell? ⟨w.heap.size + 2, 0, none⟩).isSome = true ∧ (W.cell? ⟨w.heap.size + 2, 1, none⟩).isSome = true ∧ (W.cell? ⟨w.heap.size + 2, 2, none⟩).isSome = true ∧ W.frozen? ⟨w.heap.size + 2, 0, none⟩ = false ∧ W.frozen? ⟨w.heap.size + 2, 1, none⟩ = false ∧ W.frozen? ⟨w.heap.size + 2, 2, none⟩ = false := by
  obtain ⟨h1, x, y, z, h4⟩ := h
  obtain ⟨r0, r1, r2, r3, r4, r5, r6⟩ := h4.facts
  exact ⟨r0, by rw [r1]; rfl, by rw [r2]; rfl, by rw [r3]; rfl, r4, r5, r6⟩
@[irreducible] def cellAt (W : World) (B i : Nat) : Value := (W.cell? ⟨B, i, none⟩).getD undef
theorem cellAt_eq {W : World} {B i : Nat} {v : Value} (h : W.cell? ⟨B, i, none⟩ = some v) : W.cell? ⟨B, i, none⟩ = some (cellAt W B i) := by unfold cellAt; rw [h]; rfl
theorem TD.cells {w : World} {a b : Dt} {W : World} (h : TD w a b W) : w.heap.size + 2 < W.heap.size ∧ W.cell? ⟨w.heap.size + 2, 0, none⟩ = some (cellAt W (w.heap.size + 2) 0) ∧ W.cell? ⟨w.heap.size + 2, 1, none⟩ = some (cellAt W (w.heap.size + 2) 1) ∧ W.cell? ⟨w.heap.size + 2, 2, none⟩ = some (cellAt W (w.heap.size + 2) 2) ∧ W.frozen? ⟨w.heap.size + 2, 0, none⟩ = false ∧ W.frozen? ⟨w.heap.size + 2, 1, none⟩ = false ∧ W.frozen? ⟨w.heap.size + 2, 2, none⟩ = false := by
  obtain ⟨h1, x, y, z, h4⟩ := h
  obtain ⟨r0, r1, r2, r3, r4, r5, r6⟩ := h4.facts
  exact ⟨r0, cellAt_eq r1, cellAt_eq r2, cellAt_eq r3, r4, r5, r6⟩
theorem nd_addW {x y m : Nat} (hx : nd W x ≤ m) (hy : nd W y ≤ m) : nd W (x + y) ≤ m + 1 := by
  refine nd_le W2 ?_
  have h1 := (lt_pow_iff W2 m x).2 hx
  have h2 := (lt_pow_iff W2 m y).2 hy
  rw [Nat.pow_succ]
  have h4 := Nat.mul_le_mul_left (W ^ m) W2
  omega
set_option maxRecDepth 100000 in
set_option maxHeartbeats 4000000 in
theorem DAdd_num (a b : Dy) (w : World) (ha : a.Num) (hb : b.Num) (hG : Globs glT w) :
    Calls Tryz.prog 73 #[.agg #[.bool a.g, .string (natS a.n), .int .i64 a.x], .agg #[.bool b.g, .string (natS b.n), .int .i64 b.x]] w fun e w' => e = .returned (.tuple #[(addD a b).v, .int .i64 (addE a b)]) ∧ Below w.heap.size w w' := by
  have KA := Lib.hid (fun W T A hA => all_ok2 a b (Or.inr ha) (Or.inr hb) W T A hA)
  have T0 := TC.start w a.t b.t
  have hsw : ∃ p q : Dy, p.Num ∧ q.Num ∧ q.x ≤ p.x ∧ Hid (addD a b = hiD p q ∧ addE a b = hiE p q) ∧ ((a.x < b.x ∧ p = b ∧ q = a) ∨ (¬ a.x < b.x ∧ p = a ∧ q = b)) := by
    by_cases h : a.x < b.x
    · exact ⟨b, a, hb, ha, by omega, Lib.hid (add_lt (odd_ne ha.2.1) (odd_ne hb.2.1) h), Or.inl ⟨h, rfl, rfl⟩⟩
    · exact ⟨a, b, ha, hb, by omega, Lib.hid (add_ge (odd_ne ha.2.1) (odd_ne hb.2.1) h), Or.inr ⟨h, rfl, rfl⟩⟩
  obtain ⟨p, q, hp, hq, hle, HADD, hsw⟩ := hsw
  clear ha hb
  obtain ⟨j, hj⟩ : ∃ j, j = (p.x - q.x).toNat := ⟨_, rfl⟩
  have hpx := hp.2.2
  have hqx := hq.2.2
  have hjx : p.x - q.x = (j : Int) := by omega
  have KB := Lib.hid (fun w => Dbrief_c p q j w hp hq hj (by omega))
  have hEp := natS_full (odd_ne hp.2.1)
  have hEp2 := natS_full2 (odd_ne hp.2.1)
  have hEq := natS_full (odd_ne hq.2.1)
  have hEq2 := natS_full2 (odd_ne hq.2.1)
  have HTB := Lib.hid (fun W (h : TC w p.t q.t W) => tabs_of (hG.below h.1.1 (Nat.le_refl _)))
  have HGG := Lib.hid hG
  have HP := Lib.hid hp
  have HQ := Lib.hid hq
  have HJ := Lib.hid hj
  clear hp hq hG hj
  rcases hsw with ⟨hlt, h1, h2⟩ | ⟨hlt, h1, h2⟩
  case' inl =>
    subst h1 h2
    unfold Dy.t at T0
    go_enter Tryz.func73, Tryz.ntmps73
    go_wp2_with fail
    refine (KA.out _ _ _ (by simp)).mono ?_
    rintro e w1 ⟨rfl, hb⟩
    replace T0 := (T0.more _).step hb
    clear hb
    obtain ⟨p0, p1, p2, p3, p4, p5, p6⟩ := T0.1.2.1.facts
    obtain ⟨q0, q1, q2, q3, q4, q5, q6⟩ := T0.1.2.2.facts
    go_wp2_with fail
    refine (KB.out _).mono ?_
    rintro e w2 ⟨D, ok, rfl, hok, hb⟩
    replace T0 := (TC.swap T0).step hb
    clear hb p0 p1 p2 p3 p4 p5 p6 q0 q1 q2 q3 q4 q5 q6
  case' inr =>
    subst h1 h2
    unfold Dy.t at T0
    go_enter Tryz.func73, Tryz.ntmps73
    go_wp2_with fail
    refine (KA.out _ _ _ (by simp)).mono ?_
    rintro e w1 ⟨rfl, hb⟩
    replace T0 := (T0.more _).step hb
    clear hb
    obtain ⟨p0, p1, p2, p3, p4, p5, p6⟩ := T0.1.2.1.facts
    obtain ⟨q0, q1, q2, q3, q4, q5, q6⟩ := T0.1.2.2.facts
    go_wp2_with fail
    refine (KB.out _).mono ?_
    rintro e w2 ⟨D, ok, rfl, hok, hb⟩
    replace T0 := T0.step hb
    clear hb p0 p1 p2 p3 p4 p5 p6 q0 q1 q2 q3 q4 q5 q6
  all_goals
    have hok2 := Lib.hid hok
    clear hok
    cases ok
    case' true =>
      have hDD := hok2.out rfl
      have HDD := Lib.hid hDD
      clear hDD hok2
      replace T0 := T0.more (.cells #[.bool D.g, .string (natS D.n), .int .i64 D.x] 24)
      obtain ⟨r0, r1, r2, r3, r4, r5, r6⟩ := T0.2.facts
      go_wp2_with fail
      refine bodyPost_ret (v := .tuple #[.agg #[.bool D.g, .string (natS D.n), .int .i64 D.x], .int .i64 0]) (by simp [results, Tryz.results73, go_sem, r0, r1, r2, r3]) rfl ⟨?_, ?_⟩
      · rw [HADD.out.1, HADD.out.2, ← HDD.out.1, HDD.out.2]; rfl
      · repeat (refine Below.setCell ?_ (by simp; omega) _)
        exact T0.1.1
  all_goals
    clear hok2
    have T1 : TC w p.t q.t _ := (T0.more (.cells #[.bool D.g, .string (natS D.n), .int .i64 D.x] 24))
    have HT0 := Lib.hid T0
    clear T0
    by_cases hlong : 131072 < j
    case' pos =>
      have hL := hi_long HP.out HQ.out (by omega)
      have HL := Lib.hid hL
      clear hL
      obtain ⟨r0, r1, r2, r3, r4, r5, r6⟩ := (HT0.out.more (.cells #[.bool D.g, .string (natS D.n), .int .i64 D.x] 24)).2.facts
      go_wp2_with fail
      refine bodyPost_ret (v := .tuple #[.agg #[.bool false, .string ⟨#[]⟩, .int .i64 0], .int .i64 4]) (by simp [results, Tryz.results73, go_sem, r0, r1, r2, r3]) rfl ⟨?_, ?_⟩
      · rw [HADD.out.1, HADD.out.2, HL.out.1, HL.out.2, Dy.zero_v]
      · repeat (refine Below.setCell ?_ (by simp; omega) _)
        exact T1.1.1
  all_goals
    obtain ⟨X, hX⟩ : ∃ X, X = p.n * 2 ^ j := ⟨_, rfl⟩
    have HUP := Lib.hid (show upN p q = X by rw [upN_eq, ← HJ.out, hX])
    have hfp := fits_W HP.out.1
    have hfq := fits_W HQ.out.1
    have hXW : nd W X ≤ 4097 := by
      have h1 := nd_mul_pow (j := j) (odd_ne HP.out.2.1)
      rw [← hX] at h1
      have h2 := bits_131072' HP.out.1
      exact (nd_pow (b := 2) (c := W) (e := 64) (by omega) (by omega) W_two X 4097).1 (by omega)
    have KRp := Lib.hid (fun w => read_nat p.n w HP.out.1)
    have KRq := Lib.hid (fun w => read_nat q.n w HQ.out.1)
    have KS : Hid (∀ (A : Option Addr) (c : Nat) (W' : World), Row W' W'.heap.size A p.n (nd W p.n) → Calls Tryz.prog 105 #[.slice A (nd W p.n) c, .int .i64 (j : Nat)] W' (NumPost X W')) := Lib.hid fun A c W' h => by
      rw [hX]; exact Shl_c A c p.n j W'.heap.size W' (by omega) h (Nat.le_refl _)
    clear hX
    have L0 : ∀ W, TC w p.t q.t W → W.cell? ⟨w.heap.size, 0, none⟩ = some (.bool p.g) := fun W h => h.1.2.1.facts.2.1
    have L1 : ∀ W, TC w p.t q.t W → W.cell? ⟨w.heap.size, 1, none⟩ = some (.string (natS p.n)) := fun W h => h.1.2.1.facts.2.2.1
    have L2 : ∀ W, TC w p.t q.t W → W.cell? ⟨w.heap.size, 2, none⟩ = some (.int .i64 p.x) := fun W h => h.1.2.1.facts.2.2.2.1
    have L3 : ∀ W, TC w p.t q.t W → W.cell? ⟨w.heap.size + 1, 0, none⟩ = some (.bool q.g) := fun W h => h.1.2.2.facts.2.1
    have L4 : ∀ W, TC w p.t q.t W → W.cell? ⟨w.heap.size + 1, 1, none⟩ = some (.string (natS q.n)) := fun W h => h.1.2.2.facts.2.2.1
    have L5 : ∀ W, TC w p.t q.t W → W.cell? ⟨w.heap.size + 1, 2, none⟩ = some (.int .i64 q.x) := fun W h => h.1.2.2.facts.2.2.2.1
    go_wp2_with fail
    go_region_held3 (TC w p.t q.t) (first | assumption | exact TC.step (by assumption) (by assumption) | exact TC.drew (by assumption) | exact TC.drawn (by assumption) _)
      (first
        | (go_at_call 105; (refine (KS.out _ _ _ (by assumption)).mono ?_); rintro e wb hnp2; obtain ⟨A2, c2, rfl, hc2, hr2, hb8⟩ := hnp2.get)
        | (go_at_call 106; (with_reducible refine (KRp.out _).mono ?_); rintro e wa hnp1; obtain ⟨A1, c1, rfl, hc1, hr1, hb7⟩ := hnp1.get)
        | (go_at_call 106; (with_reducible refine (KRq.out _).mono ?_); rintro e wc hnp3; obtain ⟨A3, c3, rfl, hc3, hr3, hb9⟩ := hnp3.get))
    rename_i hHeld
    have hx2 := (hr2.below hb9).more hb9.size
    have HX2 := Lib.hid hx2
    have HY2 := Lib.hid hr3
    have T2 := hHeld
    clear hHeld T1 HT0 hr1 hr2 hr3 hx2 hc1 hc2 hc3 hnp1 hnp2 hnp3 hb7 hb8 hb9
    have KF : Hid (∀ (g : Bool) (N : Nat) (A : Option Addr) (c : Nat) (W' : World), nd W N ≤ 10000 → Row W' W'.heap.size A N (nd W N) → Bt.Tabs W' → Calls Tryz.prog 107 #[.bool g, .slice A (nd W N) c, .int .i64 q.x] W' (MkPost g N q.x W')) := Lib.hid fun g N A c W' h1 h2 h3 => DFit_c g N q.x A c W'.heap.size W' h1 (by have := HQ.out.2.2; omega) h2 (Nat.le_refl _) h3
    obtain ⟨p0, p1, p2, p3, p4, p5, p6⟩ := T2.1.2.1.facts
    obtain ⟨q0, q1, q2, q3, q4, q5, q6⟩ := T2.1.2.2.facts
    replace p1 : wc.cell? ⟨w.heap.size, 0, none⟩ = some (.bool p.g) := p1
    replace q1 : wc.cell? ⟨w.heap.size + 1, 0, none⟩ = some (.bool q.g) := q1
    replace HTB : Hid (∀ W, TD w p.t q.t W → Bt.Tabs W) := Lib.hid fun W h => tabs_of (HGG.out.below h.1.1 (Nat.le_refl _))
    clear L0 L1 L2 L3 L4 L5
    by_cases hg : p.g = q.g
    case' pos =>
      have HNW : Hid (nd W (X + q.n) ≤ 10000) := Lib.hid (Nat.le_trans (nd_addW (x := X) (y := q.n) (m := 4097) (by omega) (by omega)) (by omega))
      have HRES := Lib.hid (hi_same hg X HUP.out)
      go_wp2_with fail
      clear p0 p1 p2 p3 p4 p5 p6 q0 q1 q2 q3 q4 q5 q6
      have T3 : TD w p.t q.t wc.drew := T2.drew.td
      have KO := Lib.hid (Add_c A2 A3 c2 c3 X q.n _ wc.drew (by omega) (by omega) (HX2.out.drewN 1) (HY2.out.drewN 1) (Nat.le_refl _))
      have M0 : ∀ W, TD w p.t q.t W → W.cell? ⟨w.heap.size, 0, none⟩ = some (.bool p.g) := fun W h => h.1.2.1.facts.2.1
      have M3 : ∀ W, TD w p.t q.t W → W.cell? ⟨w.heap.size + 1, 0, none⟩ = some (.bool q.g) := fun W h => h.1.2.2.facts.2.1
      have M5 : ∀ W, TD w p.t q.t W → W.cell? ⟨w.heap.size + 1, 2, none⟩ = some (.int .i64 q.x) := fun W h => h.1.2.2.facts.2.2.2.1
      have M6 := fun W (h : TD w p.t q.t W) => h.cells.2.1
      have M7 := fun W (h : TD w p.t q.t W) => h.cells.2.2.1
      have M8 := fun W (h : TD w p.t q.t W) => h.cells.2.2.2.1
      have M9 := fun W (h : TD w p.t q.t W) => h.cells.2.2.2.2.1
      have M10 := fun W (h : TD w p.t q.t W) => h.cells.2.2.2.2.2.1
      have M11 := fun W (h : TD w p.t q.t W) => h.cells.2.2.2.2.2.2
      go_region_held3 (TD w p.t q.t) (first | assumption | exact TD.step (by assumption) (by assumption) | exact TD.put (by assumption) _ _ _ | exact TD.drew (by assumption) | exact TD.drawn (by assumption) _)
        (first
          | (go_at_call 108; (refine KO.out.mono ?_); rintro e wd hnp4; obtain ⟨A4, c4, rfl, hc4, hr4, hb10⟩ := hnp4.get)
          | (go_at_call 107; (refine (KF.out _ _ _ _ _ HNW.out (by assumption) (HTB.out _ (by assumption))).mono ?_); rintro e we ⟨rfl, hb11⟩; have HSV := Lib.hid (TD.step (a := p.t) (b := q.t) (w := w) (by assumption) hb11); unfold Dy.v))
      obtain ⟨r0, r1, r2, r3, r4, r5, r6⟩ := HSV.out.cells
      have hfin := below_put HSV.out.1.1 (show w.heap.size ≤ w.heap.size + 2 by omega)
      clear T3 M0 M3 M5 M6 M7 M8 M9 M10 M11
      go_wp2_with fail
      refine bodyPost_ret (v := .tuple #[(mkD q.g (X + q.n) q.x).v, .int .i64 (mkE (X + q.n) q.x)]) (by simp [results, Tryz.results73, go_sem, r0, r1, r2, r3, Dy.v]) rfl ⟨?_, ?_⟩
      · rw [HADD.out.1, HADD.out.2, HRES.out.1, HRES.out.2, hg]
      · exact hfin _ _ _
    case' neg =>
      have hgb : (p.g == q.g) = false := beq_eq_false_iff_ne.2 hg
      have KC := Lib.hid (Cmp_c A2 A3 c2 c3 X q.n _ wc (by omega) (by omega) HX2.out HY2.out)
      go_wp2_with fail
      refine KC.out.mono ?_
      rintro e w6 ⟨rfl, nn, rfl⟩
      clear p0 p1 p2 p3 p4 p5 p6 q0 q1 q2 q3 q4 q5 q6
      by_cases hl : X < q.n
      case' pos =>
        have hcn := cmp_neg hl
        have HRES := Lib.hid (hi_lt hg X HUP.out hl)
        have HNW : Hid (nd W (q.n - X) ≤ 10000) := Lib.hid (Nat.le_trans (nd_mono W2 (Nat.sub_le _ _)) (by omega))
        generalize cmpN X q.n = cc at *
        go_wp2_with fail
        have T3 : TD w p.t q.t (wc.drewN nn).drew := (T2.drawn nn).drew.td
        have KO := Lib.hid (Sub_c A3 A2 c3 c2 q.n X _ (wc.drewN nn).drew (Nat.le_of_lt hl) (by omega) (HY2.out.drewN (nn + 1)) (HX2.out.drewN (nn + 1)) (Nat.le_refl _))
        have M0 : ∀ W, TD w p.t q.t W → W.cell? ⟨w.heap.size, 0, none⟩ = some (.bool p.g) := fun W h => h.1.2.1.facts.2.1
        have M3 : ∀ W, TD w p.t q.t W → W.cell? ⟨w.heap.size + 1, 0, none⟩ = some (.bool q.g) := fun W h => h.1.2.2.facts.2.1
        have M5 : ∀ W, TD w p.t q.t W → W.cell? ⟨w.heap.size + 1, 2, none⟩ = some (.int .i64 q.x) := fun W h => h.1.2.2.facts.2.2.2.1
        have M6 := fun W (h : TD w p.t q.t W) => h.cells.2.1
        have M7 := fun W (h : TD w p.t q.t W) => h.cells.2.2.1
        have M8 := fun W (h : TD w p.t q.t W) => h.cells.2.2.2.1
        have M9 := fun W (h : TD w p.t q.t W) => h.cells.2.2.2.2.1
        have M10 := fun W (h : TD w p.t q.t W) => h.cells.2.2.2.2.2.1
        have M11 := fun W (h : TD w p.t q.t W) => h.cells.2.2.2.2.2.2
        go_region_held3 (TD w p.t q.t) (first | assumption | exact TD.step (by assumption) (by assumption) | exact TD.put (by assumption) _ _ _ | exact TD.drew (by assumption) | exact TD.drawn (by assumption) _)
          (first
            | (go_at_call 110; (refine KO.out.mono ?_); rintro e wd hnp4; obtain ⟨A4, c4, rfl, hc4, hr4, hb10⟩ := hnp4.get)
            | (go_at_call 107; (refine (KF.out _ _ _ _ _ HNW.out (by assumption) (HTB.out _ (by assumption))).mono ?_); rintro e we ⟨rfl, hb11⟩; have HSV := Lib.hid (TD.step (a := p.t) (b := q.t) (w := w) (by assumption) hb11); unfold Dy.v))
        obtain ⟨r0, r1, r2, r3, r4, r5, r6⟩ := HSV.out.cells
        have hfin := below_put HSV.out.1.1 (show w.heap.size ≤ w.heap.size + 2 by omega)
        clear T3 M0 M3 M5 M6 M7 M8 M9 M10 M11
        go_wp2_with fail
        refine bodyPost_ret (v := .tuple #[(mkD q.g (q.n - X) q.x).v, .int .i64 (mkE (q.n - X) q.x)]) (by simp [results, Tryz.results73, go_sem, r0, r1, r2, r3, Dy.v]) rfl ⟨?_, ?_⟩
        · rw [HADD.out.1, HADD.out.2, HRES.out.1, HRES.out.2]
        · exact hfin _ _ _
      case' neg =>
        have hcn := cmp_pos (Nat.le_of_not_lt hl)
        have HRES := Lib.hid (hi_ge hg X HUP.out hl)
        have HNW : Hid (nd W (X - q.n) ≤ 10000) := Lib.hid (Nat.le_trans (nd_mono W2 (Nat.sub_le _ _)) (by omega))
        generalize cmpN X q.n = cc at *
        go_wp2_with fail
        have T3 : TD w p.t q.t (wc.drewN nn).drew := (T2.drawn nn).drew.td
        have KO := Lib.hid (Sub_c A2 A3 c2 c3 X q.n _ (wc.drewN nn).drew (Nat.le_of_not_lt hl) (by omega) (HX2.out.drewN (nn + 1)) (HY2.out.drewN (nn + 1)) (Nat.le_refl _))
        have M0 : ∀ W, TD w p.t q.t W → W.cell? ⟨w.heap.size, 0, none⟩ = some (.bool p.g) := fun W h => h.1.2.1.facts.2.1
        have M3 : ∀ W, TD w p.t q.t W → W.cell? ⟨w.heap.size + 1, 0, none⟩ = some (.bool q.g) := fun W h => h.1.2.2.facts.2.1
        have M5 : ∀ W, TD w p.t q.t W → W.cell? ⟨w.heap.size + 1, 2, none⟩ = some (.int .i64 q.x) := fun W h => h.1.2.2.facts.2.2.2.1
        have M6 := fun W (h : TD w p.t q.t W) => h.cells.2.1
        have M7 := fun W (h : TD w p.t q.t W) => h.cells.2.2.1
        have M8 := fun W (h : TD w p.t q.t W) => h.cells.2.2.2.1
        have M9 := fun W (h : TD w p.t q.t W) => h.cells.2.2.2.2.1
        have M10 := fun W (h : TD w p.t q.t W) => h.cells.2.2.2.2.2.1
        have M11 := fun W (h : TD w p.t q.t W) => h.cells.2.2.2.2.2.2
        go_region_held3 (TD w p.t q.t) (first | assumption | exact TD.step (by assumption) (by assumption) | exact TD.put (by assumption) _ _ _ | exact TD.drew (by assumption) | exact TD.drawn (by assumption) _)
          (first
            | (go_at_call 110; (refine KO.out.mono ?_); rintro e wd hnp4; obtain ⟨A4, c4, rfl, hc4, hr4, hb10⟩ := hnp4.get)
            | (go_at_call 107; (refine (KF.out _ _ _ _ _ HNW.out (by assumption) (HTB.out _ (by assumption))).mono ?_); rintro e we ⟨rfl, hb11⟩; have HSV := Lib.hid (TD.step (a := p.t) (b := q.t) (w := w) (by assumption) hb11); unfold Dy.v))
        obtain ⟨r0, r1, r2, r3, r4, r5, r6⟩ := HSV.out.cells
        have hfin := below_put HSV.out.1.1 (show w.heap.size ≤ w.heap.size + 2 by omega)
        clear T3 M0 M3 M5 M6 M7 M8 M9 M10 M11
        go_wp2_with fail
        refine bodyPost_ret (v := .tuple #[(mkD p.g (X - q.n) q.x).v, .int .i64 (mkE (X - q.n) q.x)]) (by simp [results, Tryz.results73, go_sem, r0, r1, r2, r3, Dy.v]) rfl ⟨?_, ?_⟩
        · rw [HADD.out.1, HADD.out.2, HRES.out.1, HRES.out.2]
        · exact hfin _ _ _
end Go.Proofs.YtmjjodficjjehaaGreatDoor
namespace Go.Proofs.YtmjjodficjjehaaGreatDoor
open Go Go.RowKit Nt
set_option maxRecDepth 100000 in
set_option maxHeartbeats 2000000 in
theorem rAdd3_zl (b : Dy) (w : World) (g : Bool) (x : Int) :
    Calls Tryz.prog 91 #[.agg #[.bool g, .string ⟨#[]⟩, .int .i64 x], .agg #[.bool b.g, .string (natS b.n), .int .i64 b.x]] w fun e w' => e = .returned (.tuple #[.agg #[.bool b.g, .string (natS b.n), .int .i64 b.x], .int .i64 0]) ∧ Below w.heap.size w w' := by
  have T0 := TC.start w ⟨g, ⟨#[]⟩, x⟩ b.t
  unfold Dy.t at T0
  obtain ⟨r0, r1, r2, r3, r4, r5, r6⟩ := T0.2.facts
  go_enter Tryz.func91, Tryz.ntmps91
  go_wp2_with fail
  refine bodyPost_ret (v := .tuple #[.agg #[.bool b.g, .string (natS b.n), .int .i64 b.x], .int .i64 0]) (by simp [results, Tryz.results91, go_sem, r0, r1, r2, r3]) rfl ⟨rfl, ?_⟩
  repeat (refine Below.setCell ?_ (by simp; omega) _)
  first
    | exact T0.1.1
    | exact (((Below.refl _ _).alloc (Nat.le_refl _) _).alloc (by simp) _).alloc (by simp; omega) _
set_option maxRecDepth 100000 in
set_option maxHeartbeats 2000000 in
theorem rAdd3_zr (a : Dy) (w : World) (ha : a.n ≠ 0) (g : Bool) (x : Int) :
    Calls Tryz.prog 91 #[.agg #[.bool a.g, .string (natS a.n), .int .i64 a.x], .agg #[.bool g, .string ⟨#[]⟩, .int .i64 x]] w fun e w' => e = .returned (.tuple #[.agg #[.bool a.g, .string (natS a.n), .int .i64 a.x], .int .i64 0]) ∧ Below w.heap.size w w' := by
  have T0 := TC.start w a.t ⟨g, ⟨#[]⟩, x⟩
  unfold Dy.t at T0
  have hE := natS_full ha
  have hE2 := natS_full2 ha
  clear ha
  go_enter Tryz.func91, Tryz.ntmps91
  go_wp2_with fail
  refine bodyPost_ret (v := .tuple #[.agg #[.bool a.g, .string (natS a.n), .int .i64 a.x], .int .i64 0]) (by simp [results, Tryz.results91, go_sem]) rfl ⟨rfl, ?_⟩
  repeat (refine Below.setCell ?_ (by simp; omega) _)
  first
    | exact T0.1.1
    | exact (((Below.refl _ _).alloc (Nat.le_refl _) _).alloc (by simp) _).alloc (by simp; omega) _
theorem nd_add256 {x y m : Nat} (hx : nd 256 x ≤ m) (hy : nd 256 y ≤ m) : nd 256 (x + y) ≤ m + 1 := by
  refine nd_le (by omega) ?_
  have h1 := (lt_pow_iff (b := 256) (by omega) m x).2 hx
  have h2 := (lt_pow_iff (b := 256) (by omega) m y).2 hy
  rw [Nat.pow_succ]; omega
set_option maxRecDepth 100000 in
set_option maxHeartbeats 4000000 in
theorem rAdd3_ge (p q : Dy) (w : World) (hp : p.Num) (hq : q.Num) (hle : q.x ≤ p.x) :
    Calls Tryz.prog 91 #[.agg #[.bool p.g, .string (natS p.n), .int .i64 p.x], .agg #[.bool q.g, .string (natS q.n), .int .i64 q.x]] w fun e w' => e = .returned (.tuple #[(hiD p q).v, .int .i64 (hiE p q)]) ∧ Below w.heap.size w w' := by
  have T0 := TC.start w p.t q.t
  obtain ⟨j, hj⟩ : ∃ j, j = (p.x - q.x).toNat := ⟨_, rfl⟩
  have hpx := hp.2.2
  have hqx := hq.2.2
  have hjx : p.x - q.x = (j : Int) := by omega
  have hEp := natS_full (odd_ne hp.2.1)
  have hEp2 := natS_full2 (odd_ne hp.2.1)
  have hEq := natS_full (odd_ne hq.2.1)
  have hEq2 := natS_full2 (odd_ne hq.2.1)
  have HP := Lib.hid hp
  have HQ := Lib.hid hq
  have HJ := Lib.hid hj
  have hlt : ¬ p.x < q.x := by omega
  clear hp hq hj hle
  unfold Dy.t at T0
  obtain ⟨p0, p1, p2, p3, p4, p5, p6⟩ := T0.1.2.1.facts
  obtain ⟨q0, q1, q2, q3, q4, q5, q6⟩ := T0.1.2.2.facts
  obtain ⟨r0, r1, r2, r3, r4, r5, r6⟩ := T0.2.facts
  by_cases hlong : 131080 < j
  · have HL := Lib.hid (hi_long HP.out HQ.out (by omega))
    go_enter Tryz.func91, Tryz.ntmps91
    go_wp2_with fail
    refine bodyPost_ret (v := .tuple #[.agg #[.bool false, .string ⟨#[]⟩, .int .i64 0], .int .i64 4]) (by simp [results, Tryz.results91, go_sem, r0, r1, r2, r3]) rfl ⟨?_, ?_⟩
    · rw [HL.out.1, HL.out.2, Dy.zero_v]
    · repeat (refine Below.setCell ?_ (by simp; omega) _)
      first
        | exact T0.1.1
        | exact (((Below.refl _ _).alloc (Nat.le_refl _) _).alloc (by simp) _).alloc (by simp; omega) _
  · obtain ⟨X, hX⟩ : ∃ X, X = p.n * 2 ^ j := ⟨_, rfl⟩
    have HUP := Lib.hid (show upN p q = X by rw [upN_eq, ← HJ.out, hX])
    have hfp : nd 256 p.n ≤ 16384 := HP.out.1
    have hfq : nd 256 q.n ≤ 16384 := HQ.out.1
    have hXW : nd 256 X ≤ 40000 := by
      have h1 := nd_mul_pow (j := j) (odd_ne HP.out.2.1)
      rw [← hX] at h1
      have h2 := bits_131072' HP.out.1
      exact (bits_le X 40000).1 (by omega)
    have KRp := Lib.hid (fun w => rOf3_c p.n w (by omega))
    have KRq := Lib.hid (fun w => rOf3_c q.n w (by omega))
    have KS : Hid (∀ (B : Nat) (A : Option Addr) (c : Nat) (W' : World), Own W' B 3 .i64 (.slice A (nd 256 p.n) c) (dl 256 p.n (nd 256 p.n)) → Calls Tryz.prog 66 #[.slice A (nd 256 p.n) c, .int .i64 (j : Nat)] W' (BigP X W')) := Lib.hid fun B A c W' h => by
      rw [hX]; exact rShifted3_c p.n j B A c W' (by omega) (by omega) h
    clear hX
    have T1 : TC w p.t q.t _ := T0
    have L1 : ∀ W, TC w p.t q.t W → W.cell? ⟨w.heap.size, 1, none⟩ = some (.string (natS p.n)) := fun W h => h.1.2.1.facts.2.2.1
    have L4 : ∀ W, TC w p.t q.t W → W.cell? ⟨w.heap.size + 1, 1, none⟩ = some (.string (natS q.n)) := fun W h => h.1.2.2.facts.2.2.1
    go_enter Tryz.func91, Tryz.ntmps91
    go_wp2_with fail
    go_region_held3 (TC w p.t q.t) (first | assumption | exact TC.step (by assumption) (by assumption) | exact TC.drew (by assumption) | exact TC.drawn (by assumption) _)
      (first
        | (go_at_call 66; (refine (KS.out _ _ _ _ (by assumption)).mono ?_); rintro e wb ⟨A2, c2, rfl, hown2, hb8⟩)
        | (go_at_call 65; (with_reducible refine (KRp.out _).mono ?_); rintro e wa ⟨v1, rfl, hown1, hb7⟩; obtain ⟨A1, c1, rfl, hc1⟩ := hown1.len; rw [dl_length] at hown1 hc1 ⊢)
        | (go_at_call 65; (with_reducible refine (KRq.out _).mono ?_); rintro e wc ⟨v3, rfl, hown3, hb9⟩; obtain ⟨A3, c3, rfl, hc3⟩ := hown3.len; rw [dl_length] at hown3 hc3 ⊢))
    rename_i hHeld
    have HX2 := Lib.hid (hown2.whole hb9)
    have HY2 := Lib.hid hown3
    have T2 := hHeld
    clear hHeld T1 T0 hown1 hown2 hown3 hc1 hc3 hb7 hb8 hb9 L1 L4 p0 p1 p2 p3 p4 p5 p6 q0 q1 q2 q3 q4 q5 q6 r0 r1 r2 r3 r4 r5 r6
    have KF : Hid (∀ (g : Bool) (N : Nat) (B : Nat) (A : Option Addr) (c : Nat) (W' : World), nd 256 N ≤ 100000 → Own W' B 3 .i64 (.slice A (nd 256 N) c) (dl 256 N (nd 256 N)) → Calls Tryz.prog 98 #[.bool g, .slice A (nd 256 N) c, .int .i64 q.x] W' (MkPost g N q.x W')) := Lib.hid fun g N B A c W' h1 h2 => rFit3_c g N q.x B A c W' h1 (by have := HQ.out.2.2; omega) h2
    obtain ⟨p0, p1, p2, p3, p4, p5, p6⟩ := T2.1.2.1.facts
    obtain ⟨q0, q1, q2, q3, q4, q5, q6⟩ := T2.1.2.2.facts
    replace p1 : wc.cell? ⟨w.heap.size, 0, none⟩ = some (.bool p.g) := p1
    replace q1 : wc.cell? ⟨w.heap.size + 1, 0, none⟩ = some (.bool q.g) := q1
    by_cases hg : p.g = q.g
    · have HNW : Hid (nd 256 (X + q.n) ≤ 100000) := Lib.hid (Nat.le_trans (nd_add256 (x := X) (y := q.n) (m := 40000) (by omega) (by omega)) (by omega))
      have HRES := Lib.hid (hi_same hg X HUP.out)
      go_wp2_with fail
      clear p0 p1 p2 p3 p4 p5 p6 q0 q1 q2 q3 q4 q5 q6
      have T3 : TD w p.t q.t wc.drew := T2.drew.td
      have KO := Lib.hid (rPlus3_c X q.n _ _ A2 A3 c2 c3 wc.drew (by omega) (by omega) (HX2.out.drewN 1) (HY2.out.drewN 1))
      have M0 : ∀ W, TD w p.t q.t W → W.cell? ⟨w.heap.size, 0, none⟩ = some (.bool p.g) := fun W h => h.1.2.1.facts.2.1
      have M3 : ∀ W, TD w p.t q.t W → W.cell? ⟨w.heap.size + 1, 0, none⟩ = some (.bool q.g) := fun W h => h.1.2.2.facts.2.1
      have M5 : ∀ W, TD w p.t q.t W → W.cell? ⟨w.heap.size + 1, 2, none⟩ = some (.int .i64 q.x) := fun W h => h.1.2.2.facts.2.2.2.1
      have M6 := fun W (h : TD w p.t q.t W) => h.cells.2.1
      have M7 := fun W (h : TD w p.t q.t W) => h.cells.2.2.1
      have M8 := fun W (h : TD w p.t q.t W) => h.cells.2.2.2.1
      have M9 := fun W (h : TD w p.t q.t W) => h.cells.2.2.2.2.1
      have M10 := fun W (h : TD w p.t q.t W) => h.cells.2.2.2.2.2.1
      have M11 := fun W (h : TD w p.t q.t W) => h.cells.2.2.2.2.2.2
      go_region_held3 (TD w p.t q.t) (first | assumption | exact TD.step (by assumption) (by assumption) | exact TD.put (by assumption) _ _ _ | exact TD.drew (by assumption) | exact TD.drawn (by assumption) _)
        (first
          | (go_at_call 124; (refine KO.out.mono ?_); rintro e wd ⟨A4, c4, rfl, hown4, hb10⟩)
          | (go_at_call 98; (refine (KF.out _ _ _ _ _ _ HNW.out (by assumption)).mono ?_); rintro e we ⟨rfl, hb11⟩; have HSV := Lib.hid (TD.step (a := p.t) (b := q.t) (w := w) (by assumption) hb11); unfold Dy.v))
      obtain ⟨r0, r1, r2, r3, r4, r5, r6⟩ := HSV.out.cells
      have hfin := below_put HSV.out.1.1 (show w.heap.size ≤ w.heap.size + 2 by omega)
      clear T3 M0 M3 M5 M6 M7 M8 M9 M10 M11
      go_wp2_with fail
      refine bodyPost_ret (v := .tuple #[(mkD q.g (X + q.n) q.x).v, .int .i64 (mkE (X + q.n) q.x)]) (by simp [results, Tryz.results91, go_sem, r0, r1, r2, r3, Dy.v]) rfl ⟨?_, ?_⟩
      · rw [HRES.out.1, HRES.out.2, hg]
      · exact hfin _ _ _
    · have hgb : (p.g == q.g) = false := beq_eq_false_iff_ne.2 hg
      have KC := Lib.hid (rCmp3_c X q.n _ _ A2 A3 c2 c3 wc (by omega) (by omega) HX2.out HY2.out)
      go_wp2_with fail
      refine KC.out.mono ?_
      rintro e w6 ⟨rfl, nn, rfl⟩
      clear p0 p1 p2 p3 p4 p5 p6 q0 q1 q2 q3 q4 q5 q6
      by_cases hl : X < q.n
      · have hcn : ¬ (0 : Int) ≤ cmpN X q.n := by rw [cmpN_lt hl]; decide
        have HRES := Lib.hid (hi_lt hg X HUP.out hl)
        have HNW : Hid (nd 256 (q.n - X) ≤ 100000) := Lib.hid (Nat.le_trans (nd_mono (by omega) (Nat.sub_le _ _)) (by omega))
        generalize cmpN X q.n = cc at *
        go_wp2_with fail
        have T3 : TD w p.t q.t (wc.drewN nn).drew := (T2.drawn nn).drew.td
        have KO := Lib.hid (rMinus3_c q.n X _ _ A3 A2 c3 c2 (wc.drewN nn).drew (Nat.le_of_lt hl) (by omega) (HY2.out.drewN (nn + 1)) (HX2.out.drewN (nn + 1)))
        have M0 : ∀ W, TD w p.t q.t W → W.cell? ⟨w.heap.size, 0, none⟩ = some (.bool p.g) := fun W h => h.1.2.1.facts.2.1
        have M3 : ∀ W, TD w p.t q.t W → W.cell? ⟨w.heap.size + 1, 0, none⟩ = some (.bool q.g) := fun W h => h.1.2.2.facts.2.1
        have M5 : ∀ W, TD w p.t q.t W → W.cell? ⟨w.heap.size + 1, 2, none⟩ = some (.int .i64 q.x) := fun W h => h.1.2.2.facts.2.2.2.1
        have M6 := fun W (h : TD w p.t q.t W) => h.cells.2.1
        have M7 := fun W (h : TD w p.t q.t W) => h.cells.2.2.1
        have M8 := fun W (h : TD w p.t q.t W) => h.cells.2.2.2.1
        have M9 := fun W (h : TD w p.t q.t W) => h.cells.2.2.2.2.1
        have M10 := fun W (h : TD w p.t q.t W) => h.cells.2.2.2.2.2.1
        have M11 := fun W (h : TD w p.t q.t W) => h.cells.2.2.2.2.2.2
        go_region_held3 (TD w p.t q.t) (first | assumption | exact TD.step (by assumption) (by assumption) | exact TD.put (by assumption) _ _ _ | exact TD.drew (by assumption) | exact TD.drawn (by assumption) _)
          (first
            | (go_at_call 102; (refine KO.out.mono ?_); rintro e wd ⟨A4, c4, rfl, hown4, hb10⟩)
            | (go_at_call 98; (refine (KF.out _ _ _ _ _ _ HNW.out (by assumption)).mono ?_); rintro e we ⟨rfl, hb11⟩; have HSV := Lib.hid (TD.step (a := p.t) (b := q.t) (w := w) (by assumption) hb11); unfold Dy.v))
        obtain ⟨r0, r1, r2, r3, r4, r5, r6⟩ := HSV.out.cells
        have hfin := below_put HSV.out.1.1 (show w.heap.size ≤ w.heap.size + 2 by omega)
        clear T3 M0 M3 M5 M6 M7 M8 M9 M10 M11
        go_wp2_with fail
        refine bodyPost_ret (v := .tuple #[(mkD q.g (q.n - X) q.x).v, .int .i64 (mkE (q.n - X) q.x)]) (by simp [results, Tryz.results91, go_sem, r0, r1, r2, r3, Dy.v]) rfl ⟨?_, ?_⟩
        · rw [HRES.out.1, HRES.out.2]
        · exact hfin _ _ _
      · have hcn : (0 : Int) ≤ cmpN X q.n := by
          rcases Nat.eq_or_lt_of_le (Nat.le_of_not_lt hl) with h | h
          · rw [h, cmpN_eq]; decide
          · rw [cmpN_gt h]; decide
        have HRES := Lib.hid (hi_ge hg X HUP.out hl)
        have HNW : Hid (nd 256 (X - q.n) ≤ 100000) := Lib.hid (Nat.le_trans (nd_mono (by omega) (Nat.sub_le _ _)) (by omega))
        generalize cmpN X q.n = cc at *
        go_wp2_with fail
        have T3 : TD w p.t q.t (wc.drewN nn).drew := (T2.drawn nn).drew.td
        have KO := Lib.hid (rMinus3_c X q.n _ _ A2 A3 c2 c3 (wc.drewN nn).drew (Nat.le_of_not_lt hl) (by omega) (HX2.out.drewN (nn + 1)) (HY2.out.drewN (nn + 1)))
        have M0 : ∀ W, TD w p.t q.t W → W.cell? ⟨w.heap.size, 0, none⟩ = some (.bool p.g) := fun W h => h.1.2.1.facts.2.1
        have M3 : ∀ W, TD w p.t q.t W → W.cell? ⟨w.heap.size + 1, 0, none⟩ = some (.bool q.g) := fun W h => h.1.2.2.facts.2.1
        have M5 : ∀ W, TD w p.t q.t W → W.cell? ⟨w.heap.size + 1, 2, none⟩ = some (.int .i64 q.x) := fun W h => h.1.2.2.facts.2.2.2.1
        have M6 := fun W (h : TD w p.t q.t W) => h.cells.2.1
        have M7 := fun W (h : TD w p.t q.t W) => h.cells.2.2.1
        have M8 := fun W (h : TD w p.t q.t W) => h.cells.2.2.2.1
        have M9 := fun W (h : TD w p.t q.t W) => h.cells.2.2.2.2.1
        have M10 := fun W (h : TD w p.t q.t W) => h.cells.2.2.2.2.2.1
        have M11 := fun W (h : TD w p.t q.t W) => h.cells.2.2.2.2.2.2
        go_region_held3 (TD w p.t q.t) (first | assumption | exact TD.step (by assumption) (by assumption) | exact TD.put (by assumption) _ _ _ | exact TD.drew (by assumption) | exact TD.drawn (by assumption) _)
          (first
            | (go_at_call 102; (refine KO.out.mono ?_); rintro e wd ⟨A4, c4, rfl, hown4, hb10⟩)
            | (go_at_call 98; (refine (KF.out _ _ _ _ _ _ HNW.out (by assumption)).mono ?_); rintro e we ⟨rfl, hb11⟩; have HSV := Lib.hid (TD.step (a := p.t) (b := q.t) (w := w) (by assumption) hb11); unfold Dy.v))
        obtain ⟨r0, r1, r2, r3, r4, r5, r6⟩ := HSV.out.cells
        have hfin := below_put HSV.out.1.1 (show w.heap.size ≤ w.heap.size + 2 by omega)
        clear T3 M0 M3 M5 M6 M7 M8 M9 M10 M11
        go_wp2_with fail
        refine bodyPost_ret (v := .tuple #[(mkD p.g (X - q.n) q.x).v, .int .i64 (mkE (X - q.n) q.x)]) (by simp [results, Tryz.results91, go_sem, r0, r1, r2, r3, Dy.v]) rfl ⟨?_, ?_⟩
        · rw [HRES.out.1, HRES.out.2]
        · exact hfin _ _ _
end Go.Proofs.YtmjjodficjjehaaGreatDoor
namespace Go.Proofs.YtmjjodficjjehaaGreatDoor
open Go Go.RowKit Nt
def AddPost (a b : Dy) (w : World) (e : Ending) (w' : World) : Prop := e = .returned (.tuple #[(addD a b).v, .int .i64 (addE a b)]) ∧ Below w.heap.size w w'
theorem DAdd_c (a b : Dy) (w : World) (ha : a.Ok) (hb : b.Ok) (hG : Globs glT w) :
    Calls Tryz.prog 73 #[.agg #[.bool a.g, .string (natS a.n), .int .i64 a.x], .agg #[.bool b.g, .string (natS b.n), .int .i64 b.x]] w (AddPost a b w) := by
  unfold AddPost
  rcases ha with rfl | ha
  · rw [(add_zl (a := Dy.zero) (b := b) rfl).1, (add_zl (a := Dy.zero) (b := b) rfl).2]
    show Calls _ _ #[.agg #[.bool false, .string (natS 0), .int .i64 0], _] _ _
    rw [natS_zero]; exact DAdd_zl b w hb
  · rcases hb with rfl | hb
    · rw [(add_zr (a := a) (b := Dy.zero) (odd_ne ha.2.1) rfl).1, (add_zr (a := a) (b := Dy.zero) (odd_ne ha.2.1) rfl).2]
      show Calls _ _ #[_, .agg #[.bool false, .string (natS 0), .int .i64 0]] _ _
      rw [natS_zero]; exact DAdd_zr a w ha
    · exact DAdd_num a b w ha hb hG
set_option maxRecDepth 100000 in
set_option maxHeartbeats 2000000 in
theorem rAdd3_swap (a b : Dy) (w : World) (ha : a.Num) (hb : b.Num) (hlt : a.x < b.x) :
    Calls Tryz.prog 91 #[.agg #[.bool a.g, .string (natS a.n), .int .i64 a.x], .agg #[.bool b.g, .string (natS b.n), .int .i64 b.x]] w fun e w' => e = .returned (.tuple #[(hiD b a).v, .int .i64 (hiE b a)]) ∧ Below w.heap.size w w' := by
  have K := Lib.hid (fun w => rAdd3_ge b a w hb ha (by omega))
  have hEp := natS_full (odd_ne ha.2.1)
  have hEp2 := natS_full2 (odd_ne ha.2.1)
  have hEq := natS_full (odd_ne hb.2.1)
  have hEq2 := natS_full2 (odd_ne hb.2.1)
  have T0 := TC.start w a.t b.t
  unfold Dy.t at T0
  obtain ⟨p0, p1, p2, p3, p4, p5, p6⟩ := T0.1.2.1.facts
  obtain ⟨q0, q1, q2, q3, q4, q5, q6⟩ := T0.1.2.2.facts
  clear ha hb
  generalize hiD b a = D at *
  generalize hiE b a = E at *
  go_enter Tryz.func91, Tryz.ntmps91
  go_wp2_with fail
  refine (K.out _).mono ?_
  rintro e w1 ⟨rfl, hb⟩
  replace T0 := T0.step hb
  obtain ⟨r0, r1, r2, r3, r4, r5, r6⟩ := T0.2.facts
  unfold Dy.v
  clear hb p0 p1 p2 p3 p4 p5 p6 q0 q1 q2 q3 q4 q5 q6
  go_wp2_with fail
  refine bodyPost_ret (v := .tuple #[D.v, .int .i64 E]) (by simp [results, Tryz.results91, go_sem, r0, r1, r2, r3, Dy.v]) rfl ⟨rfl, ?_⟩
  exact T0.fin _ _ _
theorem rAdd3_c (a b : Dy) (w : World) (ha : a.Ok) (hb : b.Ok) :
    Calls Tryz.prog 91 #[.agg #[.bool a.g, .string (natS a.n), .int .i64 a.x], .agg #[.bool b.g, .string (natS b.n), .int .i64 b.x]] w (AddPost a b w) := by
  unfold AddPost
  rcases ha with rfl | ha
  · rw [(add_zl (a := Dy.zero) (b := b) rfl).1, (add_zl (a := Dy.zero) (b := b) rfl).2]
    show Calls _ _ #[.agg #[.bool false, .string (natS 0), .int .i64 0], _] _ _
    rw [natS_zero]; exact rAdd3_zl b w false 0
  · rcases hb with rfl | hb
    · rw [(add_zr (a := a) (b := Dy.zero) (odd_ne ha.2.1) rfl).1, (add_zr (a := a) (b := Dy.zero) (odd_ne ha.2.1) rfl).2]
      show Calls _ _ #[_, .agg #[.bool false, .string (natS 0), .int .i64 0]] _ _
      rw [natS_zero]; exact rAdd3_zr a w (odd_ne ha.2.1) false 0
    · by_cases h : a.x < b.x
      · rw [(add_lt (odd_ne ha.2.1) (odd_ne hb.2.1) h).1, (add_lt (odd_ne ha.2.1) (odd_ne hb.2.1) h).2]
        exact rAdd3_swap a b w ha hb h
      · rw [(add_ge (odd_ne ha.2.1) (odd_ne hb.2.1) h).1, (add_ge (odd_ne ha.2.1) (odd_ne hb.2.1) h).2]
        exact rAdd3_ge a b w ha hb (by omega)
def negD (d : Dy) : Dy := if d.n = 0 then d else ⟨!d.g, d.n, d.x⟩
theorem negD_zero : negD Dy.zero = Dy.zero := by unfold negD; exact if_pos rfl
theorem negD_num {d : Dy} (h : d.n ≠ 0) : negD d = ⟨!d.g, d.n, d.x⟩ := by unfold negD; exact if_neg h
theorem negD_Ok {d : Dy} (h : d.Ok) : (negD d).Ok := by
  rcases h with rfl | h
  · rw [negD_zero]; exact Or.inl rfl
  · rw [negD_num (odd_ne h.2.1)]; exact Or.inr h
theorem DNeg_c (d : Dy) (w : World) (h : d.Ok) : Calls Tryz.prog 56 #[.agg #[.bool d.g, .string (natS d.n), .int .i64 d.x]] w fun e w' => e = .returned ((negD d).v) ∧ Below w.heap.size w w' := by
  rcases h with rfl | h
  · rw [negD_zero, Dy.zero_v]
    show Calls _ _ #[.agg #[.bool false, .string (natS 0), .int .i64 0]] _ _
    rw [natS_zero]; exact DNeg_zero w
  · rw [negD_num (odd_ne h.2.1)]
    exact DNeg_num d.g d.n d.x w h.1 h.2.1 h.2.2.1 h.2.2.2
theorem rNegD3_c (d : Dy) (w : World) (h : d.Ok) : Calls Tryz.prog 95 #[.agg #[.bool d.g, .string (natS d.n), .int .i64 d.x]] w fun e w' => e = .returned ((negD d).v) ∧ Below w.heap.size w w' := by
  rcases h with rfl | h
  · rw [negD_zero, Dy.zero_v]
    show Calls _ _ #[.agg #[.bool false, .string (natS 0), .int .i64 0]] _ _
    rw [natS_zero]; exact rNeg3_zero w
  · rw [negD_num (odd_ne h.2.1)]
    exact rNeg3_num d.g d.n d.x w (odd_ne h.2.1)
end Go.Proofs.YtmjjodficjjehaaGreatDoor
namespace Go.Proofs.YtmjjodficjjehaaGreatDoor
open Go Go.RowKit Nt
set_option maxRecDepth 100000 in
set_option maxHeartbeats 2000000 in
theorem DSub_c (a b : Dy) (w : World) (ha : a.Ok) (hb : b.Ok) (hG : Globs glT w) :
    Calls Tryz.prog 81 #[.agg #[.bool a.g, .string (natS a.n), .int .i64 a.x], .agg #[.bool b.g, .string (natS b.n), .int .i64 b.x]] w (AddPost a (negD b) w) := by
  have KA := Lib.hid (fun W T A hA => all_ok2 a b ha hb W T A hA)
  have T0 := TC.start w a.t b.t
  have KN := Lib.hid (fun w => DNeg_c b w hb)
  have KD := Lib.hid (fun w hG => DAdd_c a (negD b) w ha (negD_Ok hb) hG)
  have HG := Lib.hid (fun W (h : TD w a.t b.t W) => hG.below h.1.1 (Nat.le_refl _))
  clear hG
  clear ha hb
  unfold AddPost at KD ⊢
  generalize addD a (negD b) = D at *
  generalize addE a (negD b) = E at *
  generalize negD b = c at *
  unfold Dy.t at T0
  go_enter Tryz.func81, Tryz.ntmps81
  go_wp2_with fail
  refine (KA.out _ _ _ (by simp)).mono ?_
  rintro e w1 ⟨rfl, hb⟩
  replace T0 := (T0.more _).step hb
  clear hb
  have T1 : TD w a.t b.t w1 := T0.td
  clear T0
  go_wp2_with fail
  have M0 : ∀ W, TD w a.t b.t W → W.cell? ⟨w.heap.size, 0, none⟩ = some (.bool a.g) := fun W h => h.1.2.1.facts.2.1
  have M1 : ∀ W, TD w a.t b.t W → W.cell? ⟨w.heap.size, 1, none⟩ = some (.string (natS a.n)) := fun W h => h.1.2.1.facts.2.2.1
  have M2 : ∀ W, TD w a.t b.t W → W.cell? ⟨w.heap.size, 2, none⟩ = some (.int .i64 a.x) := fun W h => h.1.2.1.facts.2.2.2.1
  have M3 : ∀ W, TD w a.t b.t W → W.cell? ⟨w.heap.size + 1, 0, none⟩ = some (.bool b.g) := fun W h => h.1.2.2.facts.2.1
  have M4 : ∀ W, TD w a.t b.t W → W.cell? ⟨w.heap.size + 1, 1, none⟩ = some (.string (natS b.n)) := fun W h => h.1.2.2.facts.2.2.1
  have M5 : ∀ W, TD w a.t b.t W → W.cell? ⟨w.heap.size + 1, 2, none⟩ = some (.int .i64 b.x) := fun W h => h.1.2.2.facts.2.2.2.1
  have M6 := fun W (h : TD w a.t b.t W) => h.cells.2.1
  have M7 := fun W (h : TD w a.t b.t W) => h.cells.2.2.1
  have M8 := fun W (h : TD w a.t b.t W) => h.cells.2.2.2.1
  have M9 := fun W (h : TD w a.t b.t W) => h.cells.2.2.2.2.1
  have M10 := fun W (h : TD w a.t b.t W) => h.cells.2.2.2.2.2.1
  have M11 := fun W (h : TD w a.t b.t W) => h.cells.2.2.2.2.2.2
  go_region_held3 (TD w a.t b.t) (first | assumption | exact TD.step (by assumption) (by assumption) | exact TD.put (by assumption) _ _ _ | exact TD.drew (by assumption) | exact TD.drawn (by assumption) _)
    (first
      | (go_at_call 56; (refine (KN.out _).mono ?_); rintro e wd ⟨rfl, hb10⟩; unfold Dy.v)
      | (go_at_call 73; (refine (KD.out _ (HG.out _ (by assumption))).mono ?_); rintro e we ⟨rfl, hb11⟩; have HSV := Lib.hid (TD.step (a := a.t) (b := b.t) (w := w) (by assumption) hb11); unfold Dy.v))
  obtain ⟨r0, r1, r2, r3, r4, r5, r6⟩ := HSV.out.cells
  have hfin := below_put HSV.out.1.1 (show w.heap.size ≤ w.heap.size + 2 by omega)
  clear M0 M1 M2 M3 M4 M5 M6 M7 M8 M9 M10 M11
  go_wp2_with fail
  refine bodyPost_ret (v := .tuple #[D.v, .int .i64 E]) (by simp [results, Tryz.results81, go_sem, r0, r1, r2, r3, Dy.v]) rfl ⟨rfl, ?_⟩
  exact hfin _ _ _
end Go.Proofs.YtmjjodficjjehaaGreatDoor
namespace Go.Proofs.YtmjjodficjjehaaGreatDoor
open Go Go.RowKit Nt
@[irreducible] def mulD (a b : Dy) : Dy := mkD (a.g != b.g) (a.n * b.n) (a.x + b.x)
@[irreducible] def mulE (a b : Dy) : Int := mkE (a.n * b.n) (a.x + b.x)
theorem mulD_eq (a b : Dy) : mulD a b = mkD (a.g != b.g) (a.n * b.n) (a.x + b.x) := by unfold mulD; rfl
theorem mulE_eq (a b : Dy) : mulE a b = mkE (a.n * b.n) (a.x + b.x) := by unfold mulE; rfl
theorem mul_z {a b : Dy} (h : a.n = 0 ∨ b.n = 0) : mulD a b = Dy.zero ∧ mulE a b = 0 := by
  have e : a.n * b.n = 0 := by rcases h with h | h <;> rw [h] <;> simp
  rw [mulD_eq, mulE_eq, e, mkD_zero, mkE_zero]; exact ⟨rfl, rfl⟩
theorem mulD_Ok (a b : Dy) : (mulD a b).Ok := by rw [mulD_eq]; exact mkD_Ok _ _ _
def MulPost (a b : Dy) (w : World) (e : Ending) (w' : World) : Prop := e = .returned (.tuple #[(mulD a b).v, .int .i64 (mulE a b)]) ∧ Below w.heap.size w w'
set_option maxRecDepth 100000 in
set_option maxHeartbeats 2000000 in
theorem DMul_zl (b : Dy) (w : World) (hb : b.Ok) :
    Calls Tryz.prog 82 #[.agg #[.bool false, .string ⟨#[]⟩, .int .i64 0], .agg #[.bool b.g, .string (natS b.n), .int .i64 b.x]] w fun e w' => e = .returned (.tuple #[.agg #[.bool false, .string ⟨#[]⟩, .int .i64 0], .int .i64 0]) ∧ Below w.heap.size w w' := by
  have KA := Lib.hid (fun W T A hA => all_ok2 Dy.zero b (Or.inl rfl) hb W T A hA)
  simp only [Dy.zero, natS_zero] at KA
  have T0 := TC.start w ⟨false, ⟨#[]⟩, 0⟩ b.t
  unfold Dy.t at T0
  go_enter Tryz.func82, Tryz.ntmps82
  go_wp2_with fail
  refine (KA.out _ _ _ (by simp)).mono ?_
  rintro e w1 ⟨rfl, hb⟩
  replace T0 := (T0.more _).step hb
  clear hb
  obtain ⟨p0, p1, p2, p3, p4, p5, p6⟩ := T0.1.2.1.facts
  obtain ⟨q0, q1, q2, q3, q4, q5, q6⟩ := T0.1.2.2.facts
  obtain ⟨r0, r1, r2, r3, r4, r5, r6⟩ := T0.2.facts
  go_wp2_with fail
  refine bodyPost_ret (v := .tuple #[.agg #[.bool false, .string ⟨#[]⟩, .int .i64 0], .int .i64 0]) (by simp [results, Tryz.results82, go_sem, r0, r1, r2, r3]) rfl ⟨rfl, ?_⟩
  repeat (refine Below.setCell ?_ (by simp; omega) _)
  first
    | exact T0.1.1
    | exact (((Below.refl _ _).alloc (Nat.le_refl _) _).alloc (by simp) _).alloc (by simp; omega) _
set_option maxRecDepth 100000 in
set_option maxHeartbeats 2000000 in
theorem DMul_zr (a : Dy) (w : World) (ha : a.Num) :
    Calls Tryz.prog 82 #[.agg #[.bool a.g, .string (natS a.n), .int .i64 a.x], .agg #[.bool false, .string ⟨#[]⟩, .int .i64 0]] w fun e w' => e = .returned (.tuple #[.agg #[.bool false, .string ⟨#[]⟩, .int .i64 0], .int .i64 0]) ∧ Below w.heap.size w w' := by
  have KA := Lib.hid (fun W T A hA => all_ok2 a Dy.zero (Or.inr ha) (Or.inl rfl) W T A hA)
  simp only [Dy.zero, natS_zero] at KA
  have T0 := TC.start w a.t ⟨false, ⟨#[]⟩, 0⟩
  unfold Dy.t at T0
  have hE := natS_full (odd_ne ha.2.1)
  have hE2 := natS_full2 (odd_ne ha.2.1)
  clear ha
  go_enter Tryz.func82, Tryz.ntmps82
  go_wp2_with fail
  refine (KA.out _ _ _ (by simp)).mono ?_
  rintro e w1 ⟨rfl, hb⟩
  replace T0 := (T0.more _).step hb
  clear hb
  obtain ⟨p0, p1, p2, p3, p4, p5, p6⟩ := T0.1.2.1.facts
  obtain ⟨q0, q1, q2, q3, q4, q5, q6⟩ := T0.1.2.2.facts
  obtain ⟨r0, r1, r2, r3, r4, r5, r6⟩ := T0.2.facts
  go_wp2_with fail
  refine bodyPost_ret (v := .tuple #[.agg #[.bool false, .string ⟨#[]⟩, .int .i64 0], .int .i64 0]) (by simp [results, Tryz.results82, go_sem, r0, r1, r2, r3]) rfl ⟨rfl, ?_⟩
  repeat (refine Below.setCell ?_ (by simp; omega) _)
  first
    | exact T0.1.1
    | exact (((Below.refl _ _).alloc (Nat.le_refl _) _).alloc (by simp) _).alloc (by simp; omega) _
set_option maxRecDepth 100000 in
set_option maxHeartbeats 2000000 in
theorem rMul3_zl (b : Dy) (w : World) :
    Calls Tryz.prog 68 #[.agg #[.bool false, .string ⟨#[]⟩, .int .i64 0], .agg #[.bool b.g, .string (natS b.n), .int .i64 b.x]] w fun e w' => e = .returned (.tuple #[.agg #[.bool false, .string ⟨#[]⟩, .int .i64 0], .int .i64 0]) ∧ Below w.heap.size w w' := by
  have T0 := TC.start w ⟨false, ⟨#[]⟩, 0⟩ b.t
  unfold Dy.t at T0
  go_enter Tryz.func68, Tryz.ntmps68
  go_wp2_with fail
  refine bodyPost_ret (v := .tuple #[.agg #[.bool false, .string ⟨#[]⟩, .int .i64 0], .int .i64 0]) (by simp [results, Tryz.results68, go_sem]) rfl ⟨rfl, ?_⟩
  repeat (refine Below.setCell ?_ (by simp; omega) _)
  first
    | exact T0.1.1
    | exact (((Below.refl _ _).alloc (Nat.le_refl _) _).alloc (by simp) _).alloc (by simp; omega) _
set_option maxRecDepth 100000 in
set_option maxHeartbeats 2000000 in
theorem rMul3_zr (a : Dy) (w : World) (ha : a.Num) :
    Calls Tryz.prog 68 #[.agg #[.bool a.g, .string (natS a.n), .int .i64 a.x], .agg #[.bool false, .string ⟨#[]⟩, .int .i64 0]] w fun e w' => e = .returned (.tuple #[.agg #[.bool false, .string ⟨#[]⟩, .int .i64 0], .int .i64 0]) ∧ Below w.heap.size w w' := by
  have T0 := TC.start w a.t ⟨false, ⟨#[]⟩, 0⟩
  unfold Dy.t at T0
  have hE := natS_full (odd_ne ha.2.1)
  have hE2 := natS_full2 (odd_ne ha.2.1)
  clear ha
  go_enter Tryz.func68, Tryz.ntmps68
  go_wp2_with fail
  refine bodyPost_ret (v := .tuple #[.agg #[.bool false, .string ⟨#[]⟩, .int .i64 0], .int .i64 0]) (by simp [results, Tryz.results68, go_sem]) rfl ⟨rfl, ?_⟩
  repeat (refine Below.setCell ?_ (by simp; omega) _)
  first
    | exact T0.1.1
    | exact (((Below.refl _ _).alloc (Nat.le_refl _) _).alloc (by simp) _).alloc (by simp; omega) _
set_option maxRecDepth 100000 in
set_option maxHeartbeats 2000000 in
theorem DMul_num (a b : Dy) (w : World) (ha : a.Num) (hb : b.Num) :
    Calls Tryz.prog 82 #[.agg #[.bool a.g, .string (natS a.n), .int .i64 a.x], .agg #[.bool b.g, .string (natS b.n), .int .i64 b.x]] w (MulPost a b w) := by
  have KA := Lib.hid (fun W T A hA => all_ok2 a b (Or.inr ha) (Or.inr hb) W T A hA)
  have T0 := TC.start w a.t b.t
  unfold Dy.t at T0
  have KM := Lib.hid (fun w => NMul_c a.n b.n w ha.1 hb.1)
  have hEp := natS_full (odd_ne ha.2.1)
  have hEp2 := natS_full2 (odd_ne ha.2.1)
  have hEq := natS_full (odd_ne hb.2.1)
  have hEq2 := natS_full2 (odd_ne hb.2.1)
  have hxa := ha.2.2
  have hxb := hb.2.2
  have hodd : (a.n * b.n) % 2 = 1 := by rw [Nat.mul_mod, ha.2.1, hb.2.1]
  unfold MulPost
  by_cases hf : fits (a.n * b.n)
  · rw [resS_ok hf, resE_ok hf] at KM
    have KK : Hid (∀ w, Calls Tryz.prog 122 #[.bool (a.g != b.g), .string (natS (a.n * b.n)), .int .i64 (a.x + b.x)] w fun e w' => e = .returned (.tuple #[(mulD a b).v, .int .i64 (mulE a b)]) ∧ Below w.heap.size w w') := Lib.hid fun w => by
      have := DMake_c (a.g != b.g) (a.n * b.n) (a.x + b.x) w hf (by omega)
      unfold MkPost at this
      rw [← mulD_eq, ← mulE_eq] at this
      exact this
    clear ha hb hf hodd
    generalize mulD a b = D at *
    generalize mulE a b = E at *
    generalize a.n * b.n = z at *
    go_enter Tryz.func82, Tryz.ntmps82
    go_wp2_with fail
    refine (KA.out _ _ _ (by simp)).mono ?_
    rintro e w1 ⟨rfl, hb⟩
    replace T0 := (T0.more _).step hb
    clear hb
    obtain ⟨p0, p1, p2, p3, p4, p5, p6⟩ := T0.1.2.1.facts
    obtain ⟨q0, q1, q2, q3, q4, q5, q6⟩ := T0.1.2.2.facts
    go_wp2_with fail
    refine (KM.out _).mono ?_
    rintro e w2 ⟨rfl, hb⟩
    replace T0 := T0.step hb
    clear hb p0 p1 p2 p3 p4 p5 p6 q0 q1 q2 q3 q4 q5 q6
    obtain ⟨p0, p1, p2, p3, p4, p5, p6⟩ := T0.1.2.1.facts
    obtain ⟨q0, q1, q2, q3, q4, q5, q6⟩ := T0.1.2.2.facts
    go_wp2_with fail
    refine (KK.out _).mono ?_
    rintro e w3 ⟨rfl, hb⟩
    replace T0 := T0.step hb
    obtain ⟨r0, r1, r2, r3, r4, r5, r6⟩ := T0.2.facts
    clear hb p0 p1 p2 p3 p4 p5 p6 q0 q1 q2 q3 q4 q5 q6
    unfold Dy.v
    go_wp2_with fail
    refine bodyPost_ret (v := .tuple #[D.v, .int .i64 E]) (by simp [results, Tryz.results82, go_sem, r0, r1, r2, r3, Dy.v]) rfl ⟨rfl, ?_⟩
    exact T0.fin _ _ _
  · rw [resS_no hf, resE_no hf] at KM
    have hno : ¬ mkOk3 (a.n * b.n) (a.x + b.x) := by
      rintro (h | ⟨h, _⟩)
      · exact odd_ne hodd h
      · rw [odN_odd hodd] at h; exact hf h
    have HR := Lib.hid (show mulD a b = Dy.zero ∧ mulE a b = 4 from ⟨by rw [mulD_eq, mkD_no hno], by rw [mulE_eq, mkE_no hno]⟩)
    clear ha hb hf hodd hno
    go_enter Tryz.func82, Tryz.ntmps82
    go_wp2_with fail
    refine (KA.out _ _ _ (by simp)).mono ?_
    rintro e w1 ⟨rfl, hb⟩
    replace T0 := (T0.more _).step hb
    clear hb
    obtain ⟨p0, p1, p2, p3, p4, p5, p6⟩ := T0.1.2.1.facts
    obtain ⟨q0, q1, q2, q3, q4, q5, q6⟩ := T0.1.2.2.facts
    go_wp2_with fail
    refine (KM.out _).mono ?_
    rintro e w2 ⟨rfl, hb⟩
    replace T0 := T0.step hb
    obtain ⟨r0, r1, r2, r3, r4, r5, r6⟩ := T0.2.facts
    clear hb p0 p1 p2 p3 p4 p5 p6 q0 q1 q2 q3 q4 q5 q6
    go_wp2_with fail
    refine bodyPost_ret (v := .tuple #[.agg #[.bool false, .string ⟨#[]⟩, .int .i64 0], .int .i64 4]) (by simp [results, Tryz.results82, go_sem, r0, r1, r2, r3]) rfl ⟨?_, ?_⟩
    · rw [HR.out.1, HR.out.2, Dy.zero_v]
    · exact T0.fin _ _ _
set_option maxRecDepth 100000 in
set_option maxHeartbeats 2000000 in
theorem rMul3_num (a b : Dy) (w : World) (ha : a.Num) (hb : b.Num) :
    Calls Tryz.prog 68 #[.agg #[.bool a.g, .string (natS a.n), .int .i64 a.x], .agg #[.bool b.g, .string (natS b.n), .int .i64 b.x]] w (MulPost a b w) := by
  have T0 := TC.start w a.t b.t
  have hEp := natS_full (odd_ne ha.2.1)
  have hEp2 := natS_full2 (odd_ne ha.2.1)
  have hEq := natS_full (odd_ne hb.2.1)
  have hEq2 := natS_full2 (odd_ne hb.2.1)
  have hxa := ha.2.2
  have hxb := hb.2.2
  have hfa : nd 256 a.n ≤ 16384 := ha.1
  have hfb : nd 256 b.n ≤ 16384 := hb.1
  have KRp := Lib.hid (fun w => rOf3_c a.n w (by omega))
  have KRq := Lib.hid (fun w => rOf3_c b.n w (by omega))
  have KT : Hid (∀ (B B' : Nat) (A A' : Option Addr) (c c' : Nat) (W' : World), Own W' B 3 .i64 (.slice A (nd 256 a.n) c) (dl 256 a.n (nd 256 a.n)) → Own W' B' 3 .i64 (.slice A' (nd 256 b.n) c') (dl 256 b.n (nd 256 b.n)) → Calls Tryz.prog 99 #[.slice A (nd 256 a.n) c, .slice A' (nd 256 b.n) c'] W' (BigP (a.n * b.n) W')) := Lib.hid fun B B' A A' c c' W' h h' => rTimes3_c a.n b.n B B' A A' c c' W' (by omega) (by omega) h h'
  have KF : Hid (∀ (B : Nat) (A : Option Addr) (c : Nat) (W' : World), Own W' B 3 .i64 (.slice A (nd 256 (a.n * b.n)) c) (dl 256 (a.n * b.n) (nd 256 (a.n * b.n))) → Calls Tryz.prog 98 #[.bool (a.g != b.g), .slice A (nd 256 (a.n * b.n)) c, .int .i64 (a.x + b.x)] W' fun e w' => e = .returned (.tuple #[(mulD a b).v, .int .i64 (mulE a b)]) ∧ Below W'.heap.size W' w') := Lib.hid fun B A c W' h => by
    have h1 := nd_mul3 a.n b.n
    have := rFit3_c (a.g != b.g) (a.n * b.n) (a.x + b.x) B A c W' (by omega) (by omega) h
    unfold MkPost at this
    rw [← mulD_eq, ← mulE_eq] at this
    exact this
  clear ha hb
  unfold MulPost
  generalize mulD a b = D at *
  generalize mulE a b = E at *
  generalize a.n * b.n = z at *
  have T1 : TD w a.t b.t _ := T0.td
  clear T0
  unfold Dy.t at T1
  have M0 : ∀ W, TD w a.t b.t W → W.cell? ⟨w.heap.size, 0, none⟩ = some (.bool a.g) := fun W h => h.1.2.1.facts.2.1
  have M1 : ∀ W, TD w a.t b.t W → W.cell? ⟨w.heap.size, 1, none⟩ = some (.string (natS a.n)) := fun W h => h.1.2.1.facts.2.2.1
  have M2 : ∀ W, TD w a.t b.t W → W.cell? ⟨w.heap.size, 2, none⟩ = some (.int .i64 a.x) := fun W h => h.1.2.1.facts.2.2.2.1
  have M3 : ∀ W, TD w a.t b.t W → W.cell? ⟨w.heap.size + 1, 0, none⟩ = some (.bool b.g) := fun W h => h.1.2.2.facts.2.1
  have M4 : ∀ W, TD w a.t b.t W → W.cell? ⟨w.heap.size + 1, 1, none⟩ = some (.string (natS b.n)) := fun W h => h.1.2.2.facts.2.2.1
  have M5 : ∀ W, TD w a.t b.t W → W.cell? ⟨w.heap.size + 1, 2, none⟩ = some (.int .i64 b.x) := fun W h => h.1.2.2.facts.2.2.2.1
  have M6 := fun W (h : TD w a.t b.t W) => h.cells.2.1
  have M7 := fun W (h : TD w a.t b.t W) => h.cells.2.2.1
  have M8 := fun W (h : TD w a.t b.t W) => h.cells.2.2.2.1
  have M9 := fun W (h : TD w a.t b.t W) => h.cells.2.2.2.2.1
  have M10 := fun W (h : TD w a.t b.t W) => h.cells.2.2.2.2.2.1
  have M11 := fun W (h : TD w a.t b.t W) => h.cells.2.2.2.2.2.2
  have hw1 : IntKind.i64.wrap (a.x + b.x) = a.x + b.x := IntWalk.i64_in _ (by omega)
  go_enter Tryz.func68, Tryz.ntmps68
  go_wp2_with fail
  go_region_held3 (TD w a.t b.t) (first | assumption | exact TD.step (by assumption) (by assumption) | exact TD.put (by assumption) _ _ _ | exact TD.drew (by assumption) | exact TD.drawn (by assumption) _)
    (first
      | (go_at_call 99; (refine (KT.out _ _ _ _ _ _ _ (Own.whole (by assumption) hb9) hown3).mono ?_); rintro e wd ⟨A4, c4, rfl, hown4, hb10⟩)
      | (go_at_call 98; (refine (KF.out _ _ _ _ (by assumption)).mono ?_); rintro e we ⟨rfl, hb11⟩; have HSV := Lib.hid (TD.step (a := a.t) (b := b.t) (w := w) (by assumption) hb11); unfold Dy.v)
      | (go_at_call 65; (with_reducible refine (KRp.out _).mono ?_); rintro e wa ⟨v1, rfl, hown1, hb7⟩; obtain ⟨A1, c1, rfl, hc1⟩ := hown1.len; rw [dl_length] at hown1 hc1 ⊢)
      | (go_at_call 65; (with_reducible refine (KRq.out _).mono ?_); rintro e wc ⟨v3, rfl, hown3, hb9⟩; obtain ⟨A3, c3, rfl, hc3⟩ := hown3.len; rw [dl_length] at hown3 hc3 ⊢))
  obtain ⟨r0, r1, r2, r3, r4, r5, r6⟩ := HSV.out.cells
  have hfin := below_put HSV.out.1.1 (show w.heap.size ≤ w.heap.size + 2 by omega)
  clear M0 M1 M2 M3 M4 M5 M6 M7 M8 M9 M10 M11
  go_wp2_with fail
  refine bodyPost_ret (v := .tuple #[D.v, .int .i64 E]) (by simp [results, Tryz.results68, go_sem, r0, r1, r2, r3, Dy.v]) rfl ⟨rfl, ?_⟩
  exact hfin _ _ _
theorem DMul_c (a b : Dy) (w : World) (ha : a.Ok) (hb : b.Ok) :
    Calls Tryz.prog 82 #[.agg #[.bool a.g, .string (natS a.n), .int .i64 a.x], .agg #[.bool b.g, .string (natS b.n), .int .i64 b.x]] w (MulPost a b w) := by
  rcases ha with rfl | ha
  · unfold MulPost
    rw [(mul_z (a := Dy.zero) (b := b) (Or.inl rfl)).1, (mul_z (a := Dy.zero) (b := b) (Or.inl rfl)).2, Dy.zero_v]
    show Calls _ _ #[.agg #[.bool false, .string (natS 0), .int .i64 0], _] _ _
    rw [natS_zero]; exact DMul_zl b w hb
  · rcases hb with rfl | hb
    · unfold MulPost
      rw [(mul_z (a := a) (b := Dy.zero) (Or.inr rfl)).1, (mul_z (a := a) (b := Dy.zero) (Or.inr rfl)).2, Dy.zero_v]
      show Calls _ _ #[_, .agg #[.bool false, .string (natS 0), .int .i64 0]] _ _
      rw [natS_zero]; exact DMul_zr a w ha
    · exact DMul_num a b w ha hb
theorem rMul3_c (a b : Dy) (w : World) (ha : a.Ok) (hb : b.Ok) :
    Calls Tryz.prog 68 #[.agg #[.bool a.g, .string (natS a.n), .int .i64 a.x], .agg #[.bool b.g, .string (natS b.n), .int .i64 b.x]] w (MulPost a b w) := by
  rcases ha with rfl | ha
  · unfold MulPost
    rw [(mul_z (a := Dy.zero) (b := b) (Or.inl rfl)).1, (mul_z (a := Dy.zero) (b := b) (Or.inl rfl)).2, Dy.zero_v]
    show Calls _ _ #[.agg #[.bool false, .string (natS 0), .int .i64 0], _] _ _
    rw [natS_zero]; exact rMul3_zl b w
  · rcases hb with rfl | hb
    · unfold MulPost
      rw [(mul_z (a := a) (b := Dy.zero) (Or.inr rfl)).1, (mul_z (a := a) (b := Dy.zero) (Or.inr rfl)).2, Dy.zero_v]
      show Calls _ _ #[_, .agg #[.bool false, .string (natS 0), .int .i64 0]] _ _
      rw [natS_zero]; exact rMul3_zr a w ha
    · exact rMul3_num a b w ha hb
end Go.Proofs.YtmjjodficjjehaaGreatDoor
namespace Go.Proofs.YtmjjodficjjehaaGreatDoor
open Go Go.RowKit Nt
end Go.Proofs.YtmjjodficjjehaaGreatDoor
namespace Go.Proofs.YtmjjodficjjehaaGreatDoor
open Go Go.RowKit Nt
def OC (w : World) (a : Dt) (W : World) : Prop := OB w a W ∧ Box3 W (w.heap.size + 1) (.bool false) (.string ⟨#[]⟩) (.int .i64 0)
theorem OC.start (w : World) (a : Dt) : OC w a ((w.alloc (.cells #[.bool a.g, .string a.s, .int .i64 a.x] 24)).alloc (.cells #[.bool false, .string ⟨#[]⟩, .int .i64 0] 24)) := by
  refine ⟨(OB.start w a).more _, ?_⟩
  have := Box3.new (w.alloc (.cells #[.bool a.g, .string a.s, .int .i64 a.x] 24)) (.bool false) (.string ⟨#[]⟩) (.int .i64 0)
  simpa using this
theorem OC.step {w : World} {a : Dt} {W W' : World} (h : OC w a W) (hb : Below W.heap.size W W') : OC w a W' := ⟨h.1.step hb, h.2.step hb⟩
theorem OC.more {w : World} {a : Dt} {W : World} (h : OC w a W) (o : Obj) : OC w a (W.alloc o) := h.step ((Below.refl _ _).alloc (Nat.le_refl _) _)
theorem OC.fin {w : World} {a : Dt} {W : World} (h : OC w a W) (x y z : Value) : Below w.heap.size w (((W.setCell ⟨w.heap.size + 1, 0, none⟩ x).setCell ⟨w.heap.size + 1, 1, none⟩ y).setCell ⟨w.heap.size + 1, 2, none⟩ z) := below_put h.1.1 (by omega) x y z
end Go.Proofs.YtmjjodficjjehaaGreatDoor
namespace Go.Proofs.YtmjjodficjjehaaGreatDoor
open Go Go.RowKit Nt
theorem nd_one : nd 256 1 = 1 := by rw [nd_step (by omega) (by omega), show 1 / 256 = 0 from rfl, nd_zero]
theorem dgt_one : dgt 256 1 0 = 1 := by rw [dgt_def]
theorem own_one (W : World) : Own (W.alloc (.cells #[.int .i64 1] 3)) W.heap.size 3 .i64 (.slice (some ⟨W.heap.size, 0, none⟩) 1 1) (dl 256 1 1) := by
  have e : fcells .i64 (dgt 256 1) 1 = #[.int .i64 1] := by
    unfold fcells
    simp [dgt_one]
  have := Own.of_fcells3 (w := W.alloc (.cells #[.int .i64 1] 3)) (B := W.heap.size) (g := W.heap.size) (T := 3) (k := .i64) (f := dgt 256 1) (L := 1) (by rw [e]; exact Blk.new W _ _) (Nat.le_refl _) (by omega)
  exact this
end Go.Proofs.YtmjjodficjjehaaGreatDoor
namespace Go.Proofs.YtmjjodficjjehaaGreatDoor
open Go Go.RowKit Nt
def ArPost (n : Nat) (x : Int) (w : World) (e : Ending) (w' : World) : Prop := e = .returned (.tuple #[.float .f64 (pk (rM n x) (rQ n x)), .float .f64 (pk (rM n x + 1) (rQ n x)), .int .i64 (rW n x), .bool (rM n x % 2 == 0)]) ∧ Below w.heap.size w w'
set_option maxRecDepth 100000 in
theorem rAround_far (g : Bool) (n : Nat) (x : Int) (w : World) (hn : (Dy.mk g n x).Num) (h : 1024 ≤ rT n x) :
    Calls Tryz.prog 70 #[.agg #[.bool g, .string (natS n), .int .i64 x]] w (ArPost n x w) := by
  unfold ArPost
  obtain ⟨e1, e2, e3⟩ := rQ_far h
  rw [e1, e2, e3]
  have KT : Hid (∀ w, Calls Tryz.prog 64 #[.agg #[.bool g, .string (natS n), .int .i64 x]] w fun e w' => e = .returned (.tuple #[.int .i64 (rT n x), .bool true]) ∧ Below w.heap.size w w') := Lib.hid (fun w => rTop3_num g n x w hn.1 (odd_ne hn.2.1) hn.2.2.1 hn.2.2.2)
  have KP : Hid (∀ w, Calls Tryz.prog 100 #[.bool false, .int .u64 9007199254740991, .int .i64 971] w fun e w' => e = .returned (.float .f64 (pk 9007199254740991 971)) ∧ w = w') := Lib.hid (fun w => rPacked_c 9007199254740991 971 w (by omega) (by omega) (by omega) (Or.inl (by omega)))
  have KR : Hid (∀ w, Calls Tryz.prog 100 #[.bool false, .int .u64 9007199254740992, .int .i64 971] w fun e w' => e = .returned (.float .f64 (pk 9007199254740992 971)) ∧ w = w') := Lib.hid (fun w => rPacked_c 9007199254740992 971 w (by omega) (by omega) (by omega) (Or.inl (by omega)))
  have T0 := OB.start w ⟨g, natS n, x⟩
  generalize rT n x = t at *
  have h2 : ¬ t < 1024 := by omega
  clear hn e1 e2 e3
  go_enter Tryz.func70, Tryz.ntmps70
  obtain ⟨p0, p1, p2, p3, p4, p5, p6⟩ := T0.2.facts
  go_wp2_with fail
  refine (KT.out _).mono ?_
  rintro e w1 ⟨rfl, hb⟩
  replace T0 := T0.step hb
  clear hb p0 p1 p2 p3 p4 p5 p6
  go_wp2_with fail
  refine (KP.out _).mono ?_
  rintro e w2 ⟨rfl, rfl⟩
  go_wp2_with fail
  refine (KR.out _).mono ?_
  rintro e w2 ⟨rfl, rfl⟩
  go_wp2_with fail
  refine bodyPost_ret (v := .tuple #[.float .f64 (pk 9007199254740991 971), .float .f64 (pk 9007199254740992 971), .int .i64 3, .bool false]) (by simp [results, Tryz.results70, go_sem]) rfl ⟨rfl, T0.1⟩
theorem DRow.below {w w' : World} {A : Option Addr} {n L : Nat} (h : DRow w A n L) (hb : Below w.heap.size w w') : DRow w' A n L := fun j hj => by
  obtain ⟨g, e, hg, hc⟩ := h j hj
  exact ⟨g, e, Nat.lt_of_lt_of_le hg hb.size, (hb.cell (p := ⟨g, j, none⟩) hg).trans hc⟩
set_option maxRecDepth 100000 in
theorem rAround_up (g : Bool) (n : Nat) (x : Int) (w : World) (hn : (Dy.mk g n x).Num) (h : ¬ 1024 ≤ rT n x) (hu : rQ n x ≤ x) :
    Calls Tryz.prog 70 #[.agg #[.bool g, .string (natS n), .int .i64 x]] w (ArPost n x w) := by
  unfold ArPost
  obtain ⟨e1, e2⟩ := rM_up h hu
  have HM := Lib.hid (rM_b (x := x) (odd_ne hn.2.1))
  have HB := Lib.hid (rQ_b n x)
  have e3 := rQ_near h
  rw [e2]
  have hx := hn.2.2
  have hL : nd 256 n ≤ 16384 := hn.1
  have hb2 := bits_131072' hn.1
  have hr : rT n x = (nd 2 n : Int) - 1 + x := rfl
  have KT : Hid (∀ w, Calls Tryz.prog 64 #[.agg #[.bool g, .string (natS n), .int .i64 x]] w fun e w' => e = .returned (.tuple #[.int .i64 (rT n x), .bool true]) ∧ Below w.heap.size w w') := Lib.hid (fun w => rTop3_num g n x w hn.1 (odd_ne hn.2.1) hn.2.2.1 hn.2.2.2)
  have KO := Lib.hid (fun w => rOf3_c n w (by omega))
  have T0 := OB.start w ⟨g, natS n, x⟩
  have ht1 : -2000000 ≤ rT n x := by simp only at hx; omega
  have hw1 : wrap64 (rT n x - 52) = rT n x - 52 := IntWalk.wrap64_in _ (by omega)
  have HO := Lib.hid hn.2.1
  generalize rT n x = t at *
  have h2 : t < 1024 := by omega
  clear hr h hn
  have KPK : Hid (∀ w, Calls Tryz.prog 100 #[.bool false, .int .u64 (rM n x : Nat), .int .i64 (rQ n x)] w fun e w' => e = .returned (.float .f64 (pk (rM n x) (rQ n x))) ∧ w = w') := Lib.hid (fun w => rPacked_c _ _ w (Nat.le_of_lt HM.out.1) HB.out.1 HB.out.2 HM.out.2)
  have KPK2 : Hid (∀ w, Calls Tryz.prog 100 #[.bool false, .int .u64 (rM n x + 1 : Nat), .int .i64 (rQ n x)] w fun e w' => e = .returned (.float .f64 (pk (rM n x + 1) (rQ n x))) ∧ w = w') := Lib.hid (fun w => rPacked_c _ _ w HM.out.1 HB.out.1 HB.out.2 (HM.out.2.imp (fun h => Nat.le_succ_of_le h) id))
  have hq1 := HB.out.1
  have hq2 := HB.out.2
  have hm1 := HM.out.1
  clear HB HM
  simp only at hx
  obtain ⟨hx1, hx2⟩ := hx
  have hs0 : x - rQ n x = ((x - rQ n x).toNat : Int) := by omega
  have hsb : (x - rQ n x).toNat ≤ 8000000 := by omega
  have KH : Hid (∀ (B : Nat) (A : Option Addr) (c : Nat) (W' : World), Own W' B 3 .i64 (.slice A (nd 256 n) c) (dl 256 n (nd 256 n)) → Calls Tryz.prog 66 #[.slice A (nd 256 n) c, .int .i64 ((x - rQ n x).toNat : Nat)] W' (BigP (rM n x) W')) := by
    refine Lib.hid (fun B A c W' h => ?_)
    rw [e1]; exact rShifted3_c n _ B A c W' (by omega) hsb h
  have e4 := e3.symm
  clear e1 e2 e3
  generalize rM n x = M at *
  generalize rQ n x = q at *
  generalize (x - q).toNat = s at *
  have hge : ¬ x < q := by omega
  go_enter Tryz.func70, Tryz.ntmps70
  obtain ⟨p0, p1, p2, p3, p4, p5, p6⟩ := T0.2.facts
  go_wp2_with fail
  refine (KT.out _).mono ?_
  rintro e w1 ⟨rfl, hb⟩
  replace T0 := T0.step hb
  clear hb p0 p1 p2 p3 p4 p5 p6
  obtain ⟨p0, p1, p2, p3, p4, p5, p6⟩ := T0.2.facts
  go_wp2_with fail
  refine (KO.out _).mono ?_
  rintro e w2 ⟨v1, rfl, hown1, hb⟩
  obtain ⟨A1, c1, rfl, hc1⟩ := hown1.len
  rw [dl_length] at hown1 hc1 ⊢
  replace T0 := T0.step hb
  clear hb p0 p1 p2 p3 p4 p5 p6
  obtain ⟨p0, p1, p2, p3, p4, p5, p6⟩ := T0.2.facts
  go_wp2_with fail
  have KH2 := Lib.hid (KH.out _ _ _ _ hown1)
  clear hown1 hc1
  refine (KH2.out).mono ?_
  rintro e w3 ⟨A2, c2, rfl, hownM, hb⟩
  replace T0 := T0.step hb
  clear hb p0 p1 p2 p3 p4 p5 p6 KH KH2
  go_wp2_with fail
  have hbb : Below w3.heap.size w3 (w3.alloc (.cells #[.int .i64 1] 3)) := (Below.refl _ _).alloc (Nat.le_refl _) _
  -- the digits are gathered
  have hLM : nd 256 M ≤ 7 := nd_le (by omega) (Nat.lt_of_lt_of_le hm1 (by decide))
  have hw5 : wrap64 ((nd 256 M : Int) - 1) = (nd 256 M : Int) - 1 := IntWalk.wrap64_in _ (by omega)
  have HD := Lib.hid (hownM.drow.below hbb)
  have HLT := Lib.hid (lt_nd (b := 256) (n := M) (by omega))
  replace T0 := T0.step hbb
  clear hownM hbb
  generalize (w3.alloc _) = wX at *
  generalize nd 256 M = L at *
  go_loopw [14, 15] (fun a b wr => ∃ (k v : Nat) (z : Int), k ≤ L ∧ Hid (v = M / 256 ^ k) ∧ v ≤ M ∧ a = .int .u64 (v : Nat) ∧ b = .int .i64 z ∧ Hid (z = (k : Int) - 1) ∧ wr = wX) (fun _ b _ => (intOf b + 1).toNat)
  case atStart => exact ⟨L, 0, _, Nat.le_refl _, Lib.hid (Nat.div_eq_of_lt HLT.out).symm, Nat.zero_le _, rfl, rfl, Lib.hid (by first | exact hw5 | rfl), rfl⟩
  case round =>
    obtain ⟨k, v, z, hk, hv, hvM, rfl, rfl, hz, rfl⟩ := hrel
    by_cases h0 : k = 0
    · subst h0
      obtain rfl : z = -1 := by have := hz.out; omega
      obtain rfl : v = M := by rw [hv.out, Nat.pow_zero, Nat.div_one]
      clear HD HLT hvM
      obtain ⟨v1, hv1⟩ : ∃ v1, v1 = v + 1 := ⟨_, rfl⟩
      rw [← hv1] at KPK2
      have HV1 := Lib.hid hv1
      have hadd : (v : Int) + 1 = (v1 : Int) := by omega
      have hrem : ((v : Int) % 2 == 0) = (v % 2 == 0) := by rw [Bool.eq_iff_iff, beq_iff_eq, beq_iff_eq]; omega
      clear hv1
      go_wp2_with fail
      refine (KPK.out _).mono ?_
      rintro e w4 ⟨rfl, rfl⟩
      go_wp2_with fail
      refine (KPK2.out _).mono ?_
      rintro e w4 ⟨rfl, rfl⟩
      go_wp2_with fail
      refine bodyPost_ret (v := .tuple #[.float .f64 (pk v q), .float .f64 (pk v1 q), .int .i64 0, .bool (v % 2 == 0)]) (by simp [results, Tryz.results70, go_sem]) rfl ⟨by rw [HV1.out], T0.1⟩
    · obtain ⟨m, rfl⟩ : ∃ m, k = m + 1 := ⟨k - 1, by omega⟩
      obtain rfl : z = (m : Int) := by have := hz.out; omega
      obtain ⟨gb, rfl, hgb, hc⟩ := HD.out m (by omega)
      obtain ⟨v2, hv2⟩ : ∃ v2, v2 = M / 256 ^ m := ⟨_, rfl⟩
      have hdg : 256 * v + dgt 256 M m = v2 := by
        rw [hv2, hv.out, dgt_def, Nat.pow_succ, ← Nat.div_div_eq_div_mul]; omega
      have hdl := dgt_lt (b := 256) (by omega) M m
      have hvm : v2 ≤ M := hv2 ▸ Nat.div_le_self _ _
      have HV := Lib.hid hv2
      have hsum : 256 * (v : Int) + (dgt 256 M m : Int) = (v2 : Int) := by omega
      have hw6 : wrap64 ((m : Int) - 1) = (m : Int) - 1 := IntWalk.wrap64_in _ (by omega)
      have hmL : m < L := by omega
      clear hv2
      generalize dgt 256 M m = dm at *
      go_wp2_with fail
      exact ⟨⟨m, v2, _, by omega, HV, hvm, rfl, rfl, Lib.hid rfl, trivial⟩, by simp [intOf]⟩
set_option maxRecDepth 100000 in
theorem rAround_low (g : Bool) (n : Nat) (x : Int) (w : World) (hn : (Dy.mk g n x).Num) (h : ¬ 1024 ≤ rT n x) (hu : ¬ rQ n x ≤ x) (hf : 8 * nd 256 n < (rQ n x - x).toNat) :
    Calls Tryz.prog 70 #[.agg #[.bool g, .string (natS n), .int .i64 x]] w (ArPost n x w) := by
  have hlt : n * 2 < 2 ^ (rQ n x - x).toNat := by
    have h1 := lt_nd (b := 2) (n := n) (by omega)
    have h3 := (bits_le n (nd 256 n)).2 (Nat.le_refl _)
    have h4 : 2 ^ (nd 2 n + 1) ≤ 2 ^ (rQ n x - x).toNat := Nat.pow_le_pow_right (by omega) (by omega)
    rw [Nat.pow_succ] at h4
    omega
  have f1 : rM n x = 0 := by rw [(rM_dn h hu).1]; exact Nat.div_eq_of_lt (by omega)
  have f2 : rW n x = 1 := by rw [(rM_dn h hu).2, Nat.mod_eq_of_lt (by omega), cmpN_lt hlt]; rfl
  have f3 : rQ n x = -1074 := by
    rcases (rM_b (x := x) (odd_ne hn.2.1)).2 with c | c
    · rw [f1] at c; omega
    · exact c
  have f4 : pk 0 (-1074) = 0 := by rw [pk_eq]; rfl
  unfold ArPost
  obtain ⟨e1, e2⟩ := rM_dn h hu
  have HM := Lib.hid (rM_b (x := x) (odd_ne hn.2.1))
  have HB := Lib.hid (rQ_b n x)
  have e3 := rQ_near h
  have hx := hn.2.2
  have hL : nd 256 n ≤ 16384 := hn.1
  have hb2 := bits_131072' hn.1
  have hr : rT n x = (nd 2 n : Int) - 1 + x := rfl
  have KT : Hid (∀ w, Calls Tryz.prog 64 #[.agg #[.bool g, .string (natS n), .int .i64 x]] w fun e w' => e = .returned (.tuple #[.int .i64 (rT n x), .bool true]) ∧ Below w.heap.size w w') := Lib.hid (fun w => rTop3_num g n x w hn.1 (odd_ne hn.2.1) hn.2.2.1 hn.2.2.2)
  have KO := Lib.hid (fun w => rOf3_c n w (by omega))
  have T0 := OB.start w ⟨g, natS n, x⟩
  have ht1 : -2000000 ≤ rT n x := by simp only at hx; omega
  have hw1 : wrap64 (rT n x - 52) = rT n x - 52 := IntWalk.wrap64_in _ (by omega)
  have HO := Lib.hid hn.2.1
  generalize rT n x = t at *
  have h2 : t < 1024 := by omega
  clear hr h hn
  have KPK : Hid (∀ w, Calls Tryz.prog 100 #[.bool false, .int .u64 (rM n x : Nat), .int .i64 (rQ n x)] w fun e w' => e = .returned (.float .f64 (pk (rM n x) (rQ n x))) ∧ w = w') := Lib.hid (fun w => rPacked_c _ _ w (Nat.le_of_lt HM.out.1) HB.out.1 HB.out.2 HM.out.2)
  have KPK2 : Hid (∀ w, Calls Tryz.prog 100 #[.bool false, .int .u64 (rM n x + 1 : Nat), .int .i64 (rQ n x)] w fun e w' => e = .returned (.float .f64 (pk (rM n x + 1) (rQ n x))) ∧ w = w') := Lib.hid (fun w => rPacked_c _ _ w HM.out.1 HB.out.1 HB.out.2 (HM.out.2.imp (fun h => Nat.le_succ_of_le h) id))
  have hq1 := HB.out.1
  have hq2 := HB.out.2
  have hm1 := HM.out.1
  clear HB HM
  simp only at hx
  obtain ⟨hx1, hx2⟩ := hx
  clear e1 e2 hlt KPK
  rw [f1, f2, f3, f4]
  rw [f1, f3] at KPK2
  have HF := Lib.hid f4
  rw [f3] at hf hu e3
  clear f1 f2 f3 f4 hm1 hq1 hq2
  have e4 := e3.symm
  have hs0 : -1074 - x = ((-1074 - x).toNat : Int) := by omega
  generalize (-1074 - x).toNat = k at *
  have hge : x < -1074 := by omega
  have hf2 : 8 * (nd 256 n : Int) < (k : Int) := by omega
  clear e3 hf hu
  go_enter Tryz.func70, Tryz.ntmps70
  obtain ⟨p0, p1, p2, p3, p4, p5, p6⟩ := T0.2.facts
  go_wp2_with fail
  refine (KT.out _).mono ?_
  rintro e w1 ⟨rfl, hb⟩
  replace T0 := T0.step hb
  clear hb p0 p1 p2 p3 p4 p5 p6
  obtain ⟨p0, p1, p2, p3, p4, p5, p6⟩ := T0.2.facts
  go_wp2_with fail
  refine (KO.out _).mono ?_
  rintro e w2 ⟨v1, rfl, hown1, hb⟩
  obtain ⟨A1, c1, rfl, hc1⟩ := hown1.len
  rw [dl_length] at hown1 hc1 ⊢
  replace T0 := T0.step hb
  clear hb p0 p1 p2 p3 p4 p5 p6
  obtain ⟨p0, p1, p2, p3, p4, p5, p6⟩ := T0.2.facts
  go_wp2_with fail
  refine (KPK2.out _).mono ?_
  rintro e w4 ⟨rfl, rfl⟩
  go_wp2_with fail
  refine bodyPost_ret (v := .tuple #[.float .f64 0, .float .f64 (pk 1 (-1074)), .int .i64 1, .bool true]) (by simp [results, Tryz.results70, go_sem]) rfl ⟨rfl, (T0.more _).1⟩
set_option maxRecDepth 100000 in
theorem rAround_dn (g : Bool) (n : Nat) (x : Int) (w : World) (hn : (Dy.mk g n x).Num) (h : ¬ 1024 ≤ rT n x) (hu : ¬ rQ n x ≤ x) (hf : ¬ 8 * nd 256 n < (rQ n x - x).toNat) :
    Calls Tryz.prog 70 #[.agg #[.bool g, .string (natS n), .int .i64 x]] w (ArPost n x w) := by
  unfold ArPost
  obtain ⟨e1, e2⟩ := rM_dn h hu
  have HM := Lib.hid (rM_b (x := x) (odd_ne hn.2.1))
  have HB := Lib.hid (rQ_b n x)
  have e3 := rQ_near h
  have hx := hn.2.2
  have hL : nd 256 n ≤ 16384 := hn.1
  have hb2 := bits_131072' hn.1
  have hr : rT n x = (nd 2 n : Int) - 1 + x := rfl
  have KT : Hid (∀ w, Calls Tryz.prog 64 #[.agg #[.bool g, .string (natS n), .int .i64 x]] w fun e w' => e = .returned (.tuple #[.int .i64 (rT n x), .bool true]) ∧ Below w.heap.size w w') := Lib.hid (fun w => rTop3_num g n x w hn.1 (odd_ne hn.2.1) hn.2.2.1 hn.2.2.2)
  have KO := Lib.hid (fun w => rOf3_c n w (by omega))
  have T0 := OB.start w ⟨g, natS n, x⟩
  have ht1 : -2000000 ≤ rT n x := by simp only at hx; omega
  have hw1 : wrap64 (rT n x - 52) = rT n x - 52 := IntWalk.wrap64_in _ (by omega)
  have HO := Lib.hid hn.2.1
  generalize rT n x = t at *
  have h2 : t < 1024 := by omega
  clear hr h hn
  have KPK : Hid (∀ w, Calls Tryz.prog 100 #[.bool false, .int .u64 (rM n x : Nat), .int .i64 (rQ n x)] w fun e w' => e = .returned (.float .f64 (pk (rM n x) (rQ n x))) ∧ w = w') := Lib.hid (fun w => rPacked_c _ _ w (Nat.le_of_lt HM.out.1) HB.out.1 HB.out.2 HM.out.2)
  have KPK2 : Hid (∀ w, Calls Tryz.prog 100 #[.bool false, .int .u64 (rM n x + 1 : Nat), .int .i64 (rQ n x)] w fun e w' => e = .returned (.float .f64 (pk (rM n x + 1) (rQ n x))) ∧ w = w') := Lib.hid (fun w => rPacked_c _ _ w HM.out.1 HB.out.1 HB.out.2 (HM.out.2.imp (fun h => Nat.le_succ_of_le h) id))
  have hq1 := HB.out.1
  have hq2 := HB.out.2
  have hm1 := HM.out.1
  clear HB HM
  simp only at hx
  obtain ⟨hx1, hx2⟩ := hx
  have hs0 : rQ n x - x = ((rQ n x - x).toNat : Int) := by omega
  have hk0 : 0 < (rQ n x - x).toNat := by omega
  have hkb : (rQ n x - x).toNat ≤ 1600000 - 2 := by omega
  rw [e2]
  have e4 := e3.symm
  clear e3 e2
  generalize (rQ n x - x).toNat = k at *
  have hlM : nd 256 (rM n x) ≤ 7 := nd_le (by omega) (Nat.lt_of_lt_of_le hm1 (by decide))
  have hRo : n % 2 ^ k % 2 = 1 := by
    rw [show k = (k - 1) + 1 by omega, Nat.pow_succ, Nat.mul_comm, Nat.mod_mul_right_mod, HO.out]
  have hR2 : n % 2 ^ k * 2 < 2 ^ (k + 1) := by rw [Nat.pow_succ]; have := Nat.mod_lt n (Nat.two_pow_pos k); omega
  have hRl : nd 256 (n % 2 ^ k) ≤ 200000 := (bits_le _ _).1 (Nat.le_trans (nd_le (b := 2) (k := k) (by omega) (Nat.mod_lt n (Nat.two_pow_pos k))) (by omega))
  have hR2l : nd 256 (n % 2 ^ k * 2) ≤ 200000 := (bits_le _ _).1 (Nat.le_trans (nd_le (b := 2) (by omega) hR2) (by omega))
  have hKl : nd 256 (2 ^ k) ≤ 200000 := (bits_le _ _).1 (Nat.le_trans (nd_le (b := 2) (k := k + 1) (by omega) (Nat.pow_lt_pow_right (by omega) (by omega))) (by omega))
  have hrest : n - rM n x * 2 ^ k = n % 2 ^ k := by rw [e1, Nat.mod_eq_sub_div_mul]
  have hple : rM n x * 2 ^ k ≤ n := by rw [e1]; exact Nat.div_mul_le_self _ _
  have KH : Hid (∀ (B : Nat) (A : Option Addr) (c : Nat) (W' : World), Own W' B 3 .i64 (.slice A (nd 256 n) c) (dl 256 n (nd 256 n)) → Calls Tryz.prog 101 #[.slice A (nd 256 n) c, .int .i64 (k : Nat)] W' (BigP (rM n x) W')) := Lib.hid fun B A c W' h => by
    have := rHalved3_c n (k / 8) (k % 8) B A c W' (by omega) (by omega) (by omega) h
    rw [show 8 * (k / 8) + k % 8 = k by omega] at this
    rw [e1]; exact this
  have KSh : Hid (∀ (B : Nat) (A : Option Addr) (c : Nat) (W' : World), Own W' B 3 .i64 (.slice A (nd 256 (rM n x)) c) (dl 256 (rM n x) (nd 256 (rM n x))) → Calls Tryz.prog 66 #[.slice A (nd 256 (rM n x)) c, .int .i64 (k : Nat)] W' (BigP (rM n x * 2 ^ k) W')) := Lib.hid fun B A c W' h => rShifted3_c _ k B A c W' (by omega) (by omega) h
  have KMi : Hid (∀ (B B' : Nat) (A A' : Option Addr) (c c' : Nat) (W' : World), Own W' B 3 .i64 (.slice A (nd 256 n) c) (dl 256 n (nd 256 n)) → Own W' B' 3 .i64 (.slice A' (nd 256 (rM n x * 2 ^ k)) c') (dl 256 (rM n x * 2 ^ k) (nd 256 (rM n x * 2 ^ k))) → Calls Tryz.prog 102 #[.slice A (nd 256 n) c, .slice A' (nd 256 (rM n x * 2 ^ k)) c'] W' (BigP (n % 2 ^ k) W')) := Lib.hid fun B B' A A' c c' W' h1 h2 => by
    have := rMinus3_c n (rM n x * 2 ^ k) B B' A A' c c' W' hple (by omega) h1 h2
    rw [hrest] at this
    exact this
  have KS1 : Hid (∀ (B : Nat) (A : Option Addr) (c : Nat) (W' : World), Own W' B 3 .i64 (.slice A 1 c) (dl 256 1 1) → Calls Tryz.prog 66 #[.slice A 1 c, .int .i64 (k : Nat)] W' (BigP (2 ^ k) W')) := Lib.hid fun B A c W' h => by
    have := rShifted3_c 1 k B A c W' (by rw [nd_one]; omega) (by omega) (by rw [nd_one]; exact h)
    rw [nd_one, Nat.one_mul] at this
    exact this
  have KR2 : Hid (∀ (B : Nat) (A : Option Addr) (c : Nat) (W' : World), Own W' B 3 .i64 (.slice A (nd 256 (n % 2 ^ k)) c) (dl 256 (n % 2 ^ k) (nd 256 (n % 2 ^ k))) → Calls Tryz.prog 66 #[.slice A (nd 256 (n % 2 ^ k)) c, .int .i64 1] W' (BigP (n % 2 ^ k * 2) W')) := Lib.hid fun B A c W' h => by
    have := rShifted3_c (n % 2 ^ k) 1 B A c W' (by omega) (by omega) h
    rw [Nat.pow_one] at this
    exact this
  have KC : Hid (∀ (B B' : Nat) (A A' : Option Addr) (c c' : Nat) (W' : World), Own W' B 3 .i64 (.slice A (nd 256 (n % 2 ^ k * 2)) c) (dl 256 (n % 2 ^ k * 2) (nd 256 (n % 2 ^ k * 2))) → Own W' B' 3 .i64 (.slice A' (nd 256 (2 ^ k)) c') (dl 256 (2 ^ k) (nd 256 (2 ^ k))) → Calls Tryz.prog 67 #[.slice A (nd 256 (n % 2 ^ k * 2)) c, .slice A' (nd 256 (2 ^ k)) c'] W' fun e w' => e = .returned (.int .i64 (cmpN (n % 2 ^ k * 2) (2 ^ k))) ∧ ∃ m, w' = W'.drewN m) := Lib.hid fun B B' A A' c c' W' h1 h2 => rCmp3_c _ _ B B' A A' c c' W' (by omega) (by omega) h1 h2
  have hRn : 0 < nd 256 (n % 2 ^ k) := Nat.pos_of_ne_zero (fun c => by rw [nd_eq_zero (by omega)] at c; omega)
  have hcm : cmpN (n % 2 ^ k * 2) (2 ^ k) = -1 ∨ cmpN (n % 2 ^ k * 2) (2 ^ k) = 0 ∨ cmpN (n % 2 ^ k * 2) (2 ^ k) = 1 := by unfold cmpN; split; exact Or.inl rfl; split; exact Or.inr (Or.inl rfl); exact Or.inr (Or.inr rfl)
  have hwc : wrap64 (2 + cmpN (n % 2 ^ k * 2) (2 ^ k)) = 2 + cmpN (n % 2 ^ k * 2) (2 ^ k) := IntWalk.wrap64_in _ (by omega)
  have hfar : ¬ (k : Int) > 8 * (nd 256 n : Int) := by omega
  have hge : ¬ x ≥ rQ n x := by omega
  clear hrest hple hRo hR2 e1 hcm hf hu HO
  generalize cmpN (n % 2 ^ k * 2) (2 ^ k) = C at *
  generalize n % 2 ^ k * 2 = R2 at *
  generalize n % 2 ^ k = R at *
  generalize rM n x * 2 ^ k = P at *
  generalize 2 ^ k = K2 at *
  generalize rM n x = M at *
  generalize rQ n x = q at *
  go_enter Tryz.func70, Tryz.ntmps70
  obtain ⟨p0, p1, p2, p3, p4, p5, p6⟩ := T0.2.facts
  go_wp2_with fail
  refine (KT.out _).mono ?_
  rintro e w1 ⟨rfl, hb⟩
  replace T0 := T0.step hb
  clear hb p0 p1 p2 p3 p4 p5 p6
  obtain ⟨p0, p1, p2, p3, p4, p5, p6⟩ := T0.2.facts
  go_wp2_with fail
  refine (KO.out _).mono ?_
  rintro e w2 ⟨v1, rfl, hown1, hb⟩
  obtain ⟨A1, c1, rfl, hc1⟩ := hown1.len
  rw [dl_length] at hown1 hc1 ⊢
  replace T0 := T0.step hb
  clear hb p0 p1 p2 p3 p4 p5 p6
  obtain ⟨p0, p1, p2, p3, p4, p5, p6⟩ := T0.2.facts
  go_wp2_with fail
  refine (KH.out _ _ _ _ hown1).mono ?_
  rintro e w3 ⟨A3, c3, rfl, hownM, hb⟩
  have hn3 := hown1.whole hb
  replace T0 := T0.step hb
  clear hb p0 p1 p2 p3 p4 p5 p6 hown1 KH hc1
  go_wp2_with fail
  refine (KSh.out _ _ _ _ hownM).mono ?_
  rintro e w4 ⟨A4, c4, rfl, hownP, hb⟩
  have hn4 := hn3.whole hb
  have hM4 := hownM.whole hb
  replace T0 := T0.step hb
  clear hb hn3 hownM KSh
  go_wp2_with fail
  refine (KMi.out _ _ _ _ _ _ _ hn4 hownP).mono ?_
  rintro e w5 ⟨A5, c5, rfl, hownR, hb⟩
  have hM5 := hM4.whole hb
  replace T0 := T0.step hb
  clear hb hn4 hM4 hownP KMi
  go_wp2_with fail
  refine (KS1.out _ _ _ _ (own_one w5)).mono ?_
  rintro e w6 ⟨A6, c6, rfl, hownK, hb0⟩
  have hb := box_below hb0
  have hownM := hM5.whole hb
  have HR6 := Lib.hid (hownR.whole hb)
  have HK6 := Lib.hid hownK
  replace T0 := T0.step hb
  clear hb hb0 hM5 hownR hownK KS1
  go_wp2_with fail
  -- the digits are gathered
  have hLM : nd 256 M ≤ 7 := nd_le (by omega) (Nat.lt_of_lt_of_le hm1 (by decide))
  have hw5 : wrap64 ((nd 256 M : Int) - 1) = (nd 256 M : Int) - 1 := IntWalk.wrap64_in _ (by omega)
  have HD := Lib.hid hownM.drow
  have HLT := Lib.hid (lt_nd (b := 256) (n := M) (by omega))
  clear hownM
  generalize nd 256 M = L at *
  go_loopw [14, 15] (fun a b wr => ∃ (k v : Nat) (z : Int), k ≤ L ∧ Hid (v = M / 256 ^ k) ∧ v ≤ M ∧ a = .int .u64 (v : Nat) ∧ b = .int .i64 z ∧ Hid (z = (k : Int) - 1) ∧ wr = w6) (fun _ b _ => (intOf b + 1).toNat)
  case atStart => exact ⟨L, 0, _, Nat.le_refl _, Lib.hid (Nat.div_eq_of_lt HLT.out).symm, Nat.zero_le _, rfl, rfl, Lib.hid (by first | exact hw5 | rfl), rfl⟩
  case round =>
    obtain ⟨k, v, z, hk, hv, hvM, rfl, rfl, hz, rfl⟩ := hrel
    by_cases h0 : k = 0
    · subst h0
      obtain rfl : z = -1 := by have := hz.out; omega
      obtain rfl : v = M := by rw [hv.out, Nat.pow_zero, Nat.div_one]
      clear HD HLT hvM
      obtain ⟨v1, hv1⟩ : ∃ v1, v1 = v + 1 := ⟨_, rfl⟩
      rw [← hv1] at KPK2
      have HV1 := Lib.hid hv1
      have hadd : (v : Int) + 1 = (v1 : Int) := by omega
      have hrem : ((v : Int) % 2 == 0) = (v % 2 == 0) := by rw [Bool.eq_iff_iff, beq_iff_eq, beq_iff_eq]; omega
      clear hv1
      go_wp2_with fail
      refine (KR2.out _ _ _ _ HR6.out).mono ?_
      rintro e w7 ⟨A7, c7, rfl, hown7, hb⟩
      have hK7 := HK6.out.whole hb
      replace T0 := T0.step hb
      clear hb HR6 HK6
      go_wp2_with fail
      refine (KC.out _ _ _ _ _ _ _ hown7 hK7).mono ?_
      rintro e w8 ⟨rfl, nn, rfl⟩
      replace T0 := T0.step (below_drewN (Below.refl _ _) nn)
      generalize w7.drewN nn = w9 at *
      clear hown7 hK7
      go_wp2_with fail
      refine (KPK.out _).mono ?_
      rintro e w4 ⟨rfl, rfl⟩
      go_wp2_with fail
      refine (KPK2.out _).mono ?_
      rintro e w4 ⟨rfl, rfl⟩
      go_wp2_with fail
      refine bodyPost_ret (v := .tuple #[.float .f64 (pk v q), .float .f64 (pk v1 q), .int .i64 (2 + C), .bool (v % 2 == 0)]) (by simp [results, Tryz.results70, go_sem]) rfl ⟨by rw [HV1.out], T0.1⟩
    · obtain ⟨m, rfl⟩ : ∃ m, k = m + 1 := ⟨k - 1, by omega⟩
      obtain rfl : z = (m : Int) := by have := hz.out; omega
      obtain ⟨gb, rfl, hgb, hc⟩ := HD.out m (by omega)
      obtain ⟨v2, hv2⟩ : ∃ v2, v2 = M / 256 ^ m := ⟨_, rfl⟩
      have hdg : 256 * v + dgt 256 M m = v2 := by
        rw [hv2, hv.out, dgt_def, Nat.pow_succ, ← Nat.div_div_eq_div_mul]; omega
      have hdl := dgt_lt (b := 256) (by omega) M m
      have hvm : v2 ≤ M := hv2 ▸ Nat.div_le_self _ _
      have HV := Lib.hid hv2
      have hsum : 256 * (v : Int) + (dgt 256 M m : Int) = (v2 : Int) := by omega
      have hw6 : wrap64 ((m : Int) - 1) = (m : Int) - 1 := IntWalk.wrap64_in _ (by omega)
      have hmL : m < L := by omega
      clear hv2
      generalize dgt 256 M m = dm at *
      go_wp2_with fail
      exact ⟨⟨m, v2, _, by omega, HV, hvm, rfl, rfl, Lib.hid rfl, trivial⟩, by simp [intOf]⟩
theorem rAround_c (g : Bool) (n : Nat) (x : Int) (w : World) (hn : (Dy.mk g n x).Num) :
    Calls Tryz.prog 70 #[.agg #[.bool g, .string (natS n), .int .i64 x]] w (ArPost n x w) := by
  by_cases h : 1024 ≤ rT n x
  · exact rAround_far g n x w hn h
  · by_cases hu : rQ n x ≤ x
    · exact rAround_up g n x w hn h hu
    · by_cases hf : 8 * nd 256 n < (rQ n x - x).toNat
      · exact rAround_low g n x w hn h hu hf
      · exact rAround_dn g n x w hn h hu hf
end Go.Proofs.YtmjjodficjjehaaGreatDoor
namespace Go.Proofs.YtmjjodficjjehaaGreatDoor
open Go Go.RowKit
theorem bex (p : Prop) : ∃ b : Bool, b = true ↔ p := by
  by_cases h : p
  · exact ⟨true, by simp [h]⟩
  · exact ⟨false, by simp [h]⟩
def envL (l : List Value) (i : Nat) : Value := l.getD i (.int .i64 0)
theorem envL_flat {l : List Value} (h : l.all (·.oneCell') = true) : ∀ i, (envL l i).oneCell' = true := by
  intro i
  unfold envL
  rw [List.getD_eq_getElem?_getD]
  cases hi : l[i]? with
  | none => rfl
  | some v =>
    rw [List.all_eq_true] at h
    exact h v (List.mem_of_getElem? hi)
@[reducible] def mkEnv (gl : List (Nat × List AV)) (l : List Value) (h : l.all (·.oneCell') = true) : Env := ⟨envL l, envL_flat h, gl⟩
section
variable [Env]
def OpT (P : Program) (k : List Nat) (l : List AV) (r : AV) : Prop :=
  ground r = true ∧ ∀ (o : Oper) xs, keyOf o = some (k, xs) → ∀ ρ : Operand → Value, (∀ g, ρ (.func g) = .func (.func g) #[] #[]) → xs.map ρ = l.map gval → ∀ w, (execOp ρ o).run P w = .ok (.value (gval r)) w
def CallT (P : Program) (g : FuncId) (l : List AV) (r : AV) : Prop :=
  ground r = true ∧ ∀ w xs, Globs Env.gl w → ARels w l xs → Calls P g xs.toArray w fun e w' => e = .returned (gval r) ∧ Below w.heap.size w w'
theorem callt {P : Program} {g : FuncId} {l : List AV} {r : AV} (hl : l.all ground = true) (hr : ground r = true) (h : ∀ w, Globs Env.gl w → Calls P g (l.map gval).toArray w fun e w' => e = .returned (gval r) ∧ Below w.heap.size w w') : CallT P g l r :=
  ⟨hr, fun w xs hG hx => by rw [@ARels.plain _ noKnow _ _ hl _ hx]; exact h w hG⟩
def OpsT (P : Program) : List (List Nat × List AV × AV) → Prop
  | [] => True
  | p :: t => OpT P p.1 p.2.1 p.2.2 ∧ OpsT P t
def CallsT (P : Program) : List (FuncId × List AV × AV) → Prop
  | [] => True
  | p :: t => CallT P p.1 p.2.1 p.2.2 ∧ CallsT P t
theorem OpsT.mem {P : Program} : ∀ {t : List (List Nat × List AV × AV)}, OpsT P t → ∀ {k l r}, (k, l, r) ∈ t → OpT P k l r
  | [], _, _, _, _, h => by cases h
  | p :: t, hp, k, l, r, h => by
    rcases List.mem_cons.1 h with e | h
    · subst e; exact hp.1
    · exact OpsT.mem hp.2 h
theorem CallsT.mem {P : Program} : ∀ {t : List (FuncId × List AV × AV)}, CallsT P t → ∀ {k l r}, (k, l, r) ∈ t → CallT P k l r
  | [], _, _, _, _, h => by cases h
  | p :: t, hp, k, l, r, h => by
    rcases List.mem_cons.1 h with e | h
    · subst e; exact hp.1
    · exact CallsT.mem hp.2 h
theorem KnowOk.of [Know] {P : Program} (h1 : OpsT P Know.ops) (h2 : CallsT P Know.calls) : KnowOk P := ⟨fun k l r h => h1.mem h, fun k l r h => h2.mem h⟩
theorem opt_bin {P : Program} {op : BinOp} {t : TypeId} {a b r : AV} (hr : ground r = true) (h : ∀ x y w, (do eqGuard op t x y (gval a) (gval b); binOp op t (gval a) (gval b)).run P w = .ok (gval r) w) : OpT P [0, binKey op, t] [a, b] r := by
  refine ⟨hr, fun o xs hk ρ hρ hx w => ?_⟩
  unfold keyOf at hk
  obtain ⟨dst, o, type, pos, after, guard⟩ := o
  simp only at hk
  split at hk
  · rename_i op' t' x y yt
    simp only [Option.some.injEq, Prod.mk.injEq, List.cons.injEq, and_true, true_and] at hk
    obtain ⟨⟨h1, h2⟩, h3⟩ := hk
    subst h2 h3
    have ho : op' = op := by cases op' <;> cases op <;> first | rfl | cases h1
    subst ho
    simp only [List.map_cons, List.map_nil, List.cons.injEq, and_true] at hx
    obtain ⟨e1, e2⟩ := hx
    have := h x y w
    simp only [execOp, e1, e2, Sem.run_bind, Sem.run_pure] at this ⊢
    rw [this]; rfl
  all_goals first
    | (simp only [Option.some.injEq, Prod.mk.injEq, List.cons.injEq] at hk; have := hk.1.1; omega)
    | (split at hk <;> first | cases hk | (simp only [Option.some.injEq, Prod.mk.injEq, List.cons.injEq] at hk; have := hk.1.1; omega))
    | cases hk
theorem opt_int {P : Program} {op : BinOp} {t : TypeId} {a b r : AV} {k : IntKind} {x y : Int} {v : Value} (ha : gval a = .int k x) (hb : gval b = .int k y) (hr : ground r = true) (hv : gval r = v) (h : ∀ w, (binOp op t (.int k x) (.int k y)).run P w = .ok v w) : OpT P [0, binKey op, t] [a, b] r := by
  refine opt_bin hr fun p q w => ?_
  rw [ha, hb, hv]
  simp only [Sem.run_bind, eqGuard_int, Result.andThen_ok]
  exact h w
theorem opt_eql {P : Program} {t : TypeId} {a b : AV} {k : IntKind} {x y : Int} {c : Bool} (ha : gval a = .int k x) (hb : gval b = .int k y) (h : (x == y) = c) : OpT P [0, 11, t] [a, b] (.lit (.bool c)) :=
  opt_int (op := .eql) ha hb rfl rfl fun w => by rw [← h]; simp [binOp, Op.intCmp, gval, gval2, gval1]
theorem opt_neq {P : Program} {t : TypeId} {a b : AV} {k : IntKind} {x y : Int} {c : Bool} (ha : gval a = .int k x) (hb : gval b = .int k y) (h : (x != y) = c) : OpT P [0, 12, t] [a, b] (.lit (.bool c)) :=
  opt_int (op := .neq) ha hb rfl rfl fun w => by rw [← h]; simp [binOp, Op.intCmp, gval, gval2, gval1]
theorem opt_lss {P : Program} {t : TypeId} {a b : AV} {k : IntKind} {x y : Int} {c : Bool} (ha : gval a = .int k x) (hb : gval b = .int k y) (h : decide (x < y) = c) : OpT P [0, 13, t] [a, b] (.lit (.bool c)) :=
  opt_int (op := .lss) ha hb rfl rfl fun w => by rw [← h]; simp [binOp, Op.intCmp, gval, gval2, gval1]
theorem opt_leq {P : Program} {t : TypeId} {a b : AV} {k : IntKind} {x y : Int} {c : Bool} (ha : gval a = .int k x) (hb : gval b = .int k y) (h : decide (x ≤ y) = c) : OpT P [0, 14, t] [a, b] (.lit (.bool c)) :=
  opt_int (op := .leq) ha hb rfl rfl fun w => by rw [← h]; simp [binOp, Op.intCmp, gval, gval2, gval1]
theorem opt_gtr {P : Program} {t : TypeId} {a b : AV} {k : IntKind} {x y : Int} {c : Bool} (ha : gval a = .int k x) (hb : gval b = .int k y) (h : decide (x > y) = c) : OpT P [0, 15, t] [a, b] (.lit (.bool c)) :=
  opt_int (op := .gtr) ha hb rfl rfl fun w => by rw [← h]; simp [binOp, Op.intCmp, gval, gval2, gval1]
theorem opt_geq {P : Program} {t : TypeId} {a b : AV} {k : IntKind} {x y : Int} {c : Bool} (ha : gval a = .int k x) (hb : gval b = .int k y) (h : decide (x ≥ y) = c) : OpT P [0, 16, t] [a, b] (.lit (.bool c)) :=
  opt_int (op := .geq) ha hb rfl rfl fun w => by rw [← h]; simp [binOp, Op.intCmp, gval, gval2, gval1]
theorem opt_eql_i {P : Program} {t : TypeId} {a b : AV} {k : IntKind} {x y : Int} {c : Bool} (ha : gval a = .int k x) (hb : gval b = .int k y) (h : c = true ↔ x = y) : OpT P [0, 11, t] [a, b] (.lit (.bool c)) := opt_eql ha hb (by rw [Bool.eq_iff_iff, h]; exact beq_iff_eq)
theorem opt_neq_i {P : Program} {t : TypeId} {a b : AV} {k : IntKind} {x y : Int} {c : Bool} (ha : gval a = .int k x) (hb : gval b = .int k y) (h : c = true ↔ x = y) : OpT P [0, 12, t] [a, b] (.lit (.bool (!c))) := opt_neq ha hb (by rw [bne, show (x == y) = c from by rw [Bool.eq_iff_iff, h]; exact beq_iff_eq])
theorem opt_lss_i {P : Program} {t : TypeId} {a b : AV} {k : IntKind} {x y : Int} {c : Bool} (ha : gval a = .int k x) (hb : gval b = .int k y) (h : c = true ↔ x < y) : OpT P [0, 13, t] [a, b] (.lit (.bool c)) := opt_lss ha hb (by rw [Bool.eq_iff_iff, h]; exact decide_eq_true_iff)
theorem opt_leq_i {P : Program} {t : TypeId} {a b : AV} {k : IntKind} {x y : Int} {c : Bool} (ha : gval a = .int k x) (hb : gval b = .int k y) (h : c = true ↔ x ≤ y) : OpT P [0, 14, t] [a, b] (.lit (.bool c)) := opt_leq ha hb (by rw [Bool.eq_iff_iff, h]; exact decide_eq_true_iff)
theorem opt_gtr_i {P : Program} {t : TypeId} {a b : AV} {k : IntKind} {x y : Int} {c : Bool} (ha : gval a = .int k x) (hb : gval b = .int k y) (h : c = true ↔ x > y) : OpT P [0, 15, t] [a, b] (.lit (.bool c)) := opt_gtr ha hb (by rw [Bool.eq_iff_iff, h]; exact decide_eq_true_iff)
theorem opt_geq_i {P : Program} {t : TypeId} {a b : AV} {k : IntKind} {x y : Int} {c : Bool} (ha : gval a = .int k x) (hb : gval b = .int k y) (h : c = true ↔ x ≥ y) : OpT P [0, 16, t] [a, b] (.lit (.bool c)) := opt_geq ha hb (by rw [Bool.eq_iff_iff, h]; exact decide_eq_true_iff)
theorem opt_neq_t {P : Program} {t : TypeId} {a b : AV} {k : IntKind} {x y : Int} (ha : gval a = .int k x) (hb : gval b = .int k y) (h : ¬ x = y) : OpT P [0, 12, t] [a, b] (.lit (.bool true)) := opt_neq ha hb (by rw [bne, beq_eq_false_iff_ne.2 h]; rfl)
theorem opt_neq_f {P : Program} {t : TypeId} {a b : AV} {k : IntKind} {x y : Int} (ha : gval a = .int k x) (hb : gval b = .int k y) (h : x = y) : OpT P [0, 12, t] [a, b] (.lit (.bool false)) := opt_neq ha hb (by rw [bne, beq_iff_eq.2 h]; rfl)
end
end Go.Proofs.YtmjjodficjjehaaGreatDoor
set_option linter.unusedSectionVars false
namespace Go.Proofs.YtmjjodficjjehaaGreatDoor
open Go Go.RowKit Nt
theorem natS_inj {m n : Nat} : natS m = natS n ↔ m = n := by
  constructor
  · intro h
    have : (natS m).toList = (natS n).toList := by rw [h]
    exact (natS_list_eq m n).1 this
  · rintro rfl; rfl
theorem Dy.ext_iff' {a b : Dy} : (a.g = b.g ∧ natS a.n = natS b.n ∧ a.x = b.x) ↔ a = b := by
  obtain ⟨g, n, x⟩ := a
  obtain ⟨g', n', x'⟩ := b
  simp [natS_inj]
theorem str_inj {s s' : ByteArray} (h : s.toList = s'.toList) : s = s' := by
  rw [ByteArray.toList_eq, ByteArray.toList_eq] at h
  obtain ⟨a⟩ := s
  obtain ⟨b⟩ := s'
  have : a = b := Array.ext' h
  rw [this]
section
variable [Env]
end
def Dy.one : Dy := ⟨false, 1, 0⟩
theorem natS_dz : natS Dy.zero.n = ⟨#[]⟩ := natS_zero
end Go.Proofs.YtmjjodficjjehaaGreatDoor
namespace Go.Proofs.YtmjjodficjjehaaGreatDoor
open Go Go.RowKit Nt
@[irreducible] def okP (m : Nat) (q : Int) : Bool := decide (¬ (m = 9007199254740992 ∧ q = 971))
theorem okP_iff {m : Nat} {q : Int} : okP m q = true ↔ ¬ (m = 9007199254740992 ∧ q = 971) := by unfold okP; exact decide_eq_true_iff
theorem okP_lt {m : Nat} {q : Int} (h : m < 9007199254740992) : okP m q = true := okP_iff.2 (fun c => by omega)
@[irreducible] def mkW (g : Bool) (m : Nat) (q : Int) : Nat := if okP m q = true then Bt.wf g (pk m q) else 0
theorem mkW_ok {g : Bool} {m : Nat} {q : Int} (h : okP m q = true) : mkW g m q = Bt.wf g (pk m q) := by unfold mkW; rw [if_pos h]
theorem wf_f (x : Nat) : Bt.wf false x = x := by rw [Bt.wf_eq]; rfl
theorem inf_f {m : Nat} {q : Int} (h : ¬ okP m q = true) : Bt.wf false (pk m q) = 9218868437227405312 := by
  have h := Classical.not_not.1 (fun c => h (okP_iff.2 c))
  rw [h.1, h.2, wf_f, pk_eq]; rfl
theorem inf_t {m : Nat} {q : Int} (h : ¬ okP m q = true) : Bt.wf true (pk m q) = 18442240474082181120 := by
  have h := Classical.not_not.1 (fun c => h (okP_iff.2 c))
  rw [h.1, h.2, Bt.wf_eq, if_pos rfl, Bt.topped_eq, pk_eq]; rfl
theorem pk_zero : pk 0 (-1074) = 0 := by rw [pk_eq]; rfl
theorem bMake_i (g : Bool) (m : Nat) (q : Int) (w : World) (h1 : m ≤ 9007199254740992) (hq : -1074 ≤ q) (hq2 : q ≤ 971) (hm : 4503599627370496 ≤ m ∨ q = -1074) {b : Bool} (hb : b = true ↔ okP m q = true) (hG : Globs glT w) :
    Calls Tryz.prog 142 #[.bool g, .int .u64 m, .int .i64 q] w fun e w' => e = .returned (.tuple #[.float .f64 (mkW g m q), .bool b]) ∧ Below w.heap.size w w' := by
  refine (Bt.Make_c g m (by omega) q w (tabs_of hG)).mono ?_
  rintro e w' ⟨rfl, rfl⟩
  refine ⟨?_, Below.refl _ _⟩
  rw [Bool.eq_iff_iff.2 hb]
  by_cases h0 : m = 0
  · subst h0
    obtain rfl : q = -1074 := by omega
    rw [Bt.mkF_zero, Bt.mkB_zero, mkW_ok (okP_lt (by omega)), okP_lt (by omega), pk_zero]
  · by_cases hk : m = 9007199254740992 ∧ q = 971
    · obtain ⟨rfl, rfl⟩ := hk
      have e1 : ¬ okP 9007199254740992 971 = true := fun c => okP_iff.1 c ⟨rfl, rfl⟩
      have e2 : ¬ Bt.mkOk (Bt.od 9007199254740992) ((971 : Int) + Bt.tz 9007199254740992) := by
        rintro ⟨_, _, c⟩
        have h3 := Bt.tz_spec (m := 9007199254740992) (by omega) (by omega)
        have h4 := Bt.bl_lt (m := Bt.od 9007199254740992) (Nat.lt_of_le_of_lt Bt.od_le (by omega))
        revert h3 h4 c
        generalize Bt.tz 9007199254740992 = z
        generalize Bt.od 9007199254740992 = o
        generalize Lib.bitLen o = B
        intro c h3 h4
        have h5 : 9007199254740992 < 2 ^ (B + z) := by rw [← h3.1, Nat.pow_add]; exact Nat.mul_lt_mul_of_pos_right h4 (Nat.two_pow_pos z)
        have h6 : 53 < B + z := pow_lt_of (by rw [show (2 : Nat) ^ 53 = 9007199254740992 by decide]; exact h5)
        omega
      rw [Bt.mkF_no (by omega) e2, Bt.mkB_no (by omega) e2, Bool.eq_false_iff.2 e1]
      unfold mkW; rw [if_neg e1]
    · obtain ⟨e1, e2⟩ := mk_pk (by omega) h1 hq hq2 hm hk
      have e3 : okP m q = true := okP_iff.2 hk
      rw [Bt.mkF_ok (by omega) e1, Bt.mkB_ok e1, e2, mkW_ok e3, e3]
theorem brN_of {m : Nat} (h : m < 9007199254740992) : brN m = m ∧ brB m = true := by
  have := br_lt.2 (show m < 18446744073709551616 by omega)
  exact ⟨brN_yes this, brB_yes this⟩
theorem rM_fits {n : Nat} {x : Int} (h0 : n ≠ 0) : fits (rM n x) := by
  have := br_lt.2 (show rM n x < 18446744073709551616 by have := (rM_b (x := x) h0).1; omega)
  unfold fits; omega
theorem NSmall_r (g : Bool) (n : Nat) (x : Int) (w : World) (hn : (Dy.mk g n x).Num) :
    Calls Tryz.prog 116 #[.string (natS (rM n x))] w fun e w' => e = .returned (.tuple #[.int .u64 (rM n x : Nat), .bool true]) ∧ Below w.heap.size w w' := by
  have h := Small_c (rM n x) w (rM_fits (odd_ne hn.2.1))
  obtain ⟨e1, e2⟩ := brN_of (rM_b (x := x) (odd_ne hn.2.1)).1
  rwa [e1, e2] at h
theorem NShift_r (g : Bool) (n : Nat) (x : Int) (w : World) (hn : (Dy.mk g n x).Num) (h : ¬ 1024 ≤ rT n x) :
    Calls Tryz.prog 115 #[.string (natS n), .int .i64 (-(rQ n x - x))] w fun e w' => e = .returned (.tuple #[.string (natS (rM n x)), .int .i64 0]) ∧ Below w.heap.size w w' := by
  have h0 := odd_ne hn.2.1
  have hf : fits n := hn.1
  by_cases hu : rQ n x ≤ x
  · obtain ⟨e1, _⟩ := rM_up h hu
    by_cases hs : rQ n x = x
    · have e2 : rM n x = n := by rw [e1, hs, Int.sub_self]; simp
      rw [e2, hs, Int.sub_self]
      exact NShift_stay n w hf h0
    · have hff := rM_fits (x := x) h0
      rw [e1] at hff ⊢
      have := NShift_up n (x - rQ n x).toNat w hf h0 (by omega) hff
      rw [show (((x - rQ n x).toNat : Nat) : Int) = -(rQ n x - x) by omega] at this
      exact this
  · obtain ⟨e1, _⟩ := rM_dn h hu
    rw [e1]
    by_cases hs : (rQ n x - x).toNat < nd 2 n
    · have := NShift_down n (rQ n x - x).toNat w hf h0 (by omega) hs
      rw [show (-(((rQ n x - x).toNat : Nat) : Int)) = -(rQ n x - x) by omega] at this
      exact this
    · have := NShift_far n (-(rQ n x - x)) w hf h0 (by omega) (by omega)
      rw [show n / 2 ^ (rQ n x - x).toNat = 0 from Nat.div_eq_of_lt (Nat.lt_of_lt_of_le (lt_nd (b := 2) (by omega)) (Nat.pow_le_pow_right (by omega) (by omega))), natS_zero]
      exact this
@[irreducible] def rB (n : Nat) (x : Int) : Nat := dgt 2 n ((rQ n x - x).toNat - 1)
theorem NBit_r (g : Bool) (n : Nat) (x : Int) (w : World) (hn : (Dy.mk g n x).Num) (hu : ¬ rQ n x ≤ x) :
    Calls Tryz.prog 145 #[.string (natS n), .int .i64 (rQ n x - x - 1)] w fun e w' => e = .returned (.tuple #[.int .u8 (rB n x : Nat), .int .i64 0]) ∧ Below w.heap.size w w' := by
  have hb := (rQ_b n x).2
  have hx : -1048576 ≤ x := hn.2.2.1
  have := NBit_c n ((rQ n x - x).toNat - 1) w hn.1 (by omega)
  rw [show (((rQ n x - x).toNat - 1 : Nat) : Int) = rQ n x - x - 1 by omega] at this
  unfold rB
  exact this
theorem DTop_r (g : Bool) (n : Nat) (x : Int) (w : World) (hn : (Dy.mk g n x).Num) : Calls Tryz.prog 112 #[.agg #[.bool g, .string (natS n), .int .i64 x]] w fun e w' => e = .returned (.tuple #[.int .i64 (rT n x), .bool true]) ∧ Below w.heap.size w w' := DTop_num g n x w hn.1 hn.2.1 hn.2.2.1 hn.2.2.2
theorem rTop_r (g : Bool) (n : Nat) (x : Int) (w : World) (hn : (Dy.mk g n x).Num) : Calls Tryz.prog 64 #[.agg #[.bool g, .string (natS n), .int .i64 x]] w fun e w' => e = .returned (.tuple #[.int .i64 (rT n x), .bool true]) ∧ Below w.heap.size w w' := rTop3_num g n x w hn.1 (odd_ne hn.2.1) hn.2.2.1 hn.2.2.2
theorem Least_r (g : Bool) (n : Nat) (x : Int) (w : World) (hn : (Dy.mk g n x).Num) (h : ¬ 1024 ≤ rT n x) :
    Calls Tryz.prog 114 #[.int .i64 (rT n x)] w fun e w' => e = .returned (.int .i64 (rQ n x)) ∧ Below w.heap.size w w' := by
  have e := (rQ_near h).symm
  have hx := hn.2.2
  simp only at hx
  have hr : rT n x = (nd 2 n : Int) - 1 + x := rfl
  have hw1 : wrap64 (rT n x - 52) = rT n x - 52 := IntWalk.wrap64_in _ (by omega)
  clear hr hn h
  generalize rQ n x = q at *
  generalize rT n x = t at *
  go_enter Tryz.func114, Tryz.ntmps114
  go_wp2
  go_ret
  exact ⟨rfl, Below.refl _ _⟩
theorem DCheck_dyr (a : Dy) (ha : a.Ok) (w : World) : Calls Tryz.prog 72 #[.agg #[.bool a.g, .string (natS a.n), .int .i64 a.x]] w fun e w' => e = .returned (.int .i64 0) ∧ Below w.heap.size w w' := by
  have h := DCheck_c a.t w (by have := Dy.small ha; show (natS a.n).size ≤ _; omega)
  rwa [dE_ok (fun t ht => by rw [List.mem_singleton.1 ht]; exact Dy.ok_t ha)] at h
theorem rW_b {n : Nat} {x : Int} : rW n x = 0 ∨ rW n x = 1 ∨ rW n x = 2 ∨ rW n x = 3 := by
  by_cases h : 1024 ≤ rT n x
  · exact Or.inr (Or.inr (Or.inr (rQ_far h).2.2))
  · by_cases hu : rQ n x ≤ x
    · exact Or.inl (rM_up h hu).2
    · rw [(rM_dn h hu).2]; unfold cmpN; split
      · exact Or.inr (Or.inl rfl)
      · split
        · exact Or.inr (Or.inr (Or.inl rfl))
        · exact Or.inr (Or.inr (Or.inr rfl))
theorem rW_dn {g : Bool} {n : Nat} {x : Int} (hn : (Dy.mk g n x).Num) (h : ¬ 1024 ≤ rT n x) (hu : ¬ rQ n x ≤ x) : rW n x = if rB n x = 0 then 1 else if rQ n x - x = 1 then 2 else 3 := by
  rw [(rM_dn h hu).2, rest_bits hn.2.1 (by omega)]
  unfold rB
  split
  · rfl
  · by_cases hk : rQ n x - x = 1
    · rw [if_pos hk, if_pos (by omega)]
    · rw [if_neg hk, if_neg (by omega)]
@[irreducible] def upNear (n : Nat) (x : Int) : Bool := decide (rW n x = 3 ∨ (rW n x = 2 ∧ rM n x % 2 = 1))
@[irreducible] def upAbove (g : Bool) (n : Nat) (x : Int) : Bool := !g && decide (rW n x ≠ 0)
@[irreducible] def upBelow (g : Bool) (n : Nat) (x : Int) : Bool := g && decide (rW n x ≠ 0)
theorem upNear_t {n : Nat} {x : Int} (h : rW n x = 3 ∨ (rW n x = 2 ∧ rM n x % 2 = 1)) : upNear n x = true := by unfold upNear; exact decide_eq_true h
theorem upNear_f {n : Nat} {x : Int} (h : ¬ (rW n x = 3 ∨ (rW n x = 2 ∧ rM n x % 2 = 1))) : upNear n x = false := by unfold upNear; exact decide_eq_false h
theorem upAbove_n (n : Nat) (x : Int) : upAbove true n x = false := by unfold upAbove; rfl
theorem upAbove_t {n : Nat} {x : Int} (h : rW n x ≠ 0) : upAbove false n x = true := by unfold upAbove; simp [h]
theorem upAbove_f {n : Nat} {x : Int} (h : rW n x = 0) : upAbove false n x = false := by unfold upAbove; simp [h]
theorem eqS_run {t : TypeId} {s s' : ByteArray} {c : Bool} (h : c = true ↔ s = s') (p q : Operand) (w : World) : (do eqGuard .eql t p q (.string s) (.string s'); binOp .eql t (.string s) (.string s')).run Tryz.prog w = .ok (.bool c) w := by
  go_simp
  by_cases h2 : s.toList = s'.toList
  · rw [h.2 (str_inj h2)]; simp [h2]
  · rw [show c = false by cases c <;> first | rfl | exact absurd (congrArg _ (h.1 rfl)) h2]; simp [h2]
section
variable [Env]
theorem opt_un {P : Program} {op : UnOp} {t : TypeId} {a r : AV} (hr : ground r = true) (h : ∀ w, (Op.unary op (gval a)).run P w = .ok (gval r) w) : OpT P [1, unKey op, t] [a] r := by
  refine ⟨hr, fun o xs hk ρ hρ hx w => ?_⟩
  unfold keyOf at hk
  obtain ⟨dst, o, type, pos, after, guard⟩ := o
  simp only at hk
  split at hk
  · simp only [Option.some.injEq, Prod.mk.injEq, List.cons.injEq] at hk; have := hk.1.1; omega
  · rename_i op' t' x
    simp only [Option.some.injEq, Prod.mk.injEq, List.cons.injEq, and_true, true_and] at hk
    obtain ⟨⟨h1, h2⟩, h3⟩ := hk
    subst h2 h3
    have ho : op' = op := by cases op' <;> cases op <;> first | rfl | cases h1
    subst ho
    simp only [List.map_cons, List.map_nil, List.cons.injEq, and_true] at hx
    have := h w
    simp only [execOp, hx, Sem.run_bind, Sem.run_pure] at this ⊢
    rw [this]; rfl
  all_goals first
    | (simp only [Option.some.injEq, Prod.mk.injEq, List.cons.injEq] at hk; have := hk.1.1; omega)
    | (split at hk <;> first | cases hk | (simp only [Option.some.injEq, Prod.mk.injEq, List.cons.injEq] at hk; have := hk.1.1; omega))
    | cases hk
theorem opt_sub {P : Program} {t : TypeId} {a b r : AV} {x y z : Int} (ha : gval a = .int .i64 x) (hb : gval b = .int .i64 y) (hr : ground r = true) (hv : gval r = .int .i64 z) (h : x - y = z) (h1 : -9223372036854775808 ≤ z ∧ z ≤ 9223372036854775807) : OpT P [0, 1, t] [a, b] r :=
  opt_int (op := .sub) ha hb hr hv fun w => by
    have : IntKind.i64.wrap (x - y) = z := by rw [h]; exact IntWalk.i64_in _ h1
    simp [binOp, Op.intArith, this]
theorem opt_neg {P : Program} {t : TypeId} {a r : AV} {x z : Int} (ha : gval a = .int .i64 x) (hr : ground r = true) (hv : gval r = .int .i64 z) (h : -x = z) (h1 : -9223372036854775808 ≤ z ∧ z ≤ 9223372036854775807) : OpT P [1, 0, t] [a] r :=
  opt_un (op := .neg) hr fun w => by
    have : IntKind.i64.wrap (0 - x) = z := by rw [Int.zero_sub, h]; exact IntWalk.i64_in _ h1
    rw [ha, hv]; simp only [Op.unary, Op.intArith, this]; rfl
theorem opt_add64 {P : Program} {t : TypeId} {a b r : AV} {x y z : Nat} (ha : gval a = .int .u64 x) (hb : gval b = .int .u64 y) (hr : ground r = true) (hv : gval r = .int .u64 z) (h : x + y = z) (h1 : z < 18446744073709551616) : OpT P [0, 0, t] [a, b] r :=
  opt_int (op := .add) ha hb hr hv fun w => by
    have : IntKind.u64.wrap ((x : Int) + (y : Int)) = z := by rw [IntKind.wrap_u64]; omega
    simp [binOp, Op.intArith, this]
theorem opt_odd {P : Program} {t : TypeId} {a b r : AV} {x : Nat} (ha : gval a = .int .u64 x) (hb : gval b = .int .u64 1) (hr : ground r = true) (hv : gval r = .int .u64 (x % 2 : Nat)) (h1 : x < 18446744073709551616) : OpT P [0, 5, t] [a, b] r :=
  opt_int (op := .and) ha hb hr hv fun w => by
    have : bits BinOp.and IntKind.u64 (x : Int) 1 = ((x % 2 : Nat) : Int) := by
      have e1 : (BitVec.ofInt 64 (x : Int)).toNat = x := by
        rw [BitVec.ofInt_natCast, BitVec.toNat_ofNat]; exact Nat.mod_eq_of_lt (by omega)
      have e2 : (BitVec.ofInt 64 (1 : Int)).toNat = 1 := by decide
      show IntKind.u64.wrap ((BitVec.ofInt 64 (x : Int) &&& BitVec.ofInt 64 (1 : Int)).toNat : Int) = _
      rw [BitVec.toNat_and, e1, e2, Nat.and_one_is_mod, IntKind.wrap_u64]
      omega
    go_simp
end
end Go.Proofs.YtmjjodficjjehaaGreatDoor
