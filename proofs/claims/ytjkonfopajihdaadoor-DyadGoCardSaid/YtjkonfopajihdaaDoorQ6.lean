/- Texts put together: D45 D62 Sy SyD D63. -/
import Derived.Test.YtjkonfopajihdaaDoorQ5
import Derived.Test.YtjkonfopajihdaaDoorQ4
import Derived.Test.YtjkonfopajihdaaDoorQ2
set_option linter.unusedSimpArgs false
set_option linter.unusedVariables false
namespace Go.Proofs.YtjkonfopajihdaaDoor
open Go Go.RowKit Nt

theorem nd_one : nd 256 1 = 1 := by rw [nd_step (by omega) (by omega), show 1 / 256 = 0 from rfl, nd_zero]
theorem dgt_one : dgt 256 1 0 = 1 := by rw [dgt_def]
theorem own_one (W : World) : Own (W.alloc (.cells #[.int .i64 1] 3)) W.heap.size 3 .i64 (.slice (some ⟨W.heap.size, 0, none⟩) 1 1) (dl 256 1 1) := by
  have e : fcells .i64 (dgt 256 1) 1 = #[.int .i64 1] := by
    unfold fcells
    simp [dgt_one]
  have := Own.of_fcells3 (w := W.alloc (.cells #[.int .i64 1] 3)) (B := W.heap.size) (g := W.heap.size) (T := 3) (k := .i64) (f := dgt 256 1) (L := 1) (by rw [e]; exact Blk.new W _ _) (Nat.le_refl _) (by omega)
  exact this
set_option maxRecDepth 100000 in
set_option maxHeartbeats 2000000 in
theorem rFloor3_zero (k : Int) (w : World) :
    Calls Tryd.prog 52 #[.agg #[.bool false, .string ⟨#[]⟩, .int .i64 0], .int .i64 k] w (FlPost3 Dy.zero k w) := by
  have T0 := OC.start w ⟨false, ⟨#[]⟩, 0⟩
  obtain ⟨p0, p1, p2, p3, p4, p5, p6⟩ := T0.1.2.facts
  obtain ⟨r0, r1, r2, r3, r4, r5, r6⟩ := T0.2.facts
  unfold FlPost3
  have hcase : k < -1048576 ∨ (¬ k < -1048576 ∧ 1048576 < k) ∨ (¬ k < -1048576 ∧ ¬ 1048576 < k) := by omega
  rcases hcase with h1 | ⟨h1, h2⟩ | ⟨h1, h2⟩
  case' inr.inr =>
    have HR := Lib.hid (fl_self (d := Dy.zero) (k := k) (by omega) (Or.inl rfl))
    go_enter Tryd.func52, Tryd.ntmps52
    go_wp2_with fail
    refine bodyPost_ret (v := .tuple #[.agg #[.bool false, .string ⟨#[]⟩, .int .i64 0], .int .i64 0]) (by simp [results, Tryd.results52, go_sem, r0, r1, r2, r3]) rfl ⟨by rw [HR.out.1, HR.out.2, Dy.zero_v], ?_⟩
    repeat (refine Below.setCell ?_ (by simp) _)
    first
      | exact T0.1.1
      | exact ((Below.refl _ _).alloc (Nat.le_refl _) _).alloc (by simp) _
  case' inl => have HR := Lib.hid (fl_out (d := Dy.zero) (k := k) (Or.inl h1))
  case' inr.inl => have HR := Lib.hid (fl_out (d := Dy.zero) (k := k) (Or.inr h2))
  all_goals
    go_enter Tryd.func52, Tryd.ntmps52
    go_wp2_with fail
    refine bodyPost_ret (v := .tuple #[.agg #[.bool false, .string ⟨#[]⟩, .int .i64 0], .int .i64 2]) (by simp [results, Tryd.results52, go_sem, r0, r1, r2, r3]) rfl ⟨by rw [HR.out.1, HR.out.2, Dy.zero_v], ?_⟩
    repeat (refine Below.setCell ?_ (by simp) _)
    first
      | exact T0.1.1
      | exact ((Below.refl _ _).alloc (Nat.le_refl _) _).alloc (by simp) _
set_option maxRecDepth 100000 in
set_option maxHeartbeats 2000000 in
theorem rFloor3_num (g : Bool) (n : Nat) (x k : Int) (w : World) (hn : (Dy.mk g n x).Num) :
    Calls Tryd.prog 52 #[.agg #[.bool g, .string (natS n), .int .i64 x], .int .i64 k] w (FlPost3 ⟨g, n, x⟩ k w) := by
  have T0 := OC.start w ⟨g, natS n, x⟩
  obtain ⟨p0, p1, p2, p3, p4, p5, p6⟩ := T0.1.2.facts
  obtain ⟨r0, r1, r2, r3, r4, r5, r6⟩ := T0.2.facts
  have hE := natS_full (odd_ne hn.2.1)
  have hE2 := natS_full2 (odd_ne hn.2.1)
  have hx : -1048576 ≤ x ∧ x ≤ 1048576 := hn.2.2
  have hf : fits n := hn.1
  have h0 : n ≠ 0 := odd_ne hn.2.1
  have hsz := natS_size n
  have hL : nd 256 n ≤ 16384 := hf
  unfold FlPost3
  have hcase : k < -1048576 ∨ (¬ k < -1048576 ∧ 1048576 < k) ∨ (¬ k < -1048576 ∧ ¬ 1048576 < k ∧ k ≤ x) ∨ (¬ k < -1048576 ∧ ¬ 1048576 < k ∧ ¬ k ≤ x) := by omega
  rcases hcase with h1 | ⟨h1, h2⟩ | ⟨h1, h2, h3⟩ | ⟨h1, h2, h3⟩
  case' inr.inr.inl =>
    have HR := Lib.hid (fl_self (d := ⟨g, n, x⟩) (k := k) (by omega) (Or.inr h3))
    clear hn hf h0
    go_enter Tryd.func52, Tryd.ntmps52
    go_wp2_with fail
    refine bodyPost_ret (v := .tuple #[.agg #[.bool g, .string (natS n), .int .i64 x], .int .i64 0]) (by simp [results, Tryd.results52, go_sem, r0, r1, r2, r3]) rfl ⟨by rw [HR.out.1, HR.out.2]; rfl, ?_⟩
    repeat (refine Below.setCell ?_ (by simp) _)
    first
      | exact T0.1.1
      | exact ((Below.refl _ _).alloc (Nat.le_refl _) _).alloc (by simp) _
  case' inr.inr.inr =>
    obtain ⟨j, hj⟩ : ∃ j, j = (k - x).toNat := ⟨_, rfl⟩
    have hj0 : 0 < j := by omega
    have hjb : j ≤ 2097152 := by omega
    have hjx : k - x = (j : Int) := by omega
    have HR := fl_mk (d := ⟨g, n, x⟩) (k := k) (by omega) (by rintro (c | c); exact h0 c; exact h3 c)
    have hfn : flN ⟨g, n, x⟩ k = n / 2 ^ j + (if g = true then 1 else 0) := by unfold flN; rw [hj]
    rw [hfn] at HR
    have hk : -9223372036854775808 ≤ k ∧ k ≤ 9223372036854775807 := by omega
    obtain ⟨z, hz⟩ : ∃ z, z = n / 2 ^ j := ⟨_, rfl⟩
    have hhf := half_fits hf h0 hj0
    rw [← hz] at HR hhf
    have hzW : nd 256 z ≤ 16384 := hhf.1
    have hz1 : nd 256 (z + 1) ≤ 100000 := Nat.le_trans hhf.2 (by omega)
    have KO := Lib.hid (fun w => rOf3_c n w (by omega))
    have KH : Hid (∀ (B : Nat) (A : Option Addr) (c : Nat) (W' : World), Own W' B 3 .i64 (.slice A (nd 256 n) c) (dl 256 n (nd 256 n)) → Calls Tryd.prog 91 #[.slice A (nd 256 n) c, .int .i64 (j : Nat)] W' (BigP z W')) := Lib.hid fun B A c W' h => by
      have := rHalved3_c n (j / 8) (j % 8) B A c W' (by omega) (by omega) (by omega) h
      rw [show 8 * (j / 8) + j % 8 = j by omega] at this
      rw [hz]; exact this
    have hfar : 8 * nd 256 n < j → z = 0 := fun c => by
      rw [hz]
      have hb := (bits_le n (nd 256 n)).2 (Nat.le_refl _)
      exact Nat.div_eq_of_lt (Nat.lt_of_lt_of_le (lt_nd (b := 2) (by omega)) (Nat.pow_le_pow_right (by omega) (by omega)))
    have HFAR := Lib.hid hfar
    clear hn hz hfn hf h0 hj hj0 hhf hfar
    by_cases hnear : j ≤ 8 * nd 256 n
    case' pos =>
      have hnear2 : (j : Int) ≤ 8 * (nd 256 n : Int) := by omega
      cases g
      case' false =>
        rw [if_neg (by decide), Nat.add_zero] at HR
        have KF : Hid (∀ (B : Nat) (A : Option Addr) (c : Nat) (W' : World), Own W' B 3 .i64 (.slice A (nd 256 z) c) (dl 256 z (nd 256 z)) → Calls Tryd.prog 66 #[.bool false, .slice A (nd 256 z) c, .int .i64 k] W' (MkPost false z k W')) := Lib.hid fun B A c W' h => rFit3_c false z k B A c W' (by omega) hk h
        have HRR := Lib.hid HR
        clear HR
        unfold MkPost at KF
        generalize mkD false z k = D at *
        generalize mkE z k = E at *
        go_enter Tryd.func52, Tryd.ntmps52
        go_wp2_with fail
        refine (KO.out _).mono ?_
        rintro e w1 ⟨v1, rfl, hown1, hb⟩
        obtain ⟨A1, c1, rfl, hc1⟩ := hown1.len
        rw [dl_length] at hown1 hc1 ⊢
        replace T0 := T0.step hb
        clear hb p0 p1 p2 p3 p4 p5 p6 r0 r1 r2 r3 r4 r5 r6
        obtain ⟨p0, p1, p2, p3, p4, p5, p6⟩ := T0.1.2.facts
        have KH2 := Lib.hid (KH.out _ _ _ _ hown1)
        clear hown1 hc1
        go_wp2_with fail
        refine KH2.out.mono ?_
        rintro e w2 ⟨A2, c2, rfl, hown2, hb⟩
        replace T0 := T0.step hb
        have HOW := Lib.hid hown2
        clear hb hown2 p0 p1 p2 p3 p4 p5 p6
        obtain ⟨p0, p1, p2, p3, p4, p5, p6⟩ := T0.1.2.facts
        go_wp2_with fail
        refine (KF.out _ _ _ _ HOW.out).mono ?_
        rintro e w4 ⟨rfl, hb⟩
        replace T0 := T0.step hb
        try clear r0 r1 r2 r3 r4 r5 r6
        clear hb p0 p1 p2 p3 p4 p5 p6
        obtain ⟨r0, r1, r2, r3, r4, r5, r6⟩ := T0.2.facts
        unfold Dy.v
        go_wp2_with fail
        refine bodyPost_ret (v := .tuple #[D.v, .int .i64 E]) (by simp [results, Tryd.results52, go_sem, r0, r1, r2, r3, Dy.v]) rfl ⟨by rw [HRR.out.1, HRR.out.2], ?_⟩
        exact T0.fin _ _ _
      case' true =>
        have KF : Hid (∀ (B : Nat) (A : Option Addr) (c : Nat) (W' : World), Own W' B 3 .i64 (.slice A (nd 256 (z + 1)) c) (dl 256 (z + 1) (nd 256 (z + 1))) → Calls Tryd.prog 66 #[.bool true, .slice A (nd 256 (z + 1)) c, .int .i64 k] W' (MkPost true (z + 1) k W')) := Lib.hid fun B A c W' h => rFit3_c true (z + 1) k B A c W' hz1 hk h
        rw [if_pos rfl] at HR
        have KP : Hid (∀ (A : Option Addr) (c : Nat) (B : Nat) (W' : World) (A' : Nat), A' = W'.heap.size → Own W' B 3 .i64 (.slice A (nd 256 z) c) (dl 256 z (nd 256 z)) → Calls Tryd.prog 87 #[.slice A (nd 256 z) c, .slice (some ⟨A', 0, none⟩) 1 1] (W'.alloc (.cells #[.int .i64 1] 3)) (BigP (z + 1) (W'.alloc (.cells #[.int .i64 1] 3)))) := Lib.hid fun A c B W' A' hA h => by
          subst hA
          have h2 := own_one W'
          have h3 : Own (W'.alloc (.cells #[.int .i64 1] 3)) B 3 .i64 (.slice A (nd 256 z) c) (dl 256 z (nd 256 z)) := World.ownsRow.alloc h _
          have := rPlus3_c z 1 B W'.heap.size A (some ⟨W'.heap.size, 0, none⟩) c 1 (W'.alloc (.cells #[.int .i64 1] 3)) (by omega) (by rw [nd_one]; omega) h3 (by rw [nd_one]; exact h2)
          rw [nd_one] at this
          exact this
        have HRR := Lib.hid HR
        clear HR
        unfold MkPost at KF
        generalize mkD true (z + 1) k = D at *
        generalize mkE (z + 1) k = E at *
        go_enter Tryd.func52, Tryd.ntmps52
        go_wp2_with fail
        refine (KO.out _).mono ?_
        rintro e w1 ⟨v1, rfl, hown1, hb⟩
        obtain ⟨A1, c1, rfl, hc1⟩ := hown1.len
        rw [dl_length] at hown1 hc1 ⊢
        replace T0 := T0.step hb
        clear hb p0 p1 p2 p3 p4 p5 p6 r0 r1 r2 r3 r4 r5 r6
        obtain ⟨p0, p1, p2, p3, p4, p5, p6⟩ := T0.1.2.facts
        have KH2 := Lib.hid (KH.out _ _ _ _ hown1)
        clear hown1 hc1
        go_wp2_with fail
        refine KH2.out.mono ?_
        rintro e w2 ⟨A2, c2, rfl, hown2, hb⟩
        replace T0 := T0.step hb
        have HOW := Lib.hid hown2
        clear hb hown2 p0 p1 p2 p3 p4 p5 p6
        obtain ⟨p0, p1, p2, p3, p4, p5, p6⟩ := T0.1.2.facts
        go_wp2_with fail
        refine (KP.out _ _ _ _ _ (by simp) HOW.out).mono ?_
        rintro e w3 ⟨A3, c3, rfl, hown3, hb⟩
        replace T0 := (T0.more _).step hb
        have HOW3 := Lib.hid hown3
        clear hb hown3 p0 p1 p2 p3 p4 p5 p6
        obtain ⟨p0, p1, p2, p3, p4, p5, p6⟩ := T0.1.2.facts
        go_wp2_with fail
        refine (KF.out _ _ _ _ HOW3.out).mono ?_
        rintro e w4 ⟨rfl, hb⟩
        replace T0 := T0.step hb
        try clear r0 r1 r2 r3 r4 r5 r6
        clear hb p0 p1 p2 p3 p4 p5 p6
        obtain ⟨r0, r1, r2, r3, r4, r5, r6⟩ := T0.2.facts
        unfold Dy.v
        go_wp2_with fail
        refine bodyPost_ret (v := .tuple #[D.v, .int .i64 E]) (by simp [results, Tryd.results52, go_sem, r0, r1, r2, r3, Dy.v]) rfl ⟨by rw [HRR.out.1, HRR.out.2], ?_⟩
        exact T0.fin _ _ _
    case' neg =>
      have HZ := Lib.hid (HFAR.out (by omega))
      have hnear2 : ¬ (j : Int) ≤ 8 * (nd 256 n : Int) := by omega
      cases g
      case' false =>
        rw [if_neg (by decide), Nat.add_zero] at HR
        have KF : Hid (∀ (W' : World), Calls Tryd.prog 66 #[.bool false, .slice none 0 0, .int .i64 k] W' (MkPost false z k W')) := Lib.hid fun W' => by
          rw [HZ.out]; exact rFit3_zero false k none 0 W'
        have HRR := Lib.hid HR
        clear HR
        unfold MkPost at KF
        generalize mkD false z k = D at *
        generalize mkE z k = E at *
        go_enter Tryd.func52, Tryd.ntmps52
        go_wp2_with fail
        refine (KF.out _).mono ?_
        rintro e w4 ⟨rfl, hb⟩
        replace T0 := T0.step hb
        try clear r0 r1 r2 r3 r4 r5 r6
        clear hb p0 p1 p2 p3 p4 p5 p6
        obtain ⟨r0, r1, r2, r3, r4, r5, r6⟩ := T0.2.facts
        unfold Dy.v
        go_wp2_with fail
        refine bodyPost_ret (v := .tuple #[D.v, .int .i64 E]) (by simp [results, Tryd.results52, go_sem, r0, r1, r2, r3, Dy.v]) rfl ⟨by rw [HRR.out.1, HRR.out.2], ?_⟩
        exact T0.fin _ _ _
      case' true =>
        have KF : Hid (∀ (B : Nat) (A : Option Addr) (c : Nat) (W' : World), Own W' B 3 .i64 (.slice A (nd 256 (z + 1)) c) (dl 256 (z + 1) (nd 256 (z + 1))) → Calls Tryd.prog 66 #[.bool true, .slice A (nd 256 (z + 1)) c, .int .i64 k] W' (MkPost true (z + 1) k W')) := Lib.hid fun B A c W' h => rFit3_c true (z + 1) k B A c W' hz1 hk h
        rw [if_pos rfl] at HR
        have KP : Hid (∀ (W' : World) (A' : Nat), A' = W'.heap.size → Calls Tryd.prog 87 #[.slice none 0 0, .slice (some ⟨A', 0, none⟩) 1 1] (W'.alloc (.cells #[.int .i64 1] 3)) (BigP (z + 1) (W'.alloc (.cells #[.int .i64 1] 3)))) := Lib.hid fun W' A' hA => by
          subst hA
          have h2 := own_one W'
          have := rPlus3_c 0 1 0 W'.heap.size none (some ⟨W'.heap.size, 0, none⟩) 0 1 (W'.alloc (.cells #[.int .i64 1] 3)) (by rw [nd_zero]; omega) (by rw [nd_one]; omega) (by rw [nd_zero]; exact Own.nil _ _ _ _) (by rw [nd_one]; exact h2)
          rw [nd_one, nd_zero] at this
          rw [HZ.out]
          exact this
        have HRR := Lib.hid HR
        clear HR
        unfold MkPost at KF
        generalize mkD true (z + 1) k = D at *
        generalize mkE (z + 1) k = E at *
        go_enter Tryd.func52, Tryd.ntmps52
        go_wp2_with fail
        refine (KP.out _ _ (by simp)).mono ?_
        rintro e w3 ⟨A3, c3, rfl, hown3, hb⟩
        replace T0 := (T0.more _).step hb
        have HOW3 := Lib.hid hown3
        clear hb hown3 p0 p1 p2 p3 p4 p5 p6
        obtain ⟨p0, p1, p2, p3, p4, p5, p6⟩ := T0.1.2.facts
        go_wp2_with fail
        refine (KF.out _ _ _ _ HOW3.out).mono ?_
        rintro e w4 ⟨rfl, hb⟩
        replace T0 := T0.step hb
        try clear r0 r1 r2 r3 r4 r5 r6
        clear hb p0 p1 p2 p3 p4 p5 p6
        obtain ⟨r0, r1, r2, r3, r4, r5, r6⟩ := T0.2.facts
        unfold Dy.v
        go_wp2_with fail
        refine bodyPost_ret (v := .tuple #[D.v, .int .i64 E]) (by simp [results, Tryd.results52, go_sem, r0, r1, r2, r3, Dy.v]) rfl ⟨by rw [HRR.out.1, HRR.out.2], ?_⟩
        exact T0.fin _ _ _
  case' inl => have HR := Lib.hid (fl_out (d := ⟨g, n, x⟩) (k := k) (Or.inl h1))
  case' inr.inl => have HR := Lib.hid (fl_out (d := ⟨g, n, x⟩) (k := k) (Or.inr h2))
  all_goals
    clear hn hf h0
    go_enter Tryd.func52, Tryd.ntmps52
    go_wp2_with fail
    refine bodyPost_ret (v := .tuple #[.agg #[.bool false, .string ⟨#[]⟩, .int .i64 0], .int .i64 2]) (by simp [results, Tryd.results52, go_sem, r0, r1, r2, r3]) rfl ⟨by rw [HR.out.1, HR.out.2, Dy.zero_v], ?_⟩
    repeat (refine Below.setCell ?_ (by simp) _)
    first
      | exact T0.1.1
      | exact ((Below.refl _ _).alloc (Nat.le_refl _) _).alloc (by simp) _
theorem rFloor3_c (a : Dy) (k : Int) (w : World) (ha : a.Ok) : Calls Tryd.prog 52 #[.agg #[.bool a.g, .string (natS a.n), .int .i64 a.x], .int .i64 k] w (FlPost3 a k w) := by
  rcases ha with rfl | ha
  · show Calls _ _ #[.agg #[.bool false, .string (natS 0), .int .i64 0], _] _ _
    rw [natS_zero]; exact rFloor3_zero k w
  · exact rFloor3_num a.g a.n a.x k w ha
end Go.Proofs.YtjkonfopajihdaaDoor
set_option linter.unusedSimpArgs false
set_option linter.unusedVariables false
namespace Go.Proofs.YtjkonfopajihdaaDoor
open Go Go.RowKit Nt

def ArPost (n : Nat) (x : Int) (w : World) (e : Ending) (w' : World) : Prop := e = .returned (.tuple #[.float .f64 (pk (rM n x) (rQ n x)), .float .f64 (pk (rM n x + 1) (rQ n x)), .int .i64 (rW n x), .bool (rM n x % 2 == 0)]) ∧ Below w.heap.size w w'
set_option maxRecDepth 100000 in
theorem rAround_far (g : Bool) (n : Nat) (x : Int) (w : World) (hn : (Dy.mk g n x).Num) (h : 1024 ≤ rT n x) :
    Calls Tryd.prog 73 #[.agg #[.bool g, .string (natS n), .int .i64 x]] w (ArPost n x w) := by
  unfold ArPost
  obtain ⟨e1, e2, e3⟩ := rQ_far h
  rw [e1, e2, e3]
  have KT : Hid (∀ w, Calls Tryd.prog 20 #[.agg #[.bool g, .string (natS n), .int .i64 x]] w fun e w' => e = .returned (.tuple #[.int .i64 (rT n x), .bool true]) ∧ Below w.heap.size w w') := Lib.hid (fun w => rTop3_num g n x w hn.1 (odd_ne hn.2.1) hn.2.2.1 hn.2.2.2)
  have KP : Hid (∀ w, Calls Tryd.prog 111 #[.bool false, .int .u64 9007199254740991, .int .i64 971] w fun e w' => e = .returned (.float .f64 (pk 9007199254740991 971)) ∧ w = w') := Lib.hid (fun w => rPacked_c 9007199254740991 971 w (by omega) (by omega) (by omega) (Or.inl (by omega)))
  have KR : Hid (∀ w, Calls Tryd.prog 111 #[.bool false, .int .u64 9007199254740992, .int .i64 971] w fun e w' => e = .returned (.float .f64 (pk 9007199254740992 971)) ∧ w = w') := Lib.hid (fun w => rPacked_c 9007199254740992 971 w (by omega) (by omega) (by omega) (Or.inl (by omega)))
  have T0 := OB.start w ⟨g, natS n, x⟩
  generalize rT n x = t at *
  have h2 : ¬ t < 1024 := by omega
  clear hn e1 e2 e3
  go_enter Tryd.func73, Tryd.ntmps73
  obtain ⟨p0, p1, p2, p3, p4, p5, p6⟩ := T0.2.facts
  go_wp2_with fail
  refine (KT.out _).mono ?_
  rintro e w1 ⟨rfl, hb⟩
  replace T0 := T0.step hb
  clear hb p0 p1 p2 p3 p4 p5 p6
  go_wp2_with fail
  refine (KP.out _).mono ?_
  rintro e w2 ⟨rfl, rfl⟩
  go_wp2_with fail
  refine (KR.out _).mono ?_
  rintro e w2 ⟨rfl, rfl⟩
  go_wp2_with fail
  refine bodyPost_ret (v := .tuple #[.float .f64 (pk 9007199254740991 971), .float .f64 (pk 9007199254740992 971), .int .i64 3, .bool false]) (by simp [results, Tryd.results73, go_sem]) rfl ⟨rfl, T0.1⟩
theorem DRow.below {w w' : World} {A : Option Addr} {n L : Nat} (h : DRow w A n L) (hb : Below w.heap.size w w') : DRow w' A n L := fun j hj => by
  obtain ⟨g, e, hg, hc⟩ := h j hj
  exact ⟨g, e, Nat.lt_of_lt_of_le hg hb.size, (hb.cell (p := ⟨g, j, none⟩) hg).trans hc⟩
set_option maxRecDepth 100000 in
theorem rAround_up (g : Bool) (n : Nat) (x : Int) (w : World) (hn : (Dy.mk g n x).Num) (h : ¬ 1024 ≤ rT n x) (hu : rQ n x ≤ x) :
    Calls Tryd.prog 73 #[.agg #[.bool g, .string (natS n), .int .i64 x]] w (ArPost n x w) := by
  unfold ArPost
  obtain ⟨e1, e2⟩ := rM_up h hu
  have HM := Lib.hid (rM_b (x := x) (odd_ne hn.2.1))
  have HB := Lib.hid (rQ_b n x)
  have e3 := rQ_near h
  rw [e2]
  have hx := hn.2.2
  have hL : nd 256 n ≤ 16384 := hn.1
  have hb2 := bits_131072' hn.1
  have hr : rT n x = (nd 2 n : Int) - 1 + x := rfl
  have KT : Hid (∀ w, Calls Tryd.prog 20 #[.agg #[.bool g, .string (natS n), .int .i64 x]] w fun e w' => e = .returned (.tuple #[.int .i64 (rT n x), .bool true]) ∧ Below w.heap.size w w') := Lib.hid (fun w => rTop3_num g n x w hn.1 (odd_ne hn.2.1) hn.2.2.1 hn.2.2.2)
  have KO := Lib.hid (fun w => rOf3_c n w (by omega))
  have T0 := OB.start w ⟨g, natS n, x⟩
  have ht1 : -2000000 ≤ rT n x := by simp only at hx; omega
  have hw1 : wrap64 (rT n x - 52) = rT n x - 52 := IntWalk.wrap64_in _ (by omega)
  have HO := Lib.hid hn.2.1
  generalize rT n x = t at *
  have h2 : t < 1024 := by omega
  clear hr h hn
  have KPK : Hid (∀ w, Calls Tryd.prog 111 #[.bool false, .int .u64 (rM n x : Nat), .int .i64 (rQ n x)] w fun e w' => e = .returned (.float .f64 (pk (rM n x) (rQ n x))) ∧ w = w') := Lib.hid (fun w => rPacked_c _ _ w (Nat.le_of_lt HM.out.1) HB.out.1 HB.out.2 HM.out.2)
  have KPK2 : Hid (∀ w, Calls Tryd.prog 111 #[.bool false, .int .u64 (rM n x + 1 : Nat), .int .i64 (rQ n x)] w fun e w' => e = .returned (.float .f64 (pk (rM n x + 1) (rQ n x))) ∧ w = w') := Lib.hid (fun w => rPacked_c _ _ w HM.out.1 HB.out.1 HB.out.2 (HM.out.2.imp (fun h => Nat.le_succ_of_le h) id))
  have hq1 := HB.out.1
  have hq2 := HB.out.2
  have hm1 := HM.out.1
  clear HB HM
  simp only at hx
  obtain ⟨hx1, hx2⟩ := hx
  have hs0 : x - rQ n x = ((x - rQ n x).toNat : Int) := by omega
  have hsb : (x - rQ n x).toNat ≤ 8000000 := by omega
  have KH : Hid (∀ (B : Nat) (A : Option Addr) (c : Nat) (W' : World), Own W' B 3 .i64 (.slice A (nd 256 n) c) (dl 256 n (nd 256 n)) → Calls Tryd.prog 77 #[.slice A (nd 256 n) c, .int .i64 ((x - rQ n x).toNat : Nat)] W' (BigP (rM n x) W')) := by
    refine Lib.hid (fun B A c W' h => ?_)
    rw [e1]; exact rShifted3_c n _ B A c W' (by omega) hsb h
  have e4 := e3.symm
  clear e1 e2 e3
  generalize rM n x = M at *
  generalize rQ n x = q at *
  generalize (x - q).toNat = s at *
  have hge : ¬ x < q := by omega
  go_enter Tryd.func73, Tryd.ntmps73
  obtain ⟨p0, p1, p2, p3, p4, p5, p6⟩ := T0.2.facts
  go_wp2_with fail
  refine (KT.out _).mono ?_
  rintro e w1 ⟨rfl, hb⟩
  replace T0 := T0.step hb
  clear hb p0 p1 p2 p3 p4 p5 p6
  obtain ⟨p0, p1, p2, p3, p4, p5, p6⟩ := T0.2.facts
  go_wp2_with fail
  refine (KO.out _).mono ?_
  rintro e w2 ⟨v1, rfl, hown1, hb⟩
  obtain ⟨A1, c1, rfl, hc1⟩ := hown1.len
  rw [dl_length] at hown1 hc1 ⊢
  replace T0 := T0.step hb
  clear hb p0 p1 p2 p3 p4 p5 p6
  obtain ⟨p0, p1, p2, p3, p4, p5, p6⟩ := T0.2.facts
  go_wp2_with fail
  have KH2 := Lib.hid (KH.out _ _ _ _ hown1)
  clear hown1 hc1
  refine (KH2.out).mono ?_
  rintro e w3 ⟨A2, c2, rfl, hownM, hb⟩
  replace T0 := T0.step hb
  clear hb p0 p1 p2 p3 p4 p5 p6 KH KH2
  go_wp2_with fail
  have hbb : Below w3.heap.size w3 (w3.alloc (.cells #[.int .i64 1] 3)) := (Below.refl _ _).alloc (Nat.le_refl _) _
  -- the digits are gathered
  have hLM : nd 256 M ≤ 7 := nd_le (by omega) (Nat.lt_of_lt_of_le hm1 (by decide))
  have hw5 : wrap64 ((nd 256 M : Int) - 1) = (nd 256 M : Int) - 1 := IntWalk.wrap64_in _ (by omega)
  have HD := Lib.hid (hownM.drow.below hbb)
  have HLT := Lib.hid (lt_nd (b := 256) (n := M) (by omega))
  replace T0 := T0.step hbb
  clear hownM hbb
  generalize (w3.alloc _) = wX at *
  generalize nd 256 M = L at *
  go_loopw [14, 15] (fun a b wr => ∃ (k v : Nat) (z : Int), k ≤ L ∧ Hid (v = M / 256 ^ k) ∧ v ≤ M ∧ a = .int .u64 (v : Nat) ∧ b = .int .i64 z ∧ Hid (z = (k : Int) - 1) ∧ wr = wX) (fun _ b _ => (intOf b + 1).toNat)
  case atStart => exact ⟨L, 0, _, Nat.le_refl _, Lib.hid (Nat.div_eq_of_lt HLT.out).symm, Nat.zero_le _, rfl, rfl, Lib.hid (by first | exact hw5 | rfl), rfl⟩
  case round =>
    obtain ⟨k, v, z, hk, hv, hvM, rfl, rfl, hz, rfl⟩ := hrel
    by_cases h0 : k = 0
    · subst h0
      obtain rfl : z = -1 := by have := hz.out; omega
      obtain rfl : v = M := by rw [hv.out, Nat.pow_zero, Nat.div_one]
      clear HD HLT hvM
      obtain ⟨v1, hv1⟩ : ∃ v1, v1 = v + 1 := ⟨_, rfl⟩
      rw [← hv1] at KPK2
      have HV1 := Lib.hid hv1
      have hadd : (v : Int) + 1 = (v1 : Int) := by omega
      have hrem : ((v : Int) % 2 == 0) = (v % 2 == 0) := by rw [Bool.eq_iff_iff, beq_iff_eq, beq_iff_eq]; omega
      clear hv1
      go_wp2_with fail
      refine (KPK.out _).mono ?_
      rintro e w4 ⟨rfl, rfl⟩
      go_wp2_with fail
      refine (KPK2.out _).mono ?_
      rintro e w4 ⟨rfl, rfl⟩
      go_wp2_with fail
      refine bodyPost_ret (v := .tuple #[.float .f64 (pk v q), .float .f64 (pk v1 q), .int .i64 0, .bool (v % 2 == 0)]) (by simp [results, Tryd.results73, go_sem]) rfl ⟨by rw [HV1.out], T0.1⟩
    · obtain ⟨m, rfl⟩ : ∃ m, k = m + 1 := ⟨k - 1, by omega⟩
      obtain rfl : z = (m : Int) := by have := hz.out; omega
      obtain ⟨gb, rfl, hgb, hc⟩ := HD.out m (by omega)
      obtain ⟨v2, hv2⟩ : ∃ v2, v2 = M / 256 ^ m := ⟨_, rfl⟩
      have hdg : 256 * v + dgt 256 M m = v2 := by
        rw [hv2, hv.out, dgt_def, Nat.pow_succ, ← Nat.div_div_eq_div_mul]; omega
      have hdl := dgt_lt (b := 256) (by omega) M m
      have hvm : v2 ≤ M := hv2 ▸ Nat.div_le_self _ _
      have HV := Lib.hid hv2
      have hsum : 256 * (v : Int) + (dgt 256 M m : Int) = (v2 : Int) := by omega
      have hw6 : wrap64 ((m : Int) - 1) = (m : Int) - 1 := IntWalk.wrap64_in _ (by omega)
      have hmL : m < L := by omega
      clear hv2
      generalize dgt 256 M m = dm at *
      go_wp2_with fail
      exact ⟨⟨m, v2, _, by omega, HV, hvm, rfl, rfl, Lib.hid rfl, trivial⟩, by simp [intOf]⟩
set_option maxRecDepth 100000 in
theorem rAround_low (g : Bool) (n : Nat) (x : Int) (w : World) (hn : (Dy.mk g n x).Num) (h : ¬ 1024 ≤ rT n x) (hu : ¬ rQ n x ≤ x) (hf : 8 * nd 256 n < (rQ n x - x).toNat) :
    Calls Tryd.prog 73 #[.agg #[.bool g, .string (natS n), .int .i64 x]] w (ArPost n x w) := by
  have hlt : n * 2 < 2 ^ (rQ n x - x).toNat := by
    have h1 := lt_nd (b := 2) (n := n) (by omega)
    have h3 := (bits_le n (nd 256 n)).2 (Nat.le_refl _)
    have h4 : 2 ^ (nd 2 n + 1) ≤ 2 ^ (rQ n x - x).toNat := Nat.pow_le_pow_right (by omega) (by omega)
    rw [Nat.pow_succ] at h4
    omega
  have f1 : rM n x = 0 := by rw [(rM_dn h hu).1]; exact Nat.div_eq_of_lt (by omega)
  have f2 : rW n x = 1 := by rw [(rM_dn h hu).2, Nat.mod_eq_of_lt (by omega), cmpN_lt hlt]; rfl
  have f3 : rQ n x = -1074 := by
    rcases (rM_b (x := x) (odd_ne hn.2.1)).2 with c | c
    · rw [f1] at c; omega
    · exact c
  have f4 : pk 0 (-1074) = 0 := by rw [pk_eq]; rfl
  unfold ArPost
  obtain ⟨e1, e2⟩ := rM_dn h hu
  have HM := Lib.hid (rM_b (x := x) (odd_ne hn.2.1))
  have HB := Lib.hid (rQ_b n x)
  have e3 := rQ_near h
  have hx := hn.2.2
  have hL : nd 256 n ≤ 16384 := hn.1
  have hb2 := bits_131072' hn.1
  have hr : rT n x = (nd 2 n : Int) - 1 + x := rfl
  have KT : Hid (∀ w, Calls Tryd.prog 20 #[.agg #[.bool g, .string (natS n), .int .i64 x]] w fun e w' => e = .returned (.tuple #[.int .i64 (rT n x), .bool true]) ∧ Below w.heap.size w w') := Lib.hid (fun w => rTop3_num g n x w hn.1 (odd_ne hn.2.1) hn.2.2.1 hn.2.2.2)
  have KO := Lib.hid (fun w => rOf3_c n w (by omega))
  have T0 := OB.start w ⟨g, natS n, x⟩
  have ht1 : -2000000 ≤ rT n x := by simp only at hx; omega
  have hw1 : wrap64 (rT n x - 52) = rT n x - 52 := IntWalk.wrap64_in _ (by omega)
  have HO := Lib.hid hn.2.1
  generalize rT n x = t at *
  have h2 : t < 1024 := by omega
  clear hr h hn
  have KPK : Hid (∀ w, Calls Tryd.prog 111 #[.bool false, .int .u64 (rM n x : Nat), .int .i64 (rQ n x)] w fun e w' => e = .returned (.float .f64 (pk (rM n x) (rQ n x))) ∧ w = w') := Lib.hid (fun w => rPacked_c _ _ w (Nat.le_of_lt HM.out.1) HB.out.1 HB.out.2 HM.out.2)
  have KPK2 : Hid (∀ w, Calls Tryd.prog 111 #[.bool false, .int .u64 (rM n x + 1 : Nat), .int .i64 (rQ n x)] w fun e w' => e = .returned (.float .f64 (pk (rM n x + 1) (rQ n x))) ∧ w = w') := Lib.hid (fun w => rPacked_c _ _ w HM.out.1 HB.out.1 HB.out.2 (HM.out.2.imp (fun h => Nat.le_succ_of_le h) id))
  have hq1 := HB.out.1
  have hq2 := HB.out.2
  have hm1 := HM.out.1
  clear HB HM
  simp only at hx
  obtain ⟨hx1, hx2⟩ := hx
  clear e1 e2 hlt KPK
  rw [f1, f2, f3, f4]
  rw [f1, f3] at KPK2
  have HF := Lib.hid f4
  rw [f3] at hf hu e3
  clear f1 f2 f3 f4 hm1 hq1 hq2
  have e4 := e3.symm
  have hs0 : -1074 - x = ((-1074 - x).toNat : Int) := by omega
  generalize (-1074 - x).toNat = k at *
  have hge : x < -1074 := by omega
  have hf2 : 8 * (nd 256 n : Int) < (k : Int) := by omega
  clear e3 hf hu
  go_enter Tryd.func73, Tryd.ntmps73
  obtain ⟨p0, p1, p2, p3, p4, p5, p6⟩ := T0.2.facts
  go_wp2_with fail
  refine (KT.out _).mono ?_
  rintro e w1 ⟨rfl, hb⟩
  replace T0 := T0.step hb
  clear hb p0 p1 p2 p3 p4 p5 p6
  obtain ⟨p0, p1, p2, p3, p4, p5, p6⟩ := T0.2.facts
  go_wp2_with fail
  refine (KO.out _).mono ?_
  rintro e w2 ⟨v1, rfl, hown1, hb⟩
  obtain ⟨A1, c1, rfl, hc1⟩ := hown1.len
  rw [dl_length] at hown1 hc1 ⊢
  replace T0 := T0.step hb
  clear hb p0 p1 p2 p3 p4 p5 p6
  obtain ⟨p0, p1, p2, p3, p4, p5, p6⟩ := T0.2.facts
  go_wp2_with fail
  refine (KPK2.out _).mono ?_
  rintro e w4 ⟨rfl, rfl⟩
  go_wp2_with fail
  refine bodyPost_ret (v := .tuple #[.float .f64 0, .float .f64 (pk 1 (-1074)), .int .i64 1, .bool true]) (by simp [results, Tryd.results73, go_sem]) rfl ⟨rfl, (T0.more _).1⟩
set_option maxRecDepth 100000 in
theorem rAround_dn (g : Bool) (n : Nat) (x : Int) (w : World) (hn : (Dy.mk g n x).Num) (h : ¬ 1024 ≤ rT n x) (hu : ¬ rQ n x ≤ x) (hf : ¬ 8 * nd 256 n < (rQ n x - x).toNat) :
    Calls Tryd.prog 73 #[.agg #[.bool g, .string (natS n), .int .i64 x]] w (ArPost n x w) := by
  unfold ArPost
  obtain ⟨e1, e2⟩ := rM_dn h hu
  have HM := Lib.hid (rM_b (x := x) (odd_ne hn.2.1))
  have HB := Lib.hid (rQ_b n x)
  have e3 := rQ_near h
  have hx := hn.2.2
  have hL : nd 256 n ≤ 16384 := hn.1
  have hb2 := bits_131072' hn.1
  have hr : rT n x = (nd 2 n : Int) - 1 + x := rfl
  have KT : Hid (∀ w, Calls Tryd.prog 20 #[.agg #[.bool g, .string (natS n), .int .i64 x]] w fun e w' => e = .returned (.tuple #[.int .i64 (rT n x), .bool true]) ∧ Below w.heap.size w w') := Lib.hid (fun w => rTop3_num g n x w hn.1 (odd_ne hn.2.1) hn.2.2.1 hn.2.2.2)
  have KO := Lib.hid (fun w => rOf3_c n w (by omega))
  have T0 := OB.start w ⟨g, natS n, x⟩
  have ht1 : -2000000 ≤ rT n x := by simp only at hx; omega
  have hw1 : wrap64 (rT n x - 52) = rT n x - 52 := IntWalk.wrap64_in _ (by omega)
  have HO := Lib.hid hn.2.1
  generalize rT n x = t at *
  have h2 : t < 1024 := by omega
  clear hr h hn
  have KPK : Hid (∀ w, Calls Tryd.prog 111 #[.bool false, .int .u64 (rM n x : Nat), .int .i64 (rQ n x)] w fun e w' => e = .returned (.float .f64 (pk (rM n x) (rQ n x))) ∧ w = w') := Lib.hid (fun w => rPacked_c _ _ w (Nat.le_of_lt HM.out.1) HB.out.1 HB.out.2 HM.out.2)
  have KPK2 : Hid (∀ w, Calls Tryd.prog 111 #[.bool false, .int .u64 (rM n x + 1 : Nat), .int .i64 (rQ n x)] w fun e w' => e = .returned (.float .f64 (pk (rM n x + 1) (rQ n x))) ∧ w = w') := Lib.hid (fun w => rPacked_c _ _ w HM.out.1 HB.out.1 HB.out.2 (HM.out.2.imp (fun h => Nat.le_succ_of_le h) id))
  have hq1 := HB.out.1
  have hq2 := HB.out.2
  have hm1 := HM.out.1
  clear HB HM
  simp only at hx
  obtain ⟨hx1, hx2⟩ := hx
  have hs0 : rQ n x - x = ((rQ n x - x).toNat : Int) := by omega
  have hk0 : 0 < (rQ n x - x).toNat := by omega
  have hkb : (rQ n x - x).toNat ≤ 1600000 - 2 := by omega
  rw [e2]
  have e4 := e3.symm
  clear e3 e2
  generalize (rQ n x - x).toNat = k at *
  have hlM : nd 256 (rM n x) ≤ 7 := nd_le (by omega) (Nat.lt_of_lt_of_le hm1 (by decide))
  have hRo : n % 2 ^ k % 2 = 1 := by
    rw [show k = (k - 1) + 1 by omega, Nat.pow_succ, Nat.mul_comm, Nat.mod_mul_right_mod, HO.out]
  have hR2 : n % 2 ^ k * 2 < 2 ^ (k + 1) := by rw [Nat.pow_succ]; have := Nat.mod_lt n (Nat.two_pow_pos k); omega
  have hRl : nd 256 (n % 2 ^ k) ≤ 200000 := (bits_le _ _).1 (Nat.le_trans (nd_le (b := 2) (k := k) (by omega) (Nat.mod_lt n (Nat.two_pow_pos k))) (by omega))
  have hR2l : nd 256 (n % 2 ^ k * 2) ≤ 200000 := (bits_le _ _).1 (Nat.le_trans (nd_le (b := 2) (by omega) hR2) (by omega))
  have hKl : nd 256 (2 ^ k) ≤ 200000 := (bits_le _ _).1 (Nat.le_trans (nd_le (b := 2) (k := k + 1) (by omega) (Nat.pow_lt_pow_right (by omega) (by omega))) (by omega))
  have hrest : n - rM n x * 2 ^ k = n % 2 ^ k := by rw [e1, Nat.mod_eq_sub_div_mul]
  have hple : rM n x * 2 ^ k ≤ n := by rw [e1]; exact Nat.div_mul_le_self _ _
  have KH : Hid (∀ (B : Nat) (A : Option Addr) (c : Nat) (W' : World), Own W' B 3 .i64 (.slice A (nd 256 n) c) (dl 256 n (nd 256 n)) → Calls Tryd.prog 91 #[.slice A (nd 256 n) c, .int .i64 (k : Nat)] W' (BigP (rM n x) W')) := Lib.hid fun B A c W' h => by
    have := rHalved3_c n (k / 8) (k % 8) B A c W' (by omega) (by omega) (by omega) h
    rw [show 8 * (k / 8) + k % 8 = k by omega] at this
    rw [e1]; exact this
  have KSh : Hid (∀ (B : Nat) (A : Option Addr) (c : Nat) (W' : World), Own W' B 3 .i64 (.slice A (nd 256 (rM n x)) c) (dl 256 (rM n x) (nd 256 (rM n x))) → Calls Tryd.prog 77 #[.slice A (nd 256 (rM n x)) c, .int .i64 (k : Nat)] W' (BigP (rM n x * 2 ^ k) W')) := Lib.hid fun B A c W' h => rShifted3_c _ k B A c W' (by omega) (by omega) h
  have KMi : Hid (∀ (B B' : Nat) (A A' : Option Addr) (c c' : Nat) (W' : World), Own W' B 3 .i64 (.slice A (nd 256 n) c) (dl 256 n (nd 256 n)) → Own W' B' 3 .i64 (.slice A' (nd 256 (rM n x * 2 ^ k)) c') (dl 256 (rM n x * 2 ^ k) (nd 256 (rM n x * 2 ^ k))) → Calls Tryd.prog 88 #[.slice A (nd 256 n) c, .slice A' (nd 256 (rM n x * 2 ^ k)) c'] W' (BigP (n % 2 ^ k) W')) := Lib.hid fun B B' A A' c c' W' h1 h2 => by
    have := rMinus3_c n (rM n x * 2 ^ k) B B' A A' c c' W' hple (by omega) h1 h2
    rw [hrest] at this
    exact this
  have KS1 : Hid (∀ (B : Nat) (A : Option Addr) (c : Nat) (W' : World), Own W' B 3 .i64 (.slice A 1 c) (dl 256 1 1) → Calls Tryd.prog 77 #[.slice A 1 c, .int .i64 (k : Nat)] W' (BigP (2 ^ k) W')) := Lib.hid fun B A c W' h => by
    have := rShifted3_c 1 k B A c W' (by rw [nd_one]; omega) (by omega) (by rw [nd_one]; exact h)
    rw [nd_one, Nat.one_mul] at this
    exact this
  have KR2 : Hid (∀ (B : Nat) (A : Option Addr) (c : Nat) (W' : World), Own W' B 3 .i64 (.slice A (nd 256 (n % 2 ^ k)) c) (dl 256 (n % 2 ^ k) (nd 256 (n % 2 ^ k))) → Calls Tryd.prog 77 #[.slice A (nd 256 (n % 2 ^ k)) c, .int .i64 1] W' (BigP (n % 2 ^ k * 2) W')) := Lib.hid fun B A c W' h => by
    have := rShifted3_c (n % 2 ^ k) 1 B A c W' (by omega) (by omega) h
    rw [Nat.pow_one] at this
    exact this
  have KC : Hid (∀ (B B' : Nat) (A A' : Option Addr) (c c' : Nat) (W' : World), Own W' B 3 .i64 (.slice A (nd 256 (n % 2 ^ k * 2)) c) (dl 256 (n % 2 ^ k * 2) (nd 256 (n % 2 ^ k * 2))) → Own W' B' 3 .i64 (.slice A' (nd 256 (2 ^ k)) c') (dl 256 (2 ^ k) (nd 256 (2 ^ k))) → Calls Tryd.prog 78 #[.slice A (nd 256 (n % 2 ^ k * 2)) c, .slice A' (nd 256 (2 ^ k)) c'] W' fun e w' => e = .returned (.int .i64 (cmpN (n % 2 ^ k * 2) (2 ^ k))) ∧ ∃ m, w' = W'.drewN m) := Lib.hid fun B B' A A' c c' W' h1 h2 => rCmp3_c _ _ B B' A A' c c' W' (by omega) (by omega) h1 h2
  have hRn : 0 < nd 256 (n % 2 ^ k) := Nat.pos_of_ne_zero (fun c => by rw [nd_eq_zero (by omega)] at c; omega)
  have hcm : cmpN (n % 2 ^ k * 2) (2 ^ k) = -1 ∨ cmpN (n % 2 ^ k * 2) (2 ^ k) = 0 ∨ cmpN (n % 2 ^ k * 2) (2 ^ k) = 1 := by unfold cmpN; split; exact Or.inl rfl; split; exact Or.inr (Or.inl rfl); exact Or.inr (Or.inr rfl)
  have hwc : wrap64 (2 + cmpN (n % 2 ^ k * 2) (2 ^ k)) = 2 + cmpN (n % 2 ^ k * 2) (2 ^ k) := IntWalk.wrap64_in _ (by omega)
  have hfar : ¬ (k : Int) > 8 * (nd 256 n : Int) := by omega
  have hge : ¬ x ≥ rQ n x := by omega
  clear hrest hple hRo hR2 e1 hcm hf hu HO
  generalize cmpN (n % 2 ^ k * 2) (2 ^ k) = C at *
  generalize n % 2 ^ k * 2 = R2 at *
  generalize n % 2 ^ k = R at *
  generalize rM n x * 2 ^ k = P at *
  generalize 2 ^ k = K2 at *
  generalize rM n x = M at *
  generalize rQ n x = q at *
  go_enter Tryd.func73, Tryd.ntmps73
  obtain ⟨p0, p1, p2, p3, p4, p5, p6⟩ := T0.2.facts
  go_wp2_with fail
  refine (KT.out _).mono ?_
  rintro e w1 ⟨rfl, hb⟩
  replace T0 := T0.step hb
  clear hb p0 p1 p2 p3 p4 p5 p6
  obtain ⟨p0, p1, p2, p3, p4, p5, p6⟩ := T0.2.facts
  go_wp2_with fail
  refine (KO.out _).mono ?_
  rintro e w2 ⟨v1, rfl, hown1, hb⟩
  obtain ⟨A1, c1, rfl, hc1⟩ := hown1.len
  rw [dl_length] at hown1 hc1 ⊢
  replace T0 := T0.step hb
  clear hb p0 p1 p2 p3 p4 p5 p6
  obtain ⟨p0, p1, p2, p3, p4, p5, p6⟩ := T0.2.facts
  go_wp2_with fail
  refine (KH.out _ _ _ _ hown1).mono ?_
  rintro e w3 ⟨A3, c3, rfl, hownM, hb⟩
  have hn3 := hown1.whole hb
  replace T0 := T0.step hb
  clear hb p0 p1 p2 p3 p4 p5 p6 hown1 KH hc1
  go_wp2_with fail
  refine (KSh.out _ _ _ _ hownM).mono ?_
  rintro e w4 ⟨A4, c4, rfl, hownP, hb⟩
  have hn4 := hn3.whole hb
  have hM4 := hownM.whole hb
  replace T0 := T0.step hb
  clear hb hn3 hownM KSh
  go_wp2_with fail
  refine (KMi.out _ _ _ _ _ _ _ hn4 hownP).mono ?_
  rintro e w5 ⟨A5, c5, rfl, hownR, hb⟩
  have hM5 := hM4.whole hb
  replace T0 := T0.step hb
  clear hb hn4 hM4 hownP KMi
  go_wp2_with fail
  refine (KS1.out _ _ _ _ (own_one w5)).mono ?_
  rintro e w6 ⟨A6, c6, rfl, hownK, hb0⟩
  have hb := box_below hb0
  have hownM := hM5.whole hb
  have HR6 := Lib.hid (hownR.whole hb)
  have HK6 := Lib.hid hownK
  replace T0 := T0.step hb
  clear hb hb0 hM5 hownR hownK KS1
  go_wp2_with fail
  
  -- the digits are gathered
  have hLM : nd 256 M ≤ 7 := nd_le (by omega) (Nat.lt_of_lt_of_le hm1 (by decide))
  have hw5 : wrap64 ((nd 256 M : Int) - 1) = (nd 256 M : Int) - 1 := IntWalk.wrap64_in _ (by omega)
  have HD := Lib.hid hownM.drow
  have HLT := Lib.hid (lt_nd (b := 256) (n := M) (by omega))
  clear hownM
  generalize nd 256 M = L at *
  go_loopw [14, 15] (fun a b wr => ∃ (k v : Nat) (z : Int), k ≤ L ∧ Hid (v = M / 256 ^ k) ∧ v ≤ M ∧ a = .int .u64 (v : Nat) ∧ b = .int .i64 z ∧ Hid (z = (k : Int) - 1) ∧ wr = w6) (fun _ b _ => (intOf b + 1).toNat)
  case atStart => exact ⟨L, 0, _, Nat.le_refl _, Lib.hid (Nat.div_eq_of_lt HLT.out).symm, Nat.zero_le _, rfl, rfl, Lib.hid (by first | exact hw5 | rfl), rfl⟩
  case round =>
    obtain ⟨k, v, z, hk, hv, hvM, rfl, rfl, hz, rfl⟩ := hrel
    by_cases h0 : k = 0
    · subst h0
      obtain rfl : z = -1 := by have := hz.out; omega
      obtain rfl : v = M := by rw [hv.out, Nat.pow_zero, Nat.div_one]
      clear HD HLT hvM
      obtain ⟨v1, hv1⟩ : ∃ v1, v1 = v + 1 := ⟨_, rfl⟩
      rw [← hv1] at KPK2
      have HV1 := Lib.hid hv1
      have hadd : (v : Int) + 1 = (v1 : Int) := by omega
      have hrem : ((v : Int) % 2 == 0) = (v % 2 == 0) := by rw [Bool.eq_iff_iff, beq_iff_eq, beq_iff_eq]; omega
      clear hv1
      go_wp2_with fail
      refine (KR2.out _ _ _ _ HR6.out).mono ?_
      rintro e w7 ⟨A7, c7, rfl, hown7, hb⟩
      have hK7 := HK6.out.whole hb
      replace T0 := T0.step hb
      clear hb HR6 HK6
      go_wp2_with fail
      refine (KC.out _ _ _ _ _ _ _ hown7 hK7).mono ?_
      rintro e w8 ⟨rfl, nn, rfl⟩
      replace T0 := T0.step (below_drewN (Below.refl _ _) nn)
      generalize w7.drewN nn = w9 at *
      clear hown7 hK7
      go_wp2_with fail
      refine (KPK.out _).mono ?_
      rintro e w4 ⟨rfl, rfl⟩
      go_wp2_with fail
      refine (KPK2.out _).mono ?_
      rintro e w4 ⟨rfl, rfl⟩
      go_wp2_with fail
      refine bodyPost_ret (v := .tuple #[.float .f64 (pk v q), .float .f64 (pk v1 q), .int .i64 (2 + C), .bool (v % 2 == 0)]) (by simp [results, Tryd.results73, go_sem]) rfl ⟨by rw [HV1.out], T0.1⟩
    · obtain ⟨m, rfl⟩ : ∃ m, k = m + 1 := ⟨k - 1, by omega⟩
      obtain rfl : z = (m : Int) := by have := hz.out; omega
      obtain ⟨gb, rfl, hgb, hc⟩ := HD.out m (by omega)
      obtain ⟨v2, hv2⟩ : ∃ v2, v2 = M / 256 ^ m := ⟨_, rfl⟩
      have hdg : 256 * v + dgt 256 M m = v2 := by
        rw [hv2, hv.out, dgt_def, Nat.pow_succ, ← Nat.div_div_eq_div_mul]; omega
      have hdl := dgt_lt (b := 256) (by omega) M m
      have hvm : v2 ≤ M := hv2 ▸ Nat.div_le_self _ _
      have HV := Lib.hid hv2
      have hsum : 256 * (v : Int) + (dgt 256 M m : Int) = (v2 : Int) := by omega
      have hw6 : wrap64 ((m : Int) - 1) = (m : Int) - 1 := IntWalk.wrap64_in _ (by omega)
      have hmL : m < L := by omega
      clear hv2
      generalize dgt 256 M m = dm at *
      go_wp2_with fail
      exact ⟨⟨m, v2, _, by omega, HV, hvm, rfl, rfl, Lib.hid rfl, trivial⟩, by simp [intOf]⟩
theorem rAround_c (g : Bool) (n : Nat) (x : Int) (w : World) (hn : (Dy.mk g n x).Num) :
    Calls Tryd.prog 73 #[.agg #[.bool g, .string (natS n), .int .i64 x]] w (ArPost n x w) := by
  by_cases h : 1024 ≤ rT n x
  · exact rAround_far g n x w hn h
  · by_cases hu : rQ n x ≤ x
    · exact rAround_up g n x w hn h hu
    · by_cases hf : 8 * nd 256 n < (rQ n x - x).toNat
      · exact rAround_low g n x w hn h hu hf
      · exact rAround_dn g n x w hn h hu hf
end Go.Proofs.YtjkonfopajihdaaDoor
set_option linter.unusedVariables false
set_option linter.unusedSimpArgs false
namespace Go.Proofs.YtjkonfopajihdaaDoor
open Go Go.RowKit

theorem bex (p : Prop) : ∃ b : Bool, b = true ↔ p := by
  by_cases h : p
  · exact ⟨true, by simp [h]⟩
  · exact ⟨false, by simp [h]⟩
def envL (l : List Value) (i : Nat) : Value := l.getD i (.int .i64 0)
theorem envL_flat {l : List Value} (h : l.all (·.oneCell') = true) : ∀ i, (envL l i).oneCell' = true := by
  intro i
  unfold envL
  rw [List.getD_eq_getElem?_getD]
  cases hi : l[i]? with
  | none => rfl
  | some v =>
    rw [List.all_eq_true] at h
    exact h v (List.mem_of_getElem? hi)
@[reducible] def mkEnv (gl : List (Nat × List AV)) (l : List Value) (h : l.all (·.oneCell') = true) : Env := ⟨envL l, envL_flat h, gl⟩
section
variable [Env]
def OpT (P : Program) (k : List Nat) (l : List AV) (r : AV) : Prop :=
  ground r = true ∧ ∀ (o : Oper) xs, keyOf o = some (k, xs) → ∀ ρ : Operand → Value, (∀ g, ρ (.func g) = .func (.func g) #[] #[]) → xs.map ρ = l.map gval → ∀ w, (execOp ρ o).run P w = .ok (.value (gval r)) w
def CallT (P : Program) (g : FuncId) (l : List AV) (r : AV) : Prop :=
  ground r = true ∧ ∀ w xs, Globs Env.gl w → ARels w l xs → Calls P g xs.toArray w fun e w' => e = .returned (gval r) ∧ Below w.heap.size w w'
theorem callt {P : Program} {g : FuncId} {l : List AV} {r : AV} (hl : l.all ground = true) (hr : ground r = true) (h : ∀ w, Globs Env.gl w → Calls P g (l.map gval).toArray w fun e w' => e = .returned (gval r) ∧ Below w.heap.size w w') : CallT P g l r :=
  ⟨hr, fun w xs hG hx => by rw [@ARels.plain _ noKnow _ _ hl _ hx]; exact h w hG⟩
/-- One row of whole numbers and the like, all of it. -/
theorem callt_row {P : Program} {g : FuncId} {n : Nat} {cells : List AV} {r : AV} (hr : ground r = true) (h : ∀ w b c, Globs Env.gl w → b < w.heap.size → (∀ j v, cells[j]? = some v → w.cell? ⟨b, j, none⟩ = some (gval1 v)) → Calls P g #[.slice (some ⟨b, 0, none⟩) n c] w fun e w' => e = .returned (gval r) ∧ Below w.heap.size w w') : CallT P g [.row n 0 cells] r :=
  ⟨hr, fun w xs hG hx => by
    obtain ⟨y, ys, rfl, ⟨b, c, rfl, h1, h2⟩, rfl⟩ := hx
    exact h w b c hG h1 (fun j v hj => by have := h2 j v hj; rwa [Nat.zero_add] at this)⟩
def OpsT (P : Program) : List (List Nat × List AV × AV) → Prop
  | [] => True
  | p :: t => OpT P p.1 p.2.1 p.2.2 ∧ OpsT P t
def CallsT (P : Program) : List (FuncId × List AV × AV) → Prop
  | [] => True
  | p :: t => CallT P p.1 p.2.1 p.2.2 ∧ CallsT P t
theorem OpsT.mem {P : Program} : ∀ {t : List (List Nat × List AV × AV)}, OpsT P t → ∀ {k l r}, (k, l, r) ∈ t → OpT P k l r
  | [], _, _, _, _, h => by cases h
  | p :: t, hp, k, l, r, h => by
    rcases List.mem_cons.1 h with e | h
    · subst e; exact hp.1
    · exact OpsT.mem hp.2 h
theorem CallsT.mem {P : Program} : ∀ {t : List (FuncId × List AV × AV)}, CallsT P t → ∀ {k l r}, (k, l, r) ∈ t → CallT P k l r
  | [], _, _, _, _, h => by cases h
  | p :: t, hp, k, l, r, h => by
    rcases List.mem_cons.1 h with e | h
    · subst e; exact hp.1
    · exact CallsT.mem hp.2 h
theorem KnowOk.of [Know] {P : Program} (h1 : OpsT P Know.ops) (h2 : CallsT P Know.calls) : KnowOk P := ⟨fun k l r h => h1.mem h, fun k l r h => h2.mem h⟩
/-- A binary operation at values that are named. -/
theorem opt_bin {P : Program} {op : BinOp} {t : TypeId} {a b r : AV} (hr : ground r = true) (h : ∀ x y w, (do eqGuard op t x y (gval a) (gval b); binOp op t (gval a) (gval b)).run P w = .ok (gval r) w) : OpT P [0, binKey op, t] [a, b] r := by
  refine ⟨hr, fun o xs hk ρ hρ hx w => ?_⟩
  unfold keyOf at hk
  obtain ⟨dst, o, type, pos, after, guard⟩ := o
  simp only at hk
  split at hk
  · rename_i op' t' x y yt
    simp only [Option.some.injEq, Prod.mk.injEq, List.cons.injEq, and_true, true_and] at hk
    obtain ⟨⟨h1, h2⟩, h3⟩ := hk
    subst h2 h3
    have ho : op' = op := by cases op' <;> cases op <;> first | rfl | cases h1
    subst ho
    simp only [List.map_cons, List.map_nil, List.cons.injEq, and_true] at hx
    obtain ⟨e1, e2⟩ := hx
    have := h x y w
    simp only [execOp, e1, e2, Sem.run_bind, Sem.run_pure] at this ⊢
    rw [this]; rfl
  all_goals first
    | (simp only [Option.some.injEq, Prod.mk.injEq, List.cons.injEq] at hk; have := hk.1.1; omega)
    | (split at hk <;> first | cases hk | (simp only [Option.some.injEq, Prod.mk.injEq, List.cons.injEq] at hk; have := hk.1.1; omega))
    | cases hk
theorem opt_int {P : Program} {op : BinOp} {t : TypeId} {a b r : AV} {k : IntKind} {x y : Int} {v : Value} (ha : gval a = .int k x) (hb : gval b = .int k y) (hr : ground r = true) (hv : gval r = v) (h : ∀ w, (binOp op t (.int k x) (.int k y)).run P w = .ok v w) : OpT P [0, binKey op, t] [a, b] r := by
  refine opt_bin hr fun p q w => ?_
  rw [ha, hb, hv]
  simp only [Sem.run_bind, eqGuard_int, Result.andThen_ok]
  exact h w
theorem opt_eql {P : Program} {t : TypeId} {a b : AV} {k : IntKind} {x y : Int} {c : Bool} (ha : gval a = .int k x) (hb : gval b = .int k y) (h : (x == y) = c) : OpT P [0, 11, t] [a, b] (.lit (.bool c)) :=
  opt_int (op := .eql) ha hb rfl rfl fun w => by rw [← h]; simp [binOp, Op.intCmp, gval, gval2, gval1]
theorem opt_neq {P : Program} {t : TypeId} {a b : AV} {k : IntKind} {x y : Int} {c : Bool} (ha : gval a = .int k x) (hb : gval b = .int k y) (h : (x != y) = c) : OpT P [0, 12, t] [a, b] (.lit (.bool c)) :=
  opt_int (op := .neq) ha hb rfl rfl fun w => by rw [← h]; simp [binOp, Op.intCmp, gval, gval2, gval1]
theorem opt_lss {P : Program} {t : TypeId} {a b : AV} {k : IntKind} {x y : Int} {c : Bool} (ha : gval a = .int k x) (hb : gval b = .int k y) (h : decide (x < y) = c) : OpT P [0, 13, t] [a, b] (.lit (.bool c)) :=
  opt_int (op := .lss) ha hb rfl rfl fun w => by rw [← h]; simp [binOp, Op.intCmp, gval, gval2, gval1]
theorem opt_leq {P : Program} {t : TypeId} {a b : AV} {k : IntKind} {x y : Int} {c : Bool} (ha : gval a = .int k x) (hb : gval b = .int k y) (h : decide (x ≤ y) = c) : OpT P [0, 14, t] [a, b] (.lit (.bool c)) :=
  opt_int (op := .leq) ha hb rfl rfl fun w => by rw [← h]; simp [binOp, Op.intCmp, gval, gval2, gval1]
theorem opt_gtr {P : Program} {t : TypeId} {a b : AV} {k : IntKind} {x y : Int} {c : Bool} (ha : gval a = .int k x) (hb : gval b = .int k y) (h : decide (x > y) = c) : OpT P [0, 15, t] [a, b] (.lit (.bool c)) :=
  opt_int (op := .gtr) ha hb rfl rfl fun w => by rw [← h]; simp [binOp, Op.intCmp, gval, gval2, gval1]
theorem opt_geq {P : Program} {t : TypeId} {a b : AV} {k : IntKind} {x y : Int} {c : Bool} (ha : gval a = .int k x) (hb : gval b = .int k y) (h : decide (x ≥ y) = c) : OpT P [0, 16, t] [a, b] (.lit (.bool c)) :=
  opt_int (op := .geq) ha hb rfl rfl fun w => by rw [← h]; simp [binOp, Op.intCmp, gval, gval2, gval1]
theorem opt_eql_i {P : Program} {t : TypeId} {a b : AV} {k : IntKind} {x y : Int} {c : Bool} (ha : gval a = .int k x) (hb : gval b = .int k y) (h : c = true ↔ x = y) : OpT P [0, 11, t] [a, b] (.lit (.bool c)) := opt_eql ha hb (by rw [Bool.eq_iff_iff, h]; exact beq_iff_eq)
theorem opt_neq_i {P : Program} {t : TypeId} {a b : AV} {k : IntKind} {x y : Int} {c : Bool} (ha : gval a = .int k x) (hb : gval b = .int k y) (h : c = true ↔ x = y) : OpT P [0, 12, t] [a, b] (.lit (.bool (!c))) := opt_neq ha hb (by rw [bne, show (x == y) = c from by rw [Bool.eq_iff_iff, h]; exact beq_iff_eq])
theorem opt_lss_i {P : Program} {t : TypeId} {a b : AV} {k : IntKind} {x y : Int} {c : Bool} (ha : gval a = .int k x) (hb : gval b = .int k y) (h : c = true ↔ x < y) : OpT P [0, 13, t] [a, b] (.lit (.bool c)) := opt_lss ha hb (by rw [Bool.eq_iff_iff, h]; exact decide_eq_true_iff)
theorem opt_leq_i {P : Program} {t : TypeId} {a b : AV} {k : IntKind} {x y : Int} {c : Bool} (ha : gval a = .int k x) (hb : gval b = .int k y) (h : c = true ↔ x ≤ y) : OpT P [0, 14, t] [a, b] (.lit (.bool c)) := opt_leq ha hb (by rw [Bool.eq_iff_iff, h]; exact decide_eq_true_iff)
theorem opt_gtr_i {P : Program} {t : TypeId} {a b : AV} {k : IntKind} {x y : Int} {c : Bool} (ha : gval a = .int k x) (hb : gval b = .int k y) (h : c = true ↔ x > y) : OpT P [0, 15, t] [a, b] (.lit (.bool c)) := opt_gtr ha hb (by rw [Bool.eq_iff_iff, h]; exact decide_eq_true_iff)
theorem opt_geq_i {P : Program} {t : TypeId} {a b : AV} {k : IntKind} {x y : Int} {c : Bool} (ha : gval a = .int k x) (hb : gval b = .int k y) (h : c = true ↔ x ≥ y) : OpT P [0, 16, t] [a, b] (.lit (.bool c)) := opt_geq ha hb (by rw [Bool.eq_iff_iff, h]; exact decide_eq_true_iff)
theorem opt_eql_t {P : Program} {t : TypeId} {a b : AV} {k : IntKind} {x y : Int} (ha : gval a = .int k x) (hb : gval b = .int k y) (h : x = y) : OpT P [0, 11, t] [a, b] (.lit (.bool true)) := opt_eql ha hb (beq_iff_eq.2 h)
theorem opt_eql_f {P : Program} {t : TypeId} {a b : AV} {k : IntKind} {x y : Int} (ha : gval a = .int k x) (hb : gval b = .int k y) (h : ¬ x = y) : OpT P [0, 11, t] [a, b] (.lit (.bool false)) := opt_eql ha hb (beq_eq_false_iff_ne.2 h)
theorem opt_neq_t {P : Program} {t : TypeId} {a b : AV} {k : IntKind} {x y : Int} (ha : gval a = .int k x) (hb : gval b = .int k y) (h : ¬ x = y) : OpT P [0, 12, t] [a, b] (.lit (.bool true)) := opt_neq ha hb (by rw [bne, beq_eq_false_iff_ne.2 h]; rfl)
theorem opt_neq_f {P : Program} {t : TypeId} {a b : AV} {k : IntKind} {x y : Int} (ha : gval a = .int k x) (hb : gval b = .int k y) (h : x = y) : OpT P [0, 12, t] [a, b] (.lit (.bool false)) := opt_neq ha hb (by rw [bne, beq_iff_eq.2 h]; rfl)
theorem opt_lss_t {P : Program} {t : TypeId} {a b : AV} {k : IntKind} {x y : Int} (ha : gval a = .int k x) (hb : gval b = .int k y) (h : x < y) : OpT P [0, 13, t] [a, b] (.lit (.bool true)) := opt_lss ha hb (decide_eq_true h)
theorem opt_lss_f {P : Program} {t : TypeId} {a b : AV} {k : IntKind} {x y : Int} (ha : gval a = .int k x) (hb : gval b = .int k y) (h : ¬ x < y) : OpT P [0, 13, t] [a, b] (.lit (.bool false)) := opt_lss ha hb (decide_eq_false h)
theorem opt_leq_t {P : Program} {t : TypeId} {a b : AV} {k : IntKind} {x y : Int} (ha : gval a = .int k x) (hb : gval b = .int k y) (h : x ≤ y) : OpT P [0, 14, t] [a, b] (.lit (.bool true)) := opt_leq ha hb (decide_eq_true h)
theorem opt_leq_f {P : Program} {t : TypeId} {a b : AV} {k : IntKind} {x y : Int} (ha : gval a = .int k x) (hb : gval b = .int k y) (h : ¬ x ≤ y) : OpT P [0, 14, t] [a, b] (.lit (.bool false)) := opt_leq ha hb (decide_eq_false h)
theorem opt_gtr_t {P : Program} {t : TypeId} {a b : AV} {k : IntKind} {x y : Int} (ha : gval a = .int k x) (hb : gval b = .int k y) (h : x > y) : OpT P [0, 15, t] [a, b] (.lit (.bool true)) := opt_gtr ha hb (decide_eq_true h)
theorem opt_gtr_f {P : Program} {t : TypeId} {a b : AV} {k : IntKind} {x y : Int} (ha : gval a = .int k x) (hb : gval b = .int k y) (h : ¬ x > y) : OpT P [0, 15, t] [a, b] (.lit (.bool false)) := opt_gtr ha hb (decide_eq_false h)
theorem opt_geq_t {P : Program} {t : TypeId} {a b : AV} {k : IntKind} {x y : Int} (ha : gval a = .int k x) (hb : gval b = .int k y) (h : x ≥ y) : OpT P [0, 16, t] [a, b] (.lit (.bool true)) := opt_geq ha hb (decide_eq_true h)
theorem opt_geq_f {P : Program} {t : TypeId} {a b : AV} {k : IntKind} {x y : Int} (ha : gval a = .int k x) (hb : gval b = .int k y) (h : ¬ x ≥ y) : OpT P [0, 16, t] [a, b] (.lit (.bool false)) := opt_geq ha hb (decide_eq_false h)
end
end Go.Proofs.YtjkonfopajihdaaDoor
set_option linter.unusedVariables false
set_option linter.unusedSimpArgs false
set_option linter.unusedSectionVars false
namespace Go.Proofs.YtjkonfopajihdaaDoor
open Go Go.RowKit Nt

theorem natS_inj {m n : Nat} : natS m = natS n ↔ m = n := by
  constructor
  · intro h
    have : (natS m).toList = (natS n).toList := by rw [h]
    exact (natS_list_eq m n).1 this
  · rintro rfl; rfl
theorem Dy.ext_iff' {a b : Dy} : (a.g = b.g ∧ natS a.n = natS b.n ∧ a.x = b.x) ↔ a = b := by
  obtain ⟨g, n, x⟩ := a
  obtain ⟨g', n', x'⟩ := b
  simp [natS_inj]
theorem str_inj {s s' : ByteArray} (h : s.toList = s'.toList) : s = s' := by
  rw [ByteArray.toList_eq, ByteArray.toList_eq] at h
  obtain ⟨a⟩ := s
  obtain ⟨b⟩ := s'
  have : a = b := Array.ext' h
  rw [this]
theorem eqDy_run {g g' : Bool} {s s' : ByteArray} {x x' : Int} {c : Bool} (h : c = true ↔ (g = g' ∧ s = s' ∧ x = x')) (p q : Operand) (w : World) : (do eqGuard .eql 24 p q (.agg #[.bool g, .string s, .int .i64 x]) (.agg #[.bool g', .string s', .int .i64 x']); binOp .eql 24 (.agg #[.bool g, .string s, .int .i64 x]) (.agg #[.bool g', .string s', .int .i64 x'])).run Tryd.prog w = .ok (.bool c) w := by
  go_simp
  by_cases h1 : g = g'
  · by_cases h2 : s.toList = s'.toList
    · by_cases h3 : x = x'
      · rw [if_pos h1, if_pos h2, if_pos h3, h.2 ⟨h1, str_inj h2, h3⟩]
      · rw [if_pos h1, if_pos h2, if_neg h3, show c = false by cases c <;> first | rfl | exact absurd (h.1 rfl).2.2 h3]
    · rw [if_pos h1, if_neg h2, show c = false by cases c <;> first | rfl | exact absurd (congrArg _ (h.1 rfl).2.1) h2]
  · rw [if_neg h1, show c = false by cases c <;> first | rfl | exact absurd (h.1 rfl).1 h1]
theorem neDy_run {g g' : Bool} {s s' : ByteArray} {x x' : Int} {c : Bool} (h : c = true ↔ (g = g' ∧ s = s' ∧ x = x')) (p q : Operand) (w : World) : (do eqGuard .neq 24 p q (.agg #[.bool g, .string s, .int .i64 x]) (.agg #[.bool g', .string s', .int .i64 x']); binOp .neq 24 (.agg #[.bool g, .string s, .int .i64 x]) (.agg #[.bool g', .string s', .int .i64 x'])).run Tryd.prog w = .ok (.bool (!c)) w := by
  go_simp
  by_cases h1 : g = g'
  · by_cases h2 : s.toList = s'.toList
    · by_cases h3 : x = x'
      · rw [if_pos h1, if_pos h2, if_pos h3, h.2 ⟨h1, str_inj h2, h3⟩]; rfl
      · rw [if_pos h1, if_pos h2, if_neg h3, show c = false by cases c <;> first | rfl | exact absurd (h.1 rfl).2.2 h3]; rfl
    · rw [if_pos h1, if_neg h2, show c = false by cases c <;> first | rfl | exact absurd (congrArg _ (h.1 rfl).2.1) h2]; rfl
  · rw [if_neg h1, show c = false by cases c <;> first | rfl | exact absurd (h.1 rfl).1 h1]; rfl
section
variable [Env]
theorem optD_eql {A B : AV} {g g' : Bool} {s s' : ByteArray} {x x' : Int} {c : Bool} (ha : gval A = .agg #[.bool g, .string s, .int .i64 x]) (hb : gval B = .agg #[.bool g', .string s', .int .i64 x']) (h : c = true ↔ (g = g' ∧ s = s' ∧ x = x')) : OpT Tryd.prog [0, 11, 24] [A, B] (.lit (.bool c)) :=
  opt_bin (op := .eql) rfl fun p q w => by rw [ha, hb]; exact eqDy_run h p q w
theorem optD_neq {A B : AV} {g g' : Bool} {s s' : ByteArray} {x x' : Int} {c : Bool} (ha : gval A = .agg #[.bool g, .string s, .int .i64 x]) (hb : gval B = .agg #[.bool g', .string s', .int .i64 x']) (h : c = true ↔ (g = g' ∧ s = s' ∧ x = x')) : OpT Tryd.prog [0, 12, 24] [A, B] (.lit (.bool (!c))) :=
  opt_bin (op := .neq) rfl fun p q w => by rw [ha, hb]; exact neDy_run h p q w
theorem optD_eql_i {A B : AV} {a b : Dy} {c : Bool} (ha : gval A = a.v) (hb : gval B = b.v) (h : c = true ↔ a = b) : OpT Tryd.prog [0, 11, 24] [A, B] (.lit (.bool c)) := optD_eql ha hb (h.trans Dy.ext_iff'.symm)
theorem optD_neq_i {A B : AV} {a b : Dy} {c : Bool} (ha : gval A = a.v) (hb : gval B = b.v) (h : c = true ↔ a = b) : OpT Tryd.prog [0, 12, 24] [A, B] (.lit (.bool (!c))) := optD_neq ha hb (h.trans Dy.ext_iff'.symm)
theorem optD_eql_t {A B : AV} {a b : Dy} (ha : gval A = a.v) (hb : gval B = b.v) (h : a = b) : OpT Tryd.prog [0, 11, 24] [A, B] (.lit (.bool true)) := optD_eql ha hb ⟨fun _ => Dy.ext_iff'.2 h, fun _ => rfl⟩
theorem optD_eql_f {A B : AV} {a b : Dy} (ha : gval A = a.v) (hb : gval B = b.v) (h : ¬ a = b) : OpT Tryd.prog [0, 11, 24] [A, B] (.lit (.bool false)) := optD_eql ha hb ⟨(fun c => by cases c), fun c => absurd (Dy.ext_iff'.1 c) h⟩
theorem optD_neq_t {A B : AV} {a b : Dy} (ha : gval A = a.v) (hb : gval B = b.v) (h : ¬ a = b) : OpT Tryd.prog [0, 12, 24] [A, B] (.lit (.bool true)) := optD_neq (c := false) ha hb ⟨(fun c => by cases c), fun c => absurd (Dy.ext_iff'.1 c) h⟩
theorem optD_neq_f {A B : AV} {a b : Dy} (ha : gval A = a.v) (hb : gval B = b.v) (h : a = b) : OpT Tryd.prog [0, 12, 24] [A, B] (.lit (.bool false)) := optD_neq (c := true) ha hb ⟨fun _ => Dy.ext_iff'.2 h, fun _ => rfl⟩
end
theorem Dy.one_num : (⟨false, 1, 0⟩ : Dy).Num := ⟨(show nd 256 1 ≤ 16384 from Nat.le_trans (nd_le (k := 1) (by omega) (by decide)) (by decide)), (by decide), (by decide), (by decide)⟩
def Dy.one : Dy := ⟨false, 1, 0⟩
theorem Dy.one_Ok : Dy.one.Ok := Or.inr Dy.one_num
theorem natS_dz : natS Dy.zero.n = ⟨#[]⟩ := natS_zero
theorem natS_one3 {n : Nat} (h0 : 1 ≤ n) (h : n < 256) : natS n = ⟨#[UInt8.ofNat n]⟩ := by
  have e : nd 256 n = 1 := nd_unique (b := 256) (k := 0) (by omega) (by simpa using h0) (by simpa using h)
  rw [natS_def, e]
  have : dl 256 n 1 = [n] := by
    unfold dl; simp [List.range_succ, dgt_def, Nat.mod_eq_of_lt h]
  rw [this]; rfl
theorem natS_d1 : natS Dy.one.n = ⟨#[1]⟩ := (show natS 1 = ⟨#[1]⟩ from natS_one3 (by omega) (by omega))
theorem Dy.one_v : Dy.one.v = .agg #[.bool false, .string ⟨#[1]⟩, .int .i64 0] := by unfold Dy.v; rw [natS_d1]; rfl
end Go.Proofs.YtjkonfopajihdaaDoor
set_option linter.unusedSimpArgs false
set_option linter.unusedVariables false
namespace Go.Proofs.YtjkonfopajihdaaDoor
open Go Go.RowKit Nt

/-- Does it fit? -/
@[irreducible] def okP (m : Nat) (q : Int) : Bool := decide (¬ (m = 9007199254740992 ∧ q = 971))
theorem okP_iff {m : Nat} {q : Int} : okP m q = true ↔ ¬ (m = 9007199254740992 ∧ q = 971) := by unfold okP; exact decide_eq_true_iff
theorem okP_lt {m : Nat} {q : Int} (h : m < 9007199254740992) : okP m q = true := okP_iff.2 (fun c => by omega)
@[irreducible] def mkW (g : Bool) (m : Nat) (q : Int) : Nat := if okP m q = true then Bt.wf g (pk m q) else 0
theorem mkW_ok {g : Bool} {m : Nat} {q : Int} (h : okP m q = true) : mkW g m q = Bt.wf g (pk m q) := by unfold mkW; rw [if_pos h]
theorem wf_f (x : Nat) : Bt.wf false x = x := by rw [Bt.wf_eq]; rfl
theorem inf_f {m : Nat} {q : Int} (h : ¬ okP m q = true) : Bt.wf false (pk m q) = 9218868437227405312 := by
  have h := Classical.not_not.1 (fun c => h (okP_iff.2 c))
  rw [h.1, h.2, wf_f, pk_eq]; rfl
theorem inf_t {m : Nat} {q : Int} (h : ¬ okP m q = true) : Bt.wf true (pk m q) = 18442240474082181120 := by
  have h := Classical.not_not.1 (fun c => h (okP_iff.2 c))
  rw [h.1, h.2, Bt.wf_eq, if_pos rfl, Bt.topped_eq, pk_eq]; rfl
theorem pk_zero : pk 0 (-1074) = 0 := by rw [pk_eq]; rfl
theorem bMake_i (g : Bool) (m : Nat) (q : Int) (w : World) (h1 : m ≤ 9007199254740992) (hq : -1074 ≤ q) (hq2 : q ≤ 971) (hm : 4503599627370496 ≤ m ∨ q = -1074) {b : Bool} (hb : b = true ↔ okP m q = true) (hG : Globs glT w) :
    Calls Tryd.prog 128 #[.bool g, .int .u64 m, .int .i64 q] w fun e w' => e = .returned (.tuple #[.float .f64 (mkW g m q), .bool b]) ∧ Below w.heap.size w w' := by
  refine (Bt.Make_c g m (by omega) q w (tabs_of hG)).mono ?_
  rintro e w' ⟨rfl, rfl⟩
  refine ⟨?_, Below.refl _ _⟩
  rw [Bool.eq_iff_iff.2 hb]
  by_cases h0 : m = 0
  · subst h0
    obtain rfl : q = -1074 := by omega
    rw [Bt.mkF_zero, Bt.mkB_zero, mkW_ok (okP_lt (by omega)), okP_lt (by omega), pk_zero]
  · by_cases hk : m = 9007199254740992 ∧ q = 971
    · obtain ⟨rfl, rfl⟩ := hk
      have e1 : ¬ okP 9007199254740992 971 = true := fun c => okP_iff.1 c ⟨rfl, rfl⟩
      have e2 : ¬ Bt.mkOk (Bt.od 9007199254740992) ((971 : Int) + Bt.tz 9007199254740992) := by
        rintro ⟨_, _, c⟩
        have h3 := Bt.tz_spec (m := 9007199254740992) (by omega) (by omega)
        have h4 := Bt.bl_lt (m := Bt.od 9007199254740992) (Nat.lt_of_le_of_lt Bt.od_le (by omega))
        revert h3 h4 c
        generalize Bt.tz 9007199254740992 = z
        generalize Bt.od 9007199254740992 = o
        generalize Lib.bitLen o = B
        intro c h3 h4
        have h5 : 9007199254740992 < 2 ^ (B + z) := by rw [← h3.1, Nat.pow_add]; exact Nat.mul_lt_mul_of_pos_right h4 (Nat.two_pow_pos z)
        have h6 : 53 < B + z := pow_lt_of (by rw [show (2 : Nat) ^ 53 = 9007199254740992 by decide]; exact h5)
        omega
      rw [Bt.mkF_no (by omega) e2, Bt.mkB_no (by omega) e2, Bool.eq_false_iff.2 e1]
      unfold mkW; rw [if_neg e1]
    · obtain ⟨e1, e2⟩ := mk_pk (by omega) h1 hq hq2 hm hk
      have e3 : okP m q = true := okP_iff.2 hk
      rw [Bt.mkF_ok (by omega) e1, Bt.mkB_ok e1, e2, mkW_ok e3, e3]
theorem brN_of {m : Nat} (h : m < 9007199254740992) : brN m = m ∧ brB m = true := by
  have := br_lt.2 (show m < 18446744073709551616 by omega)
  exact ⟨brN_yes this, brB_yes this⟩
theorem rM_fits {n : Nat} {x : Int} (h0 : n ≠ 0) : fits (rM n x) := by
  have := br_lt.2 (show rM n x < 18446744073709551616 by have := (rM_b (x := x) h0).1; omega)
  unfold fits; omega
theorem NSmall_r (g : Bool) (n : Nat) (x : Int) (w : World) (hn : (Dy.mk g n x).Num) :
    Calls Tryd.prog 108 #[.string (natS (rM n x))] w fun e w' => e = .returned (.tuple #[.int .u64 (rM n x : Nat), .bool true]) ∧ Below w.heap.size w w' := by
  have h := Small_c (rM n x) w (rM_fits (odd_ne hn.2.1))
  obtain ⟨e1, e2⟩ := brN_of (rM_b (x := x) (odd_ne hn.2.1)).1
  rwa [e1, e2] at h
theorem NShift_r (g : Bool) (n : Nat) (x : Int) (w : World) (hn : (Dy.mk g n x).Num) (h : ¬ 1024 ≤ rT n x) :
    Calls Tryd.prog 65 #[.string (natS n), .int .i64 (-(rQ n x - x))] w fun e w' => e = .returned (.tuple #[.string (natS (rM n x)), .int .i64 0]) ∧ Below w.heap.size w w' := by
  have h0 := odd_ne hn.2.1
  have hf : fits n := hn.1
  by_cases hu : rQ n x ≤ x
  · obtain ⟨e1, _⟩ := rM_up h hu
    by_cases hs : rQ n x = x
    · have e2 : rM n x = n := by rw [e1, hs, Int.sub_self]; simp
      rw [e2, hs, Int.sub_self]
      exact NShift_stay n w hf h0
    · have hff := rM_fits (x := x) h0
      rw [e1] at hff ⊢
      have := NShift_up n (x - rQ n x).toNat w hf h0 (by omega) hff
      rw [show (((x - rQ n x).toNat : Nat) : Int) = -(rQ n x - x) by omega] at this
      exact this
  · obtain ⟨e1, _⟩ := rM_dn h hu
    rw [e1]
    by_cases hs : (rQ n x - x).toNat < nd 2 n
    · have := NShift_down n (rQ n x - x).toNat w hf h0 (by omega) hs
      rw [show (-(((rQ n x - x).toNat : Nat) : Int)) = -(rQ n x - x) by omega] at this
      exact this
    · have := NShift_far n (-(rQ n x - x)) w hf h0 (by omega) (by omega)
      rw [show n / 2 ^ (rQ n x - x).toNat = 0 from Nat.div_eq_of_lt (Nat.lt_of_lt_of_le (lt_nd (b := 2) (by omega)) (Nat.pow_le_pow_right (by omega) (by omega))), natS_zero]
      exact this
/-- The bit below the last one that stays. -/
@[irreducible] def rB (n : Nat) (x : Int) : Nat := dgt 2 n ((rQ n x - x).toNat - 1)
theorem NBit_r (g : Bool) (n : Nat) (x : Int) (w : World) (hn : (Dy.mk g n x).Num) (hu : ¬ rQ n x ≤ x) :
    Calls Tryd.prog 130 #[.string (natS n), .int .i64 (rQ n x - x - 1)] w fun e w' => e = .returned (.tuple #[.int .u8 (rB n x : Nat), .int .i64 0]) ∧ Below w.heap.size w w' := by
  have hb := (rQ_b n x).2
  have hx : -1048576 ≤ x := hn.2.2.1
  have := NBit_c n ((rQ n x - x).toNat - 1) w hn.1 (by omega)
  rw [show (((rQ n x - x).toNat - 1 : Nat) : Int) = rQ n x - x - 1 by omega] at this
  unfold rB
  exact this
theorem DTop_r (g : Bool) (n : Nat) (x : Int) (w : World) (hn : (Dy.mk g n x).Num) : Calls Tryd.prog 13 #[.agg #[.bool g, .string (natS n), .int .i64 x]] w fun e w' => e = .returned (.tuple #[.int .i64 (rT n x), .bool true]) ∧ Below w.heap.size w w' := DTop_num g n x w hn.1 hn.2.1 hn.2.2.1 hn.2.2.2
theorem rTop_r (g : Bool) (n : Nat) (x : Int) (w : World) (hn : (Dy.mk g n x).Num) : Calls Tryd.prog 20 #[.agg #[.bool g, .string (natS n), .int .i64 x]] w fun e w' => e = .returned (.tuple #[.int .i64 (rT n x), .bool true]) ∧ Below w.heap.size w w' := rTop3_num g n x w hn.1 (odd_ne hn.2.1) hn.2.2.1 hn.2.2.2
theorem Least_r (g : Bool) (n : Nat) (x : Int) (w : World) (hn : (Dy.mk g n x).Num) (h : ¬ 1024 ≤ rT n x) :
    Calls Tryd.prog 107 #[.int .i64 (rT n x)] w fun e w' => e = .returned (.int .i64 (rQ n x)) ∧ Below w.heap.size w w' := by
  have e := (rQ_near h).symm
  have hx := hn.2.2
  simp only at hx
  have hr : rT n x = (nd 2 n : Int) - 1 + x := rfl
  have hw1 : wrap64 (rT n x - 52) = rT n x - 52 := IntWalk.wrap64_in _ (by omega)
  clear hr hn h
  generalize rQ n x = q at *
  generalize rT n x = t at *
  go_enter Tryd.func107, Tryd.ntmps107
  go_wp2
  go_ret
  exact ⟨rfl, Below.refl _ _⟩
theorem DCheck_dyr (a : Dy) (ha : a.Ok) (w : World) : Calls Tryd.prog 15 #[.agg #[.bool a.g, .string (natS a.n), .int .i64 a.x]] w fun e w' => e = .returned (.int .i64 0) ∧ Below w.heap.size w w' := by
  have h := DCheck_c a.t w (by have := Dy.small ha; show (natS a.n).size ≤ _; omega)
  rwa [dE_ok (fun t ht => by rw [List.mem_singleton.1 ht]; exact Dy.ok_t ha)] at h
theorem rW_b {n : Nat} {x : Int} : rW n x = 0 ∨ rW n x = 1 ∨ rW n x = 2 ∨ rW n x = 3 := by
  by_cases h : 1024 ≤ rT n x
  · exact Or.inr (Or.inr (Or.inr (rQ_far h).2.2))
  · by_cases hu : rQ n x ≤ x
    · exact Or.inl (rM_up h hu).2
    · rw [(rM_dn h hu).2]; unfold cmpN; split
      · exact Or.inr (Or.inl rfl)
      · split
        · exact Or.inr (Or.inr (Or.inl rfl))
        · exact Or.inr (Or.inr (Or.inr rfl))
theorem rW_dn {g : Bool} {n : Nat} {x : Int} (hn : (Dy.mk g n x).Num) (h : ¬ 1024 ≤ rT n x) (hu : ¬ rQ n x ≤ x) : rW n x = if rB n x = 0 then 1 else if rQ n x - x = 1 then 2 else 3 := by
  rw [(rM_dn h hu).2, rest_bits hn.2.1 (by omega)]
  unfold rB
  split
  · rfl
  · by_cases hk : rQ n x - x = 1
    · rw [if_pos hk, if_pos (by omega)]
    · rw [if_neg hk, if_neg (by omega)]
@[irreducible] def upNear (n : Nat) (x : Int) : Bool := decide (rW n x = 3 ∨ (rW n x = 2 ∧ rM n x % 2 = 1))
@[irreducible] def upAbove (g : Bool) (n : Nat) (x : Int) : Bool := !g && decide (rW n x ≠ 0)
@[irreducible] def upBelow (g : Bool) (n : Nat) (x : Int) : Bool := g && decide (rW n x ≠ 0)
theorem upNear_t {n : Nat} {x : Int} (h : rW n x = 3 ∨ (rW n x = 2 ∧ rM n x % 2 = 1)) : upNear n x = true := by unfold upNear; exact decide_eq_true h
theorem upNear_f {n : Nat} {x : Int} (h : ¬ (rW n x = 3 ∨ (rW n x = 2 ∧ rM n x % 2 = 1))) : upNear n x = false := by unfold upNear; exact decide_eq_false h
theorem upAbove_n (n : Nat) (x : Int) : upAbove true n x = false := by unfold upAbove; rfl
theorem upBelow_n (n : Nat) (x : Int) : upBelow false n x = false := by unfold upBelow; rfl
theorem upAbove_t {n : Nat} {x : Int} (h : rW n x ≠ 0) : upAbove false n x = true := by unfold upAbove; simp [h]
theorem upBelow_t {n : Nat} {x : Int} (h : rW n x ≠ 0) : upBelow true n x = true := by unfold upBelow; simp [h]
theorem upAbove_f {n : Nat} {x : Int} (h : rW n x = 0) : upAbove false n x = false := by unfold upAbove; simp [h]
theorem upBelow_f {n : Nat} {x : Int} (h : rW n x = 0) : upBelow true n x = false := by unfold upBelow; simp [h]
theorem eqS_run {t : TypeId} {s s' : ByteArray} {c : Bool} (h : c = true ↔ s = s') (p q : Operand) (w : World) : (do eqGuard .eql t p q (.string s) (.string s'); binOp .eql t (.string s) (.string s')).run Tryd.prog w = .ok (.bool c) w := by
  go_simp
  by_cases h2 : s.toList = s'.toList
  · rw [h.2 (str_inj h2)]; simp [h2]
  · rw [show c = false by cases c <;> first | rfl | exact absurd (congrArg _ (h.1 rfl)) h2]; simp [h2]
section
variable [Env]
theorem opt_un {P : Program} {op : UnOp} {t : TypeId} {a r : AV} (hr : ground r = true) (h : ∀ w, (Op.unary op (gval a)).run P w = .ok (gval r) w) : OpT P [1, unKey op, t] [a] r := by
  refine ⟨hr, fun o xs hk ρ hρ hx w => ?_⟩
  unfold keyOf at hk
  obtain ⟨dst, o, type, pos, after, guard⟩ := o
  simp only at hk
  split at hk
  · simp only [Option.some.injEq, Prod.mk.injEq, List.cons.injEq] at hk; have := hk.1.1; omega
  · rename_i op' t' x
    simp only [Option.some.injEq, Prod.mk.injEq, List.cons.injEq, and_true, true_and] at hk
    obtain ⟨⟨h1, h2⟩, h3⟩ := hk
    subst h2 h3
    have ho : op' = op := by cases op' <;> cases op <;> first | rfl | cases h1
    subst ho
    simp only [List.map_cons, List.map_nil, List.cons.injEq, and_true] at hx
    have := h w
    simp only [execOp, hx, Sem.run_bind, Sem.run_pure] at this ⊢
    rw [this]; rfl
  all_goals first
    | (simp only [Option.some.injEq, Prod.mk.injEq, List.cons.injEq] at hk; have := hk.1.1; omega)
    | (split at hk <;> first | cases hk | (simp only [Option.some.injEq, Prod.mk.injEq, List.cons.injEq] at hk; have := hk.1.1; omega))
    | cases hk
theorem opt_sub {P : Program} {t : TypeId} {a b r : AV} {x y z : Int} (ha : gval a = .int .i64 x) (hb : gval b = .int .i64 y) (hr : ground r = true) (hv : gval r = .int .i64 z) (h : x - y = z) (h1 : -9223372036854775808 ≤ z ∧ z ≤ 9223372036854775807) : OpT P [0, 1, t] [a, b] r :=
  opt_int (op := .sub) ha hb hr hv fun w => by
    have : IntKind.i64.wrap (x - y) = z := by rw [h]; exact IntWalk.i64_in _ h1
    simp [binOp, Op.intArith, this]
theorem opt_neg {P : Program} {t : TypeId} {a r : AV} {x z : Int} (ha : gval a = .int .i64 x) (hr : ground r = true) (hv : gval r = .int .i64 z) (h : -x = z) (h1 : -9223372036854775808 ≤ z ∧ z ≤ 9223372036854775807) : OpT P [1, 0, t] [a] r :=
  opt_un (op := .neg) hr fun w => by
    have : IntKind.i64.wrap (0 - x) = z := by rw [Int.zero_sub, h]; exact IntWalk.i64_in _ h1
    rw [ha, hv]; simp only [Op.unary, Op.intArith, this]; rfl
theorem opt_add64 {P : Program} {t : TypeId} {a b r : AV} {x y z : Nat} (ha : gval a = .int .u64 x) (hb : gval b = .int .u64 y) (hr : ground r = true) (hv : gval r = .int .u64 z) (h : x + y = z) (h1 : z < 18446744073709551616) : OpT P [0, 0, t] [a, b] r :=
  opt_int (op := .add) ha hb hr hv fun w => by
    have : IntKind.u64.wrap ((x : Int) + (y : Int)) = z := by rw [IntKind.wrap_u64]; omega
    simp [binOp, Op.intArith, this]
theorem opt_odd {P : Program} {t : TypeId} {a b r : AV} {x : Nat} (ha : gval a = .int .u64 x) (hb : gval b = .int .u64 1) (hr : ground r = true) (hv : gval r = .int .u64 (x % 2 : Nat)) (h1 : x < 18446744073709551616) : OpT P [0, 5, t] [a, b] r :=
  opt_int (op := .and) ha hb hr hv fun w => by
    have : bits BinOp.and IntKind.u64 (x : Int) 1 = ((x % 2 : Nat) : Int) := by
      have e1 : (BitVec.ofInt 64 (x : Int)).toNat = x := by
        rw [BitVec.ofInt_natCast, BitVec.toNat_ofNat]; exact Nat.mod_eq_of_lt (by omega)
      have e2 : (BitVec.ofInt 64 (1 : Int)).toNat = 1 := by decide
      show IntKind.u64.wrap ((BitVec.ofInt 64 (x : Int) &&& BitVec.ofInt 64 (1 : Int)).toNat : Int) = _
      rw [BitVec.toNat_and, e1, e2, Nat.and_one_is_mod, IntKind.wrap_u64]
      omega
    go_simp
theorem optS_eql_i {t : TypeId} {A B : AV} {s s' : ByteArray} {c : Bool} (ha : gval A = .string s) (hb : gval B = .string s') (h : c = true ↔ s = s') : OpT Tryd.prog [0, 11, t] [A, B] (.lit (.bool c)) :=
  opt_bin (op := .eql) rfl fun p q w => by rw [ha, hb]; exact eqS_run h p q w
end
end Go.Proofs.YtjkonfopajihdaaDoor
