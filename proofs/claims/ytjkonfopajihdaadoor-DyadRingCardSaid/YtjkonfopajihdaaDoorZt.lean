/- Texts put together: D43 D44 D45 D46. -/
import Derived.Test.YtjkonfopajihdaaDoorZs
set_option linter.unusedSimpArgs false
set_option linter.unusedVariables false
namespace Go.Proofs.YtjkonfopajihdaaDoor
open Go Go.RowKit Nt

/-- From w on: a Dyad in a box, and a second box for what is answered. -/
def OC (w : World) (a : Dt) (W : World) : Prop := OB w a W ∧ Box3 W (w.heap.size + 1) (.bool false) (.string ⟨#[]⟩) (.int .i64 0)
theorem OC.start (w : World) (a : Dt) : OC w a ((w.alloc (.cells #[.bool a.g, .string a.s, .int .i64 a.x] 24)).alloc (.cells #[.bool false, .string ⟨#[]⟩, .int .i64 0] 24)) := by
  refine ⟨(OB.start w a).more _, ?_⟩
  have := Box3.new (w.alloc (.cells #[.bool a.g, .string a.s, .int .i64 a.x] 24)) (.bool false) (.string ⟨#[]⟩) (.int .i64 0)
  simpa using this
theorem OC.step {w : World} {a : Dt} {W W' : World} (h : OC w a W) (hb : Below W.heap.size W W') : OC w a W' := ⟨h.1.step hb, h.2.step hb⟩
theorem OC.more {w : World} {a : Dt} {W : World} (h : OC w a W) (o : Obj) : OC w a (W.alloc o) := h.step ((Below.refl _ _).alloc (Nat.le_refl _) _)
theorem OC.fin {w : World} {a : Dt} {W : World} (h : OC w a W) (x y z : Value) : Below w.heap.size w (((W.setCell ⟨w.heap.size + 1, 0, none⟩ x).setCell ⟨w.heap.size + 1, 1, none⟩ y).setCell ⟨w.heap.size + 1, 2, none⟩ z) := below_put h.1.1 (by omega) x y z
@[irreducible] def shD (d : Dy) (k : Int) : Dy := mkD d.g d.n (d.x + k)
@[irreducible] def shE (d : Dy) (k : Int) : Int := mkE d.n (d.x + k)
theorem shD_eq (d : Dy) (k : Int) : shD d k = mkD d.g d.n (d.x + k) := by unfold shD; rfl
theorem shE_eq (d : Dy) (k : Int) : shE d k = mkE d.n (d.x + k) := by unfold shE; rfl
theorem sh_zero (k : Int) : shD Dy.zero k = Dy.zero ∧ shE Dy.zero k = 0 := by rw [shD_eq, shE_eq]; exact ⟨mkD_zero _ _, mkE_zero _⟩
theorem odd_mk {n : Nat} {x : Int} (ho : n % 2 = 1) (hf : fits n) : mkOk3 n x ↔ (-1048576 ≤ x ∧ x ≤ 1048576) := by
  unfold mkOk3
  rw [odN_odd ho, lowN_odd ho]
  constructor
  · rintro (h | ⟨_, h1, h2⟩)
    · exact absurd h (odd_ne ho)
    · exact ⟨by omega, by omega⟩
  · intro h; exact Or.inr ⟨hf, by omega, by omega⟩
theorem sh_no {d : Dy} {k : Int} (h : d.Num) (hk : ¬ (-1048576 ≤ d.x + k ∧ d.x + k ≤ 1048576)) : shD d k = Dy.zero ∧ shE d k = 4 := by
  have hno : ¬ mkOk3 d.n (d.x + k) := fun c => hk ((odd_mk h.2.1 h.1).1 c)
  rw [shD_eq, shE_eq]; exact ⟨mkD_no hno, mkE_no hno⟩
theorem sh_ok {d : Dy} {k : Int} (h : d.Num) (hk : -1048576 ≤ d.x + k ∧ d.x + k ≤ 1048576) : shD d k = ⟨d.g, d.n, d.x + k⟩ ∧ shE d k = 0 := by
  have hok := (odd_mk h.2.1 h.1).2 hk
  rw [shD_eq, shE_eq, mkD_ok (odd_ne h.2.1) hok, mkE_ok hok, odN_odd h.2.1, lowN_odd h.2.1]
  refine ⟨?_, rfl⟩
  congr 1; omega
def ShPost (d : Dy) (k : Int) (w : World) (e : Ending) (w' : World) : Prop := e = .returned (.tuple #[(shD d k).v, .int .i64 (shE d k)]) ∧ Below w.heap.size w w'
set_option maxRecDepth 100000 in
set_option maxHeartbeats 2000000 in
theorem DShift_bad (a : Dt) (k : Int) (w : World) (ha : a.s.size ≤ 9223372036854775807) (hn : ¬ a.Ok) :
    Calls Tryd.prog 49 #[.agg #[.bool a.g, .string a.s, .int .i64 a.x], .int .i64 k] w fun e w' => e = .returned (.tuple #[.agg #[.bool false, .string ⟨#[]⟩, .int .i64 0], .int .i64 2]) ∧ Below w.heap.size w w' := by
  have K := Lib.hid (fun w => DCheck_c a w ha)
  rw [dE_no (List.mem_singleton.2 rfl) hn] at K
  have T0 := OC.start w a
  clear hn ha
  go_enter Tryd.func49, Tryd.ntmps49
  go_wp2_with fail
  refine (K.out _).mono ?_
  rintro e w1 ⟨rfl, hb⟩
  replace T0 := T0.step hb
  clear hb
  obtain ⟨r0, r1, r2, r3, r4, r5, r6⟩ := T0.2.facts
  go_wp2_with fail
  refine bodyPost_ret (v := .tuple #[.agg #[.bool false, .string ⟨#[]⟩, .int .i64 0], .int .i64 2]) (by simp [results, Tryd.results49, go_sem, r0, r1, r2, r3]) rfl ⟨rfl, ?_⟩
  exact T0.fin _ _ _
set_option maxRecDepth 100000 in
set_option maxHeartbeats 2000000 in
theorem DShift_zero (k : Int) (w : World) :
    Calls Tryd.prog 49 #[.agg #[.bool false, .string ⟨#[]⟩, .int .i64 0], .int .i64 k] w fun e w' => e = .returned (.tuple #[.agg #[.bool false, .string ⟨#[]⟩, .int .i64 0], .int .i64 0]) ∧ Below w.heap.size w w' := by
  have K := Lib.hid (fun w => DCheck_zero w)
  have T0 := OC.start w ⟨false, ⟨#[]⟩, 0⟩
  go_enter Tryd.func49, Tryd.ntmps49
  go_wp2_with fail
  refine (K.out _).mono ?_
  rintro e w1 ⟨rfl, hb⟩
  replace T0 := T0.step hb
  clear hb
  obtain ⟨p0, p1, p2, p3, p4, p5, p6⟩ := T0.1.2.facts
  obtain ⟨r0, r1, r2, r3, r4, r5, r6⟩ := T0.2.facts
  go_wp2_with fail
  refine bodyPost_ret (v := .tuple #[.agg #[.bool false, .string ⟨#[]⟩, .int .i64 0], .int .i64 0]) (by simp [results, Tryd.results49, go_sem, r0, r1, r2, r3]) rfl ⟨rfl, ?_⟩
  exact T0.fin _ _ _
set_option maxRecDepth 100000 in
set_option maxHeartbeats 2000000 in
theorem DShift_num (a : Dy) (k : Int) (w : World) (hn : a.Num) :
    Calls Tryd.prog 49 #[.agg #[.bool a.g, .string (natS a.n), .int .i64 a.x], .int .i64 k] w (ShPost a k w) := by
  have ha : a.Ok := Or.inr hn
  have K := Lib.hid (fun w => DCheck_c a.t w (by have := Dy.small ha; show (natS a.n).size ≤ _; omega))
  rw [dE_ok (fun u hu => by rw [List.mem_singleton.1 hu]; exact Dy.ok_t ha)] at K
  have T0 := OC.start w a.t
  unfold Dy.t at T0 K
  have hE := natS_full (odd_ne hn.2.1)
  have hE2 := natS_full2 (odd_ne hn.2.1)
  have hx := hn.2.2
  have hcase : 2097152 < k ∨ (¬ 2097152 < k ∧ k < -2097152) ∨ (¬ 2097152 < k ∧ ¬ k < -2097152) := by omega
  unfold ShPost
  rcases hcase with h1 | ⟨h1, h2⟩ | ⟨h1, h2⟩
  case' inl => have HR := Lib.hid (sh_no (k := k) hn (by omega))
  case' inr.inl => have HR := Lib.hid (sh_no (k := k) hn (by omega))
  case' inr.inr =>
    have KM : Hid (∀ w, Calls Tryd.prog 25 #[.bool a.g, .string (natS a.n), .int .i64 (a.x + k)] w fun e w' => e = .returned (.tuple #[(shD a k).v, .int .i64 (shE a k)]) ∧ Below w.heap.size w w') := Lib.hid fun w => by
      have := DMake_c a.g a.n (a.x + k) w hn.1 (by omega)
      unfold MkPost at this
      rw [← shD_eq, ← shE_eq] at this
      exact this
    have hwx : wrap64 (a.x + k) = a.x + k := IntWalk.wrap64_in _ (by omega)
    clear hn ha
    generalize shD a k = D at *
    generalize shE a k = E at *
    go_enter Tryd.func49, Tryd.ntmps49
    go_wp2_with fail
    refine (K.out _).mono ?_
    rintro e w1 ⟨rfl, hb⟩
    replace T0 := T0.step hb
    clear hb
    obtain ⟨p0, p1, p2, p3, p4, p5, p6⟩ := T0.1.2.facts
    obtain ⟨r0, r1, r2, r3, r4, r5, r6⟩ := T0.2.facts
    go_wp2_with fail
    refine (KM.out _).mono ?_
    rintro e w2 ⟨rfl, hb⟩
    replace T0 := T0.step hb
    clear hb p0 p1 p2 p3 p4 p5 p6 r0 r1 r2 r3 r4 r5 r6
    obtain ⟨r0, r1, r2, r3, r4, r5, r6⟩ := T0.2.facts
    unfold Dy.v
    go_wp2_with fail
    refine bodyPost_ret (v := .tuple #[D.v, .int .i64 E]) (by simp [results, Tryd.results49, go_sem, r0, r1, r2, r3, Dy.v]) rfl ⟨rfl, ?_⟩
    exact T0.fin _ _ _
  all_goals
    clear hn ha
    go_enter Tryd.func49, Tryd.ntmps49
    go_wp2_with fail
    refine (K.out _).mono ?_
    rintro e w1 ⟨rfl, hb⟩
    replace T0 := T0.step hb
    clear hb
    obtain ⟨p0, p1, p2, p3, p4, p5, p6⟩ := T0.1.2.facts
    obtain ⟨r0, r1, r2, r3, r4, r5, r6⟩ := T0.2.facts
    go_wp2_with fail
    refine bodyPost_ret (v := .tuple #[.agg #[.bool false, .string ⟨#[]⟩, .int .i64 0], .int .i64 4]) (by simp [results, Tryd.results49, go_sem, r0, r1, r2, r3]) rfl ⟨?_, ?_⟩
    · rw [HR.out.1, HR.out.2, Dy.zero_v]
    · exact T0.fin _ _ _
theorem DShift_c (a : Dy) (k : Int) (w : World) (ha : a.Ok) : Calls Tryd.prog 49 #[.agg #[.bool a.g, .string (natS a.n), .int .i64 a.x], .int .i64 k] w (ShPost a k w) := by
  rcases ha with rfl | ha
  · unfold ShPost
    rw [(sh_zero k).1, (sh_zero k).2, Dy.zero_v]
    show Calls _ _ #[.agg #[.bool false, .string (natS 0), .int .i64 0], _] _ _
    rw [natS_zero]; exact DShift_zero k w
  · exact DShift_num a k w ha
set_option maxRecDepth 100000 in
set_option maxHeartbeats 2000000 in
theorem rShift3_zero (k : Int) (w : World) :
    Calls Tryd.prog 51 #[.agg #[.bool false, .string ⟨#[]⟩, .int .i64 0], .int .i64 k] w fun e w' => e = .returned (.tuple #[.agg #[.bool false, .string ⟨#[]⟩, .int .i64 0], .int .i64 0]) ∧ Below w.heap.size w w' := by
  have T0 := OC.start w ⟨false, ⟨#[]⟩, 0⟩
  obtain ⟨p0, p1, p2, p3, p4, p5, p6⟩ := T0.1.2.facts
  obtain ⟨r0, r1, r2, r3, r4, r5, r6⟩ := T0.2.facts
  go_enter Tryd.func51, Tryd.ntmps51
  go_wp2_with fail
  refine bodyPost_ret (v := .tuple #[.agg #[.bool false, .string ⟨#[]⟩, .int .i64 0], .int .i64 0]) (by simp [results, Tryd.results51, go_sem, r0, r1, r2, r3]) rfl ⟨rfl, ?_⟩
  repeat (refine Below.setCell ?_ (by simp) _)
  first
    | exact T0.1.1
    | exact ((Below.refl _ _).alloc (Nat.le_refl _) _).alloc (by simp) _
set_option maxRecDepth 100000 in
set_option maxHeartbeats 2000000 in
theorem rShift3_num (a : Dy) (k : Int) (w : World) (hn : a.Num) :
    Calls Tryd.prog 51 #[.agg #[.bool a.g, .string (natS a.n), .int .i64 a.x], .int .i64 k] w (ShPost a k w) := by
  have T0 := OC.start w a.t
  unfold Dy.t at T0
  have hE := natS_full (odd_ne hn.2.1)
  have hE2 := natS_full2 (odd_ne hn.2.1)
  have hx := hn.2.2
  obtain ⟨p0, p1, p2, p3, p4, p5, p6⟩ := T0.1.2.facts
  obtain ⟨r0, r1, r2, r3, r4, r5, r6⟩ := T0.2.facts
  have hcase : 4194304 < k ∨ (¬ 4194304 < k ∧ k < -4194304) ∨ (¬ 4194304 < k ∧ ¬ k < -4194304 ∧ 1048576 < a.x + k) ∨ (¬ 4194304 < k ∧ ¬ k < -4194304 ∧ ¬ 1048576 < a.x + k ∧ a.x + k < -1048576) ∨ (¬ 4194304 < k ∧ ¬ k < -4194304 ∧ ¬ 1048576 < a.x + k ∧ ¬ a.x + k < -1048576) := by omega
  unfold ShPost
  rcases hcase with h1 | ⟨h1, h2⟩ | ⟨h1, h2, h3⟩ | ⟨h1, h2, h3, h4⟩ | ⟨h1, h2, h3, h4⟩
  case' inl => have HR := Lib.hid (sh_no (k := k) hn (by omega))
  case' inr.inl => have HR := Lib.hid (sh_no (k := k) hn (by omega))
  case' inr.inr.inl => have HR := Lib.hid (sh_no (k := k) hn (by omega))
  case' inr.inr.inr.inl => have HR := Lib.hid (sh_no (k := k) hn (by omega))
  case' inr.inr.inr.inr =>
    have HR := Lib.hid (sh_ok (k := k) hn (by omega))
    clear hn
    go_enter Tryd.func51, Tryd.ntmps51
    go_wp2_with fail
    refine bodyPost_ret (v := .tuple #[.agg #[.bool a.g, .string (natS a.n), .int .i64 (a.x + k)], .int .i64 0]) (by simp [results, Tryd.results51, go_sem, r0, r1, r2, r3]) rfl ⟨?_, ?_⟩
    · rw [HR.out.1, HR.out.2]; rfl
    · repeat (refine Below.setCell ?_ (by simp) _)
      first
        | exact T0.1.1
        | exact ((Below.refl _ _).alloc (Nat.le_refl _) _).alloc (by simp) _
  all_goals
    clear hn
    go_enter Tryd.func51, Tryd.ntmps51
    go_wp2_with fail
    refine bodyPost_ret (v := .tuple #[.agg #[.bool false, .string ⟨#[]⟩, .int .i64 0], .int .i64 4]) (by simp [results, Tryd.results51, go_sem, r0, r1, r2, r3]) rfl ⟨?_, ?_⟩
    · rw [HR.out.1, HR.out.2, Dy.zero_v]
    · repeat (refine Below.setCell ?_ (by simp) _)
      first
        | exact T0.1.1
        | exact ((Below.refl _ _).alloc (Nat.le_refl _) _).alloc (by simp) _
theorem rShift3_c (a : Dy) (k : Int) (w : World) (ha : a.Ok) : Calls Tryd.prog 51 #[.agg #[.bool a.g, .string (natS a.n), .int .i64 a.x], .int .i64 k] w (ShPost a k w) := by
  rcases ha with rfl | ha
  · unfold ShPost
    rw [(sh_zero k).1, (sh_zero k).2, Dy.zero_v]
    show Calls _ _ #[.agg #[.bool false, .string (natS 0), .int .i64 0], _] _ _
    rw [natS_zero]; exact rShift3_zero k w
  · exact rShift3_num a k w ha
end Go.Proofs.YtjkonfopajihdaaDoor
set_option linter.unusedSimpArgs false
set_option linter.unusedVariables false
namespace Go.Proofs.YtjkonfopajihdaaDoor
open Go Go.RowKit Nt

def flN (d : Dy) (k : Int) : Nat := d.n / 2 ^ (k - d.x).toNat + (if d.g = true then 1 else 0)
@[irreducible] def flD (d : Dy) (k : Int) : Dy := if k < -1048576 ∨ 1048576 < k then Dy.zero else if d.n = 0 ∨ k ≤ d.x then d else mkD d.g (flN d k) k
@[irreducible] def flE (d : Dy) (k : Int) : Int := if k < -1048576 ∨ 1048576 < k then 2 else if d.n = 0 ∨ k ≤ d.x then 0 else mkE (flN d k) k
theorem fl_out {d : Dy} {k : Int} (h : k < -1048576 ∨ 1048576 < k) : flD d k = Dy.zero ∧ flE d k = 2 := by unfold flD flE; rw [if_pos h, if_pos h]; exact ⟨rfl, rfl⟩
theorem fl_self {d : Dy} {k : Int} (h : ¬ (k < -1048576 ∨ 1048576 < k)) (h2 : d.n = 0 ∨ k ≤ d.x) : flD d k = d ∧ flE d k = 0 := by unfold flD flE; rw [if_neg h, if_neg h, if_pos h2, if_pos h2]; exact ⟨rfl, rfl⟩
theorem fl_mk {d : Dy} {k : Int} (h : ¬ (k < -1048576 ∨ 1048576 < k)) (h2 : ¬ (d.n = 0 ∨ k ≤ d.x)) : flD d k = mkD d.g (flN d k) k ∧ flE d k = mkE (flN d k) k := by unfold flD flE; rw [if_neg h, if_neg h, if_neg h2, if_neg h2]; exact ⟨rfl, rfl⟩
def FlPost3 (d : Dy) (k : Int) (w : World) (e : Ending) (w' : World) : Prop := e = .returned (.tuple #[(flD d k).v, .int .i64 (flE d k)]) ∧ Below w.heap.size w w'
theorem half_fits {n j : Nat} (hf : fits n) (h0 : n ≠ 0) (hj : 0 < j) : fits (n / 2 ^ j) ∧ fits (n / 2 ^ j + 1) := by
  have h1 : n / 2 ^ j ≤ n / 2 := by
    have e : (2 : Nat) ^ j = 2 * 2 ^ (j - 1) := by rw [show j = (j - 1) + 1 by omega, Nat.pow_succ, Nat.mul_comm]; rfl
    rw [e, ← Nat.div_div_eq_div_mul]
    exact Nat.div_le_self _ _
  exact ⟨fits_le hf (by omega), fits_le hf (by omega)⟩
theorem shift_down (n j : Nat) (w : World) (hf : fits n) (h0 : n ≠ 0) (hj : 0 < j) : Calls Tryd.prog 65 #[.string (natS n), .int .i64 (-(j : Int))] w (StrPost (natS (n / 2 ^ j)) 0 w) := by
  by_cases h : j < nd 2 n
  · exact NShift_down n j w hf h0 hj h
  · have h2 : n / 2 ^ j = 0 := Nat.div_eq_of_lt (Nat.lt_of_lt_of_le (lt_nd (b := 2) (by omega)) (Nat.pow_le_pow_right (by omega) (by omega)))
    rw [h2, natS_zero]
    exact NShift_far n _ w hf h0 (by omega) (by omega)
set_option maxRecDepth 100000 in
set_option maxHeartbeats 2000000 in
theorem DFloor_bad (a : Dt) (k : Int) (w : World) (ha : a.s.size ≤ 9223372036854775807) (hn : ¬ a.Ok) :
    Calls Tryd.prog 50 #[.agg #[.bool a.g, .string a.s, .int .i64 a.x], .int .i64 k] w fun e w' => e = .returned (.tuple #[.agg #[.bool false, .string ⟨#[]⟩, .int .i64 0], .int .i64 2]) ∧ Below w.heap.size w w' := by
  have K := Lib.hid (fun w => DCheck_c a w ha)
  rw [dE_no (List.mem_singleton.2 rfl) hn] at K
  have T0 := OC.start w a
  clear hn ha
  go_enter Tryd.func50, Tryd.ntmps50
  go_wp2_with fail
  refine (K.out _).mono ?_
  rintro e w1 ⟨rfl, hb⟩
  replace T0 := T0.step hb
  clear hb
  obtain ⟨r0, r1, r2, r3, r4, r5, r6⟩ := T0.2.facts
  go_wp2_with fail
  refine bodyPost_ret (v := .tuple #[.agg #[.bool false, .string ⟨#[]⟩, .int .i64 0], .int .i64 2]) (by simp [results, Tryd.results50, go_sem, r0, r1, r2, r3]) rfl ⟨rfl, ?_⟩
  exact T0.fin _ _ _
set_option maxRecDepth 100000 in
set_option maxHeartbeats 2000000 in
theorem DFloor_zero (k : Int) (w : World) :
    Calls Tryd.prog 50 #[.agg #[.bool false, .string ⟨#[]⟩, .int .i64 0], .int .i64 k] w (FlPost3 Dy.zero k w) := by
  have K := Lib.hid (fun w => DCheck_zero w)
  have T0 := OC.start w ⟨false, ⟨#[]⟩, 0⟩
  unfold FlPost3
  have hcase : k < -1048576 ∨ (¬ k < -1048576 ∧ 1048576 < k) ∨ (¬ k < -1048576 ∧ ¬ 1048576 < k) := by omega
  rcases hcase with h1 | ⟨h1, h2⟩ | ⟨h1, h2⟩
  case' inr.inr =>
    have HR := Lib.hid (fl_self (d := Dy.zero) (k := k) (by omega) (Or.inl rfl))
    go_enter Tryd.func50, Tryd.ntmps50
    go_wp2_with fail
    refine (K.out _).mono ?_
    rintro e w1 ⟨rfl, hb⟩
    replace T0 := T0.step hb
    clear hb
    obtain ⟨p0, p1, p2, p3, p4, p5, p6⟩ := T0.1.2.facts
    obtain ⟨r0, r1, r2, r3, r4, r5, r6⟩ := T0.2.facts
    go_wp2_with fail
    refine bodyPost_ret (v := .tuple #[.agg #[.bool false, .string ⟨#[]⟩, .int .i64 0], .int .i64 0]) (by simp [results, Tryd.results50, go_sem, r0, r1, r2, r3]) rfl ⟨by rw [HR.out.1, HR.out.2, Dy.zero_v], ?_⟩
    exact T0.fin _ _ _
  case' inl => have HR := Lib.hid (fl_out (d := Dy.zero) (k := k) (Or.inl h1))
  case' inr.inl => have HR := Lib.hid (fl_out (d := Dy.zero) (k := k) (Or.inr h2))
  all_goals
    go_enter Tryd.func50, Tryd.ntmps50
    go_wp2_with fail
    refine (K.out _).mono ?_
    rintro e w1 ⟨rfl, hb⟩
    replace T0 := T0.step hb
    clear hb
    obtain ⟨p0, p1, p2, p3, p4, p5, p6⟩ := T0.1.2.facts
    obtain ⟨r0, r1, r2, r3, r4, r5, r6⟩ := T0.2.facts
    go_wp2_with fail
    refine bodyPost_ret (v := .tuple #[.agg #[.bool false, .string ⟨#[]⟩, .int .i64 0], .int .i64 2]) (by simp [results, Tryd.results50, go_sem, r0, r1, r2, r3]) rfl ⟨by rw [HR.out.1, HR.out.2, Dy.zero_v], ?_⟩
    exact T0.fin _ _ _
set_option maxRecDepth 100000 in
set_option maxHeartbeats 2000000 in
theorem DFloor_num (g : Bool) (n : Nat) (x k : Int) (w : World) (hn : (Dy.mk g n x).Num) :
    Calls Tryd.prog 50 #[.agg #[.bool g, .string (natS n), .int .i64 x], .int .i64 k] w (FlPost3 ⟨g, n, x⟩ k w) := by
  have K := Lib.hid (fun w => DCheck_num g n x w hn.1 hn.2.1 hn.2.2.1 hn.2.2.2)
  have T0 := OC.start w ⟨g, natS n, x⟩
  have hE := natS_full (odd_ne hn.2.1)
  have hE2 := natS_full2 (odd_ne hn.2.1)
  have hx : -1048576 ≤ x ∧ x ≤ 1048576 := hn.2.2
  have hf : fits n := hn.1
  have h0 : n ≠ 0 := odd_ne hn.2.1
  unfold FlPost3
  have hcase : k < -1048576 ∨ (¬ k < -1048576 ∧ 1048576 < k) ∨ (¬ k < -1048576 ∧ ¬ 1048576 < k ∧ k ≤ x) ∨ (¬ k < -1048576 ∧ ¬ 1048576 < k ∧ ¬ k ≤ x) := by omega
  rcases hcase with h1 | ⟨h1, h2⟩ | ⟨h1, h2, h3⟩ | ⟨h1, h2, h3⟩
  case' inr.inr.inl =>
    have HR := Lib.hid (fl_self (d := ⟨g, n, x⟩) (k := k) (by omega) (Or.inr h3))
    clear hn hf h0
    go_enter Tryd.func50, Tryd.ntmps50
    go_wp2_with fail
    refine (K.out _).mono ?_
    rintro e w1 ⟨rfl, hb⟩
    replace T0 := T0.step hb
    clear hb
    obtain ⟨p0, p1, p2, p3, p4, p5, p6⟩ := T0.1.2.facts
    obtain ⟨r0, r1, r2, r3, r4, r5, r6⟩ := T0.2.facts
    go_wp2_with fail
    refine bodyPost_ret (v := .tuple #[.agg #[.bool g, .string (natS n), .int .i64 x], .int .i64 0]) (by simp [results, Tryd.results50, go_sem, r0, r1, r2, r3]) rfl ⟨by rw [HR.out.1, HR.out.2]; rfl, ?_⟩
    exact T0.fin _ _ _
  case' inr.inr.inr =>
    obtain ⟨j, hj⟩ : ∃ j, j = (k - x).toNat := ⟨_, rfl⟩
    have hj0 : 0 < j := by omega
    have hjx : x - k = -(j : Int) := by omega
    have hhf := half_fits hf h0 hj0
    have KS := Lib.hid (fun w => shift_down n j w hf h0 hj0)
    have HR := fl_mk (d := ⟨g, n, x⟩) (k := k) (by omega) (by rintro (c | c); exact h0 c; exact h3 c)
    have hfn : flN ⟨g, n, x⟩ k = n / 2 ^ j + (if g = true then 1 else 0) := by unfold flN; rw [hj]
    rw [hfn] at HR
    have hk : -9223372036854775808 ≤ k ∧ k ≤ 9223372036854775807 := by omega
    obtain ⟨z, hz⟩ : ∃ z, z = n / 2 ^ j := ⟨_, rfl⟩
    rw [← hz] at KS HR hhf
    clear hn hz hfn hf h0 hj hj0
    cases g
    case' false =>
      have KM := Lib.hid (fun w => DMake_c false z k w hhf.1 hk)
      unfold MkPost at KM
      rw [if_neg (by decide), Nat.add_zero] at HR
      have HRR := Lib.hid HR
      clear HR hhf
      generalize mkD false z k = D at *
      generalize mkE z k = E at *
      go_enter Tryd.func50, Tryd.ntmps50
      go_wp2_with fail
      refine (K.out _).mono ?_
      rintro e w1 ⟨rfl, hb⟩
      replace T0 := T0.step hb
      clear hb
      obtain ⟨p0, p1, p2, p3, p4, p5, p6⟩ := T0.1.2.facts
      obtain ⟨r0, r1, r2, r3, r4, r5, r6⟩ := T0.2.facts
      go_wp2_with (first
        | (go_at_call 65; refine (KS.out _).mono ?_; rintro e w2 ⟨rfl, hb⟩; replace T0 := T0.step hb; clear hb p0 p1 p2 p3 p4 p5 p6; obtain ⟨p0, p1, p2, p3, p4, p5, p6⟩ := T0.1.2.facts)
        | (go_at_call 25; refine (KM.out _).mono ?_; rintro e w3 ⟨rfl, hb⟩; replace T0 := T0.step hb; clear hb r0 r1 r2 r3 r4 r5 r6; obtain ⟨r0, r1, r2, r3, r4, r5, r6⟩ := T0.2.facts; unfold Dy.v))
      refine bodyPost_ret (v := .tuple #[D.v, .int .i64 E]) (by simp [results, Tryd.results50, go_sem, r0, r1, r2, r3, Dy.v]) rfl ⟨by rw [HRR.out.1, HRR.out.2], ?_⟩
      exact T0.fin _ _ _
    case' true =>
      have KM := Lib.hid (fun w => DMake_c true (z + 1) k w hhf.2 hk)
      unfold MkPost at KM
      rw [if_pos rfl] at HR
      have KO := Lib.hid (fun w => Of_n 1 w (by decide))
      have KA := Lib.hid (fun w => NAdd_c z 1 w hhf.1 (abs_fits (by decide)))
      rw [resS_ok hhf.2, resE_ok hhf.2] at KA
      have HRR := Lib.hid HR
      clear HR hhf
      generalize mkD true (z + 1) k = D at *
      generalize mkE (z + 1) k = E at *
      go_enter Tryd.func50, Tryd.ntmps50
      go_wp2_with fail
      refine (K.out _).mono ?_
      rintro e w1 ⟨rfl, hb⟩
      replace T0 := T0.step hb
      clear hb
      obtain ⟨p0, p1, p2, p3, p4, p5, p6⟩ := T0.1.2.facts
      obtain ⟨r0, r1, r2, r3, r4, r5, r6⟩ := T0.2.facts
      go_wp2_with (first
        | (go_at_call 65; refine (KS.out _).mono ?_; rintro e w2 ⟨rfl, hb⟩; replace T0 := T0.step hb; clear hb p0 p1 p2 p3 p4 p5 p6; obtain ⟨p0, p1, p2, p3, p4, p5, p6⟩ := T0.1.2.facts)
        | (go_at_call 62; refine (KO.out _).mono ?_; rintro e w4 ⟨rfl, hb⟩; replace T0 := T0.step hb; clear hb p0 p1 p2 p3 p4 p5 p6; obtain ⟨p0, p1, p2, p3, p4, p5, p6⟩ := T0.1.2.facts)
        | (go_at_call 90; refine (KA.out _).mono ?_; rintro e w5 ⟨rfl, hb⟩; replace T0 := T0.step hb; clear hb p0 p1 p2 p3 p4 p5 p6; obtain ⟨p0, p1, p2, p3, p4, p5, p6⟩ := T0.1.2.facts)
        | (go_at_call 25; refine (KM.out _).mono ?_; rintro e w3 ⟨rfl, hb⟩; replace T0 := T0.step hb; clear hb r0 r1 r2 r3 r4 r5 r6; obtain ⟨r0, r1, r2, r3, r4, r5, r6⟩ := T0.2.facts; unfold Dy.v))
      refine bodyPost_ret (v := .tuple #[D.v, .int .i64 E]) (by simp [results, Tryd.results50, go_sem, r0, r1, r2, r3, Dy.v]) rfl ⟨by rw [HRR.out.1, HRR.out.2], ?_⟩
      exact T0.fin _ _ _
  case' inl => have HR := Lib.hid (fl_out (d := ⟨g, n, x⟩) (k := k) (Or.inl h1))
  case' inr.inl => have HR := Lib.hid (fl_out (d := ⟨g, n, x⟩) (k := k) (Or.inr h2))
  all_goals
    clear hn hf h0
    go_enter Tryd.func50, Tryd.ntmps50
    go_wp2_with fail
    refine (K.out _).mono ?_
    rintro e w1 ⟨rfl, hb⟩
    replace T0 := T0.step hb
    clear hb
    obtain ⟨p0, p1, p2, p3, p4, p5, p6⟩ := T0.1.2.facts
    obtain ⟨r0, r1, r2, r3, r4, r5, r6⟩ := T0.2.facts
    go_wp2_with fail
    refine bodyPost_ret (v := .tuple #[.agg #[.bool false, .string ⟨#[]⟩, .int .i64 0], .int .i64 2]) (by simp [results, Tryd.results50, go_sem, r0, r1, r2, r3]) rfl ⟨by rw [HR.out.1, HR.out.2, Dy.zero_v], ?_⟩
    exact T0.fin _ _ _
theorem DFloor_c (a : Dy) (k : Int) (w : World) (ha : a.Ok) : Calls Tryd.prog 50 #[.agg #[.bool a.g, .string (natS a.n), .int .i64 a.x], .int .i64 k] w (FlPost3 a k w) := by
  rcases ha with rfl | ha
  · show Calls _ _ #[.agg #[.bool false, .string (natS 0), .int .i64 0], _] _ _
    rw [natS_zero]; exact DFloor_zero k w
  · exact DFloor_num a.g a.n a.x k w ha
end Go.Proofs.YtjkonfopajihdaaDoor
set_option linter.unusedSimpArgs false
set_option linter.unusedVariables false
namespace Go.Proofs.YtjkonfopajihdaaDoor
open Go Go.RowKit Nt

theorem nd_one : nd 256 1 = 1 := by rw [nd_step (by omega) (by omega), show 1 / 256 = 0 from rfl, nd_zero]
theorem dgt_one : dgt 256 1 0 = 1 := by rw [dgt_def]
theorem own_one (W : World) : Own (W.alloc (.cells #[.int .i64 1] 3)) W.heap.size 3 .i64 (.slice (some ⟨W.heap.size, 0, none⟩) 1 1) (dl 256 1 1) := by
  have e : fcells .i64 (dgt 256 1) 1 = #[.int .i64 1] := by
    unfold fcells
    simp [dgt_one]
  have := Own.of_fcells3 (w := W.alloc (.cells #[.int .i64 1] 3)) (B := W.heap.size) (g := W.heap.size) (T := 3) (k := .i64) (f := dgt 256 1) (L := 1) (by rw [e]; exact Blk.new W _ _) (Nat.le_refl _) (by omega)
  exact this
set_option maxRecDepth 100000 in
set_option maxHeartbeats 2000000 in
theorem rFloor3_zero (k : Int) (w : World) :
    Calls Tryd.prog 52 #[.agg #[.bool false, .string ⟨#[]⟩, .int .i64 0], .int .i64 k] w (FlPost3 Dy.zero k w) := by
  have T0 := OC.start w ⟨false, ⟨#[]⟩, 0⟩
  obtain ⟨p0, p1, p2, p3, p4, p5, p6⟩ := T0.1.2.facts
  obtain ⟨r0, r1, r2, r3, r4, r5, r6⟩ := T0.2.facts
  unfold FlPost3
  have hcase : k < -1048576 ∨ (¬ k < -1048576 ∧ 1048576 < k) ∨ (¬ k < -1048576 ∧ ¬ 1048576 < k) := by omega
  rcases hcase with h1 | ⟨h1, h2⟩ | ⟨h1, h2⟩
  case' inr.inr =>
    have HR := Lib.hid (fl_self (d := Dy.zero) (k := k) (by omega) (Or.inl rfl))
    go_enter Tryd.func52, Tryd.ntmps52
    go_wp2_with fail
    refine bodyPost_ret (v := .tuple #[.agg #[.bool false, .string ⟨#[]⟩, .int .i64 0], .int .i64 0]) (by simp [results, Tryd.results52, go_sem, r0, r1, r2, r3]) rfl ⟨by rw [HR.out.1, HR.out.2, Dy.zero_v], ?_⟩
    repeat (refine Below.setCell ?_ (by simp) _)
    first
      | exact T0.1.1
      | exact ((Below.refl _ _).alloc (Nat.le_refl _) _).alloc (by simp) _
  case' inl => have HR := Lib.hid (fl_out (d := Dy.zero) (k := k) (Or.inl h1))
  case' inr.inl => have HR := Lib.hid (fl_out (d := Dy.zero) (k := k) (Or.inr h2))
  all_goals
    go_enter Tryd.func52, Tryd.ntmps52
    go_wp2_with fail
    refine bodyPost_ret (v := .tuple #[.agg #[.bool false, .string ⟨#[]⟩, .int .i64 0], .int .i64 2]) (by simp [results, Tryd.results52, go_sem, r0, r1, r2, r3]) rfl ⟨by rw [HR.out.1, HR.out.2, Dy.zero_v], ?_⟩
    repeat (refine Below.setCell ?_ (by simp) _)
    first
      | exact T0.1.1
      | exact ((Below.refl _ _).alloc (Nat.le_refl _) _).alloc (by simp) _
set_option maxRecDepth 100000 in
set_option maxHeartbeats 2000000 in
theorem rFloor3_num (g : Bool) (n : Nat) (x k : Int) (w : World) (hn : (Dy.mk g n x).Num) :
    Calls Tryd.prog 52 #[.agg #[.bool g, .string (natS n), .int .i64 x], .int .i64 k] w (FlPost3 ⟨g, n, x⟩ k w) := by
  have T0 := OC.start w ⟨g, natS n, x⟩
  obtain ⟨p0, p1, p2, p3, p4, p5, p6⟩ := T0.1.2.facts
  obtain ⟨r0, r1, r2, r3, r4, r5, r6⟩ := T0.2.facts
  have hE := natS_full (odd_ne hn.2.1)
  have hE2 := natS_full2 (odd_ne hn.2.1)
  have hx : -1048576 ≤ x ∧ x ≤ 1048576 := hn.2.2
  have hf : fits n := hn.1
  have h0 : n ≠ 0 := odd_ne hn.2.1
  have hsz := natS_size n
  have hL : nd 256 n ≤ 16384 := hf
  unfold FlPost3
  have hcase : k < -1048576 ∨ (¬ k < -1048576 ∧ 1048576 < k) ∨ (¬ k < -1048576 ∧ ¬ 1048576 < k ∧ k ≤ x) ∨ (¬ k < -1048576 ∧ ¬ 1048576 < k ∧ ¬ k ≤ x) := by omega
  rcases hcase with h1 | ⟨h1, h2⟩ | ⟨h1, h2, h3⟩ | ⟨h1, h2, h3⟩
  case' inr.inr.inl =>
    have HR := Lib.hid (fl_self (d := ⟨g, n, x⟩) (k := k) (by omega) (Or.inr h3))
    clear hn hf h0
    go_enter Tryd.func52, Tryd.ntmps52
    go_wp2_with fail
    refine bodyPost_ret (v := .tuple #[.agg #[.bool g, .string (natS n), .int .i64 x], .int .i64 0]) (by simp [results, Tryd.results52, go_sem, r0, r1, r2, r3]) rfl ⟨by rw [HR.out.1, HR.out.2]; rfl, ?_⟩
    repeat (refine Below.setCell ?_ (by simp) _)
    first
      | exact T0.1.1
      | exact ((Below.refl _ _).alloc (Nat.le_refl _) _).alloc (by simp) _
  case' inr.inr.inr =>
    obtain ⟨j, hj⟩ : ∃ j, j = (k - x).toNat := ⟨_, rfl⟩
    have hj0 : 0 < j := by omega
    have hjb : j ≤ 2097152 := by omega
    have hjx : k - x = (j : Int) := by omega
    have HR := fl_mk (d := ⟨g, n, x⟩) (k := k) (by omega) (by rintro (c | c); exact h0 c; exact h3 c)
    have hfn : flN ⟨g, n, x⟩ k = n / 2 ^ j + (if g = true then 1 else 0) := by unfold flN; rw [hj]
    rw [hfn] at HR
    have hk : -9223372036854775808 ≤ k ∧ k ≤ 9223372036854775807 := by omega
    obtain ⟨z, hz⟩ : ∃ z, z = n / 2 ^ j := ⟨_, rfl⟩
    have hhf := half_fits hf h0 hj0
    rw [← hz] at HR hhf
    have hzW : nd 256 z ≤ 16384 := hhf.1
    have hz1 : nd 256 (z + 1) ≤ 100000 := Nat.le_trans hhf.2 (by omega)
    have KO := Lib.hid (fun w => rOf3_c n w (by omega))
    have KH : Hid (∀ (B : Nat) (A : Option Addr) (c : Nat) (W' : World), Own W' B 3 .i64 (.slice A (nd 256 n) c) (dl 256 n (nd 256 n)) → Calls Tryd.prog 91 #[.slice A (nd 256 n) c, .int .i64 (j : Nat)] W' (BigP z W')) := Lib.hid fun B A c W' h => by
      have := rHalved3_c n (j / 8) (j % 8) B A c W' (by omega) (by omega) (by omega) h
      rw [show 8 * (j / 8) + j % 8 = j by omega] at this
      rw [hz]; exact this
    have hfar : 8 * nd 256 n < j → z = 0 := fun c => by
      rw [hz]
      have hb := (bits_le n (nd 256 n)).2 (Nat.le_refl _)
      exact Nat.div_eq_of_lt (Nat.lt_of_lt_of_le (lt_nd (b := 2) (by omega)) (Nat.pow_le_pow_right (by omega) (by omega)))
    have HFAR := Lib.hid hfar
    clear hn hz hfn hf h0 hj hj0 hhf hfar
    by_cases hnear : j ≤ 8 * nd 256 n
    case' pos =>
      have hnear2 : (j : Int) ≤ 8 * (nd 256 n : Int) := by omega
      cases g
      case' false =>
        rw [if_neg (by decide), Nat.add_zero] at HR
        have KF : Hid (∀ (B : Nat) (A : Option Addr) (c : Nat) (W' : World), Own W' B 3 .i64 (.slice A (nd 256 z) c) (dl 256 z (nd 256 z)) → Calls Tryd.prog 66 #[.bool false, .slice A (nd 256 z) c, .int .i64 k] W' (MkPost false z k W')) := Lib.hid fun B A c W' h => rFit3_c false z k B A c W' (by omega) hk h
        have HRR := Lib.hid HR
        clear HR
        unfold MkPost at KF
        generalize mkD false z k = D at *
        generalize mkE z k = E at *
        go_enter Tryd.func52, Tryd.ntmps52
        go_wp2_with fail
        refine (KO.out _).mono ?_
        rintro e w1 ⟨v1, rfl, hown1, hb⟩
        obtain ⟨A1, c1, rfl, hc1⟩ := hown1.len
        rw [dl_length] at hown1 hc1 ⊢
        replace T0 := T0.step hb
        clear hb p0 p1 p2 p3 p4 p5 p6 r0 r1 r2 r3 r4 r5 r6
        obtain ⟨p0, p1, p2, p3, p4, p5, p6⟩ := T0.1.2.facts
        have KH2 := Lib.hid (KH.out _ _ _ _ hown1)
        clear hown1 hc1
        go_wp2_with fail
        refine KH2.out.mono ?_
        rintro e w2 ⟨A2, c2, rfl, hown2, hb⟩
        replace T0 := T0.step hb
        have HOW := Lib.hid hown2
        clear hb hown2 p0 p1 p2 p3 p4 p5 p6
        obtain ⟨p0, p1, p2, p3, p4, p5, p6⟩ := T0.1.2.facts
        go_wp2_with fail
        refine (KF.out _ _ _ _ HOW.out).mono ?_
        rintro e w4 ⟨rfl, hb⟩
        replace T0 := T0.step hb
        try clear r0 r1 r2 r3 r4 r5 r6
        clear hb p0 p1 p2 p3 p4 p5 p6
        obtain ⟨r0, r1, r2, r3, r4, r5, r6⟩ := T0.2.facts
        unfold Dy.v
        go_wp2_with fail
        refine bodyPost_ret (v := .tuple #[D.v, .int .i64 E]) (by simp [results, Tryd.results52, go_sem, r0, r1, r2, r3, Dy.v]) rfl ⟨by rw [HRR.out.1, HRR.out.2], ?_⟩
        exact T0.fin _ _ _
      case' true =>
        have KF : Hid (∀ (B : Nat) (A : Option Addr) (c : Nat) (W' : World), Own W' B 3 .i64 (.slice A (nd 256 (z + 1)) c) (dl 256 (z + 1) (nd 256 (z + 1))) → Calls Tryd.prog 66 #[.bool true, .slice A (nd 256 (z + 1)) c, .int .i64 k] W' (MkPost true (z + 1) k W')) := Lib.hid fun B A c W' h => rFit3_c true (z + 1) k B A c W' hz1 hk h
        rw [if_pos rfl] at HR
        have KP : Hid (∀ (A : Option Addr) (c : Nat) (B : Nat) (W' : World) (A' : Nat), A' = W'.heap.size → Own W' B 3 .i64 (.slice A (nd 256 z) c) (dl 256 z (nd 256 z)) → Calls Tryd.prog 87 #[.slice A (nd 256 z) c, .slice (some ⟨A', 0, none⟩) 1 1] (W'.alloc (.cells #[.int .i64 1] 3)) (BigP (z + 1) (W'.alloc (.cells #[.int .i64 1] 3)))) := Lib.hid fun A c B W' A' hA h => by
          subst hA
          have h2 := own_one W'
          have h3 : Own (W'.alloc (.cells #[.int .i64 1] 3)) B 3 .i64 (.slice A (nd 256 z) c) (dl 256 z (nd 256 z)) := World.ownsRow.alloc h _
          have := rPlus3_c z 1 B W'.heap.size A (some ⟨W'.heap.size, 0, none⟩) c 1 (W'.alloc (.cells #[.int .i64 1] 3)) (by omega) (by rw [nd_one]; omega) h3 (by rw [nd_one]; exact h2)
          rw [nd_one] at this
          exact this
        have HRR := Lib.hid HR
        clear HR
        unfold MkPost at KF
        generalize mkD true (z + 1) k = D at *
        generalize mkE (z + 1) k = E at *
        go_enter Tryd.func52, Tryd.ntmps52
        go_wp2_with fail
        refine (KO.out _).mono ?_
        rintro e w1 ⟨v1, rfl, hown1, hb⟩
        obtain ⟨A1, c1, rfl, hc1⟩ := hown1.len
        rw [dl_length] at hown1 hc1 ⊢
        replace T0 := T0.step hb
        clear hb p0 p1 p2 p3 p4 p5 p6 r0 r1 r2 r3 r4 r5 r6
        obtain ⟨p0, p1, p2, p3, p4, p5, p6⟩ := T0.1.2.facts
        have KH2 := Lib.hid (KH.out _ _ _ _ hown1)
        clear hown1 hc1
        go_wp2_with fail
        refine KH2.out.mono ?_
        rintro e w2 ⟨A2, c2, rfl, hown2, hb⟩
        replace T0 := T0.step hb
        have HOW := Lib.hid hown2
        clear hb hown2 p0 p1 p2 p3 p4 p5 p6
        obtain ⟨p0, p1, p2, p3, p4, p5, p6⟩ := T0.1.2.facts
        go_wp2_with fail
        refine (KP.out _ _ _ _ _ (by simp) HOW.out).mono ?_
        rintro e w3 ⟨A3, c3, rfl, hown3, hb⟩
        replace T0 := (T0.more _).step hb
        have HOW3 := Lib.hid hown3
        clear hb hown3 p0 p1 p2 p3 p4 p5 p6
        obtain ⟨p0, p1, p2, p3, p4, p5, p6⟩ := T0.1.2.facts
        go_wp2_with fail
        refine (KF.out _ _ _ _ HOW3.out).mono ?_
        rintro e w4 ⟨rfl, hb⟩
        replace T0 := T0.step hb
        try clear r0 r1 r2 r3 r4 r5 r6
        clear hb p0 p1 p2 p3 p4 p5 p6
        obtain ⟨r0, r1, r2, r3, r4, r5, r6⟩ := T0.2.facts
        unfold Dy.v
        go_wp2_with fail
        refine bodyPost_ret (v := .tuple #[D.v, .int .i64 E]) (by simp [results, Tryd.results52, go_sem, r0, r1, r2, r3, Dy.v]) rfl ⟨by rw [HRR.out.1, HRR.out.2], ?_⟩
        exact T0.fin _ _ _
    case' neg =>
      have HZ := Lib.hid (HFAR.out (by omega))
      have hnear2 : ¬ (j : Int) ≤ 8 * (nd 256 n : Int) := by omega
      cases g
      case' false =>
        rw [if_neg (by decide), Nat.add_zero] at HR
        have KF : Hid (∀ (W' : World), Calls Tryd.prog 66 #[.bool false, .slice none 0 0, .int .i64 k] W' (MkPost false z k W')) := Lib.hid fun W' => by
          rw [HZ.out]; exact rFit3_zero false k none 0 W'
        have HRR := Lib.hid HR
        clear HR
        unfold MkPost at KF
        generalize mkD false z k = D at *
        generalize mkE z k = E at *
        go_enter Tryd.func52, Tryd.ntmps52
        go_wp2_with fail
        refine (KF.out _).mono ?_
        rintro e w4 ⟨rfl, hb⟩
        replace T0 := T0.step hb
        try clear r0 r1 r2 r3 r4 r5 r6
        clear hb p0 p1 p2 p3 p4 p5 p6
        obtain ⟨r0, r1, r2, r3, r4, r5, r6⟩ := T0.2.facts
        unfold Dy.v
        go_wp2_with fail
        refine bodyPost_ret (v := .tuple #[D.v, .int .i64 E]) (by simp [results, Tryd.results52, go_sem, r0, r1, r2, r3, Dy.v]) rfl ⟨by rw [HRR.out.1, HRR.out.2], ?_⟩
        exact T0.fin _ _ _
      case' true =>
        have KF : Hid (∀ (B : Nat) (A : Option Addr) (c : Nat) (W' : World), Own W' B 3 .i64 (.slice A (nd 256 (z + 1)) c) (dl 256 (z + 1) (nd 256 (z + 1))) → Calls Tryd.prog 66 #[.bool true, .slice A (nd 256 (z + 1)) c, .int .i64 k] W' (MkPost true (z + 1) k W')) := Lib.hid fun B A c W' h => rFit3_c true (z + 1) k B A c W' hz1 hk h
        rw [if_pos rfl] at HR
        have KP : Hid (∀ (W' : World) (A' : Nat), A' = W'.heap.size → Calls Tryd.prog 87 #[.slice none 0 0, .slice (some ⟨A', 0, none⟩) 1 1] (W'.alloc (.cells #[.int .i64 1] 3)) (BigP (z + 1) (W'.alloc (.cells #[.int .i64 1] 3)))) := Lib.hid fun W' A' hA => by
          subst hA
          have h2 := own_one W'
          have := rPlus3_c 0 1 0 W'.heap.size none (some ⟨W'.heap.size, 0, none⟩) 0 1 (W'.alloc (.cells #[.int .i64 1] 3)) (by rw [nd_zero]; omega) (by rw [nd_one]; omega) (by rw [nd_zero]; exact Own.nil _ _ _ _) (by rw [nd_one]; exact h2)
          rw [nd_one, nd_zero] at this
          rw [HZ.out]
          exact this
        have HRR := Lib.hid HR
        clear HR
        unfold MkPost at KF
        generalize mkD true (z + 1) k = D at *
        generalize mkE (z + 1) k = E at *
        go_enter Tryd.func52, Tryd.ntmps52
        go_wp2_with fail
        refine (KP.out _ _ (by simp)).mono ?_
        rintro e w3 ⟨A3, c3, rfl, hown3, hb⟩
        replace T0 := (T0.more _).step hb
        have HOW3 := Lib.hid hown3
        clear hb hown3 p0 p1 p2 p3 p4 p5 p6
        obtain ⟨p0, p1, p2, p3, p4, p5, p6⟩ := T0.1.2.facts
        go_wp2_with fail
        refine (KF.out _ _ _ _ HOW3.out).mono ?_
        rintro e w4 ⟨rfl, hb⟩
        replace T0 := T0.step hb
        try clear r0 r1 r2 r3 r4 r5 r6
        clear hb p0 p1 p2 p3 p4 p5 p6
        obtain ⟨r0, r1, r2, r3, r4, r5, r6⟩ := T0.2.facts
        unfold Dy.v
        go_wp2_with fail
        refine bodyPost_ret (v := .tuple #[D.v, .int .i64 E]) (by simp [results, Tryd.results52, go_sem, r0, r1, r2, r3, Dy.v]) rfl ⟨by rw [HRR.out.1, HRR.out.2], ?_⟩
        exact T0.fin _ _ _
  case' inl => have HR := Lib.hid (fl_out (d := ⟨g, n, x⟩) (k := k) (Or.inl h1))
  case' inr.inl => have HR := Lib.hid (fl_out (d := ⟨g, n, x⟩) (k := k) (Or.inr h2))
  all_goals
    clear hn hf h0
    go_enter Tryd.func52, Tryd.ntmps52
    go_wp2_with fail
    refine bodyPost_ret (v := .tuple #[.agg #[.bool false, .string ⟨#[]⟩, .int .i64 0], .int .i64 2]) (by simp [results, Tryd.results52, go_sem, r0, r1, r2, r3]) rfl ⟨by rw [HR.out.1, HR.out.2, Dy.zero_v], ?_⟩
    repeat (refine Below.setCell ?_ (by simp) _)
    first
      | exact T0.1.1
      | exact ((Below.refl _ _).alloc (Nat.le_refl _) _).alloc (by simp) _
theorem rFloor3_c (a : Dy) (k : Int) (w : World) (ha : a.Ok) : Calls Tryd.prog 52 #[.agg #[.bool a.g, .string (natS a.n), .int .i64 a.x], .int .i64 k] w (FlPost3 a k w) := by
  rcases ha with rfl | ha
  · show Calls _ _ #[.agg #[.bool false, .string (natS 0), .int .i64 0], _] _ _
    rw [natS_zero]; exact rFloor3_zero k w
  · exact rFloor3_num a.g a.n a.x k w ha
end Go.Proofs.YtjkonfopajihdaaDoor
set_option linter.unusedSimpArgs false
set_option linter.unusedVariables false
namespace Go.Proofs.YtjkonfopajihdaaDoor
open Go Go.RowKit Nt

set_option maxRecDepth 100000 in
set_option maxHeartbeats 2000000 in
theorem DyadShifts_bad (a : Dt) (k l : Int) (w : World) (ha : a.s.size ≤ 9223372036854775807) (hn : ¬ a.Ok) (hG : Globs glT w) :
    Calls Tryd.prog 9 #[.agg #[.bool a.g, .string a.s, .int .i64 a.x], .int .i64 k, .int .i64 l] w fun e w' => e = .returned (.bool true) ∧ Below w.heap.size w w' := by
  have K1 := Lib.hid (fun w => DShift_bad a k w ha hn)
  have K2 := Lib.hid (fun w => DFloor_bad a l w ha hn)
  have K3 := Lib.hid (fun w => rMayT_no a w ha hn)
  have T0 := OB.start w a
  have HG := Lib.hid hG
  clear ha hn hG
  go_enter Tryd.func9, Tryd.ntmps9
  go_wp2_with fail
  refine (K1.out _).mono ?_
  rintro e v1 ⟨rfl, hb⟩
  replace T0 := T0.step hb
  clear hb
  obtain ⟨p0, p1, p2, p3, p4, p5, p6⟩ := T0.2.facts
  go_wp2_with fail
  refine (K2.out _).mono ?_
  rintro e v2 ⟨rfl, hb⟩
  replace T0 := (T0.more (.cells #[.bool false, .string ⟨#[]⟩, .int .i64 0] 24)).step hb
  have X1 := (Box3.new v1 (.bool false) (.string ⟨#[]⟩) (.int .i64 0)).step hb
  obtain ⟨B1, hB1⟩ : ∃ B, B = v1.heap.size := ⟨_, rfl⟩
  rw [← hB1] at X1 ⊢
  clear hB1
  clear hb p0 p1 p2 p3 p4 p5 p6
  obtain ⟨p0, p1, p2, p3, p4, p5, p6⟩ := T0.2.facts
  obtain ⟨m0_0, m0_1, m0_2, m0_3, m0_4, m0_5, m0_6⟩ := X1.facts
  go_wp2_with fail
  refine (K3.out _).mono ?_
  rintro e v3 ⟨rfl, hb⟩
  replace X1 := (X1.more (.cells #[.bool false, .string ⟨#[]⟩, .int .i64 0] 24)).step hb
  replace T0 := (T0.more (.cells #[.bool false, .string ⟨#[]⟩, .int .i64 0] 24)).step hb
  have X2 := (Box3.new v2 (.bool false) (.string ⟨#[]⟩) (.int .i64 0)).step hb
  obtain ⟨B2, hB2⟩ : ∃ B, B = v2.heap.size := ⟨_, rfl⟩
  rw [← hB2] at X2 ⊢
  clear hB2
  clear hb p0 p1 p2 p3 p4 p5 p6 m0_0 m0_1 m0_2 m0_3 m0_4 m0_5 m0_6
  obtain ⟨p0, p1, p2, p3, p4, p5, p6⟩ := T0.2.facts
  obtain ⟨m0_0, m0_1, m0_2, m0_3, m0_4, m0_5, m0_6⟩ := X1.facts
  obtain ⟨m1_0, m1_1, m1_2, m1_3, m1_4, m1_5, m1_6⟩ := X2.facts
  go_wp2_with fail
  refine (nothing_c _).mono ?_
  rintro e v4 ⟨rfl, hb⟩
  replace X1 := X1.step hb
  replace X2 := X2.step hb
  replace T0 := T0.step hb
  clear hb p0 p1 p2 p3 p4 p5 p6 m0_0 m0_1 m0_2 m0_3 m0_4 m0_5 m0_6 m1_0 m1_1 m1_2 m1_3 m1_4 m1_5 m1_6
  obtain ⟨p0, p1, p2, p3, p4, p5, p6⟩ := T0.2.facts
  obtain ⟨m0_0, m0_1, m0_2, m0_3, m0_4, m0_5, m0_6⟩ := X1.facts
  obtain ⟨m1_0, m1_1, m1_2, m1_3, m1_4, m1_5, m1_6⟩ := X2.facts
  go_wp2_with fail
  refine (nothing_c _).mono ?_
  rintro e v5 ⟨rfl, hb⟩
  replace X1 := X1.step hb
  replace X2 := X2.step hb
  replace T0 := T0.step hb
  clear hb p0 p1 p2 p3 p4 p5 p6 m0_0 m0_1 m0_2 m0_3 m0_4 m0_5 m0_6 m1_0 m1_1 m1_2 m1_3 m1_4 m1_5 m1_6
  obtain ⟨p0, p1, p2, p3, p4, p5, p6⟩ := T0.2.facts
  obtain ⟨m0_0, m0_1, m0_2, m0_3, m0_4, m0_5, m0_6⟩ := X1.facts
  obtain ⟨m1_0, m1_1, m1_2, m1_3, m1_4, m1_5, m1_6⟩ := X2.facts
  go_wp2_with fail
  refine (awake3_c _ (HG.out.below T0.1 (Nat.le_refl _))).mono ?_
  rintro e v6 ⟨rfl, hb⟩
  replace X1 := X1.step hb
  replace X2 := X2.step hb
  replace T0 := T0.step hb
  clear hb p0 p1 p2 p3 p4 p5 p6 m0_0 m0_1 m0_2 m0_3 m0_4 m0_5 m0_6 m1_0 m1_1 m1_2 m1_3 m1_4 m1_5 m1_6
  obtain ⟨p0, p1, p2, p3, p4, p5, p6⟩ := T0.2.facts
  obtain ⟨m0_0, m0_1, m0_2, m0_3, m0_4, m0_5, m0_6⟩ := X1.facts
  obtain ⟨m1_0, m1_1, m1_2, m1_3, m1_4, m1_5, m1_6⟩ := X2.facts
  go_wp2_with fail
  go_ret
  exact ⟨rfl, T0.1⟩
set_option maxRecDepth 100000 in
set_option maxHeartbeats 2000000 in
theorem DyadShifts_ok (a : Dy) (k l : Int) (w : World) (ha : a.Ok) (hG : Globs glT w) :
    Calls Tryd.prog 9 #[.agg #[.bool a.g, .string (natS a.n), .int .i64 a.x], .int .i64 k, .int .i64 l] w fun e w' => e = .returned (.bool true) ∧ Below w.heap.size w w' := by
  have K1 := Lib.hid (fun w => DShift_c a k w ha)
  have K2 := Lib.hid (fun w => DFloor_c a l w ha)
  have K3 := Lib.hid (fun w => rMayT_ok a w ha)
  have K4 := Lib.hid (fun w => rShift3_c a k w ha)
  have K5 := Lib.hid (fun w => rFloor3_c a l w ha)
  unfold ShPost at K1 K4
  unfold FlPost3 at K2 K5
  have T0 := OB.start w a.t
  unfold Dy.t at T0
  have HG := Lib.hid hG
  clear ha hG
  generalize shD a k = D1 at *
  generalize shE a k = E1 at *
  generalize flD a l = D2 at *
  generalize flE a l = E2 at *
  go_enter Tryd.func9, Tryd.ntmps9
  go_wp2_with fail
  refine (K1.out _).mono ?_
  rintro e v1 ⟨rfl, hb⟩
  replace T0 := T0.step hb
  clear hb
  obtain ⟨p0, p1, p2, p3, p4, p5, p6⟩ := T0.2.facts
  unfold Dy.v
  go_wp2_with fail
  refine (K2.out _).mono ?_
  rintro e v2 ⟨rfl, hb⟩
  replace T0 := (T0.more (.cells #[.bool D1.g, .string (natS D1.n), .int .i64 D1.x] 24)).step hb
  have X1 := (Box3.new v1 (.bool D1.g) (.string (natS D1.n)) (.int .i64 D1.x)).step hb
  obtain ⟨B1, hB1⟩ : ∃ B, B = v1.heap.size := ⟨_, rfl⟩
  rw [← hB1] at X1 ⊢
  clear hB1
  clear hb p0 p1 p2 p3 p4 p5 p6
  obtain ⟨p0, p1, p2, p3, p4, p5, p6⟩ := T0.2.facts
  obtain ⟨m0_0, m0_1, m0_2, m0_3, m0_4, m0_5, m0_6⟩ := X1.facts
  unfold Dy.v
  go_wp2_with fail
  refine (K3.out _).mono ?_
  rintro e v3 ⟨rfl, hb⟩
  replace X1 := (X1.more (.cells #[.bool D2.g, .string (natS D2.n), .int .i64 D2.x] 24)).step hb
  replace T0 := (T0.more (.cells #[.bool D2.g, .string (natS D2.n), .int .i64 D2.x] 24)).step hb
  have X2 := (Box3.new v2 (.bool D2.g) (.string (natS D2.n)) (.int .i64 D2.x)).step hb
  obtain ⟨B2, hB2⟩ : ∃ B, B = v2.heap.size := ⟨_, rfl⟩
  rw [← hB2] at X2 ⊢
  clear hB2
  clear hb p0 p1 p2 p3 p4 p5 p6 m0_0 m0_1 m0_2 m0_3 m0_4 m0_5 m0_6
  obtain ⟨p0, p1, p2, p3, p4, p5, p6⟩ := T0.2.facts
  obtain ⟨m0_0, m0_1, m0_2, m0_3, m0_4, m0_5, m0_6⟩ := X1.facts
  obtain ⟨m1_0, m1_1, m1_2, m1_3, m1_4, m1_5, m1_6⟩ := X2.facts
  go_wp2_with fail
  refine (K4.out _).mono ?_
  rintro e v4 ⟨rfl, hb⟩
  replace X1 := X1.step hb
  replace X2 := X2.step hb
  replace T0 := T0.step hb
  clear hb p0 p1 p2 p3 p4 p5 p6 m0_0 m0_1 m0_2 m0_3 m0_4 m0_5 m0_6 m1_0 m1_1 m1_2 m1_3 m1_4 m1_5 m1_6
  obtain ⟨p0, p1, p2, p3, p4, p5, p6⟩ := T0.2.facts
  obtain ⟨m0_0, m0_1, m0_2, m0_3, m0_4, m0_5, m0_6⟩ := X1.facts
  obtain ⟨m1_0, m1_1, m1_2, m1_3, m1_4, m1_5, m1_6⟩ := X2.facts
  unfold Dy.v
  go_wp2_with fail
  refine (K5.out _).mono ?_
  rintro e v5 ⟨rfl, hb⟩
  replace X1 := (X1.more (.cells #[.bool D1.g, .string (natS D1.n), .int .i64 D1.x] 24)).step hb
  replace X2 := (X2.more (.cells #[.bool D1.g, .string (natS D1.n), .int .i64 D1.x] 24)).step hb
  replace T0 := (T0.more (.cells #[.bool D1.g, .string (natS D1.n), .int .i64 D1.x] 24)).step hb
  have X3 := (Box3.new v4 (.bool D1.g) (.string (natS D1.n)) (.int .i64 D1.x)).step hb
  obtain ⟨B3, hB3⟩ : ∃ B, B = v4.heap.size := ⟨_, rfl⟩
  rw [← hB3] at X3 ⊢
  clear hB3
  clear hb p0 p1 p2 p3 p4 p5 p6 m0_0 m0_1 m0_2 m0_3 m0_4 m0_5 m0_6 m1_0 m1_1 m1_2 m1_3 m1_4 m1_5 m1_6
  obtain ⟨p0, p1, p2, p3, p4, p5, p6⟩ := T0.2.facts
  obtain ⟨m0_0, m0_1, m0_2, m0_3, m0_4, m0_5, m0_6⟩ := X1.facts
  obtain ⟨m1_0, m1_1, m1_2, m1_3, m1_4, m1_5, m1_6⟩ := X2.facts
  obtain ⟨m2_0, m2_1, m2_2, m2_3, m2_4, m2_5, m2_6⟩ := X3.facts
  unfold Dy.v
  go_wp2_with fail
  refine (awake3_c _ (HG.out.below (T0.more _).1 (Nat.le_refl _))).mono ?_
  rintro e v6 ⟨rfl, hb⟩
  replace X1 := (X1.more (.cells #[.bool D2.g, .string (natS D2.n), .int .i64 D2.x] 24)).step hb
  replace X2 := (X2.more (.cells #[.bool D2.g, .string (natS D2.n), .int .i64 D2.x] 24)).step hb
  replace X3 := (X3.more (.cells #[.bool D2.g, .string (natS D2.n), .int .i64 D2.x] 24)).step hb
  replace T0 := (T0.more (.cells #[.bool D2.g, .string (natS D2.n), .int .i64 D2.x] 24)).step hb
  have X4 := (Box3.new v5 (.bool D2.g) (.string (natS D2.n)) (.int .i64 D2.x)).step hb
  obtain ⟨B4, hB4⟩ : ∃ B, B = v5.heap.size := ⟨_, rfl⟩
  rw [← hB4] at X4 ⊢
  clear hB4
  clear hb p0 p1 p2 p3 p4 p5 p6 m0_0 m0_1 m0_2 m0_3 m0_4 m0_5 m0_6 m1_0 m1_1 m1_2 m1_3 m1_4 m1_5 m1_6 m2_0 m2_1 m2_2 m2_3 m2_4 m2_5 m2_6
  obtain ⟨p0, p1, p2, p3, p4, p5, p6⟩ := T0.2.facts
  obtain ⟨m0_0, m0_1, m0_2, m0_3, m0_4, m0_5, m0_6⟩ := X1.facts
  obtain ⟨m1_0, m1_1, m1_2, m1_3, m1_4, m1_5, m1_6⟩ := X2.facts
  obtain ⟨m2_0, m2_1, m2_2, m2_3, m2_4, m2_5, m2_6⟩ := X3.facts
  obtain ⟨m3_0, m3_1, m3_2, m3_3, m3_4, m3_5, m3_6⟩ := X4.facts
  go_wp2_with fail
  go_ret
  exact ⟨rfl, T0.1⟩
theorem DyadShifts_law (g1 : Bool) (s1 : ByteArray) (x1 k l : Int) (w : World) (h1 : s1.size ≤ 9223372036854775807) (hG : Globs glT w) :
    Calls Tryd.prog 9 #[.agg #[.bool g1, .string s1, .int .i64 x1], .int .i64 k, .int .i64 l] w fun e w' => e = .returned (.bool true) ∧ Below w.heap.size w w' := by
  by_cases ha : (Dt.mk g1 s1 x1).Ok
  · obtain ⟨a, ha1, ha2⟩ := Dt.dy ha
    unfold Dy.t at ha2
    injection ha2 with e1 e2 e3
    subst e1 e2 e3
    exact DyadShifts_ok a k l w ha1 hG
  · exact DyadShifts_bad ⟨g1, s1, x1⟩ k l w h1 ha hG
end Go.Proofs.YtjkonfopajihdaaDoor
