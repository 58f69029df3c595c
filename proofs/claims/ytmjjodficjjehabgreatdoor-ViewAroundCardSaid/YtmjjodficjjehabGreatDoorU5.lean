/- Texts put together: D33 D34 D35 D36 D37 D39 D40 D41 D42 D43 D62 Sy SyD D63 D64 D46. -/
import Derived.Test.YtmjjodficjjehabGreatDoorU4
import Derived.Test.YtmjjodficjjehabGreatDoorU2
import Derived.Deep.RegionLaw
import Derived.Test.YtmjjodficjjehabGreatDoorU1
set_option linter.unusedSimpArgs false
set_option linter.unusedVariables false
namespace Go.Proofs.YtmjjodficjjehabGreatDoor
open Go Go.RowKit Nt
theorem len64_nd (m : Nat) (hm : m < 18446744073709551616) (w : World) : Calls Tryz.prog 93 #[.int .u64 (m : Nat)] w fun e w' => e = .returned (.int .i64 (nd 2 m : Nat)) ∧ w' = w := by
  have := Tryz.bits_Len64 (m : Int) w (by omega) (by omega)
  rw [Int.toNat_natCast, bitLen_nd hm] at this
  exact this
def BrPost (a b : Dy) (w : World) (e : Ending) (w' : World) : Prop := ∃ (D : Dy) (ok : Bool), e = .returned (.tuple #[.agg #[.bool D.g, .string (natS D.n), .int .i64 D.x], .bool ok]) ∧ (ok = true → D = hiD a b ∧ hiE a b = 0) ∧ Below w.heap.size w w'
theorem TB3 {w : World} {a b : Dt} {W w1 : World} {o : Obj} (h : TB w a b W) (hb : Below (W.alloc o).heap.size (W.alloc o) w1) : TB w a b w1 := (h.more o).step hb
theorem pow_lt62 {m j : Nat} (h : nd 2 m + j ≤ 62) : m * 2 ^ j < 4611686018427387904 := by
  have h1 : m < 2 ^ nd 2 m := lt_nd (by omega)
  have h2 : m * 2 ^ j < 2 ^ nd 2 m * 2 ^ j := Nat.mul_lt_mul_of_pos_right h1 (Nat.two_pow_pos j)
  rw [← Nat.pow_add] at h2
  exact Nat.lt_of_lt_of_le h2 (Nat.le_trans (Nat.pow_le_pow_right (by omega) h) (by decide))
theorem lt62 {m : Nat} (h : nd 2 m ≤ 62) : m < 4611686018427387904 := by
  have := pow_lt62 (m := m) (j := 0) (by omega)
  rwa [Nat.pow_zero, Nat.mul_one] at this
set_option maxRecDepth 100000 in
set_option maxHeartbeats 2000000 in
theorem Dbrief_no (a b : Dy) (j : Nat) (w : World) (ha : a.Num) (hb : b.Num) (hj : j ≤ 3000000) (hno : brB a.n = false ∨ (brB a.n = true ∧ brB b.n = false) ∨ (brB a.n = true ∧ brB b.n = true ∧ 62 < j) ∨ (brB a.n = true ∧ brB b.n = true ∧ ¬ 62 < j ∧ 62 < nd 2 a.n + j) ∨ (brB a.n = true ∧ brB b.n = true ∧ ¬ 62 < j ∧ ¬ 62 < nd 2 a.n + j ∧ 62 < nd 2 b.n)) :
    Calls Tryz.prog 73 #[.agg #[.bool a.g, .string (natS a.n), .int .i64 a.x], .agg #[.bool b.g, .string (natS b.n), .int .i64 b.x], .int .i64 (j : Nat)] w (BrPost a b w) := by
  have KA := Lib.hid (fun w => Small_c a.n w ha.1)
  have KB := Lib.hid (fun w => Small_c b.n w hb.1)
  have hba := bits_131072' ha.1
  have hbb := bits_131072' hb.1
  have T0 := TB.start w a.t b.t
  unfold Dy.t at T0
  have KLa : Hid (∀ w, brB a.n = true → Calls Tryz.prog 93 #[.int .u64 (brN a.n : Nat)] w fun e w' => e = .returned (.int .i64 (nd 2 a.n : Nat)) ∧ w' = w) := Lib.hid fun w h => by
    have h1 := br_lt.1 (brB_true h)
    have h2 : brN a.n = a.n := brN_yes (brB_true h)
    rw [h2]; exact len64_nd a.n h1 w
  have KLb : Hid (∀ w, brB b.n = true → Calls Tryz.prog 93 #[.int .u64 (brN b.n : Nat)] w fun e w' => e = .returned (.int .i64 (nd 2 b.n : Nat)) ∧ w' = w) := Lib.hid fun w h => by
    have h1 := br_lt.1 (brB_true h)
    have h2 : brN b.n = b.n := brN_yes (brB_true h)
    rw [h2]; exact len64_nd b.n h1 w
  clear ha hb
  rcases hno with c1 | ⟨c1, c2⟩ | ⟨c1, c2, c3⟩ | ⟨c1, c2, c3, c4⟩ | ⟨c1, c2, c3, c4, c5⟩
  all_goals
    go_enter Tryz.func73, Tryz.ntmps73
    go_wp2_with fail
    refine (KA.out _).mono ?_
    rintro e w1 ⟨rfl, hb⟩
    have hb1 := (TB.start w a.t b.t).more (.cells #[.bool false, .string ⟨#[]⟩, .int .i64 0] 24) |>.1
    obtain ⟨hcl, hfz⟩ := bcell hb
    have hsz : w.heap.size + 2 < w1.heap.size := by have := hb.size; simp at this; omega
    replace T0 := TB3 T0 hb
    obtain ⟨p0, p1, p2, p3, p4, p5, p6⟩ := T0.2.1.facts
    obtain ⟨q0, q1, q2, q3, q4, q5, q6⟩ := T0.2.2.facts
    go_wp2_with fail
    refine (KB.out _).mono ?_
    rintro e w2 ⟨rfl, hbb2⟩
    replace T0 := T0.step hbb2
    have hb3 := hb.trans (hbb2.mono hb.size)
    clear hb hbb2 hcl hfz p0 p1 p2 p3 p4 p5 p6 q0 q1 q2 q3 q4 q5 q6
    obtain ⟨hcl, hfz⟩ := bcell hb3
    have hsz2 : w.heap.size + 2 < w2.heap.size := by have := hb3.size; simp at this; omega
    go_wp2_with (first
      | (go_at_call 93; (with_reducible refine (KLa.out _ c1).mono ?_); rintro e w' ⟨rfl, rfl⟩)
      | (go_at_call 93; (with_reducible refine (KLb.out _ c2).mono ?_); rintro e w' ⟨rfl, rfl⟩))
    refine bodyPost_ret (v := .tuple #[.agg #[.bool false, .string ⟨#[]⟩, .int .i64 0], .bool false]) (by simp [results, Tryz.results73, go_sem, hcl, hsz, hsz2]) rfl ⟨Dy.zero, false, by rw [← natS_zero]; rfl, fun c => (by cases c), ?_⟩
    repeat (refine Below.setCell ?_ (by simp; omega) _)
    exact T0.1
end Go.Proofs.YtmjjodficjjehabGreatDoor
namespace Go.Proofs.YtmjjodficjjehabGreatDoor
open Go Go.RowKit Nt
theorem shl_u64 {m j X : Nat} (hX : X = m * 2 ^ j) (h : X < 18446744073709551616) : Hid (IntKind.u64.wrap ((m : Int) * 2 ^ j) = (X : Int)) := Lib.hid (by
  rw [wr_pow (s := 2 ^ j) rfl, ← hX, IntKind.wrap_u64]; clear hX; omega)
theorem sgnd_b (g : Bool) {m : Nat} (h : m < 4611686018427387904) : -4611686018427387904 < sgnd g m ∧ sgnd g m < 4611686018427387904 := by
  unfold sgnd; cases g <;> simp <;> omega
set_option maxRecDepth 100000 in
set_option maxHeartbeats 2000000 in
theorem Dbrief_yes (a b : Dy) (j : Nat) (w : World) (ha : a.Num) (hb : b.Num) (hj : j = (a.x - b.x).toNat) (c1 : brB a.n = true) (c2 : brB b.n = true) (c3 : ¬ 62 < j) (c4 : ¬ 62 < nd 2 a.n + j) (c5 : ¬ 62 < nd 2 b.n) :
    Calls Tryz.prog 73 #[.agg #[.bool a.g, .string (natS a.n), .int .i64 a.x], .agg #[.bool b.g, .string (natS b.n), .int .i64 b.x], .int .i64 (j : Nat)] w (BrPost a b w) := by
  have hna : brN a.n = a.n := brN_yes (brB_true c1)
  have hnb : brN b.n = b.n := brN_yes (brB_true c2)
  have KA := Lib.hid (fun w => Small_c a.n w ha.1)
  have KB := Lib.hid (fun w => Small_c b.n w hb.1)
  rw [hna, c1] at KA
  rw [hnb, c2] at KB
  have T0 := TB.start w a.t b.t
  unfold Dy.t at T0
  have KLa := Lib.hid (fun w => len64_nd a.n (br_lt.1 (brB_true c1)) w)
  have KLb := Lib.hid (fun w => len64_nd b.n (br_lt.1 (brB_true c2)) w)
  obtain ⟨X, hX⟩ : ∃ X, X = a.n * 2 ^ j := ⟨_, rfl⟩
  have hXb : X < 4611686018427387904 := by rw [hX]; exact pow_lt62 (by omega)
  have hYb : b.n < 4611686018427387904 := lt62 (by omega)
  have HSH := shl_u64 hX (by omega)
  have KSa := Lib.hid (fun w => Dsigned_c a.g X w (by omega))
  have KSb := Lib.hid (fun w => Dsigned_c b.g b.n w (by omega))
  have hs1 := sgnd_b a.g hXb
  have hs2 := sgnd_b b.g hYb
  have hxb := hb.2.2
  obtain ⟨S, hS⟩ : ∃ S, sgnd a.g X + sgnd b.g b.n = S := ⟨_, rfl⟩
  have KO := Lib.hid (fun w => DOf_c S b.x w (by omega) (by omega))
  have hmk := sum_mk a.g b.g X b.n b.x
  have hme := sum_abs a.g b.g X b.n
  rw [hS] at hmk hme
  have hup : upN a b = X := by rw [upN_eq, ← hj, hX]
  have hD : mkD (decide (S < 0)) S.natAbs b.x = hiD a b := by rw [hiD_eq, hup]; exact hmk
  have hE : mkE S.natAbs b.x = hiE a b := by rw [hiE_eq, hup, hme]
  unfold MkPost at KO
  rw [hD, hE] at KO
  have hw : IntKind.i64.wrap S = S := IntWalk.i64_in _ (by omega)
  have hw2 : wrap64 S = S := IntWalk.wrap64_in _ (by omega)
  have HD : (hiE a b == 0) = true ↔ hiE a b = 0 := beq_iff_eq
  clear hX hmk hme hup hD hE ha hb hna hnb c1 c2 hj
  generalize sgnd a.g X = s1 at *
  generalize sgnd b.g b.n = s2 at *
  have HDD := Lib.hid HD
  clear HD
  generalize hE9 : hiE a b = E at *
  have HE9 := Lib.hid hE9
  clear hE9
  generalize hh : hiD a b = D at *
  have HH := Lib.hid hh
  clear hh
  go_enter Tryz.func73, Tryz.ntmps73
  go_wp2_with fail
  refine (KA.out _).mono ?_
  rintro e w1 ⟨rfl, hb⟩
  have hsz : w.heap.size + 2 < w1.heap.size := by have := hb.size; simp at this; omega
  replace T0 := TB3 T0 hb
  obtain ⟨p0, p1, p2, p3, p4, p5, p6⟩ := T0.2.1.facts
  obtain ⟨q0, q1, q2, q3, q4, q5, q6⟩ := T0.2.2.facts
  go_wp2_with fail
  refine (KB.out _).mono ?_
  rintro e w2 ⟨rfl, hbb2⟩
  replace T0 := T0.step hbb2
  have hb3 := hb.trans (hbb2.mono hb.size)
  clear hb hbb2 p0 p1 p2 p3 p4 p5 p6 q0 q1 q2 q3 q4 q5 q6
  go_wp2_with (first
    | (go_at_call 93; (with_reducible refine (KLa.out _).mono ?_); rintro e w' ⟨rfl, rfl⟩)
    | (go_at_call 93; (with_reducible refine (KLb.out _).mono ?_); rintro e w' ⟨rfl, rfl⟩))
  have L0 := fun W (h : TB w ⟨a.g, natS a.n, a.x⟩ ⟨b.g, natS b.n, b.x⟩ W) => h.2.1.facts.2.1
  have L3 := fun W (h : TB w ⟨a.g, natS a.n, a.x⟩ ⟨b.g, natS b.n, b.x⟩ W) => h.2.2.facts.2.1
  go_region_held3 (TB w ⟨a.g, natS a.n, a.x⟩ ⟨b.g, natS b.n, b.x⟩) (first | assumption | exact TB.step (by assumption) (by assumption) | exact TB.drew (by assumption) | exact TB.drawn (by assumption) _)
    (first
      | (go_at_call 94; rw [HSH.out]; (with_reducible refine (KSa.out _).mono ?_); rintro e w' ⟨rfl, rfl⟩)
      | (go_at_call 94; (with_reducible refine (KSb.out _).mono ?_); rintro e w' ⟨rfl, rfl⟩))
  rename_i hHeld
  clear T0 L0 L3
  have T0 := hHeld
  clear hHeld
  have hb4 := hb3.drew
  clear hb3
  generalize w'.drew = w3 at *
  obtain ⟨p0, p1, p2, p3, p4, p5, p6⟩ := T0.2.1.facts
  obtain ⟨q0, q1, q2, q3, q4, q5, q6⟩ := T0.2.2.facts
  go_wp2_with fail
  refine (KO.out _).mono ?_
  rintro e w4 ⟨rfl, hb5⟩
  replace T0 := T0.step hb5
  have hb6 := (hb4.trans (hb5.mono hb4.size)).alloc (hb4.trans (hb5.mono hb4.size)).size (.cells #[.bool D.g, .string (natS D.n), .int .i64 D.x] 24)
  have hb7 := (T0.more (.cells #[.bool D.g, .string (natS D.n), .int .i64 D.x] 24)).1
  clear hb4 hb5 p0 p1 p2 p3 p4 p5 p6 q0 q1 q2 q3 q4 q5 q6
  obtain ⟨hcl, hfz⟩ := bcell hb6
  have hsz2 : w.heap.size + 2 < w4.heap.size + 1 := by have := hb6.size; simp at this; omega
  unfold Dy.v
  by_cases hE0 : E = 0
  · subst hE0
    go_wp2_with fail
    refine bodyPost_ret (v := .tuple #[.agg #[.bool D.g, .string (natS D.n), .int .i64 D.x], .bool true]) (by simp [results, Tryz.results73, go_sem, hcl, hsz, hsz2]) rfl ⟨D, true, rfl, fun _ => ⟨HH.out.symm, HE9.out⟩, ?_⟩
    repeat (refine Below.setCell ?_ (by simp; omega) _)
    exact hb7
  · have hE1 : (E == 0) = false := by rw [beq_eq_false_iff_ne]; exact hE0
    go_wp2_with fail
    refine bodyPost_ret (v := .tuple #[.agg #[.bool D.g, .string (natS D.n), .int .i64 D.x], .bool false]) (by simp [results, Tryz.results73, go_sem, hcl, hsz, hsz2]) rfl ⟨D, false, rfl, fun c => (by cases c), ?_⟩
    repeat (refine Below.setCell ?_ (by simp; omega) _)
    exact hb7
end Go.Proofs.YtmjjodficjjehabGreatDoor
namespace Go.Proofs.YtmjjodficjjehabGreatDoor
open Go Go.RowKit Nt
theorem Dbrief_c (a b : Dy) (j : Nat) (w : World) (ha : a.Num) (hb : b.Num) (hj : j = (a.x - b.x).toNat) (hj2 : j ≤ 3000000) :
    Calls Tryz.prog 73 #[.agg #[.bool a.g, .string (natS a.n), .int .i64 a.x], .agg #[.bool b.g, .string (natS b.n), .int .i64 b.x], .int .i64 (j : Nat)] w (BrPost a b w) := by
  cases c1 : brB a.n with
  | false => exact Dbrief_no a b j w ha hb hj2 (Or.inl c1)
  | true =>
    cases c2 : brB b.n with
    | false => exact Dbrief_no a b j w ha hb hj2 (Or.inr (Or.inl ⟨c1, c2⟩))
    | true =>
      by_cases c3 : 62 < j
      · exact Dbrief_no a b j w ha hb hj2 (Or.inr (Or.inr (Or.inl ⟨c1, c2, c3⟩)))
      · by_cases c4 : 62 < nd 2 a.n + j
        · exact Dbrief_no a b j w ha hb hj2 (Or.inr (Or.inr (Or.inr (Or.inl ⟨c1, c2, c3, c4⟩))))
        · by_cases c5 : 62 < nd 2 b.n
          · exact Dbrief_no a b j w ha hb hj2 (Or.inr (Or.inr (Or.inr (Or.inr ⟨c1, c2, c3, c4, c5⟩))))
          · exact Dbrief_yes a b j w ha hb hj c1 c2 c3 c4 c5
def TC (w : World) (a b : Dt) (W : World) : Prop := TB w a b W ∧ Box3 W (w.heap.size + 2) (.bool false) (.string ⟨#[]⟩) (.int .i64 0)
theorem TC.start (w : World) (a b : Dt) : TC w a b (((w.alloc (.cells #[.bool a.g, .string a.s, .int .i64 a.x] 24)).alloc (.cells #[.bool b.g, .string b.s, .int .i64 b.x] 24)).alloc (.cells #[.bool false, .string ⟨#[]⟩, .int .i64 0] 24)) := by
  refine ⟨(TB.start w a b).more _, ?_⟩
  have := Box3.new ((w.alloc (.cells #[.bool a.g, .string a.s, .int .i64 a.x] 24)).alloc (.cells #[.bool b.g, .string b.s, .int .i64 b.x] 24)) (.bool false) (.string ⟨#[]⟩) (.int .i64 0)
  simpa using this
theorem TC.step {w : World} {a b : Dt} {W W' : World} (h : TC w a b W) (hb : Below W.heap.size W W') : TC w a b W' := ⟨h.1.step hb, h.2.step hb⟩
theorem TC.more {w : World} {a b : Dt} {W : World} (h : TC w a b W) (o : Obj) : TC w a b (W.alloc o) := h.step ((Below.refl _ _).alloc (Nat.le_refl _) _)
theorem TC.drawn {w : World} {a b : Dt} {W : World} (h : TC w a b W) (n : Nat) : TC w a b (W.drewN n) := h.step (below_drewN (Below.refl _ _) n)
theorem TC.drew {w : World} {a b : Dt} {W : World} (h : TC w a b W) : TC w a b W.drew := h.step (Below.refl _ _).drew
theorem TC.fin {w : World} {a b : Dt} {W : World} (h : TC w a b W) (x y z : Value) : Below w.heap.size w (((W.setCell ⟨w.heap.size + 2, 0, none⟩ x).setCell ⟨w.heap.size + 2, 1, none⟩ y).setCell ⟨w.heap.size + 2, 2, none⟩ z) := below_put h.1.1 (by omega) x y z
theorem all_ok2 (a b : Dy) (ha : a.Ok) (hb : b.Ok) (W : World) (T : TypeId) (A : Nat) (hA : A = W.heap.size) :
    Calls Tryz.prog 68 #[.slice (some ⟨A, 0, none⟩) 2 2] (W.alloc (.cells #[.bool a.g, .string (natS a.n), .int .i64 a.x, .bool b.g, .string (natS b.n), .int .i64 b.x] T)) fun e w' => e = .returned (.int .i64 0) ∧ Below (W.alloc (.cells #[.bool a.g, .string (natS a.n), .int .i64 a.x, .bool b.g, .string (natS b.n), .int .i64 b.x] T)).heap.size (W.alloc (.cells #[.bool a.g, .string (natS a.n), .int .i64 a.x, .bool b.g, .string (natS b.n), .int .i64 b.x] T)) w' := by
  have := Dall2 a.t b.t W T A hA (by have := Dy.small ha; show (natS a.n).size ≤ _; omega) (by have := Dy.small hb; show (natS b.n).size ≤ _; omega)
  rwa [dE_ok (fun t ht => by
    rcases List.mem_cons.1 ht with rfl | ht
    · exact Dy.ok_t ha
    · rw [List.mem_singleton.1 ht]; exact Dy.ok_t hb)] at this
set_option maxRecDepth 100000 in
set_option maxHeartbeats 2000000 in
theorem DAdd_zl (b : Dy) (w : World) (hb : b.Ok) :
    Calls Tryz.prog 54 #[.agg #[.bool false, .string ⟨#[]⟩, .int .i64 0], .agg #[.bool b.g, .string (natS b.n), .int .i64 b.x]] w fun e w' => e = .returned (.tuple #[.agg #[.bool b.g, .string (natS b.n), .int .i64 b.x], .int .i64 0]) ∧ Below w.heap.size w w' := by
  have KA := Lib.hid (fun W T A hA => all_ok2 Dy.zero b (Or.inl rfl) hb W T A hA)
  simp only [Dy.zero, natS_zero] at KA
  have T0 := TC.start w ⟨false, ⟨#[]⟩, 0⟩ b.t
  unfold Dy.t at T0
  clear hb
  go_enter Tryz.func54, Tryz.ntmps54
  go_wp2_with fail
  refine (KA.out _ _ _ (by simp)).mono ?_
  rintro e w1 ⟨rfl, hb⟩
  replace T0 := (T0.more _).step hb
  clear hb
  obtain ⟨p0, p1, p2, p3, p4, p5, p6⟩ := T0.1.2.1.facts
  obtain ⟨q0, q1, q2, q3, q4, q5, q6⟩ := T0.1.2.2.facts
  obtain ⟨r0, r1, r2, r3, r4, r5, r6⟩ := T0.2.facts
  go_wp2_with fail
  refine bodyPost_ret (v := .tuple #[.agg #[.bool b.g, .string (natS b.n), .int .i64 b.x], .int .i64 0]) (by simp [results, Tryz.results54, go_sem, r0, r1, r2, r3]) rfl ⟨rfl, ?_⟩
  repeat (refine Below.setCell ?_ (by simp; omega) _)
  exact T0.1.1
set_option maxRecDepth 100000 in
set_option maxHeartbeats 2000000 in
theorem DAdd_zr (a : Dy) (w : World) (ha : a.Num) :
    Calls Tryz.prog 54 #[.agg #[.bool a.g, .string (natS a.n), .int .i64 a.x], .agg #[.bool false, .string ⟨#[]⟩, .int .i64 0]] w fun e w' => e = .returned (.tuple #[.agg #[.bool a.g, .string (natS a.n), .int .i64 a.x], .int .i64 0]) ∧ Below w.heap.size w w' := by
  have KA := Lib.hid (fun W T A hA => all_ok2 a Dy.zero (Or.inr ha) (Or.inl rfl) W T A hA)
  simp only [Dy.zero, natS_zero] at KA
  have T0 := TC.start w a.t ⟨false, ⟨#[]⟩, 0⟩
  unfold Dy.t at T0
  have hE := natS_full (odd_ne ha.2.1)
  have hE2 := natS_full2 (odd_ne ha.2.1)
  clear ha
  go_enter Tryz.func54, Tryz.ntmps54
  go_wp2_with fail
  refine (KA.out _ _ _ (by simp)).mono ?_
  rintro e w1 ⟨rfl, hb⟩
  replace T0 := (T0.more _).step hb
  clear hb
  obtain ⟨p0, p1, p2, p3, p4, p5, p6⟩ := T0.1.2.1.facts
  obtain ⟨q0, q1, q2, q3, q4, q5, q6⟩ := T0.1.2.2.facts
  obtain ⟨r0, r1, r2, r3, r4, r5, r6⟩ := T0.2.facts
  go_wp2_with fail
  refine bodyPost_ret (v := .tuple #[.agg #[.bool a.g, .string (natS a.n), .int .i64 a.x], .int .i64 0]) (by simp [results, Tryz.results54, go_sem, r0, r1, r2, r3]) rfl ⟨rfl, ?_⟩
  repeat (refine Below.setCell ?_ (by simp; omega) _)
  exact T0.1.1
end Go.Proofs.YtmjjodficjjehabGreatDoor
namespace Go.Proofs.YtmjjodficjjehabGreatDoor
open Go Go.RowKit Nt
theorem TC.swap {w : World} {a b : Dt} {W : World} (h : TC w a b W) : TC w b a ((((((W.setCell ⟨w.heap.size, 0, none⟩ (.bool b.g)).setCell ⟨w.heap.size, 1, none⟩ (.string b.s)).setCell ⟨w.heap.size, 2, none⟩ (.int .i64 b.x)).setCell ⟨w.heap.size + 1, 0, none⟩ (.bool a.g)).setCell ⟨w.heap.size + 1, 1, none⟩ (.string a.s)).setCell ⟨w.heap.size + 1, 2, none⟩ (.int .i64 a.x)) := by
  obtain ⟨⟨h1, h2, h3⟩, h4⟩ := h
  refine ⟨⟨below_put (below_put h1 (Nat.le_refl _) _ _ _) (by omega) _ _ _, ?_, ?_⟩, ?_⟩
  · exact Box3.far (h2.put _ _ _) (by omega) _ _ _
  · exact Box3.put (Box3.far h3 (by omega) _ _ _) _ _ _
  · exact Box3.far (Box3.far h4 (by omega) _ _ _) (by omega) _ _ _
theorem hi_long {p q : Dy} (hp : p.Num) (hq : q.Num) (hx : 131072 < p.x - q.x) : hiD p q = Dy.zero ∧ hiE p q = 4 := by
  obtain ⟨j, hj⟩ : ∃ j, j = (p.x - q.x).toNat := ⟨_, rfl⟩
  obtain ⟨E, hE⟩ : ∃ E, E = 131072 := ⟨_, rfl⟩
  have hj2 : E + 1 ≤ j := by omega
  have hup : upN p q = p.n * 2 ^ j := by rw [upN_eq, ← hj]
  have hy : q.n < 2 ^ E := (lt_pow_iff (b := 2) (by omega) E q.n).2 (by rw [hE]; exact bits_131072' hq.1)
  have hX : 2 ^ (E + 1) ≤ upN p q := by
    rw [hup]
    exact Nat.le_trans (Nat.pow_le_pow_right (by omega) hj2) (Nat.le_mul_of_pos_left _ (Nat.pos_of_ne_zero (odd_ne hp.2.1)))
  have hev : upN p q % 2 = 0 := by
    rw [hup, show j = (j - 1) + 1 by omega, Nat.pow_succ, ← Nat.mul_assoc]; exact Nat.mul_mod_left _ _
  have hqo := hq.2.1
  rw [Nat.pow_succ] at hX
  have hbig : ∀ N, nd 2 N ≤ 131072 → N < 2 ^ E := fun N h => (lt_pow_iff (b := 2) (by omega) E N).2 (by omega)
  generalize (2 : Nat) ^ E = P at *
  clear hE hj2 hj
  have key : ∀ N, N % 2 = 1 → P ≤ N → ¬ mkOk3 N q.x := by
    intro N ho hN hk
    rcases hk with hk | ⟨hk, _⟩
    · exact odd_ne ho hk
    · rw [odN_odd ho] at hk
      have h2 := hbig N (bits_131072' hk)
      omega
  have hN : ¬ mkOk3 (sumN p.g q.g (upN p q) q.n) q.x := by
    unfold sumN
    split
    · exact key _ (by omega) (by omega)
    · rw [if_neg (by omega)]
      exact key _ (by omega) (by omega)
  exact ⟨by rw [hiD_eq, mkD_no hN], by rw [hiE_eq, mkE_no hN]⟩
theorem hi_same {p q : Dy} (h : p.g = q.g) (X : Nat) (hX : upN p q = X) : hiD p q = mkD p.g (X + q.n) q.x ∧ hiE p q = mkE (X + q.n) q.x := by
  rw [hiD_eq, hiE_eq, hX]; unfold sumG sumN; rw [if_pos h, if_pos h]; exact ⟨rfl, rfl⟩
theorem hi_lt {p q : Dy} (h : ¬ p.g = q.g) (X : Nat) (hX : upN p q = X) (hl : X < q.n) : hiD p q = mkD q.g (q.n - X) q.x ∧ hiE p q = mkE (q.n - X) q.x := by
  rw [hiD_eq, hiE_eq, hX]; unfold sumG sumN; rw [if_neg h, if_neg h, if_pos hl, if_pos hl]; exact ⟨rfl, rfl⟩
theorem hi_ge {p q : Dy} (h : ¬ p.g = q.g) (X : Nat) (hX : upN p q = X) (hl : ¬ X < q.n) : hiD p q = mkD p.g (X - q.n) q.x ∧ hiE p q = mkE (X - q.n) q.x := by
  rw [hiD_eq, hiE_eq, hX]; unfold sumG sumN; rw [if_neg h, if_neg h, if_neg hl, if_neg hl]; exact ⟨rfl, rfl⟩
theorem read_nat (n : Nat) (w : World) (hf : fits n) : Calls Tryz.prog 75 #[.string (natS n)] w (NumPost n w) := by
  have := Read_c (natS n) w (by rw [natS_size]; unfold fits at hf; omega)
  rwa [bytesN_natS] at this
theorem fits_W {n : Nat} (h : fits n) : nd W n ≤ 2048 := by
  have := words_bytes n
  unfold fits at h
  omega
end Go.Proofs.YtmjjodficjjehabGreatDoor
namespace Go.Proofs.YtmjjodficjjehabGreatDoor
open Go Go.RowKit Nt
def TD (w : World) (a b : Dt) (W : World) : Prop := TB w a b W ∧ ∃ x y z, Box3 W (w.heap.size + 2) x y z
theorem TD.step {w : World} {a b : Dt} {W W' : World} (h : TD w a b W) (hb : Below W.heap.size W W') : TD w a b W' := by
  obtain ⟨h1, x, y, z, h2⟩ := h; exact ⟨h1.step hb, x, y, z, h2.step hb⟩
theorem TD.drawn {w : World} {a b : Dt} {W : World} (h : TD w a b W) (n : Nat) : TD w a b (W.drewN n) := h.step (below_drewN (Below.refl _ _) n)
theorem TD.drew {w : World} {a b : Dt} {W : World} (h : TD w a b W) : TD w a b W.drew := h.step (Below.refl _ _).drew
theorem TC.td {w : World} {a b : Dt} {W : World} (h : TC w a b W) : TD w a b W := ⟨h.1, _, _, _, h.2⟩
theorem TD.put {w : World} {a b : Dt} {W : World} (h : TD w a b W) (x y z : Value) : TD w a b (((W.setCell ⟨w.heap.size + 2, 0, none⟩ x).setCell ⟨w.heap.size + 2, 1, none⟩ y).setCell ⟨w.heap.size + 2, 2, none⟩ z) := by
  obtain ⟨⟨h1, h2, h3⟩, x', y', z', h4⟩ := h
  exact ⟨⟨below_put h1 (by omega) _ _ _, h2.far (by omega) _ _ _, h3.far (by omega) _ _ _⟩, _, _, _, h4.put _ _ _⟩
theorem TD.res {w : World} {a b : Dt} {W : World} (h : TD w a b W) : w.heap.size + 2 < W.heap.size ∧ (W.cell? ⟨w.heap.size + 2, 0, none⟩).isSome = true ∧ (W.cell? ⟨w.heap.size + 2, 1, none⟩).isSome = true ∧ (W.cell? ⟨w.heap.size + 2, 2, none⟩).isSome = true ∧ W.frozen? ⟨w.heap.size + 2, 0, none⟩ = false ∧ W.frozen? ⟨w.heap.size + 2, 1, none⟩ = false ∧ W.frozen? ⟨w.heap.size + 2, 2, none⟩ = false := by
  obtain ⟨h1, x, y, z, h4⟩ := h
  obtain ⟨r0, r1, r2, r3, r4, r5, r6⟩ := h4.facts
  exact ⟨r0, by rw [r1]; rfl, by rw [r2]; rfl, by rw [r3]; rfl, r4, r5, r6⟩
@[irreducible] def cellAt (W : World) (B i : Nat) : Value := (W.cell? ⟨B, i, none⟩).getD undef
theorem cellAt_eq {W : World} {B i : Nat} {v : Value} (h : W.cell? ⟨B, i, none⟩ = some v) : W.cell? ⟨B, i, none⟩ = some (cellAt W B i) := by unfold cellAt; rw [h]; rfl
theorem TD.cells {w : World} {a b : Dt} {W : World} (h : TD w a b W) : w.heap.size + 2 < W.heap.size ∧ W.cell? ⟨w.heap.size + 2, 0, none⟩ = some (cellAt W (w.heap.size + 2) 0) ∧ W.cell? ⟨w.heap.size + 2, 1, none⟩ = some (cellAt W (w.heap.size + 2) 1) ∧ W.cell? ⟨w.heap.size + 2, 2, none⟩ = some (cellAt W (w.heap.size + 2) 2) ∧ W.frozen? ⟨w.heap.size + 2, 0, none⟩ = false ∧ W.frozen? ⟨w.heap.size + 2, 1, none⟩ = false ∧ W.frozen? ⟨w.heap.size + 2, 2, none⟩ = false := by
  obtain ⟨h1, x, y, z, h4⟩ := h
  obtain ⟨r0, r1, r2, r3, r4, r5, r6⟩ := h4.facts
  exact ⟨r0, cellAt_eq r1, cellAt_eq r2, cellAt_eq r3, r4, r5, r6⟩
theorem nd_addW {x y m : Nat} (hx : nd W x ≤ m) (hy : nd W y ≤ m) : nd W (x + y) ≤ m + 1 := by
  refine nd_le W2 ?_
  have h1 := (lt_pow_iff W2 m x).2 hx
  have h2 := (lt_pow_iff W2 m y).2 hy
  rw [Nat.pow_succ]
  have h4 := Nat.mul_le_mul_left (W ^ m) W2
  omega
set_option maxRecDepth 100000 in
set_option maxHeartbeats 4000000 in
theorem DAdd_num (a b : Dy) (w : World) (ha : a.Num) (hb : b.Num) (hG : Globs glT w) :
    Calls Tryz.prog 54 #[.agg #[.bool a.g, .string (natS a.n), .int .i64 a.x], .agg #[.bool b.g, .string (natS b.n), .int .i64 b.x]] w fun e w' => e = .returned (.tuple #[(addD a b).v, .int .i64 (addE a b)]) ∧ Below w.heap.size w w' := by
  have KA := Lib.hid (fun W T A hA => all_ok2 a b (Or.inr ha) (Or.inr hb) W T A hA)
  have T0 := TC.start w a.t b.t
  have hsw : ∃ p q : Dy, p.Num ∧ q.Num ∧ q.x ≤ p.x ∧ Hid (addD a b = hiD p q ∧ addE a b = hiE p q) ∧ ((a.x < b.x ∧ p = b ∧ q = a) ∨ (¬ a.x < b.x ∧ p = a ∧ q = b)) := by
    by_cases h : a.x < b.x
    · exact ⟨b, a, hb, ha, by omega, Lib.hid (add_lt (odd_ne ha.2.1) (odd_ne hb.2.1) h), Or.inl ⟨h, rfl, rfl⟩⟩
    · exact ⟨a, b, ha, hb, by omega, Lib.hid (add_ge (odd_ne ha.2.1) (odd_ne hb.2.1) h), Or.inr ⟨h, rfl, rfl⟩⟩
  obtain ⟨p, q, hp, hq, hle, HADD, hsw⟩ := hsw
  clear ha hb
  obtain ⟨j, hj⟩ : ∃ j, j = (p.x - q.x).toNat := ⟨_, rfl⟩
  have hpx := hp.2.2
  have hqx := hq.2.2
  have hjx : p.x - q.x = (j : Int) := by omega
  have KB := Lib.hid (fun w => Dbrief_c p q j w hp hq hj (by omega))
  have hEp := natS_full (odd_ne hp.2.1)
  have hEp2 := natS_full2 (odd_ne hp.2.1)
  have hEq := natS_full (odd_ne hq.2.1)
  have hEq2 := natS_full2 (odd_ne hq.2.1)
  have HTB := Lib.hid (fun W (h : TC w p.t q.t W) => tabs_of (hG.below h.1.1 (Nat.le_refl _)))
  have HGG := Lib.hid hG
  have HP := Lib.hid hp
  have HQ := Lib.hid hq
  have HJ := Lib.hid hj
  clear hp hq hG hj
  rcases hsw with ⟨hlt, h1, h2⟩ | ⟨hlt, h1, h2⟩
  case' inl =>
    subst h1 h2
    unfold Dy.t at T0
    go_enter Tryz.func54, Tryz.ntmps54
    go_wp2_with fail
    refine (KA.out _ _ _ (by simp)).mono ?_
    rintro e w1 ⟨rfl, hb⟩
    replace T0 := (T0.more _).step hb
    clear hb
    obtain ⟨p0, p1, p2, p3, p4, p5, p6⟩ := T0.1.2.1.facts
    obtain ⟨q0, q1, q2, q3, q4, q5, q6⟩ := T0.1.2.2.facts
    go_wp2_with fail
    refine (KB.out _).mono ?_
    rintro e w2 ⟨D, ok, rfl, hok, hb⟩
    replace T0 := (TC.swap T0).step hb
    clear hb p0 p1 p2 p3 p4 p5 p6 q0 q1 q2 q3 q4 q5 q6
  case' inr =>
    subst h1 h2
    unfold Dy.t at T0
    go_enter Tryz.func54, Tryz.ntmps54
    go_wp2_with fail
    refine (KA.out _ _ _ (by simp)).mono ?_
    rintro e w1 ⟨rfl, hb⟩
    replace T0 := (T0.more _).step hb
    clear hb
    obtain ⟨p0, p1, p2, p3, p4, p5, p6⟩ := T0.1.2.1.facts
    obtain ⟨q0, q1, q2, q3, q4, q5, q6⟩ := T0.1.2.2.facts
    go_wp2_with fail
    refine (KB.out _).mono ?_
    rintro e w2 ⟨D, ok, rfl, hok, hb⟩
    replace T0 := T0.step hb
    clear hb p0 p1 p2 p3 p4 p5 p6 q0 q1 q2 q3 q4 q5 q6
  all_goals
    have hok2 := Lib.hid hok
    clear hok
    cases ok
    case' true =>
      have hDD := hok2.out rfl
      have HDD := Lib.hid hDD
      clear hDD hok2
      replace T0 := T0.more (.cells #[.bool D.g, .string (natS D.n), .int .i64 D.x] 24)
      obtain ⟨r0, r1, r2, r3, r4, r5, r6⟩ := T0.2.facts
      go_wp2_with fail
      refine bodyPost_ret (v := .tuple #[.agg #[.bool D.g, .string (natS D.n), .int .i64 D.x], .int .i64 0]) (by simp [results, Tryz.results54, go_sem, r0, r1, r2, r3]) rfl ⟨?_, ?_⟩
      · rw [HADD.out.1, HADD.out.2, ← HDD.out.1, HDD.out.2]; rfl
      · repeat (refine Below.setCell ?_ (by simp; omega) _)
        exact T0.1.1
  all_goals
    clear hok2
    have T1 : TC w p.t q.t _ := (T0.more (.cells #[.bool D.g, .string (natS D.n), .int .i64 D.x] 24))
    have HT0 := Lib.hid T0
    clear T0
    by_cases hlong : 131072 < j
    case' pos =>
      have hL := hi_long HP.out HQ.out (by omega)
      have HL := Lib.hid hL
      clear hL
      obtain ⟨r0, r1, r2, r3, r4, r5, r6⟩ := (HT0.out.more (.cells #[.bool D.g, .string (natS D.n), .int .i64 D.x] 24)).2.facts
      go_wp2_with fail
      refine bodyPost_ret (v := .tuple #[.agg #[.bool false, .string ⟨#[]⟩, .int .i64 0], .int .i64 4]) (by simp [results, Tryz.results54, go_sem, r0, r1, r2, r3]) rfl ⟨?_, ?_⟩
      · rw [HADD.out.1, HADD.out.2, HL.out.1, HL.out.2, Dy.zero_v]
      · repeat (refine Below.setCell ?_ (by simp; omega) _)
        exact T1.1.1
  all_goals
    obtain ⟨X, hX⟩ : ∃ X, X = p.n * 2 ^ j := ⟨_, rfl⟩
    have HUP := Lib.hid (show upN p q = X by rw [upN_eq, ← HJ.out, hX])
    have hfp := fits_W HP.out.1
    have hfq := fits_W HQ.out.1
    have hXW : nd W X ≤ 4097 := by
      have h1 := nd_mul_pow (j := j) (odd_ne HP.out.2.1)
      rw [← hX] at h1
      have h2 := bits_131072' HP.out.1
      exact (nd_pow (b := 2) (c := W) (e := 64) (by omega) (by omega) W_two X 4097).1 (by omega)
    have KRp := Lib.hid (fun w => read_nat p.n w HP.out.1)
    have KRq := Lib.hid (fun w => read_nat q.n w HQ.out.1)
    have KS : Hid (∀ (A : Option Addr) (c : Nat) (W' : World), Row W' W'.heap.size A p.n (nd W p.n) → Calls Tryz.prog 74 #[.slice A (nd W p.n) c, .int .i64 (j : Nat)] W' (NumPost X W')) := Lib.hid fun A c W' h => by
      rw [hX]; exact Shl_c A c p.n j W'.heap.size W' (by omega) h (Nat.le_refl _)
    clear hX
    have L0 : ∀ W, TC w p.t q.t W → W.cell? ⟨w.heap.size, 0, none⟩ = some (.bool p.g) := fun W h => h.1.2.1.facts.2.1
    have L1 : ∀ W, TC w p.t q.t W → W.cell? ⟨w.heap.size, 1, none⟩ = some (.string (natS p.n)) := fun W h => h.1.2.1.facts.2.2.1
    have L2 : ∀ W, TC w p.t q.t W → W.cell? ⟨w.heap.size, 2, none⟩ = some (.int .i64 p.x) := fun W h => h.1.2.1.facts.2.2.2.1
    have L3 : ∀ W, TC w p.t q.t W → W.cell? ⟨w.heap.size + 1, 0, none⟩ = some (.bool q.g) := fun W h => h.1.2.2.facts.2.1
    have L4 : ∀ W, TC w p.t q.t W → W.cell? ⟨w.heap.size + 1, 1, none⟩ = some (.string (natS q.n)) := fun W h => h.1.2.2.facts.2.2.1
    have L5 : ∀ W, TC w p.t q.t W → W.cell? ⟨w.heap.size + 1, 2, none⟩ = some (.int .i64 q.x) := fun W h => h.1.2.2.facts.2.2.2.1
    go_wp2_with fail
    go_region_held3 (TC w p.t q.t) (first | assumption | exact TC.step (by assumption) (by assumption) | exact TC.drew (by assumption) | exact TC.drawn (by assumption) _)
      (first
        | (go_at_call 74; (refine (KS.out _ _ _ (by assumption)).mono ?_); rintro e wb hnp2; obtain ⟨A2, c2, rfl, hc2, hr2, hb8⟩ := hnp2.get)
        | (go_at_call 75; (with_reducible refine (KRp.out _).mono ?_); rintro e wa hnp1; obtain ⟨A1, c1, rfl, hc1, hr1, hb7⟩ := hnp1.get)
        | (go_at_call 75; (with_reducible refine (KRq.out _).mono ?_); rintro e wc hnp3; obtain ⟨A3, c3, rfl, hc3, hr3, hb9⟩ := hnp3.get))
    rename_i hHeld
    have hx2 := (hr2.below hb9).more hb9.size
    have HX2 := Lib.hid hx2
    have HY2 := Lib.hid hr3
    have T2 := hHeld
    clear hHeld T1 HT0 hr1 hr2 hr3 hx2 hc1 hc2 hc3 hnp1 hnp2 hnp3 hb7 hb8 hb9
    have KF : Hid (∀ (g : Bool) (N : Nat) (A : Option Addr) (c : Nat) (W' : World), nd W N ≤ 10000 → Row W' W'.heap.size A N (nd W N) → Bt.Tabs W' → Calls Tryz.prog 76 #[.bool g, .slice A (nd W N) c, .int .i64 q.x] W' (MkPost g N q.x W')) := Lib.hid fun g N A c W' h1 h2 h3 => DFit_c g N q.x A c W'.heap.size W' h1 (by have := HQ.out.2.2; omega) h2 (Nat.le_refl _) h3
    obtain ⟨p0, p1, p2, p3, p4, p5, p6⟩ := T2.1.2.1.facts
    obtain ⟨q0, q1, q2, q3, q4, q5, q6⟩ := T2.1.2.2.facts
    replace p1 : wc.cell? ⟨w.heap.size, 0, none⟩ = some (.bool p.g) := p1
    replace q1 : wc.cell? ⟨w.heap.size + 1, 0, none⟩ = some (.bool q.g) := q1
    replace HTB : Hid (∀ W, TD w p.t q.t W → Bt.Tabs W) := Lib.hid fun W h => tabs_of (HGG.out.below h.1.1 (Nat.le_refl _))
    clear L0 L1 L2 L3 L4 L5
    by_cases hg : p.g = q.g
    case' pos =>
      have HNW : Hid (nd W (X + q.n) ≤ 10000) := Lib.hid (Nat.le_trans (nd_addW (x := X) (y := q.n) (m := 4097) (by omega) (by omega)) (by omega))
      have HRES := Lib.hid (hi_same hg X HUP.out)
      go_wp2_with fail
      clear p0 p1 p2 p3 p4 p5 p6 q0 q1 q2 q3 q4 q5 q6
      have T3 : TD w p.t q.t wc.drew := T2.drew.td
      have KO := Lib.hid (Add_c A2 A3 c2 c3 X q.n _ wc.drew (by omega) (by omega) (HX2.out.drewN 1) (HY2.out.drewN 1) (Nat.le_refl _))
      have M0 : ∀ W, TD w p.t q.t W → W.cell? ⟨w.heap.size, 0, none⟩ = some (.bool p.g) := fun W h => h.1.2.1.facts.2.1
      have M3 : ∀ W, TD w p.t q.t W → W.cell? ⟨w.heap.size + 1, 0, none⟩ = some (.bool q.g) := fun W h => h.1.2.2.facts.2.1
      have M5 : ∀ W, TD w p.t q.t W → W.cell? ⟨w.heap.size + 1, 2, none⟩ = some (.int .i64 q.x) := fun W h => h.1.2.2.facts.2.2.2.1
      have M6 := fun W (h : TD w p.t q.t W) => h.cells.2.1
      have M7 := fun W (h : TD w p.t q.t W) => h.cells.2.2.1
      have M8 := fun W (h : TD w p.t q.t W) => h.cells.2.2.2.1
      have M9 := fun W (h : TD w p.t q.t W) => h.cells.2.2.2.2.1
      have M10 := fun W (h : TD w p.t q.t W) => h.cells.2.2.2.2.2.1
      have M11 := fun W (h : TD w p.t q.t W) => h.cells.2.2.2.2.2.2
      go_region_held3 (TD w p.t q.t) (first | assumption | exact TD.step (by assumption) (by assumption) | exact TD.put (by assumption) _ _ _ | exact TD.drew (by assumption) | exact TD.drawn (by assumption) _)
        (first
          | (go_at_call 77; (refine KO.out.mono ?_); rintro e wd hnp4; obtain ⟨A4, c4, rfl, hc4, hr4, hb10⟩ := hnp4.get)
          | (go_at_call 76; (refine (KF.out _ _ _ _ _ HNW.out (by assumption) (HTB.out _ (by assumption))).mono ?_); rintro e we ⟨rfl, hb11⟩; have HSV := Lib.hid (TD.step (a := p.t) (b := q.t) (w := w) (by assumption) hb11); unfold Dy.v))
      obtain ⟨r0, r1, r2, r3, r4, r5, r6⟩ := HSV.out.cells
      have hfin := below_put HSV.out.1.1 (show w.heap.size ≤ w.heap.size + 2 by omega)
      clear T3 M0 M3 M5 M6 M7 M8 M9 M10 M11
      go_wp2_with fail
      refine bodyPost_ret (v := .tuple #[(mkD q.g (X + q.n) q.x).v, .int .i64 (mkE (X + q.n) q.x)]) (by simp [results, Tryz.results54, go_sem, r0, r1, r2, r3, Dy.v]) rfl ⟨?_, ?_⟩
      · rw [HADD.out.1, HADD.out.2, HRES.out.1, HRES.out.2, hg]
      · exact hfin _ _ _
    case' neg =>
      have hgb : (p.g == q.g) = false := beq_eq_false_iff_ne.2 hg
      have KC := Lib.hid (Cmp_c A2 A3 c2 c3 X q.n _ wc (by omega) (by omega) HX2.out HY2.out)
      go_wp2_with fail
      refine KC.out.mono ?_
      rintro e w6 ⟨rfl, nn, rfl⟩
      clear p0 p1 p2 p3 p4 p5 p6 q0 q1 q2 q3 q4 q5 q6
      by_cases hl : X < q.n
      case' pos =>
        have hcn := cmp_neg hl
        have HRES := Lib.hid (hi_lt hg X HUP.out hl)
        have HNW : Hid (nd W (q.n - X) ≤ 10000) := Lib.hid (Nat.le_trans (nd_mono W2 (Nat.sub_le _ _)) (by omega))
        generalize cmpN X q.n = cc at *
        go_wp2_with fail
        have T3 : TD w p.t q.t (wc.drewN nn).drew := (T2.drawn nn).drew.td
        have KO := Lib.hid (Sub_c A3 A2 c3 c2 q.n X _ (wc.drewN nn).drew (Nat.le_of_lt hl) (by omega) (HY2.out.drewN (nn + 1)) (HX2.out.drewN (nn + 1)) (Nat.le_refl _))
        have M0 : ∀ W, TD w p.t q.t W → W.cell? ⟨w.heap.size, 0, none⟩ = some (.bool p.g) := fun W h => h.1.2.1.facts.2.1
        have M3 : ∀ W, TD w p.t q.t W → W.cell? ⟨w.heap.size + 1, 0, none⟩ = some (.bool q.g) := fun W h => h.1.2.2.facts.2.1
        have M5 : ∀ W, TD w p.t q.t W → W.cell? ⟨w.heap.size + 1, 2, none⟩ = some (.int .i64 q.x) := fun W h => h.1.2.2.facts.2.2.2.1
        have M6 := fun W (h : TD w p.t q.t W) => h.cells.2.1
        have M7 := fun W (h : TD w p.t q.t W) => h.cells.2.2.1
        have M8 := fun W (h : TD w p.t q.t W) => h.cells.2.2.2.1
        have M9 := fun W (h : TD w p.t q.t W) => h.cells.2.2.2.2.1
        have M10 := fun W (h : TD w p.t q.t W) => h.cells.2.2.2.2.2.1
        have M11 := fun W (h : TD w p.t q.t W) => h.cells.2.2.2.2.2.2
        go_region_held3 (TD w p.t q.t) (first | assumption | exact TD.step (by assumption) (by assumption) | exact TD.put (by assumption) _ _ _ | exact TD.drew (by assumption) | exact TD.drawn (by assumption) _)
          (first
            | (go_at_call 79; (refine KO.out.mono ?_); rintro e wd hnp4; obtain ⟨A4, c4, rfl, hc4, hr4, hb10⟩ := hnp4.get)
            | (go_at_call 76; (refine (KF.out _ _ _ _ _ HNW.out (by assumption) (HTB.out _ (by assumption))).mono ?_); rintro e we ⟨rfl, hb11⟩; have HSV := Lib.hid (TD.step (a := p.t) (b := q.t) (w := w) (by assumption) hb11); unfold Dy.v))
        obtain ⟨r0, r1, r2, r3, r4, r5, r6⟩ := HSV.out.cells
        have hfin := below_put HSV.out.1.1 (show w.heap.size ≤ w.heap.size + 2 by omega)
        clear T3 M0 M3 M5 M6 M7 M8 M9 M10 M11
        go_wp2_with fail
        refine bodyPost_ret (v := .tuple #[(mkD q.g (q.n - X) q.x).v, .int .i64 (mkE (q.n - X) q.x)]) (by simp [results, Tryz.results54, go_sem, r0, r1, r2, r3, Dy.v]) rfl ⟨?_, ?_⟩
        · rw [HADD.out.1, HADD.out.2, HRES.out.1, HRES.out.2]
        · exact hfin _ _ _
      case' neg =>
        have hcn := cmp_pos (Nat.le_of_not_lt hl)
        have HRES := Lib.hid (hi_ge hg X HUP.out hl)
        have HNW : Hid (nd W (X - q.n) ≤ 10000) := Lib.hid (Nat.le_trans (nd_mono W2 (Nat.sub_le _ _)) (by omega))
        generalize cmpN X q.n = cc at *
        go_wp2_with fail
        have T3 : TD w p.t q.t (wc.drewN nn).drew := (T2.drawn nn).drew.td
        have KO := Lib.hid (Sub_c A2 A3 c2 c3 X q.n _ (wc.drewN nn).drew (Nat.le_of_not_lt hl) (by omega) (HX2.out.drewN (nn + 1)) (HY2.out.drewN (nn + 1)) (Nat.le_refl _))
        have M0 : ∀ W, TD w p.t q.t W → W.cell? ⟨w.heap.size, 0, none⟩ = some (.bool p.g) := fun W h => h.1.2.1.facts.2.1
        have M3 : ∀ W, TD w p.t q.t W → W.cell? ⟨w.heap.size + 1, 0, none⟩ = some (.bool q.g) := fun W h => h.1.2.2.facts.2.1
        have M5 : ∀ W, TD w p.t q.t W → W.cell? ⟨w.heap.size + 1, 2, none⟩ = some (.int .i64 q.x) := fun W h => h.1.2.2.facts.2.2.2.1
        have M6 := fun W (h : TD w p.t q.t W) => h.cells.2.1
        have M7 := fun W (h : TD w p.t q.t W) => h.cells.2.2.1
        have M8 := fun W (h : TD w p.t q.t W) => h.cells.2.2.2.1
        have M9 := fun W (h : TD w p.t q.t W) => h.cells.2.2.2.2.1
        have M10 := fun W (h : TD w p.t q.t W) => h.cells.2.2.2.2.2.1
        have M11 := fun W (h : TD w p.t q.t W) => h.cells.2.2.2.2.2.2
        go_region_held3 (TD w p.t q.t) (first | assumption | exact TD.step (by assumption) (by assumption) | exact TD.put (by assumption) _ _ _ | exact TD.drew (by assumption) | exact TD.drawn (by assumption) _)
          (first
            | (go_at_call 79; (refine KO.out.mono ?_); rintro e wd hnp4; obtain ⟨A4, c4, rfl, hc4, hr4, hb10⟩ := hnp4.get)
            | (go_at_call 76; (refine (KF.out _ _ _ _ _ HNW.out (by assumption) (HTB.out _ (by assumption))).mono ?_); rintro e we ⟨rfl, hb11⟩; have HSV := Lib.hid (TD.step (a := p.t) (b := q.t) (w := w) (by assumption) hb11); unfold Dy.v))
        obtain ⟨r0, r1, r2, r3, r4, r5, r6⟩ := HSV.out.cells
        have hfin := below_put HSV.out.1.1 (show w.heap.size ≤ w.heap.size + 2 by omega)
        clear T3 M0 M3 M5 M6 M7 M8 M9 M10 M11
        go_wp2_with fail
        refine bodyPost_ret (v := .tuple #[(mkD p.g (X - q.n) q.x).v, .int .i64 (mkE (X - q.n) q.x)]) (by simp [results, Tryz.results54, go_sem, r0, r1, r2, r3, Dy.v]) rfl ⟨?_, ?_⟩
        · rw [HADD.out.1, HADD.out.2, HRES.out.1, HRES.out.2]
        · exact hfin _ _ _
end Go.Proofs.YtmjjodficjjehabGreatDoor
namespace Go.Proofs.YtmjjodficjjehabGreatDoor
open Go Go.RowKit Nt
def AddPost (a b : Dy) (w : World) (e : Ending) (w' : World) : Prop := e = .returned (.tuple #[(addD a b).v, .int .i64 (addE a b)]) ∧ Below w.heap.size w w'
theorem DAdd_c (a b : Dy) (w : World) (ha : a.Ok) (hb : b.Ok) (hG : Globs glT w) :
    Calls Tryz.prog 54 #[.agg #[.bool a.g, .string (natS a.n), .int .i64 a.x], .agg #[.bool b.g, .string (natS b.n), .int .i64 b.x]] w (AddPost a b w) := by
  unfold AddPost
  rcases ha with rfl | ha
  · rw [(add_zl (a := Dy.zero) (b := b) rfl).1, (add_zl (a := Dy.zero) (b := b) rfl).2]
    show Calls _ _ #[.agg #[.bool false, .string (natS 0), .int .i64 0], _] _ _
    rw [natS_zero]; exact DAdd_zl b w hb
  · rcases hb with rfl | hb
    · rw [(add_zr (a := a) (b := Dy.zero) (odd_ne ha.2.1) rfl).1, (add_zr (a := a) (b := Dy.zero) (odd_ne ha.2.1) rfl).2]
      show Calls _ _ #[_, .agg #[.bool false, .string (natS 0), .int .i64 0]] _ _
      rw [natS_zero]; exact DAdd_zr a w ha
    · exact DAdd_num a b w ha hb hG
def negD (d : Dy) : Dy := if d.n = 0 then d else ⟨!d.g, d.n, d.x⟩
theorem negD_zero : negD Dy.zero = Dy.zero := by unfold negD; exact if_pos rfl
theorem negD_num {d : Dy} (h : d.n ≠ 0) : negD d = ⟨!d.g, d.n, d.x⟩ := by unfold negD; exact if_neg h
theorem negD_Ok {d : Dy} (h : d.Ok) : (negD d).Ok := by
  rcases h with rfl | h
  · rw [negD_zero]; exact Or.inl rfl
  · rw [negD_num (odd_ne h.2.1)]; exact Or.inr h
theorem DNeg_c (d : Dy) (w : World) (h : d.Ok) : Calls Tryz.prog 43 #[.agg #[.bool d.g, .string (natS d.n), .int .i64 d.x]] w fun e w' => e = .returned ((negD d).v) ∧ Below w.heap.size w w' := by
  rcases h with rfl | h
  · rw [negD_zero, Dy.zero_v]
    show Calls _ _ #[.agg #[.bool false, .string (natS 0), .int .i64 0]] _ _
    rw [natS_zero]; exact DNeg_zero w
  · rw [negD_num (odd_ne h.2.1)]
    exact DNeg_num d.g d.n d.x w h.1 h.2.1 h.2.2.1 h.2.2.2
end Go.Proofs.YtmjjodficjjehabGreatDoor
namespace Go.Proofs.YtmjjodficjjehabGreatDoor
open Go Go.RowKit Nt
set_option maxRecDepth 100000 in
set_option maxHeartbeats 2000000 in
theorem DSub_c (a b : Dy) (w : World) (ha : a.Ok) (hb : b.Ok) (hG : Globs glT w) :
    Calls Tryz.prog 60 #[.agg #[.bool a.g, .string (natS a.n), .int .i64 a.x], .agg #[.bool b.g, .string (natS b.n), .int .i64 b.x]] w (AddPost a (negD b) w) := by
  have KA := Lib.hid (fun W T A hA => all_ok2 a b ha hb W T A hA)
  have T0 := TC.start w a.t b.t
  have KN := Lib.hid (fun w => DNeg_c b w hb)
  have KD := Lib.hid (fun w hG => DAdd_c a (negD b) w ha (negD_Ok hb) hG)
  have HG := Lib.hid (fun W (h : TD w a.t b.t W) => hG.below h.1.1 (Nat.le_refl _))
  clear hG
  clear ha hb
  unfold AddPost at KD ⊢
  generalize addD a (negD b) = D at *
  generalize addE a (negD b) = E at *
  generalize negD b = c at *
  unfold Dy.t at T0
  go_enter Tryz.func60, Tryz.ntmps60
  go_wp2_with fail
  refine (KA.out _ _ _ (by simp)).mono ?_
  rintro e w1 ⟨rfl, hb⟩
  replace T0 := (T0.more _).step hb
  clear hb
  have T1 : TD w a.t b.t w1 := T0.td
  clear T0
  go_wp2_with fail
  have M0 : ∀ W, TD w a.t b.t W → W.cell? ⟨w.heap.size, 0, none⟩ = some (.bool a.g) := fun W h => h.1.2.1.facts.2.1
  have M1 : ∀ W, TD w a.t b.t W → W.cell? ⟨w.heap.size, 1, none⟩ = some (.string (natS a.n)) := fun W h => h.1.2.1.facts.2.2.1
  have M2 : ∀ W, TD w a.t b.t W → W.cell? ⟨w.heap.size, 2, none⟩ = some (.int .i64 a.x) := fun W h => h.1.2.1.facts.2.2.2.1
  have M3 : ∀ W, TD w a.t b.t W → W.cell? ⟨w.heap.size + 1, 0, none⟩ = some (.bool b.g) := fun W h => h.1.2.2.facts.2.1
  have M4 : ∀ W, TD w a.t b.t W → W.cell? ⟨w.heap.size + 1, 1, none⟩ = some (.string (natS b.n)) := fun W h => h.1.2.2.facts.2.2.1
  have M5 : ∀ W, TD w a.t b.t W → W.cell? ⟨w.heap.size + 1, 2, none⟩ = some (.int .i64 b.x) := fun W h => h.1.2.2.facts.2.2.2.1
  have M6 := fun W (h : TD w a.t b.t W) => h.cells.2.1
  have M7 := fun W (h : TD w a.t b.t W) => h.cells.2.2.1
  have M8 := fun W (h : TD w a.t b.t W) => h.cells.2.2.2.1
  have M9 := fun W (h : TD w a.t b.t W) => h.cells.2.2.2.2.1
  have M10 := fun W (h : TD w a.t b.t W) => h.cells.2.2.2.2.2.1
  have M11 := fun W (h : TD w a.t b.t W) => h.cells.2.2.2.2.2.2
  go_region_held3 (TD w a.t b.t) (first | assumption | exact TD.step (by assumption) (by assumption) | exact TD.put (by assumption) _ _ _ | exact TD.drew (by assumption) | exact TD.drawn (by assumption) _)
    (first
      | (go_at_call 43; (refine (KN.out _).mono ?_); rintro e wd ⟨rfl, hb10⟩; unfold Dy.v)
      | (go_at_call 54; (refine (KD.out _ (HG.out _ (by assumption))).mono ?_); rintro e we ⟨rfl, hb11⟩; have HSV := Lib.hid (TD.step (a := a.t) (b := b.t) (w := w) (by assumption) hb11); unfold Dy.v))
  obtain ⟨r0, r1, r2, r3, r4, r5, r6⟩ := HSV.out.cells
  have hfin := below_put HSV.out.1.1 (show w.heap.size ≤ w.heap.size + 2 by omega)
  clear M0 M1 M2 M3 M4 M5 M6 M7 M8 M9 M10 M11
  go_wp2_with fail
  refine bodyPost_ret (v := .tuple #[D.v, .int .i64 E]) (by simp [results, Tryz.results60, go_sem, r0, r1, r2, r3, Dy.v]) rfl ⟨rfl, ?_⟩
  exact hfin _ _ _
end Go.Proofs.YtmjjodficjjehabGreatDoor
namespace Go.Proofs.YtmjjodficjjehabGreatDoor
open Go Go.RowKit Nt
@[irreducible] def mulD (a b : Dy) : Dy := mkD (a.g != b.g) (a.n * b.n) (a.x + b.x)
@[irreducible] def mulE (a b : Dy) : Int := mkE (a.n * b.n) (a.x + b.x)
theorem mulD_eq (a b : Dy) : mulD a b = mkD (a.g != b.g) (a.n * b.n) (a.x + b.x) := by unfold mulD; rfl
theorem mulE_eq (a b : Dy) : mulE a b = mkE (a.n * b.n) (a.x + b.x) := by unfold mulE; rfl
theorem mul_z {a b : Dy} (h : a.n = 0 ∨ b.n = 0) : mulD a b = Dy.zero ∧ mulE a b = 0 := by
  have e : a.n * b.n = 0 := by rcases h with h | h <;> rw [h] <;> simp
  rw [mulD_eq, mulE_eq, e, mkD_zero, mkE_zero]; exact ⟨rfl, rfl⟩
theorem mulD_Ok (a b : Dy) : (mulD a b).Ok := by rw [mulD_eq]; exact mkD_Ok _ _ _
def MulPost (a b : Dy) (w : World) (e : Ending) (w' : World) : Prop := e = .returned (.tuple #[(mulD a b).v, .int .i64 (mulE a b)]) ∧ Below w.heap.size w w'
set_option maxRecDepth 100000 in
set_option maxHeartbeats 2000000 in
theorem DMul_zl (b : Dy) (w : World) (hb : b.Ok) :
    Calls Tryz.prog 61 #[.agg #[.bool false, .string ⟨#[]⟩, .int .i64 0], .agg #[.bool b.g, .string (natS b.n), .int .i64 b.x]] w fun e w' => e = .returned (.tuple #[.agg #[.bool false, .string ⟨#[]⟩, .int .i64 0], .int .i64 0]) ∧ Below w.heap.size w w' := by
  have KA := Lib.hid (fun W T A hA => all_ok2 Dy.zero b (Or.inl rfl) hb W T A hA)
  simp only [Dy.zero, natS_zero] at KA
  have T0 := TC.start w ⟨false, ⟨#[]⟩, 0⟩ b.t
  unfold Dy.t at T0
  go_enter Tryz.func61, Tryz.ntmps61
  go_wp2_with fail
  refine (KA.out _ _ _ (by simp)).mono ?_
  rintro e w1 ⟨rfl, hb⟩
  replace T0 := (T0.more _).step hb
  clear hb
  obtain ⟨p0, p1, p2, p3, p4, p5, p6⟩ := T0.1.2.1.facts
  obtain ⟨q0, q1, q2, q3, q4, q5, q6⟩ := T0.1.2.2.facts
  obtain ⟨r0, r1, r2, r3, r4, r5, r6⟩ := T0.2.facts
  go_wp2_with fail
  refine bodyPost_ret (v := .tuple #[.agg #[.bool false, .string ⟨#[]⟩, .int .i64 0], .int .i64 0]) (by simp [results, Tryz.results61, go_sem, r0, r1, r2, r3]) rfl ⟨rfl, ?_⟩
  repeat (refine Below.setCell ?_ (by simp; omega) _)
  first
    | exact T0.1.1
    | exact (((Below.refl _ _).alloc (Nat.le_refl _) _).alloc (by simp) _).alloc (by simp; omega) _
set_option maxRecDepth 100000 in
set_option maxHeartbeats 2000000 in
theorem DMul_zr (a : Dy) (w : World) (ha : a.Num) :
    Calls Tryz.prog 61 #[.agg #[.bool a.g, .string (natS a.n), .int .i64 a.x], .agg #[.bool false, .string ⟨#[]⟩, .int .i64 0]] w fun e w' => e = .returned (.tuple #[.agg #[.bool false, .string ⟨#[]⟩, .int .i64 0], .int .i64 0]) ∧ Below w.heap.size w w' := by
  have KA := Lib.hid (fun W T A hA => all_ok2 a Dy.zero (Or.inr ha) (Or.inl rfl) W T A hA)
  simp only [Dy.zero, natS_zero] at KA
  have T0 := TC.start w a.t ⟨false, ⟨#[]⟩, 0⟩
  unfold Dy.t at T0
  have hE := natS_full (odd_ne ha.2.1)
  have hE2 := natS_full2 (odd_ne ha.2.1)
  clear ha
  go_enter Tryz.func61, Tryz.ntmps61
  go_wp2_with fail
  refine (KA.out _ _ _ (by simp)).mono ?_
  rintro e w1 ⟨rfl, hb⟩
  replace T0 := (T0.more _).step hb
  clear hb
  obtain ⟨p0, p1, p2, p3, p4, p5, p6⟩ := T0.1.2.1.facts
  obtain ⟨q0, q1, q2, q3, q4, q5, q6⟩ := T0.1.2.2.facts
  obtain ⟨r0, r1, r2, r3, r4, r5, r6⟩ := T0.2.facts
  go_wp2_with fail
  refine bodyPost_ret (v := .tuple #[.agg #[.bool false, .string ⟨#[]⟩, .int .i64 0], .int .i64 0]) (by simp [results, Tryz.results61, go_sem, r0, r1, r2, r3]) rfl ⟨rfl, ?_⟩
  repeat (refine Below.setCell ?_ (by simp; omega) _)
  first
    | exact T0.1.1
    | exact (((Below.refl _ _).alloc (Nat.le_refl _) _).alloc (by simp) _).alloc (by simp; omega) _
set_option maxRecDepth 100000 in
set_option maxHeartbeats 2000000 in
theorem DMul_num (a b : Dy) (w : World) (ha : a.Num) (hb : b.Num) :
    Calls Tryz.prog 61 #[.agg #[.bool a.g, .string (natS a.n), .int .i64 a.x], .agg #[.bool b.g, .string (natS b.n), .int .i64 b.x]] w (MulPost a b w) := by
  have KA := Lib.hid (fun W T A hA => all_ok2 a b (Or.inr ha) (Or.inr hb) W T A hA)
  have T0 := TC.start w a.t b.t
  unfold Dy.t at T0
  have KM := Lib.hid (fun w => NMul_c a.n b.n w ha.1 hb.1)
  have hEp := natS_full (odd_ne ha.2.1)
  have hEp2 := natS_full2 (odd_ne ha.2.1)
  have hEq := natS_full (odd_ne hb.2.1)
  have hEq2 := natS_full2 (odd_ne hb.2.1)
  have hxa := ha.2.2
  have hxb := hb.2.2
  have hodd : (a.n * b.n) % 2 = 1 := by rw [Nat.mul_mod, ha.2.1, hb.2.1]
  unfold MulPost
  by_cases hf : fits (a.n * b.n)
  · rw [resS_ok hf, resE_ok hf] at KM
    have KK : Hid (∀ w, Calls Tryz.prog 83 #[.bool (a.g != b.g), .string (natS (a.n * b.n)), .int .i64 (a.x + b.x)] w fun e w' => e = .returned (.tuple #[(mulD a b).v, .int .i64 (mulE a b)]) ∧ Below w.heap.size w w') := Lib.hid fun w => by
      have := DMake_c (a.g != b.g) (a.n * b.n) (a.x + b.x) w hf (by omega)
      unfold MkPost at this
      rw [← mulD_eq, ← mulE_eq] at this
      exact this
    clear ha hb hf hodd
    generalize mulD a b = D at *
    generalize mulE a b = E at *
    generalize a.n * b.n = z at *
    go_enter Tryz.func61, Tryz.ntmps61
    go_wp2_with fail
    refine (KA.out _ _ _ (by simp)).mono ?_
    rintro e w1 ⟨rfl, hb⟩
    replace T0 := (T0.more _).step hb
    clear hb
    obtain ⟨p0, p1, p2, p3, p4, p5, p6⟩ := T0.1.2.1.facts
    obtain ⟨q0, q1, q2, q3, q4, q5, q6⟩ := T0.1.2.2.facts
    go_wp2_with fail
    refine (KM.out _).mono ?_
    rintro e w2 ⟨rfl, hb⟩
    replace T0 := T0.step hb
    clear hb p0 p1 p2 p3 p4 p5 p6 q0 q1 q2 q3 q4 q5 q6
    obtain ⟨p0, p1, p2, p3, p4, p5, p6⟩ := T0.1.2.1.facts
    obtain ⟨q0, q1, q2, q3, q4, q5, q6⟩ := T0.1.2.2.facts
    go_wp2_with fail
    refine (KK.out _).mono ?_
    rintro e w3 ⟨rfl, hb⟩
    replace T0 := T0.step hb
    obtain ⟨r0, r1, r2, r3, r4, r5, r6⟩ := T0.2.facts
    clear hb p0 p1 p2 p3 p4 p5 p6 q0 q1 q2 q3 q4 q5 q6
    unfold Dy.v
    go_wp2_with fail
    refine bodyPost_ret (v := .tuple #[D.v, .int .i64 E]) (by simp [results, Tryz.results61, go_sem, r0, r1, r2, r3, Dy.v]) rfl ⟨rfl, ?_⟩
    exact T0.fin _ _ _
  · rw [resS_no hf, resE_no hf] at KM
    have hno : ¬ mkOk3 (a.n * b.n) (a.x + b.x) := by
      rintro (h | ⟨h, _⟩)
      · exact odd_ne hodd h
      · rw [odN_odd hodd] at h; exact hf h
    have HR := Lib.hid (show mulD a b = Dy.zero ∧ mulE a b = 4 from ⟨by rw [mulD_eq, mkD_no hno], by rw [mulE_eq, mkE_no hno]⟩)
    clear ha hb hf hodd hno
    go_enter Tryz.func61, Tryz.ntmps61
    go_wp2_with fail
    refine (KA.out _ _ _ (by simp)).mono ?_
    rintro e w1 ⟨rfl, hb⟩
    replace T0 := (T0.more _).step hb
    clear hb
    obtain ⟨p0, p1, p2, p3, p4, p5, p6⟩ := T0.1.2.1.facts
    obtain ⟨q0, q1, q2, q3, q4, q5, q6⟩ := T0.1.2.2.facts
    go_wp2_with fail
    refine (KM.out _).mono ?_
    rintro e w2 ⟨rfl, hb⟩
    replace T0 := T0.step hb
    obtain ⟨r0, r1, r2, r3, r4, r5, r6⟩ := T0.2.facts
    clear hb p0 p1 p2 p3 p4 p5 p6 q0 q1 q2 q3 q4 q5 q6
    go_wp2_with fail
    refine bodyPost_ret (v := .tuple #[.agg #[.bool false, .string ⟨#[]⟩, .int .i64 0], .int .i64 4]) (by simp [results, Tryz.results61, go_sem, r0, r1, r2, r3]) rfl ⟨?_, ?_⟩
    · rw [HR.out.1, HR.out.2, Dy.zero_v]
    · exact T0.fin _ _ _
theorem DMul_c (a b : Dy) (w : World) (ha : a.Ok) (hb : b.Ok) :
    Calls Tryz.prog 61 #[.agg #[.bool a.g, .string (natS a.n), .int .i64 a.x], .agg #[.bool b.g, .string (natS b.n), .int .i64 b.x]] w (MulPost a b w) := by
  rcases ha with rfl | ha
  · unfold MulPost
    rw [(mul_z (a := Dy.zero) (b := b) (Or.inl rfl)).1, (mul_z (a := Dy.zero) (b := b) (Or.inl rfl)).2, Dy.zero_v]
    show Calls _ _ #[.agg #[.bool false, .string (natS 0), .int .i64 0], _] _ _
    rw [natS_zero]; exact DMul_zl b w hb
  · rcases hb with rfl | hb
    · unfold MulPost
      rw [(mul_z (a := a) (b := Dy.zero) (Or.inr rfl)).1, (mul_z (a := a) (b := Dy.zero) (Or.inr rfl)).2, Dy.zero_v]
      show Calls _ _ #[_, .agg #[.bool false, .string (natS 0), .int .i64 0]] _ _
      rw [natS_zero]; exact DMul_zr a w ha
    · exact DMul_num a b w ha hb
end Go.Proofs.YtmjjodficjjehabGreatDoor
namespace Go.Proofs.YtmjjodficjjehabGreatDoor
open Go Go.RowKit Nt
end Go.Proofs.YtmjjodficjjehabGreatDoor
namespace Go.Proofs.YtmjjodficjjehabGreatDoor
open Go Go.RowKit Nt
def OC (w : World) (a : Dt) (W : World) : Prop := OB w a W ∧ Box3 W (w.heap.size + 1) (.bool false) (.string ⟨#[]⟩) (.int .i64 0)
theorem OC.start (w : World) (a : Dt) : OC w a ((w.alloc (.cells #[.bool a.g, .string a.s, .int .i64 a.x] 24)).alloc (.cells #[.bool false, .string ⟨#[]⟩, .int .i64 0] 24)) := by
  refine ⟨(OB.start w a).more _, ?_⟩
  have := Box3.new (w.alloc (.cells #[.bool a.g, .string a.s, .int .i64 a.x] 24)) (.bool false) (.string ⟨#[]⟩) (.int .i64 0)
  simpa using this
theorem OC.step {w : World} {a : Dt} {W W' : World} (h : OC w a W) (hb : Below W.heap.size W W') : OC w a W' := ⟨h.1.step hb, h.2.step hb⟩
theorem OC.more {w : World} {a : Dt} {W : World} (h : OC w a W) (o : Obj) : OC w a (W.alloc o) := h.step ((Below.refl _ _).alloc (Nat.le_refl _) _)
theorem OC.fin {w : World} {a : Dt} {W : World} (h : OC w a W) (x y z : Value) : Below w.heap.size w (((W.setCell ⟨w.heap.size + 1, 0, none⟩ x).setCell ⟨w.heap.size + 1, 1, none⟩ y).setCell ⟨w.heap.size + 1, 2, none⟩ z) := below_put h.1.1 (by omega) x y z
end Go.Proofs.YtmjjodficjjehabGreatDoor
namespace Go.Proofs.YtmjjodficjjehabGreatDoor
open Go Go.RowKit Nt
theorem DRow.below {w w' : World} {A : Option Addr} {n L : Nat} (h : DRow w A n L) (hb : Below w.heap.size w w') : DRow w' A n L := fun j hj => by
  obtain ⟨g, e, hg, hc⟩ := h j hj
  exact ⟨g, e, Nat.lt_of_lt_of_le hg hb.size, (hb.cell (p := ⟨g, j, none⟩) hg).trans hc⟩
end Go.Proofs.YtmjjodficjjehabGreatDoor
namespace Go.Proofs.YtmjjodficjjehabGreatDoor
open Go Go.RowKit
theorem bex (p : Prop) : ∃ b : Bool, b = true ↔ p := by
  by_cases h : p
  · exact ⟨true, by simp [h]⟩
  · exact ⟨false, by simp [h]⟩
def envL (l : List Value) (i : Nat) : Value := l.getD i (.int .i64 0)
theorem envL_flat {l : List Value} (h : l.all (·.oneCell') = true) : ∀ i, (envL l i).oneCell' = true := by
  intro i
  unfold envL
  rw [List.getD_eq_getElem?_getD]
  cases hi : l[i]? with
  | none => rfl
  | some v =>
    rw [List.all_eq_true] at h
    exact h v (List.mem_of_getElem? hi)
@[reducible] def mkEnv (gl : List (Nat × List AV)) (l : List Value) (h : l.all (·.oneCell') = true) : Env := ⟨envL l, envL_flat h, gl⟩
section
variable [Env]
def OpT (P : Program) (k : List Nat) (l : List AV) (r : AV) : Prop :=
  ground r = true ∧ ∀ (o : Oper) xs, keyOf o = some (k, xs) → ∀ ρ : Operand → Value, (∀ g, ρ (.func g) = .func (.func g) #[] #[]) → xs.map ρ = l.map gval → ∀ w, (execOp ρ o).run P w = .ok (.value (gval r)) w
def CallT (P : Program) (g : FuncId) (l : List AV) (r : AV) : Prop :=
  ground r = true ∧ ∀ w xs, Globs Env.gl w → ARels w l xs → Calls P g xs.toArray w fun e w' => e = .returned (gval r) ∧ Below w.heap.size w w'
theorem callt {P : Program} {g : FuncId} {l : List AV} {r : AV} (hl : l.all ground = true) (hr : ground r = true) (h : ∀ w, Globs Env.gl w → Calls P g (l.map gval).toArray w fun e w' => e = .returned (gval r) ∧ Below w.heap.size w w') : CallT P g l r :=
  ⟨hr, fun w xs hG hx => by rw [@ARels.plain _ noKnow _ _ hl _ hx]; exact h w hG⟩
def OpsT (P : Program) : List (List Nat × List AV × AV) → Prop
  | [] => True
  | p :: t => OpT P p.1 p.2.1 p.2.2 ∧ OpsT P t
def CallsT (P : Program) : List (FuncId × List AV × AV) → Prop
  | [] => True
  | p :: t => CallT P p.1 p.2.1 p.2.2 ∧ CallsT P t
theorem OpsT.mem {P : Program} : ∀ {t : List (List Nat × List AV × AV)}, OpsT P t → ∀ {k l r}, (k, l, r) ∈ t → OpT P k l r
  | [], _, _, _, _, h => by cases h
  | p :: t, hp, k, l, r, h => by
    rcases List.mem_cons.1 h with e | h
    · subst e; exact hp.1
    · exact OpsT.mem hp.2 h
theorem CallsT.mem {P : Program} : ∀ {t : List (FuncId × List AV × AV)}, CallsT P t → ∀ {k l r}, (k, l, r) ∈ t → CallT P k l r
  | [], _, _, _, _, h => by cases h
  | p :: t, hp, k, l, r, h => by
    rcases List.mem_cons.1 h with e | h
    · subst e; exact hp.1
    · exact CallsT.mem hp.2 h
theorem KnowOk.of [Know] {P : Program} (h1 : OpsT P Know.ops) (h2 : CallsT P Know.calls) : KnowOk P := ⟨fun k l r h => h1.mem h, fun k l r h => h2.mem h⟩
theorem opt_bin {P : Program} {op : BinOp} {t : TypeId} {a b r : AV} (hr : ground r = true) (h : ∀ x y w, (do eqGuard op t x y (gval a) (gval b); binOp op t (gval a) (gval b)).run P w = .ok (gval r) w) : OpT P [0, binKey op, t] [a, b] r := by
  refine ⟨hr, fun o xs hk ρ hρ hx w => ?_⟩
  unfold keyOf at hk
  obtain ⟨dst, o, type, pos, after, guard⟩ := o
  simp only at hk
  split at hk
  · rename_i op' t' x y yt
    simp only [Option.some.injEq, Prod.mk.injEq, List.cons.injEq, and_true, true_and] at hk
    obtain ⟨⟨h1, h2⟩, h3⟩ := hk
    subst h2 h3
    have ho : op' = op := by cases op' <;> cases op <;> first | rfl | cases h1
    subst ho
    simp only [List.map_cons, List.map_nil, List.cons.injEq, and_true] at hx
    obtain ⟨e1, e2⟩ := hx
    have := h x y w
    simp only [execOp, e1, e2, Sem.run_bind, Sem.run_pure] at this ⊢
    rw [this]; rfl
  all_goals first
    | (simp only [Option.some.injEq, Prod.mk.injEq, List.cons.injEq] at hk; have := hk.1.1; omega)
    | (split at hk <;> first | cases hk | (simp only [Option.some.injEq, Prod.mk.injEq, List.cons.injEq] at hk; have := hk.1.1; omega))
    | cases hk
theorem opt_int {P : Program} {op : BinOp} {t : TypeId} {a b r : AV} {k : IntKind} {x y : Int} {v : Value} (ha : gval a = .int k x) (hb : gval b = .int k y) (hr : ground r = true) (hv : gval r = v) (h : ∀ w, (binOp op t (.int k x) (.int k y)).run P w = .ok v w) : OpT P [0, binKey op, t] [a, b] r := by
  refine opt_bin hr fun p q w => ?_
  rw [ha, hb, hv]
  simp only [Sem.run_bind, eqGuard_int, Result.andThen_ok]
  exact h w
theorem opt_eql {P : Program} {t : TypeId} {a b : AV} {k : IntKind} {x y : Int} {c : Bool} (ha : gval a = .int k x) (hb : gval b = .int k y) (h : (x == y) = c) : OpT P [0, 11, t] [a, b] (.lit (.bool c)) :=
  opt_int (op := .eql) ha hb rfl rfl fun w => by rw [← h]; simp [binOp, Op.intCmp, gval, gval2, gval1]
theorem opt_neq {P : Program} {t : TypeId} {a b : AV} {k : IntKind} {x y : Int} {c : Bool} (ha : gval a = .int k x) (hb : gval b = .int k y) (h : (x != y) = c) : OpT P [0, 12, t] [a, b] (.lit (.bool c)) :=
  opt_int (op := .neq) ha hb rfl rfl fun w => by rw [← h]; simp [binOp, Op.intCmp, gval, gval2, gval1]
theorem opt_leq {P : Program} {t : TypeId} {a b : AV} {k : IntKind} {x y : Int} {c : Bool} (ha : gval a = .int k x) (hb : gval b = .int k y) (h : decide (x ≤ y) = c) : OpT P [0, 14, t] [a, b] (.lit (.bool c)) :=
  opt_int (op := .leq) ha hb rfl rfl fun w => by rw [← h]; simp [binOp, Op.intCmp, gval, gval2, gval1]
theorem opt_gtr {P : Program} {t : TypeId} {a b : AV} {k : IntKind} {x y : Int} {c : Bool} (ha : gval a = .int k x) (hb : gval b = .int k y) (h : decide (x > y) = c) : OpT P [0, 15, t] [a, b] (.lit (.bool c)) :=
  opt_int (op := .gtr) ha hb rfl rfl fun w => by rw [← h]; simp [binOp, Op.intCmp, gval, gval2, gval1]
theorem opt_geq {P : Program} {t : TypeId} {a b : AV} {k : IntKind} {x y : Int} {c : Bool} (ha : gval a = .int k x) (hb : gval b = .int k y) (h : decide (x ≥ y) = c) : OpT P [0, 16, t] [a, b] (.lit (.bool c)) :=
  opt_int (op := .geq) ha hb rfl rfl fun w => by rw [← h]; simp [binOp, Op.intCmp, gval, gval2, gval1]
theorem opt_eql_i {P : Program} {t : TypeId} {a b : AV} {k : IntKind} {x y : Int} {c : Bool} (ha : gval a = .int k x) (hb : gval b = .int k y) (h : c = true ↔ x = y) : OpT P [0, 11, t] [a, b] (.lit (.bool c)) := opt_eql ha hb (by rw [Bool.eq_iff_iff, h]; exact beq_iff_eq)
theorem opt_neq_i {P : Program} {t : TypeId} {a b : AV} {k : IntKind} {x y : Int} {c : Bool} (ha : gval a = .int k x) (hb : gval b = .int k y) (h : c = true ↔ x = y) : OpT P [0, 12, t] [a, b] (.lit (.bool (!c))) := opt_neq ha hb (by rw [bne, show (x == y) = c from by rw [Bool.eq_iff_iff, h]; exact beq_iff_eq])
theorem opt_leq_i {P : Program} {t : TypeId} {a b : AV} {k : IntKind} {x y : Int} {c : Bool} (ha : gval a = .int k x) (hb : gval b = .int k y) (h : c = true ↔ x ≤ y) : OpT P [0, 14, t] [a, b] (.lit (.bool c)) := opt_leq ha hb (by rw [Bool.eq_iff_iff, h]; exact decide_eq_true_iff)
theorem opt_gtr_i {P : Program} {t : TypeId} {a b : AV} {k : IntKind} {x y : Int} {c : Bool} (ha : gval a = .int k x) (hb : gval b = .int k y) (h : c = true ↔ x > y) : OpT P [0, 15, t] [a, b] (.lit (.bool c)) := opt_gtr ha hb (by rw [Bool.eq_iff_iff, h]; exact decide_eq_true_iff)
theorem opt_geq_i {P : Program} {t : TypeId} {a b : AV} {k : IntKind} {x y : Int} {c : Bool} (ha : gval a = .int k x) (hb : gval b = .int k y) (h : c = true ↔ x ≥ y) : OpT P [0, 16, t] [a, b] (.lit (.bool c)) := opt_geq ha hb (by rw [Bool.eq_iff_iff, h]; exact decide_eq_true_iff)
theorem opt_neq_t {P : Program} {t : TypeId} {a b : AV} {k : IntKind} {x y : Int} (ha : gval a = .int k x) (hb : gval b = .int k y) (h : ¬ x = y) : OpT P [0, 12, t] [a, b] (.lit (.bool true)) := opt_neq ha hb (by rw [bne, beq_eq_false_iff_ne.2 h]; rfl)
theorem opt_neq_f {P : Program} {t : TypeId} {a b : AV} {k : IntKind} {x y : Int} (ha : gval a = .int k x) (hb : gval b = .int k y) (h : x = y) : OpT P [0, 12, t] [a, b] (.lit (.bool false)) := opt_neq ha hb (by rw [bne, beq_iff_eq.2 h]; rfl)
end
end Go.Proofs.YtmjjodficjjehabGreatDoor
set_option linter.unusedSectionVars false
namespace Go.Proofs.YtmjjodficjjehabGreatDoor
open Go Go.RowKit Nt
theorem natS_inj {m n : Nat} : natS m = natS n ↔ m = n := by
  constructor
  · intro h
    have : (natS m).toList = (natS n).toList := by rw [h]
    exact (natS_list_eq m n).1 this
  · rintro rfl; rfl
theorem Dy.ext_iff' {a b : Dy} : (a.g = b.g ∧ natS a.n = natS b.n ∧ a.x = b.x) ↔ a = b := by
  obtain ⟨g, n, x⟩ := a
  obtain ⟨g', n', x'⟩ := b
  simp [natS_inj]
theorem str_inj {s s' : ByteArray} (h : s.toList = s'.toList) : s = s' := by
  rw [ByteArray.toList_eq, ByteArray.toList_eq] at h
  obtain ⟨a⟩ := s
  obtain ⟨b⟩ := s'
  have : a = b := Array.ext' h
  rw [this]
section
variable [Env]
end
def Dy.one : Dy := ⟨false, 1, 0⟩
theorem natS_dz : natS Dy.zero.n = ⟨#[]⟩ := natS_zero
end Go.Proofs.YtmjjodficjjehabGreatDoor
namespace Go.Proofs.YtmjjodficjjehabGreatDoor
open Go Go.RowKit Nt
@[irreducible] def okP (m : Nat) (q : Int) : Bool := decide (¬ (m = 9007199254740992 ∧ q = 971))
theorem okP_iff {m : Nat} {q : Int} : okP m q = true ↔ ¬ (m = 9007199254740992 ∧ q = 971) := by unfold okP; exact decide_eq_true_iff
theorem okP_lt {m : Nat} {q : Int} (h : m < 9007199254740992) : okP m q = true := okP_iff.2 (fun c => by omega)
@[irreducible] def mkW (g : Bool) (m : Nat) (q : Int) : Nat := if okP m q = true then Bt.wf g (pk m q) else 0
theorem mkW_ok {g : Bool} {m : Nat} {q : Int} (h : okP m q = true) : mkW g m q = Bt.wf g (pk m q) := by unfold mkW; rw [if_pos h]
theorem wf_f (x : Nat) : Bt.wf false x = x := by rw [Bt.wf_eq]; rfl
theorem inf_f {m : Nat} {q : Int} (h : ¬ okP m q = true) : Bt.wf false (pk m q) = 9218868437227405312 := by
  have h := Classical.not_not.1 (fun c => h (okP_iff.2 c))
  rw [h.1, h.2, wf_f, pk_eq]; rfl
theorem inf_t {m : Nat} {q : Int} (h : ¬ okP m q = true) : Bt.wf true (pk m q) = 18442240474082181120 := by
  have h := Classical.not_not.1 (fun c => h (okP_iff.2 c))
  rw [h.1, h.2, Bt.wf_eq, if_pos rfl, Bt.topped_eq, pk_eq]; rfl
theorem pk_zero : pk 0 (-1074) = 0 := by rw [pk_eq]; rfl
theorem bMake_i (g : Bool) (m : Nat) (q : Int) (w : World) (h1 : m ≤ 9007199254740992) (hq : -1074 ≤ q) (hq2 : q ≤ 971) (hm : 4503599627370496 ≤ m ∨ q = -1074) {b : Bool} (hb : b = true ↔ okP m q = true) (hG : Globs glT w) :
    Calls Tryz.prog 109 #[.bool g, .int .u64 m, .int .i64 q] w fun e w' => e = .returned (.tuple #[.float .f64 (mkW g m q), .bool b]) ∧ Below w.heap.size w w' := by
  refine (Bt.Make_c g m (by omega) q w (tabs_of hG)).mono ?_
  rintro e w' ⟨rfl, rfl⟩
  refine ⟨?_, Below.refl _ _⟩
  rw [Bool.eq_iff_iff.2 hb]
  by_cases h0 : m = 0
  · subst h0
    obtain rfl : q = -1074 := by omega
    rw [Bt.mkF_zero, Bt.mkB_zero, mkW_ok (okP_lt (by omega)), okP_lt (by omega), pk_zero]
  · by_cases hk : m = 9007199254740992 ∧ q = 971
    · obtain ⟨rfl, rfl⟩ := hk
      have e1 : ¬ okP 9007199254740992 971 = true := fun c => okP_iff.1 c ⟨rfl, rfl⟩
      have e2 : ¬ Bt.mkOk (Bt.od 9007199254740992) ((971 : Int) + Bt.tz 9007199254740992) := by
        rintro ⟨_, _, c⟩
        have h3 := Bt.tz_spec (m := 9007199254740992) (by omega) (by omega)
        have h4 := Bt.bl_lt (m := Bt.od 9007199254740992) (Nat.lt_of_le_of_lt Bt.od_le (by omega))
        revert h3 h4 c
        generalize Bt.tz 9007199254740992 = z
        generalize Bt.od 9007199254740992 = o
        generalize Lib.bitLen o = B
        intro c h3 h4
        have h5 : 9007199254740992 < 2 ^ (B + z) := by rw [← h3.1, Nat.pow_add]; exact Nat.mul_lt_mul_of_pos_right h4 (Nat.two_pow_pos z)
        have h6 : 53 < B + z := pow_lt_of (by rw [show (2 : Nat) ^ 53 = 9007199254740992 by decide]; exact h5)
        omega
      rw [Bt.mkF_no (by omega) e2, Bt.mkB_no (by omega) e2, Bool.eq_false_iff.2 e1]
      unfold mkW; rw [if_neg e1]
    · obtain ⟨e1, e2⟩ := mk_pk (by omega) h1 hq hq2 hm hk
      have e3 : okP m q = true := okP_iff.2 hk
      rw [Bt.mkF_ok (by omega) e1, Bt.mkB_ok e1, e2, mkW_ok e3, e3]
theorem brN_of {m : Nat} (h : m < 9007199254740992) : brN m = m ∧ brB m = true := by
  have := br_lt.2 (show m < 18446744073709551616 by omega)
  exact ⟨brN_yes this, brB_yes this⟩
theorem rM_fits {n : Nat} {x : Int} (h0 : n ≠ 0) : fits (rM n x) := by
  have := br_lt.2 (show rM n x < 18446744073709551616 by have := (rM_b (x := x) h0).1; omega)
  unfold fits; omega
theorem NSmall_r (g : Bool) (n : Nat) (x : Int) (w : World) (hn : (Dy.mk g n x).Num) :
    Calls Tryz.prog 88 #[.string (natS (rM n x))] w fun e w' => e = .returned (.tuple #[.int .u64 (rM n x : Nat), .bool true]) ∧ Below w.heap.size w w' := by
  have h := Small_c (rM n x) w (rM_fits (odd_ne hn.2.1))
  obtain ⟨e1, e2⟩ := brN_of (rM_b (x := x) (odd_ne hn.2.1)).1
  rwa [e1, e2] at h
theorem NShift_r (g : Bool) (n : Nat) (x : Int) (w : World) (hn : (Dy.mk g n x).Num) (h : ¬ 1024 ≤ rT n x) :
    Calls Tryz.prog 87 #[.string (natS n), .int .i64 (-(rQ n x - x))] w fun e w' => e = .returned (.tuple #[.string (natS (rM n x)), .int .i64 0]) ∧ Below w.heap.size w w' := by
  have h0 := odd_ne hn.2.1
  have hf : fits n := hn.1
  by_cases hu : rQ n x ≤ x
  · obtain ⟨e1, _⟩ := rM_up h hu
    by_cases hs : rQ n x = x
    · have e2 : rM n x = n := by rw [e1, hs, Int.sub_self]; simp
      rw [e2, hs, Int.sub_self]
      exact NShift_stay n w hf h0
    · have hff := rM_fits (x := x) h0
      rw [e1] at hff ⊢
      have := NShift_up n (x - rQ n x).toNat w hf h0 (by omega) hff
      rw [show (((x - rQ n x).toNat : Nat) : Int) = -(rQ n x - x) by omega] at this
      exact this
  · obtain ⟨e1, _⟩ := rM_dn h hu
    rw [e1]
    by_cases hs : (rQ n x - x).toNat < nd 2 n
    · have := NShift_down n (rQ n x - x).toNat w hf h0 (by omega) hs
      rw [show (-(((rQ n x - x).toNat : Nat) : Int)) = -(rQ n x - x) by omega] at this
      exact this
    · have := NShift_far n (-(rQ n x - x)) w hf h0 (by omega) (by omega)
      rw [show n / 2 ^ (rQ n x - x).toNat = 0 from Nat.div_eq_of_lt (Nat.lt_of_lt_of_le (lt_nd (b := 2) (by omega)) (Nat.pow_le_pow_right (by omega) (by omega))), natS_zero]
      exact this
@[irreducible] def rB (n : Nat) (x : Int) : Nat := dgt 2 n ((rQ n x - x).toNat - 1)
theorem NBit_r (g : Bool) (n : Nat) (x : Int) (w : World) (hn : (Dy.mk g n x).Num) (hu : ¬ rQ n x ≤ x) :
    Calls Tryz.prog 111 #[.string (natS n), .int .i64 (rQ n x - x - 1)] w fun e w' => e = .returned (.tuple #[.int .u8 (rB n x : Nat), .int .i64 0]) ∧ Below w.heap.size w w' := by
  have hb := (rQ_b n x).2
  have hx : -1048576 ≤ x := hn.2.2.1
  have := NBit_c n ((rQ n x - x).toNat - 1) w hn.1 (by omega)
  rw [show (((rQ n x - x).toNat - 1 : Nat) : Int) = rQ n x - x - 1 by omega] at this
  unfold rB
  exact this
theorem DTop_r (g : Bool) (n : Nat) (x : Int) (w : World) (hn : (Dy.mk g n x).Num) : Calls Tryz.prog 84 #[.agg #[.bool g, .string (natS n), .int .i64 x]] w fun e w' => e = .returned (.tuple #[.int .i64 (rT n x), .bool true]) ∧ Below w.heap.size w w' := DTop_num g n x w hn.1 hn.2.1 hn.2.2.1 hn.2.2.2
theorem Least_r (g : Bool) (n : Nat) (x : Int) (w : World) (hn : (Dy.mk g n x).Num) (h : ¬ 1024 ≤ rT n x) :
    Calls Tryz.prog 86 #[.int .i64 (rT n x)] w fun e w' => e = .returned (.int .i64 (rQ n x)) ∧ Below w.heap.size w w' := by
  have e := (rQ_near h).symm
  have hx := hn.2.2
  simp only at hx
  have hr : rT n x = (nd 2 n : Int) - 1 + x := rfl
  have hw1 : wrap64 (rT n x - 52) = rT n x - 52 := IntWalk.wrap64_in _ (by omega)
  clear hr hn h
  generalize rQ n x = q at *
  generalize rT n x = t at *
  go_enter Tryz.func86, Tryz.ntmps86
  go_wp2
  go_ret
  exact ⟨rfl, Below.refl _ _⟩
theorem DCheck_dyr (a : Dy) (ha : a.Ok) (w : World) : Calls Tryz.prog 53 #[.agg #[.bool a.g, .string (natS a.n), .int .i64 a.x]] w fun e w' => e = .returned (.int .i64 0) ∧ Below w.heap.size w w' := by
  have h := DCheck_c a.t w (by have := Dy.small ha; show (natS a.n).size ≤ _; omega)
  rwa [dE_ok (fun t ht => by rw [List.mem_singleton.1 ht]; exact Dy.ok_t ha)] at h
theorem rW_dn {g : Bool} {n : Nat} {x : Int} (hn : (Dy.mk g n x).Num) (h : ¬ 1024 ≤ rT n x) (hu : ¬ rQ n x ≤ x) : rW n x = if rB n x = 0 then 1 else if rQ n x - x = 1 then 2 else 3 := by
  rw [(rM_dn h hu).2, rest_bits hn.2.1 (by omega)]
  unfold rB
  split
  · rfl
  · by_cases hk : rQ n x - x = 1
    · rw [if_pos hk, if_pos (by omega)]
    · rw [if_neg hk, if_neg (by omega)]
@[irreducible] def upNear (n : Nat) (x : Int) : Bool := decide (rW n x = 3 ∨ (rW n x = 2 ∧ rM n x % 2 = 1))
@[irreducible] def upAbove (g : Bool) (n : Nat) (x : Int) : Bool := !g && decide (rW n x ≠ 0)
@[irreducible] def upBelow (g : Bool) (n : Nat) (x : Int) : Bool := g && decide (rW n x ≠ 0)
theorem upNear_t {n : Nat} {x : Int} (h : rW n x = 3 ∨ (rW n x = 2 ∧ rM n x % 2 = 1)) : upNear n x = true := by unfold upNear; exact decide_eq_true h
theorem upNear_f {n : Nat} {x : Int} (h : ¬ (rW n x = 3 ∨ (rW n x = 2 ∧ rM n x % 2 = 1))) : upNear n x = false := by unfold upNear; exact decide_eq_false h
theorem upAbove_n (n : Nat) (x : Int) : upAbove true n x = false := by unfold upAbove; rfl
theorem upAbove_t {n : Nat} {x : Int} (h : rW n x ≠ 0) : upAbove false n x = true := by unfold upAbove; simp [h]
theorem upAbove_f {n : Nat} {x : Int} (h : rW n x = 0) : upAbove false n x = false := by unfold upAbove; simp [h]
section
variable [Env]
theorem opt_un {P : Program} {op : UnOp} {t : TypeId} {a r : AV} (hr : ground r = true) (h : ∀ w, (Op.unary op (gval a)).run P w = .ok (gval r) w) : OpT P [1, unKey op, t] [a] r := by
  refine ⟨hr, fun o xs hk ρ hρ hx w => ?_⟩
  unfold keyOf at hk
  obtain ⟨dst, o, type, pos, after, guard⟩ := o
  simp only at hk
  split at hk
  · simp only [Option.some.injEq, Prod.mk.injEq, List.cons.injEq] at hk; have := hk.1.1; omega
  · rename_i op' t' x
    simp only [Option.some.injEq, Prod.mk.injEq, List.cons.injEq, and_true, true_and] at hk
    obtain ⟨⟨h1, h2⟩, h3⟩ := hk
    subst h2 h3
    have ho : op' = op := by cases op' <;> cases op <;> first | rfl | cases h1
    subst ho
    simp only [List.map_cons, List.map_nil, List.cons.injEq, and_true] at hx
    have := h w
    simp only [execOp, hx, Sem.run_bind, Sem.run_pure] at this ⊢
    rw [this]; rfl
  all_goals first
    | (simp only [Option.some.injEq, Prod.mk.injEq, List.cons.injEq] at hk; have := hk.1.1; omega)
    | (split at hk <;> first | cases hk | (simp only [Option.some.injEq, Prod.mk.injEq, List.cons.injEq] at hk; have := hk.1.1; omega))
    | cases hk
theorem opt_sub {P : Program} {t : TypeId} {a b r : AV} {x y z : Int} (ha : gval a = .int .i64 x) (hb : gval b = .int .i64 y) (hr : ground r = true) (hv : gval r = .int .i64 z) (h : x - y = z) (h1 : -9223372036854775808 ≤ z ∧ z ≤ 9223372036854775807) : OpT P [0, 1, t] [a, b] r :=
  opt_int (op := .sub) ha hb hr hv fun w => by
    have : IntKind.i64.wrap (x - y) = z := by rw [h]; exact IntWalk.i64_in _ h1
    simp [binOp, Op.intArith, this]
theorem opt_neg {P : Program} {t : TypeId} {a r : AV} {x z : Int} (ha : gval a = .int .i64 x) (hr : ground r = true) (hv : gval r = .int .i64 z) (h : -x = z) (h1 : -9223372036854775808 ≤ z ∧ z ≤ 9223372036854775807) : OpT P [1, 0, t] [a] r :=
  opt_un (op := .neg) hr fun w => by
    have : IntKind.i64.wrap (0 - x) = z := by rw [Int.zero_sub, h]; exact IntWalk.i64_in _ h1
    rw [ha, hv]; simp only [Op.unary, Op.intArith, this]; rfl
theorem opt_add64 {P : Program} {t : TypeId} {a b r : AV} {x y z : Nat} (ha : gval a = .int .u64 x) (hb : gval b = .int .u64 y) (hr : ground r = true) (hv : gval r = .int .u64 z) (h : x + y = z) (h1 : z < 18446744073709551616) : OpT P [0, 0, t] [a, b] r :=
  opt_int (op := .add) ha hb hr hv fun w => by
    have : IntKind.u64.wrap ((x : Int) + (y : Int)) = z := by rw [IntKind.wrap_u64]; omega
    simp [binOp, Op.intArith, this]
theorem opt_odd {P : Program} {t : TypeId} {a b r : AV} {x : Nat} (ha : gval a = .int .u64 x) (hb : gval b = .int .u64 1) (hr : ground r = true) (hv : gval r = .int .u64 (x % 2 : Nat)) (h1 : x < 18446744073709551616) : OpT P [0, 5, t] [a, b] r :=
  opt_int (op := .and) ha hb hr hv fun w => by
    have : bits BinOp.and IntKind.u64 (x : Int) 1 = ((x % 2 : Nat) : Int) := by
      have e1 : (BitVec.ofInt 64 (x : Int)).toNat = x := by
        rw [BitVec.ofInt_natCast, BitVec.toNat_ofNat]; exact Nat.mod_eq_of_lt (by omega)
      have e2 : (BitVec.ofInt 64 (1 : Int)).toNat = 1 := by decide
      show IntKind.u64.wrap ((BitVec.ofInt 64 (x : Int) &&& BitVec.ofInt 64 (1 : Int)).toNat : Int) = _
      rw [BitVec.toNat_and, e1, e2, Nat.and_one_is_mod, IntKind.wrap_u64]
      omega
    go_simp
end
end Go.Proofs.YtmjjodficjjehabGreatDoor
namespace Go.Proofs.YtmjjodficjjehabGreatDoor
open Go Go.RowKit Nt
@[reducible] def DNear_far_f_f : FuncId := 44
@[reducible] def DNear_far_f_a : List AV := [.agg [.lit (.bool false), .sym 0, .sym 1]]
@[reducible] noncomputable def DNear_far_f_k (b1 b2 : Bool) : Know := ⟨[([0, 15, 3], [.sym 2, .lit (.int .i64 1023)], .lit (.bool b2))],
  [(53, [.agg [.lit (.bool false), .sym 0, .sym 1]], .lit (.int .i64 0)),
  (84, [.agg [.lit (.bool false), .sym 0, .sym 1]], .tup [.sym 2, .lit (.bool true)]),
  (109, [.lit (.bool false), .lit (.int .u64 9007199254740992), .lit (.int .i64 971)], .tup [.sym 3, .lit (.bool b1)])]⟩
theorem DNear_far_f_r1 : @comes (DNear_far_f_k false true) Tryz.prog glT 3000 DNear_far_f_f DNear_far_f_a = some (.lit (.tuple #[.float .f64 9218868437227405312, .int .i64 0])) := by kernel_rfl
set_option maxRecDepth 100000 in
set_option maxHeartbeats 4000000 in
theorem DNear_far_f (n : Nat) (x : Int) (w : World) (hn : (Dy.mk false n x).Num) (h : 1024 ≤ rT n x) (hG : Globs glT w) : Calls Tryz.prog 44 #[.agg #[.bool false, .string (natS n), .int .i64 x]] w fun e w' => e = .returned (.tuple #[.float .f64 (rnd false n x (upNear n x)), .int .i64 0]) ∧ Below w.heap.size w w' := by
  obtain ⟨b1, i1⟩ := bex (okP 9007199254740992 971 = true)
  obtain ⟨b2, i2⟩ := bex (rT n x > 1023)
  letI : Env := mkEnv glT [.string (natS n), .int .i64 x, .int .i64 (rT n x), .float .f64 (mkW false 9007199254740992 971)] rfl
  have hops : OpsT Tryz.prog (@Know.ops (DNear_far_f_k b1 b2)) := ⟨opt_gtr_i rfl rfl i2,
    trivial⟩
  have hcalls : CallsT Tryz.prog (@Know.calls (DNear_far_f_k b1 b2)) := ⟨callt rfl rfl fun w hG => DCheck_dyr (Dy.mk false n x) (Or.inr hn) w,
    callt rfl rfl fun w hG => DTop_r false n x w hn,
    callt rfl rfl fun w hG => bMake_i false 9007199254740992 971 w (by omega) (by omega) (by omega) (Or.inl (by omega)) i1 hG,
    trivial⟩
  have fin : ∀ v, @comes (DNear_far_f_k b1 b2) Tryz.prog glT 3000 DNear_far_f_f DNear_far_f_a = some v → ground v = true → Ending.returned (gval v) = .returned (.tuple #[.float .f64 (rnd false n x (upNear n x)), .int .i64 0]) → Calls Tryz.prog 44 #[.agg #[.bool false, .string (natS n), .int .i64 x]] w fun e w' => e = .returned (.tuple #[.float .f64 (rnd false n x (upNear n x)), .int .i64 0]) ∧ Below w.heap.size w w' := fun v h1 h2 h3 => (@sym_ok _ (DNear_far_f_k b1 b2) _ (@KnowOk.of _ (DNear_far_f_k b1 b2) _ hops hcalls) (by kernel_rfl) _ _ _ _ h1 rfl h2 _ hG).mono fun e w' h => ⟨h.1.trans h3, h.2⟩
  clear hops hcalls
  cases b1 with
  | true =>
    exact absurd (i1.1 rfl) (fun c => okP_iff.1 c ⟨rfl, rfl⟩)
  | false =>
    have h1 : ¬ (okP 9007199254740992 971 = true) := fun c => Bool.false_ne_true (i1.2 c)
    cases b2 with
    | true =>
      have h2 : rT n x > 1023 := i2.1 rfl
      exact fin _ (DNear_far_f_r1) rfl (show Ending.returned (.tuple #[.float .f64 9218868437227405312, .int .i64 0]) = .returned (.tuple #[.float .f64 (rnd false n x (upNear n x)), .int .i64 0]) from by rw [upNear_t (Or.inl (rQ_far h).2.2), rnd_t, (rQ_far h).1, (rQ_far h).2.1, inf_f h1])
    | false =>
      exact absurd (i2.2 ((by omega))) Bool.false_ne_true
@[reducible] def DNear_up_f_f : FuncId := 44
@[reducible] def DNear_up_f_a : List AV := [.agg [.lit (.bool false), .sym 0, .sym 1]]
@[reducible] noncomputable def DNear_up_f_k (b1 b2 b3 : Bool) : Know := ⟨[([0, 15, 3], [.sym 2, .lit (.int .i64 1023)], .lit (.bool b1)),
  ([0, 1, 3], [.sym 3, .sym 1], .sym 4),
  ([1, 0, 3], [.sym 4], .sym 5),
  ([0, 14, 3], [.sym 4, .lit (.int .i64 0)], .lit (.bool b3))],
  [(53, [.agg [.lit (.bool false), .sym 0, .sym 1]], .lit (.int .i64 0)),
  (84, [.agg [.lit (.bool false), .sym 0, .sym 1]], .tup [.sym 2, .lit (.bool true)]),
  (86, [.sym 2], .sym 3),
  (87, [.sym 0, .sym 5], .tup [.sym 6, .lit (.int .i64 0)]),
  (88, [.sym 6], .tup [.sym 7, .lit (.bool true)]),
  (109, [.lit (.bool false), .sym 7, .sym 3], .tup [.sym 8, .lit (.bool b2)])]⟩
theorem DNear_up_f_r1 : @comes (DNear_up_f_k false true true) Tryz.prog glT 3000 DNear_up_f_f DNear_up_f_a = some (.tup [.sym 8, .lit (.int .i64 0)]) := by kernel_rfl
set_option maxRecDepth 100000 in
set_option maxHeartbeats 4000000 in
theorem DNear_up_f (n : Nat) (x : Int) (w : World) (hn : (Dy.mk false n x).Num) (h : ¬ 1024 ≤ rT n x) (hu : rQ n x ≤ x) (hG : Globs glT w) : Calls Tryz.prog 44 #[.agg #[.bool false, .string (natS n), .int .i64 x]] w fun e w' => e = .returned (.tuple #[.float .f64 (rnd false n x (upNear n x)), .int .i64 0]) ∧ Below w.heap.size w w' := by
  obtain ⟨b1, i1⟩ := bex (rT n x > 1023)
  obtain ⟨b2, i2⟩ := bex (okP (rM n x) (rQ n x) = true)
  obtain ⟨b3, i3⟩ := bex (rQ n x - x ≤ 0)
  letI : Env := mkEnv glT [.string (natS n), .int .i64 x, .int .i64 (rT n x), .int .i64 (rQ n x), .int .i64 (rQ n x - x), .int .i64 (-(rQ n x - x)), .string (natS (rM n x)), .int .u64 (((rM n x : Nat) : Int)), .float .f64 (mkW false (rM n x) (rQ n x))] rfl
  have hops : OpsT Tryz.prog (@Know.ops (DNear_up_f_k b1 b2 b3)) := ⟨opt_gtr_i rfl rfl i1,
    opt_sub rfl rfl rfl rfl rfl (by have := (rQ_b n x); have := hn.2.2.1; have := hn.2.2.2; simp only at *; omega),
    opt_neg rfl rfl rfl rfl (by have := (rQ_b n x); have := hn.2.2.1; have := hn.2.2.2; simp only at *; omega),
    opt_leq_i rfl rfl i3,
    trivial⟩
  have hcalls : CallsT Tryz.prog (@Know.calls (DNear_up_f_k b1 b2 b3)) := ⟨callt rfl rfl fun w hG => DCheck_dyr (Dy.mk false n x) (Or.inr hn) w,
    callt rfl rfl fun w hG => DTop_r false n x w hn,
    callt rfl rfl fun w hG => Least_r false n x w hn h,
    callt rfl rfl fun w hG => NShift_r false n x w hn h,
    callt rfl rfl fun w hG => NSmall_r false n x w hn,
    callt rfl rfl fun w hG => bMake_i false (rM n x) (rQ n x) w (Nat.le_of_lt (rM_b (x := x) (odd_ne hn.2.1)).1) (rQ_b n x).1 (rQ_b n x).2 (rM_b (x := x) (odd_ne hn.2.1)).2 i2 hG,
    trivial⟩
  have fin : ∀ v, @comes (DNear_up_f_k b1 b2 b3) Tryz.prog glT 3000 DNear_up_f_f DNear_up_f_a = some v → ground v = true → Ending.returned (gval v) = .returned (.tuple #[.float .f64 (rnd false n x (upNear n x)), .int .i64 0]) → Calls Tryz.prog 44 #[.agg #[.bool false, .string (natS n), .int .i64 x]] w fun e w' => e = .returned (.tuple #[.float .f64 (rnd false n x (upNear n x)), .int .i64 0]) ∧ Below w.heap.size w w' := fun v h1 h2 h3 => (@sym_ok _ (DNear_up_f_k b1 b2 b3) _ (@KnowOk.of _ (DNear_up_f_k b1 b2 b3) _ hops hcalls) (by kernel_rfl) _ _ _ _ h1 rfl h2 _ hG).mono fun e w' h => ⟨h.1.trans h3, h.2⟩
  clear hops hcalls
  cases b2 with
  | true =>
    have h2 : okP (rM n x) (rQ n x) = true := i2.1 rfl
    cases b1 with
    | true =>
      exact absurd (i1.1 rfl) ((by omega))
    | false =>
      have h1 : ¬ (rT n x > 1023) := fun c => Bool.false_ne_true (i1.2 c)
      cases b3 with
      | true =>
        have h3 : rQ n x - x ≤ 0 := i3.1 rfl
        exact fin _ (DNear_up_f_r1) rfl (show Ending.returned (.tuple #[.float .f64 (mkW false (rM n x) (rQ n x)), .int .i64 0]) = .returned (.tuple #[.float .f64 (rnd false n x (upNear n x)), .int .i64 0]) from by rw [upNear_f (by rw [(rM_up h hu).2]; omega), rnd_f, mkW_ok h2])
      | false =>
        exact absurd (i3.2 ((by omega))) Bool.false_ne_true
  | false =>
    exact absurd (i2.2 (okP_lt (rM_b (x := x) (odd_ne hn.2.1)).1)) Bool.false_ne_true
@[reducible] def DNear_dn_f_f : FuncId := 44
@[reducible] def DNear_dn_f_a : List AV := [.agg [.lit (.bool false), .sym 0, .sym 1]]
@[reducible] noncomputable def DNear_dn_f_k (b1 b2 b3 b4 b5 b6 b7 : Bool) : Know := ⟨[([0, 15, 3], [.sym 2, .lit (.int .i64 1023)], .lit (.bool b1)),
  ([0, 1, 3], [.sym 3, .sym 1], .sym 4),
  ([1, 0, 3], [.sym 4], .sym 5),
  ([0, 14, 3], [.sym 4, .lit (.int .i64 0)], .lit (.bool b3)),
  ([0, 1, 3], [.sym 4, .lit (.int .i64 1)], .sym 9),
  ([0, 11, 5], [.sym 10, .lit (.int .u8 0)], .lit (.bool b4)),
  ([0, 5, 69], [.sym 7, .lit (.int .u64 1)], .sym 11),
  ([0, 11, 69], [.sym 11, .lit (.int .u64 1)], .lit (.bool b5)),
  ([0, 11, 3], [.sym 4, .lit (.int .i64 1)], .lit (.bool b6)),
  ([0, 0, 69], [.sym 7, .lit (.int .u64 1)], .sym 12)],
  [(53, [.agg [.lit (.bool false), .sym 0, .sym 1]], .lit (.int .i64 0)),
  (84, [.agg [.lit (.bool false), .sym 0, .sym 1]], .tup [.sym 2, .lit (.bool true)]),
  (86, [.sym 2], .sym 3),
  (87, [.sym 0, .sym 5], .tup [.sym 6, .lit (.int .i64 0)]),
  (88, [.sym 6], .tup [.sym 7, .lit (.bool true)]),
  (109, [.lit (.bool false), .sym 7, .sym 3], .tup [.sym 8, .lit (.bool b2)]),
  (111, [.sym 0, .sym 9], .tup [.sym 10, .lit (.int .i64 0)]),
  (109, [.lit (.bool false), .sym 12, .sym 3], .tup [.sym 13, .lit (.bool b7)])]⟩
theorem DNear_dn_f_r1 (b6 b7 : Bool) : @comes (DNear_dn_f_k false true false true true b6 b7) Tryz.prog glT 3000 DNear_dn_f_f DNear_dn_f_a = some (.tup [.sym 8, .lit (.int .i64 0)]) := by kernel_rfl
theorem DNear_dn_f_r2 (b6 b7 : Bool) : @comes (DNear_dn_f_k false true false true false b6 b7) Tryz.prog glT 3000 DNear_dn_f_f DNear_dn_f_a = some (.tup [.sym 8, .lit (.int .i64 0)]) := by kernel_rfl
theorem DNear_dn_f_r3 (b2 : Bool) : @comes (DNear_dn_f_k false b2 false false true true true) Tryz.prog glT 3000 DNear_dn_f_f DNear_dn_f_a = some (.tup [.sym 13, .lit (.int .i64 0)]) := by kernel_rfl
theorem DNear_dn_f_r4 (b2 : Bool) : @comes (DNear_dn_f_k false b2 false false true true false) Tryz.prog glT 3000 DNear_dn_f_f DNear_dn_f_a = some (.lit (.tuple #[.float .f64 9218868437227405312, .int .i64 0])) := by kernel_rfl
theorem DNear_dn_f_r5 (b7 : Bool) : @comes (DNear_dn_f_k false true false false false true b7) Tryz.prog glT 3000 DNear_dn_f_f DNear_dn_f_a = some (.tup [.sym 8, .lit (.int .i64 0)]) := by kernel_rfl
theorem DNear_dn_f_r6 (b2 : Bool) : @comes (DNear_dn_f_k false b2 false false true false true) Tryz.prog glT 3000 DNear_dn_f_f DNear_dn_f_a = some (.tup [.sym 13, .lit (.int .i64 0)]) := by kernel_rfl
theorem DNear_dn_f_r7 (b2 : Bool) : @comes (DNear_dn_f_k false b2 false false true false false) Tryz.prog glT 3000 DNear_dn_f_f DNear_dn_f_a = some (.lit (.tuple #[.float .f64 9218868437227405312, .int .i64 0])) := by kernel_rfl
theorem DNear_dn_f_r8 (b2 : Bool) : @comes (DNear_dn_f_k false b2 false false false false true) Tryz.prog glT 3000 DNear_dn_f_f DNear_dn_f_a = some (.tup [.sym 13, .lit (.int .i64 0)]) := by kernel_rfl
theorem DNear_dn_f_r9 (b2 : Bool) : @comes (DNear_dn_f_k false b2 false false false false false) Tryz.prog glT 3000 DNear_dn_f_f DNear_dn_f_a = some (.lit (.tuple #[.float .f64 9218868437227405312, .int .i64 0])) := by kernel_rfl
set_option maxRecDepth 100000 in
set_option maxHeartbeats 4000000 in
theorem DNear_dn_f (n : Nat) (x : Int) (w : World) (hn : (Dy.mk false n x).Num) (h : ¬ 1024 ≤ rT n x) (hu : ¬ rQ n x ≤ x) (hG : Globs glT w) : Calls Tryz.prog 44 #[.agg #[.bool false, .string (natS n), .int .i64 x]] w fun e w' => e = .returned (.tuple #[.float .f64 (rnd false n x (upNear n x)), .int .i64 0]) ∧ Below w.heap.size w w' := by
  obtain ⟨b1, i1⟩ := bex (rT n x > 1023)
  obtain ⟨b2, i2⟩ := bex (okP (rM n x) (rQ n x) = true)
  obtain ⟨b3, i3⟩ := bex (rQ n x - x ≤ 0)
  obtain ⟨b4, i4⟩ := bex (((rB n x : Nat) : Int) = 0)
  obtain ⟨b5, i5⟩ := bex (((rM n x % 2 : Nat) : Int) = 1)
  obtain ⟨b6, i6⟩ := bex (rQ n x - x = 1)
  obtain ⟨b7, i7⟩ := bex (okP (rM n x + 1) (rQ n x) = true)
  letI : Env := mkEnv glT [.string (natS n), .int .i64 x, .int .i64 (rT n x), .int .i64 (rQ n x), .int .i64 (rQ n x - x), .int .i64 (-(rQ n x - x)), .string (natS (rM n x)), .int .u64 (((rM n x : Nat) : Int)), .float .f64 (mkW false (rM n x) (rQ n x)), .int .i64 (rQ n x - x - 1), .int .u8 (((rB n x : Nat) : Int)), .int .u64 (((rM n x % 2 : Nat) : Int)), .int .u64 (((rM n x + 1 : Nat) : Int)), .float .f64 (mkW false (rM n x + 1) (rQ n x))] rfl
  have hops : OpsT Tryz.prog (@Know.ops (DNear_dn_f_k b1 b2 b3 b4 b5 b6 b7)) := ⟨opt_gtr_i rfl rfl i1,
    opt_sub rfl rfl rfl rfl rfl (by have := (rQ_b n x); have := hn.2.2.1; have := hn.2.2.2; simp only at *; omega),
    opt_neg rfl rfl rfl rfl (by have := (rQ_b n x); have := hn.2.2.1; have := hn.2.2.2; simp only at *; omega),
    opt_leq_i rfl rfl i3,
    opt_sub rfl rfl rfl rfl rfl (by have := (rQ_b n x); have := hn.2.2.1; have := hn.2.2.2; simp only at *; omega),
    opt_eql_i rfl rfl i4,
    opt_odd rfl rfl rfl rfl (by have : rM n x < 9007199254740992 := (rM_b (x := x) (odd_ne hn.2.1)).1; omega),
    opt_eql_i rfl rfl i5,
    opt_eql_i rfl rfl i6,
    opt_add64 (y := 1) rfl rfl rfl rfl rfl (by have : rM n x < 9007199254740992 := (rM_b (x := x) (odd_ne hn.2.1)).1; omega),
    trivial⟩
  have hcalls : CallsT Tryz.prog (@Know.calls (DNear_dn_f_k b1 b2 b3 b4 b5 b6 b7)) := ⟨callt rfl rfl fun w hG => DCheck_dyr (Dy.mk false n x) (Or.inr hn) w,
    callt rfl rfl fun w hG => DTop_r false n x w hn,
    callt rfl rfl fun w hG => Least_r false n x w hn h,
    callt rfl rfl fun w hG => NShift_r false n x w hn h,
    callt rfl rfl fun w hG => NSmall_r false n x w hn,
    callt rfl rfl fun w hG => bMake_i false (rM n x) (rQ n x) w (Nat.le_of_lt (rM_b (x := x) (odd_ne hn.2.1)).1) (rQ_b n x).1 (rQ_b n x).2 (rM_b (x := x) (odd_ne hn.2.1)).2 i2 hG,
    callt rfl rfl fun w hG => NBit_r false n x w hn hu,
    callt rfl rfl fun w hG => bMake_i false (rM n x + 1) (rQ n x) w (rM_b (x := x) (odd_ne hn.2.1)).1 (rQ_b n x).1 (rQ_b n x).2 ((rM_b (x := x) (odd_ne hn.2.1)).2.imp (fun h => Nat.le_succ_of_le h) id) i7 hG,
    trivial⟩
  have fin : ∀ v, @comes (DNear_dn_f_k b1 b2 b3 b4 b5 b6 b7) Tryz.prog glT 3000 DNear_dn_f_f DNear_dn_f_a = some v → ground v = true → Ending.returned (gval v) = .returned (.tuple #[.float .f64 (rnd false n x (upNear n x)), .int .i64 0]) → Calls Tryz.prog 44 #[.agg #[.bool false, .string (natS n), .int .i64 x]] w fun e w' => e = .returned (.tuple #[.float .f64 (rnd false n x (upNear n x)), .int .i64 0]) ∧ Below w.heap.size w w' := fun v h1 h2 h3 => (@sym_ok _ (DNear_dn_f_k b1 b2 b3 b4 b5 b6 b7) _ (@KnowOk.of _ (DNear_dn_f_k b1 b2 b3 b4 b5 b6 b7) _ hops hcalls) (by kernel_rfl) _ _ _ _ h1 rfl h2 _ hG).mono fun e w' h => ⟨h.1.trans h3, h.2⟩
  clear hops hcalls
  cases b4 with
  | true =>
    have h4 : ((rB n x : Nat) : Int) = 0 := i4.1 rfl
    cases b5 with
    | true =>
      have h5 : ((rM n x % 2 : Nat) : Int) = 1 := i5.1 rfl
      cases b2 with
      | true =>
        have h2 : okP (rM n x) (rQ n x) = true := i2.1 rfl
        cases b1 with
        | true =>
          exact absurd (i1.1 rfl) ((by omega))
        | false =>
          have h1 : ¬ (rT n x > 1023) := fun c => Bool.false_ne_true (i1.2 c)
          cases b3 with
          | true =>
            exact absurd (i3.1 rfl) ((by omega))
          | false =>
            have h3 : ¬ (rQ n x - x ≤ 0) := fun c => Bool.false_ne_true (i3.2 c)
            exact fin _ (DNear_dn_f_r1 b6 b7) rfl (show Ending.returned (.tuple #[.float .f64 (mkW false (rM n x) (rQ n x)), .int .i64 0]) = .returned (.tuple #[.float .f64 (rnd false n x (upNear n x)), .int .i64 0]) from by rw [upNear_f (by rw [(show rW n x = 1 from (by rw [rW_dn hn h hu, if_pos (by have := h4; omega)]))]; omega), rnd_f, mkW_ok h2])
      | false =>
        exact absurd (i2.2 (okP_lt (rM_b (x := x) (odd_ne hn.2.1)).1)) Bool.false_ne_true
    | false =>
      have h5 : ¬ (((rM n x % 2 : Nat) : Int) = 1) := fun c => Bool.false_ne_true (i5.2 c)
      cases b2 with
      | true =>
        have h2 : okP (rM n x) (rQ n x) = true := i2.1 rfl
        cases b1 with
        | true =>
          exact absurd (i1.1 rfl) ((by omega))
        | false =>
          have h1 : ¬ (rT n x > 1023) := fun c => Bool.false_ne_true (i1.2 c)
          cases b3 with
          | true =>
            exact absurd (i3.1 rfl) ((by omega))
          | false =>
            have h3 : ¬ (rQ n x - x ≤ 0) := fun c => Bool.false_ne_true (i3.2 c)
            exact fin _ (DNear_dn_f_r2 b6 b7) rfl (show Ending.returned (.tuple #[.float .f64 (mkW false (rM n x) (rQ n x)), .int .i64 0]) = .returned (.tuple #[.float .f64 (rnd false n x (upNear n x)), .int .i64 0]) from by rw [upNear_f (by rw [(show rW n x = 1 from (by rw [rW_dn hn h hu, if_pos (by have := h4; omega)]))]; omega), rnd_f, mkW_ok h2])
      | false =>
        exact absurd (i2.2 (okP_lt (rM_b (x := x) (odd_ne hn.2.1)).1)) Bool.false_ne_true
  | false =>
    have h4 : ¬ (((rB n x : Nat) : Int) = 0) := fun c => Bool.false_ne_true (i4.2 c)
    cases b6 with
    | true =>
      have h6 : rQ n x - x = 1 := i6.1 rfl
      cases b5 with
      | true =>
        have h5 : ((rM n x % 2 : Nat) : Int) = 1 := i5.1 rfl
        cases b7 with
        | true =>
          have h7 : okP (rM n x + 1) (rQ n x) = true := i7.1 rfl
          cases b1 with
          | true =>
            exact absurd (i1.1 rfl) ((by omega))
          | false =>
            have h1 : ¬ (rT n x > 1023) := fun c => Bool.false_ne_true (i1.2 c)
            cases b3 with
            | true =>
              exact absurd (i3.1 rfl) ((by omega))
            | false =>
              have h3 : ¬ (rQ n x - x ≤ 0) := fun c => Bool.false_ne_true (i3.2 c)
              exact fin _ (DNear_dn_f_r3 b2) rfl (show Ending.returned (.tuple #[.float .f64 (mkW false (rM n x + 1) (rQ n x)), .int .i64 0]) = .returned (.tuple #[.float .f64 (rnd false n x (upNear n x)), .int .i64 0]) from by rw [upNear_t (Or.inr ⟨(show rW n x = 2 from (by rw [rW_dn hn h hu, if_neg (fun c => h4 (by rw [c]; rfl)), if_pos h6])), by have := h5; omega⟩), rnd_t, mkW_ok h7])
        | false =>
          have h7 : ¬ (okP (rM n x + 1) (rQ n x) = true) := fun c => Bool.false_ne_true (i7.2 c)
          cases b1 with
          | true =>
            exact absurd (i1.1 rfl) ((by omega))
          | false =>
            have h1 : ¬ (rT n x > 1023) := fun c => Bool.false_ne_true (i1.2 c)
            cases b3 with
            | true =>
              exact absurd (i3.1 rfl) ((by omega))
            | false =>
              have h3 : ¬ (rQ n x - x ≤ 0) := fun c => Bool.false_ne_true (i3.2 c)
              exact fin _ (DNear_dn_f_r4 b2) rfl (show Ending.returned (.tuple #[.float .f64 9218868437227405312, .int .i64 0]) = .returned (.tuple #[.float .f64 (rnd false n x (upNear n x)), .int .i64 0]) from by rw [upNear_t (Or.inr ⟨(show rW n x = 2 from (by rw [rW_dn hn h hu, if_neg (fun c => h4 (by rw [c]; rfl)), if_pos h6])), by have := h5; omega⟩), rnd_t, inf_f h7])
      | false =>
        have h5 : ¬ (((rM n x % 2 : Nat) : Int) = 1) := fun c => Bool.false_ne_true (i5.2 c)
        cases b2 with
        | true =>
          have h2 : okP (rM n x) (rQ n x) = true := i2.1 rfl
          cases b1 with
          | true =>
            exact absurd (i1.1 rfl) ((by omega))
          | false =>
            have h1 : ¬ (rT n x > 1023) := fun c => Bool.false_ne_true (i1.2 c)
            cases b3 with
            | true =>
              exact absurd (i3.1 rfl) ((by omega))
            | false =>
              have h3 : ¬ (rQ n x - x ≤ 0) := fun c => Bool.false_ne_true (i3.2 c)
              exact fin _ (DNear_dn_f_r5 b7) rfl (show Ending.returned (.tuple #[.float .f64 (mkW false (rM n x) (rQ n x)), .int .i64 0]) = .returned (.tuple #[.float .f64 (rnd false n x (upNear n x)), .int .i64 0]) from by rw [upNear_f (fun c => by rcases c with c | ⟨_, c⟩; exact absurd ((show rW n x = 2 from (by rw [rW_dn hn h hu, if_neg (fun c => h4 (by rw [c]; rfl)), if_pos h6])).symm.trans c) (by decide); exact h5 (by rw [c]; rfl)), rnd_f, mkW_ok h2])
        | false =>
          exact absurd (i2.2 (okP_lt (rM_b (x := x) (odd_ne hn.2.1)).1)) Bool.false_ne_true
    | false =>
      have h6 : ¬ (rQ n x - x = 1) := fun c => Bool.false_ne_true (i6.2 c)
      cases b5 with
      | true =>
        have h5 : ((rM n x % 2 : Nat) : Int) = 1 := i5.1 rfl
        cases b7 with
        | true =>
          have h7 : okP (rM n x + 1) (rQ n x) = true := i7.1 rfl
          cases b1 with
          | true =>
            exact absurd (i1.1 rfl) ((by omega))
          | false =>
            have h1 : ¬ (rT n x > 1023) := fun c => Bool.false_ne_true (i1.2 c)
            cases b3 with
            | true =>
              exact absurd (i3.1 rfl) ((by omega))
            | false =>
              have h3 : ¬ (rQ n x - x ≤ 0) := fun c => Bool.false_ne_true (i3.2 c)
              exact fin _ (DNear_dn_f_r6 b2) rfl (show Ending.returned (.tuple #[.float .f64 (mkW false (rM n x + 1) (rQ n x)), .int .i64 0]) = .returned (.tuple #[.float .f64 (rnd false n x (upNear n x)), .int .i64 0]) from by rw [upNear_t (Or.inl (show rW n x = 3 from (by rw [rW_dn hn h hu, if_neg (fun c => h4 (by rw [c]; rfl)), if_neg h6]))), rnd_t, mkW_ok h7])
        | false =>
          have h7 : ¬ (okP (rM n x + 1) (rQ n x) = true) := fun c => Bool.false_ne_true (i7.2 c)
          cases b1 with
          | true =>
            exact absurd (i1.1 rfl) ((by omega))
          | false =>
            have h1 : ¬ (rT n x > 1023) := fun c => Bool.false_ne_true (i1.2 c)
            cases b3 with
            | true =>
              exact absurd (i3.1 rfl) ((by omega))
            | false =>
              have h3 : ¬ (rQ n x - x ≤ 0) := fun c => Bool.false_ne_true (i3.2 c)
              exact fin _ (DNear_dn_f_r7 b2) rfl (show Ending.returned (.tuple #[.float .f64 9218868437227405312, .int .i64 0]) = .returned (.tuple #[.float .f64 (rnd false n x (upNear n x)), .int .i64 0]) from by rw [upNear_t (Or.inl (show rW n x = 3 from (by rw [rW_dn hn h hu, if_neg (fun c => h4 (by rw [c]; rfl)), if_neg h6]))), rnd_t, inf_f h7])
      | false =>
        have h5 : ¬ (((rM n x % 2 : Nat) : Int) = 1) := fun c => Bool.false_ne_true (i5.2 c)
        cases b7 with
        | true =>
          have h7 : okP (rM n x + 1) (rQ n x) = true := i7.1 rfl
          cases b1 with
          | true =>
            exact absurd (i1.1 rfl) ((by omega))
          | false =>
            have h1 : ¬ (rT n x > 1023) := fun c => Bool.false_ne_true (i1.2 c)
            cases b3 with
            | true =>
              exact absurd (i3.1 rfl) ((by omega))
            | false =>
              have h3 : ¬ (rQ n x - x ≤ 0) := fun c => Bool.false_ne_true (i3.2 c)
              exact fin _ (DNear_dn_f_r8 b2) rfl (show Ending.returned (.tuple #[.float .f64 (mkW false (rM n x + 1) (rQ n x)), .int .i64 0]) = .returned (.tuple #[.float .f64 (rnd false n x (upNear n x)), .int .i64 0]) from by rw [upNear_t (Or.inl (show rW n x = 3 from (by rw [rW_dn hn h hu, if_neg (fun c => h4 (by rw [c]; rfl)), if_neg h6]))), rnd_t, mkW_ok h7])
        | false =>
          have h7 : ¬ (okP (rM n x + 1) (rQ n x) = true) := fun c => Bool.false_ne_true (i7.2 c)
          cases b1 with
          | true =>
            exact absurd (i1.1 rfl) ((by omega))
          | false =>
            have h1 : ¬ (rT n x > 1023) := fun c => Bool.false_ne_true (i1.2 c)
            cases b3 with
            | true =>
              exact absurd (i3.1 rfl) ((by omega))
            | false =>
              have h3 : ¬ (rQ n x - x ≤ 0) := fun c => Bool.false_ne_true (i3.2 c)
              exact fin _ (DNear_dn_f_r9 b2) rfl (show Ending.returned (.tuple #[.float .f64 9218868437227405312, .int .i64 0]) = .returned (.tuple #[.float .f64 (rnd false n x (upNear n x)), .int .i64 0]) from by rw [upNear_t (Or.inl (show rW n x = 3 from (by rw [rW_dn hn h hu, if_neg (fun c => h4 (by rw [c]; rfl)), if_neg h6]))), rnd_t, inf_f h7])
theorem DNear_f (n : Nat) (x : Int) (w : World) (hn : (Dy.mk false n x).Num) (hG : Globs glT w) : Calls Tryz.prog 44 #[.agg #[.bool false, .string (natS n), .int .i64 x]] w fun e w' => e = .returned (.tuple #[.float .f64 (rnd false n x (upNear n x)), .int .i64 0]) ∧ Below w.heap.size w w' := by
  by_cases h : 1024 ≤ rT n x
  · exact DNear_far_f n x w hn h hG
  · by_cases hu : rQ n x ≤ x
    · exact DNear_up_f n x w hn h hu hG
    · exact DNear_dn_f n x w hn h hu hG
@[reducible] def DNear_far_t_f : FuncId := 44
@[reducible] def DNear_far_t_a : List AV := [.agg [.lit (.bool true), .sym 0, .sym 1]]
@[reducible] noncomputable def DNear_far_t_k (b1 b2 : Bool) : Know := ⟨[([0, 15, 3], [.sym 2, .lit (.int .i64 1023)], .lit (.bool b2))],
  [(53, [.agg [.lit (.bool true), .sym 0, .sym 1]], .lit (.int .i64 0)),
  (84, [.agg [.lit (.bool true), .sym 0, .sym 1]], .tup [.sym 2, .lit (.bool true)]),
  (109, [.lit (.bool true), .lit (.int .u64 9007199254740992), .lit (.int .i64 971)], .tup [.sym 3, .lit (.bool b1)])]⟩
theorem DNear_far_t_r1 : @comes (DNear_far_t_k false true) Tryz.prog glT 3000 DNear_far_t_f DNear_far_t_a = some (.lit (.tuple #[.float .f64 18442240474082181120, .int .i64 0])) := by kernel_rfl
set_option maxRecDepth 100000 in
set_option maxHeartbeats 4000000 in
theorem DNear_far_t (n : Nat) (x : Int) (w : World) (hn : (Dy.mk true n x).Num) (h : 1024 ≤ rT n x) (hG : Globs glT w) : Calls Tryz.prog 44 #[.agg #[.bool true, .string (natS n), .int .i64 x]] w fun e w' => e = .returned (.tuple #[.float .f64 (rnd true n x (upNear n x)), .int .i64 0]) ∧ Below w.heap.size w w' := by
  obtain ⟨b1, i1⟩ := bex (okP 9007199254740992 971 = true)
  obtain ⟨b2, i2⟩ := bex (rT n x > 1023)
  letI : Env := mkEnv glT [.string (natS n), .int .i64 x, .int .i64 (rT n x), .float .f64 (mkW true 9007199254740992 971)] rfl
  have hops : OpsT Tryz.prog (@Know.ops (DNear_far_t_k b1 b2)) := ⟨opt_gtr_i rfl rfl i2,
    trivial⟩
  have hcalls : CallsT Tryz.prog (@Know.calls (DNear_far_t_k b1 b2)) := ⟨callt rfl rfl fun w hG => DCheck_dyr (Dy.mk true n x) (Or.inr hn) w,
    callt rfl rfl fun w hG => DTop_r true n x w hn,
    callt rfl rfl fun w hG => bMake_i true 9007199254740992 971 w (by omega) (by omega) (by omega) (Or.inl (by omega)) i1 hG,
    trivial⟩
  have fin : ∀ v, @comes (DNear_far_t_k b1 b2) Tryz.prog glT 3000 DNear_far_t_f DNear_far_t_a = some v → ground v = true → Ending.returned (gval v) = .returned (.tuple #[.float .f64 (rnd true n x (upNear n x)), .int .i64 0]) → Calls Tryz.prog 44 #[.agg #[.bool true, .string (natS n), .int .i64 x]] w fun e w' => e = .returned (.tuple #[.float .f64 (rnd true n x (upNear n x)), .int .i64 0]) ∧ Below w.heap.size w w' := fun v h1 h2 h3 => (@sym_ok _ (DNear_far_t_k b1 b2) _ (@KnowOk.of _ (DNear_far_t_k b1 b2) _ hops hcalls) (by kernel_rfl) _ _ _ _ h1 rfl h2 _ hG).mono fun e w' h => ⟨h.1.trans h3, h.2⟩
  clear hops hcalls
  cases b1 with
  | true =>
    exact absurd (i1.1 rfl) (fun c => okP_iff.1 c ⟨rfl, rfl⟩)
  | false =>
    have h1 : ¬ (okP 9007199254740992 971 = true) := fun c => Bool.false_ne_true (i1.2 c)
    cases b2 with
    | true =>
      have h2 : rT n x > 1023 := i2.1 rfl
      exact fin _ (DNear_far_t_r1) rfl (show Ending.returned (.tuple #[.float .f64 18442240474082181120, .int .i64 0]) = .returned (.tuple #[.float .f64 (rnd true n x (upNear n x)), .int .i64 0]) from by rw [upNear_t (Or.inl (rQ_far h).2.2), rnd_t, (rQ_far h).1, (rQ_far h).2.1, inf_t h1])
    | false =>
      exact absurd (i2.2 ((by omega))) Bool.false_ne_true
@[reducible] def DNear_up_t_f : FuncId := 44
@[reducible] def DNear_up_t_a : List AV := [.agg [.lit (.bool true), .sym 0, .sym 1]]
@[reducible] noncomputable def DNear_up_t_k (b1 b2 b3 : Bool) : Know := ⟨[([0, 15, 3], [.sym 2, .lit (.int .i64 1023)], .lit (.bool b1)),
  ([0, 1, 3], [.sym 3, .sym 1], .sym 4),
  ([1, 0, 3], [.sym 4], .sym 5),
  ([0, 14, 3], [.sym 4, .lit (.int .i64 0)], .lit (.bool b3))],
  [(53, [.agg [.lit (.bool true), .sym 0, .sym 1]], .lit (.int .i64 0)),
  (84, [.agg [.lit (.bool true), .sym 0, .sym 1]], .tup [.sym 2, .lit (.bool true)]),
  (86, [.sym 2], .sym 3),
  (87, [.sym 0, .sym 5], .tup [.sym 6, .lit (.int .i64 0)]),
  (88, [.sym 6], .tup [.sym 7, .lit (.bool true)]),
  (109, [.lit (.bool true), .sym 7, .sym 3], .tup [.sym 8, .lit (.bool b2)])]⟩
theorem DNear_up_t_r1 : @comes (DNear_up_t_k false true true) Tryz.prog glT 3000 DNear_up_t_f DNear_up_t_a = some (.tup [.sym 8, .lit (.int .i64 0)]) := by kernel_rfl
set_option maxRecDepth 100000 in
set_option maxHeartbeats 4000000 in
theorem DNear_up_t (n : Nat) (x : Int) (w : World) (hn : (Dy.mk true n x).Num) (h : ¬ 1024 ≤ rT n x) (hu : rQ n x ≤ x) (hG : Globs glT w) : Calls Tryz.prog 44 #[.agg #[.bool true, .string (natS n), .int .i64 x]] w fun e w' => e = .returned (.tuple #[.float .f64 (rnd true n x (upNear n x)), .int .i64 0]) ∧ Below w.heap.size w w' := by
  obtain ⟨b1, i1⟩ := bex (rT n x > 1023)
  obtain ⟨b2, i2⟩ := bex (okP (rM n x) (rQ n x) = true)
  obtain ⟨b3, i3⟩ := bex (rQ n x - x ≤ 0)
  letI : Env := mkEnv glT [.string (natS n), .int .i64 x, .int .i64 (rT n x), .int .i64 (rQ n x), .int .i64 (rQ n x - x), .int .i64 (-(rQ n x - x)), .string (natS (rM n x)), .int .u64 (((rM n x : Nat) : Int)), .float .f64 (mkW true (rM n x) (rQ n x))] rfl
  have hops : OpsT Tryz.prog (@Know.ops (DNear_up_t_k b1 b2 b3)) := ⟨opt_gtr_i rfl rfl i1,
    opt_sub rfl rfl rfl rfl rfl (by have := (rQ_b n x); have := hn.2.2.1; have := hn.2.2.2; simp only at *; omega),
    opt_neg rfl rfl rfl rfl (by have := (rQ_b n x); have := hn.2.2.1; have := hn.2.2.2; simp only at *; omega),
    opt_leq_i rfl rfl i3,
    trivial⟩
  have hcalls : CallsT Tryz.prog (@Know.calls (DNear_up_t_k b1 b2 b3)) := ⟨callt rfl rfl fun w hG => DCheck_dyr (Dy.mk true n x) (Or.inr hn) w,
    callt rfl rfl fun w hG => DTop_r true n x w hn,
    callt rfl rfl fun w hG => Least_r true n x w hn h,
    callt rfl rfl fun w hG => NShift_r true n x w hn h,
    callt rfl rfl fun w hG => NSmall_r true n x w hn,
    callt rfl rfl fun w hG => bMake_i true (rM n x) (rQ n x) w (Nat.le_of_lt (rM_b (x := x) (odd_ne hn.2.1)).1) (rQ_b n x).1 (rQ_b n x).2 (rM_b (x := x) (odd_ne hn.2.1)).2 i2 hG,
    trivial⟩
  have fin : ∀ v, @comes (DNear_up_t_k b1 b2 b3) Tryz.prog glT 3000 DNear_up_t_f DNear_up_t_a = some v → ground v = true → Ending.returned (gval v) = .returned (.tuple #[.float .f64 (rnd true n x (upNear n x)), .int .i64 0]) → Calls Tryz.prog 44 #[.agg #[.bool true, .string (natS n), .int .i64 x]] w fun e w' => e = .returned (.tuple #[.float .f64 (rnd true n x (upNear n x)), .int .i64 0]) ∧ Below w.heap.size w w' := fun v h1 h2 h3 => (@sym_ok _ (DNear_up_t_k b1 b2 b3) _ (@KnowOk.of _ (DNear_up_t_k b1 b2 b3) _ hops hcalls) (by kernel_rfl) _ _ _ _ h1 rfl h2 _ hG).mono fun e w' h => ⟨h.1.trans h3, h.2⟩
  clear hops hcalls
  cases b2 with
  | true =>
    have h2 : okP (rM n x) (rQ n x) = true := i2.1 rfl
    cases b1 with
    | true =>
      exact absurd (i1.1 rfl) ((by omega))
    | false =>
      have h1 : ¬ (rT n x > 1023) := fun c => Bool.false_ne_true (i1.2 c)
      cases b3 with
      | true =>
        have h3 : rQ n x - x ≤ 0 := i3.1 rfl
        exact fin _ (DNear_up_t_r1) rfl (show Ending.returned (.tuple #[.float .f64 (mkW true (rM n x) (rQ n x)), .int .i64 0]) = .returned (.tuple #[.float .f64 (rnd true n x (upNear n x)), .int .i64 0]) from by rw [upNear_f (by rw [(rM_up h hu).2]; omega), rnd_f, mkW_ok h2])
      | false =>
        exact absurd (i3.2 ((by omega))) Bool.false_ne_true
  | false =>
    exact absurd (i2.2 (okP_lt (rM_b (x := x) (odd_ne hn.2.1)).1)) Bool.false_ne_true
@[reducible] def DNear_dn_t_f : FuncId := 44
@[reducible] def DNear_dn_t_a : List AV := [.agg [.lit (.bool true), .sym 0, .sym 1]]
@[reducible] noncomputable def DNear_dn_t_k (b1 b2 b3 b4 b5 b6 b7 : Bool) : Know := ⟨[([0, 15, 3], [.sym 2, .lit (.int .i64 1023)], .lit (.bool b1)),
  ([0, 1, 3], [.sym 3, .sym 1], .sym 4),
  ([1, 0, 3], [.sym 4], .sym 5),
  ([0, 14, 3], [.sym 4, .lit (.int .i64 0)], .lit (.bool b3)),
  ([0, 1, 3], [.sym 4, .lit (.int .i64 1)], .sym 9),
  ([0, 11, 5], [.sym 10, .lit (.int .u8 0)], .lit (.bool b4)),
  ([0, 5, 69], [.sym 7, .lit (.int .u64 1)], .sym 11),
  ([0, 11, 69], [.sym 11, .lit (.int .u64 1)], .lit (.bool b5)),
  ([0, 11, 3], [.sym 4, .lit (.int .i64 1)], .lit (.bool b6)),
  ([0, 0, 69], [.sym 7, .lit (.int .u64 1)], .sym 12)],
  [(53, [.agg [.lit (.bool true), .sym 0, .sym 1]], .lit (.int .i64 0)),
  (84, [.agg [.lit (.bool true), .sym 0, .sym 1]], .tup [.sym 2, .lit (.bool true)]),
  (86, [.sym 2], .sym 3),
  (87, [.sym 0, .sym 5], .tup [.sym 6, .lit (.int .i64 0)]),
  (88, [.sym 6], .tup [.sym 7, .lit (.bool true)]),
  (109, [.lit (.bool true), .sym 7, .sym 3], .tup [.sym 8, .lit (.bool b2)]),
  (111, [.sym 0, .sym 9], .tup [.sym 10, .lit (.int .i64 0)]),
  (109, [.lit (.bool true), .sym 12, .sym 3], .tup [.sym 13, .lit (.bool b7)])]⟩
theorem DNear_dn_t_r1 (b6 b7 : Bool) : @comes (DNear_dn_t_k false true false true true b6 b7) Tryz.prog glT 3000 DNear_dn_t_f DNear_dn_t_a = some (.tup [.sym 8, .lit (.int .i64 0)]) := by kernel_rfl
theorem DNear_dn_t_r2 (b6 b7 : Bool) : @comes (DNear_dn_t_k false true false true false b6 b7) Tryz.prog glT 3000 DNear_dn_t_f DNear_dn_t_a = some (.tup [.sym 8, .lit (.int .i64 0)]) := by kernel_rfl
theorem DNear_dn_t_r3 (b2 : Bool) : @comes (DNear_dn_t_k false b2 false false true true true) Tryz.prog glT 3000 DNear_dn_t_f DNear_dn_t_a = some (.tup [.sym 13, .lit (.int .i64 0)]) := by kernel_rfl
theorem DNear_dn_t_r4 (b2 : Bool) : @comes (DNear_dn_t_k false b2 false false true true false) Tryz.prog glT 3000 DNear_dn_t_f DNear_dn_t_a = some (.lit (.tuple #[.float .f64 18442240474082181120, .int .i64 0])) := by kernel_rfl
theorem DNear_dn_t_r5 (b7 : Bool) : @comes (DNear_dn_t_k false true false false false true b7) Tryz.prog glT 3000 DNear_dn_t_f DNear_dn_t_a = some (.tup [.sym 8, .lit (.int .i64 0)]) := by kernel_rfl
theorem DNear_dn_t_r6 (b2 : Bool) : @comes (DNear_dn_t_k false b2 false false true false true) Tryz.prog glT 3000 DNear_dn_t_f DNear_dn_t_a = some (.tup [.sym 13, .lit (.int .i64 0)]) := by kernel_rfl
theorem DNear_dn_t_r7 (b2 : Bool) : @comes (DNear_dn_t_k false b2 false false true false false) Tryz.prog glT 3000 DNear_dn_t_f DNear_dn_t_a = some (.lit (.tuple #[.float .f64 18442240474082181120, .int .i64 0])) := by kernel_rfl
theorem DNear_dn_t_r8 (b2 : Bool) : @comes (DNear_dn_t_k false b2 false false false false true) Tryz.prog glT 3000 DNear_dn_t_f DNear_dn_t_a = some (.tup [.sym 13, .lit (.int .i64 0)]) := by kernel_rfl
theorem DNear_dn_t_r9 (b2 : Bool) : @comes (DNear_dn_t_k false b2 false false false false false) Tryz.prog glT 3000 DNear_dn_t_f DNear_dn_t_a = some (.lit (.tuple #[.float .f64 18442240474082181120, .int .i64 0])) := by kernel_rfl
set_option maxRecDepth 100000 in
set_option maxHeartbeats 4000000 in
theorem DNear_dn_t (n : Nat) (x : Int) (w : World) (hn : (Dy.mk true n x).Num) (h : ¬ 1024 ≤ rT n x) (hu : ¬ rQ n x ≤ x) (hG : Globs glT w) : Calls Tryz.prog 44 #[.agg #[.bool true, .string (natS n), .int .i64 x]] w fun e w' => e = .returned (.tuple #[.float .f64 (rnd true n x (upNear n x)), .int .i64 0]) ∧ Below w.heap.size w w' := by
  obtain ⟨b1, i1⟩ := bex (rT n x > 1023)
  obtain ⟨b2, i2⟩ := bex (okP (rM n x) (rQ n x) = true)
  obtain ⟨b3, i3⟩ := bex (rQ n x - x ≤ 0)
  obtain ⟨b4, i4⟩ := bex (((rB n x : Nat) : Int) = 0)
  obtain ⟨b5, i5⟩ := bex (((rM n x % 2 : Nat) : Int) = 1)
  obtain ⟨b6, i6⟩ := bex (rQ n x - x = 1)
  obtain ⟨b7, i7⟩ := bex (okP (rM n x + 1) (rQ n x) = true)
  letI : Env := mkEnv glT [.string (natS n), .int .i64 x, .int .i64 (rT n x), .int .i64 (rQ n x), .int .i64 (rQ n x - x), .int .i64 (-(rQ n x - x)), .string (natS (rM n x)), .int .u64 (((rM n x : Nat) : Int)), .float .f64 (mkW true (rM n x) (rQ n x)), .int .i64 (rQ n x - x - 1), .int .u8 (((rB n x : Nat) : Int)), .int .u64 (((rM n x % 2 : Nat) : Int)), .int .u64 (((rM n x + 1 : Nat) : Int)), .float .f64 (mkW true (rM n x + 1) (rQ n x))] rfl
  have hops : OpsT Tryz.prog (@Know.ops (DNear_dn_t_k b1 b2 b3 b4 b5 b6 b7)) := ⟨opt_gtr_i rfl rfl i1,
    opt_sub rfl rfl rfl rfl rfl (by have := (rQ_b n x); have := hn.2.2.1; have := hn.2.2.2; simp only at *; omega),
    opt_neg rfl rfl rfl rfl (by have := (rQ_b n x); have := hn.2.2.1; have := hn.2.2.2; simp only at *; omega),
    opt_leq_i rfl rfl i3,
    opt_sub rfl rfl rfl rfl rfl (by have := (rQ_b n x); have := hn.2.2.1; have := hn.2.2.2; simp only at *; omega),
    opt_eql_i rfl rfl i4,
    opt_odd rfl rfl rfl rfl (by have : rM n x < 9007199254740992 := (rM_b (x := x) (odd_ne hn.2.1)).1; omega),
    opt_eql_i rfl rfl i5,
    opt_eql_i rfl rfl i6,
    opt_add64 (y := 1) rfl rfl rfl rfl rfl (by have : rM n x < 9007199254740992 := (rM_b (x := x) (odd_ne hn.2.1)).1; omega),
    trivial⟩
  have hcalls : CallsT Tryz.prog (@Know.calls (DNear_dn_t_k b1 b2 b3 b4 b5 b6 b7)) := ⟨callt rfl rfl fun w hG => DCheck_dyr (Dy.mk true n x) (Or.inr hn) w,
    callt rfl rfl fun w hG => DTop_r true n x w hn,
    callt rfl rfl fun w hG => Least_r true n x w hn h,
    callt rfl rfl fun w hG => NShift_r true n x w hn h,
    callt rfl rfl fun w hG => NSmall_r true n x w hn,
    callt rfl rfl fun w hG => bMake_i true (rM n x) (rQ n x) w (Nat.le_of_lt (rM_b (x := x) (odd_ne hn.2.1)).1) (rQ_b n x).1 (rQ_b n x).2 (rM_b (x := x) (odd_ne hn.2.1)).2 i2 hG,
    callt rfl rfl fun w hG => NBit_r true n x w hn hu,
    callt rfl rfl fun w hG => bMake_i true (rM n x + 1) (rQ n x) w (rM_b (x := x) (odd_ne hn.2.1)).1 (rQ_b n x).1 (rQ_b n x).2 ((rM_b (x := x) (odd_ne hn.2.1)).2.imp (fun h => Nat.le_succ_of_le h) id) i7 hG,
    trivial⟩
  have fin : ∀ v, @comes (DNear_dn_t_k b1 b2 b3 b4 b5 b6 b7) Tryz.prog glT 3000 DNear_dn_t_f DNear_dn_t_a = some v → ground v = true → Ending.returned (gval v) = .returned (.tuple #[.float .f64 (rnd true n x (upNear n x)), .int .i64 0]) → Calls Tryz.prog 44 #[.agg #[.bool true, .string (natS n), .int .i64 x]] w fun e w' => e = .returned (.tuple #[.float .f64 (rnd true n x (upNear n x)), .int .i64 0]) ∧ Below w.heap.size w w' := fun v h1 h2 h3 => (@sym_ok _ (DNear_dn_t_k b1 b2 b3 b4 b5 b6 b7) _ (@KnowOk.of _ (DNear_dn_t_k b1 b2 b3 b4 b5 b6 b7) _ hops hcalls) (by kernel_rfl) _ _ _ _ h1 rfl h2 _ hG).mono fun e w' h => ⟨h.1.trans h3, h.2⟩
  clear hops hcalls
  cases b4 with
  | true =>
    have h4 : ((rB n x : Nat) : Int) = 0 := i4.1 rfl
    cases b5 with
    | true =>
      have h5 : ((rM n x % 2 : Nat) : Int) = 1 := i5.1 rfl
      cases b2 with
      | true =>
        have h2 : okP (rM n x) (rQ n x) = true := i2.1 rfl
        cases b1 with
        | true =>
          exact absurd (i1.1 rfl) ((by omega))
        | false =>
          have h1 : ¬ (rT n x > 1023) := fun c => Bool.false_ne_true (i1.2 c)
          cases b3 with
          | true =>
            exact absurd (i3.1 rfl) ((by omega))
          | false =>
            have h3 : ¬ (rQ n x - x ≤ 0) := fun c => Bool.false_ne_true (i3.2 c)
            exact fin _ (DNear_dn_t_r1 b6 b7) rfl (show Ending.returned (.tuple #[.float .f64 (mkW true (rM n x) (rQ n x)), .int .i64 0]) = .returned (.tuple #[.float .f64 (rnd true n x (upNear n x)), .int .i64 0]) from by rw [upNear_f (by rw [(show rW n x = 1 from (by rw [rW_dn hn h hu, if_pos (by have := h4; omega)]))]; omega), rnd_f, mkW_ok h2])
      | false =>
        exact absurd (i2.2 (okP_lt (rM_b (x := x) (odd_ne hn.2.1)).1)) Bool.false_ne_true
    | false =>
      have h5 : ¬ (((rM n x % 2 : Nat) : Int) = 1) := fun c => Bool.false_ne_true (i5.2 c)
      cases b2 with
      | true =>
        have h2 : okP (rM n x) (rQ n x) = true := i2.1 rfl
        cases b1 with
        | true =>
          exact absurd (i1.1 rfl) ((by omega))
        | false =>
          have h1 : ¬ (rT n x > 1023) := fun c => Bool.false_ne_true (i1.2 c)
          cases b3 with
          | true =>
            exact absurd (i3.1 rfl) ((by omega))
          | false =>
            have h3 : ¬ (rQ n x - x ≤ 0) := fun c => Bool.false_ne_true (i3.2 c)
            exact fin _ (DNear_dn_t_r2 b6 b7) rfl (show Ending.returned (.tuple #[.float .f64 (mkW true (rM n x) (rQ n x)), .int .i64 0]) = .returned (.tuple #[.float .f64 (rnd true n x (upNear n x)), .int .i64 0]) from by rw [upNear_f (by rw [(show rW n x = 1 from (by rw [rW_dn hn h hu, if_pos (by have := h4; omega)]))]; omega), rnd_f, mkW_ok h2])
      | false =>
        exact absurd (i2.2 (okP_lt (rM_b (x := x) (odd_ne hn.2.1)).1)) Bool.false_ne_true
  | false =>
    have h4 : ¬ (((rB n x : Nat) : Int) = 0) := fun c => Bool.false_ne_true (i4.2 c)
    cases b6 with
    | true =>
      have h6 : rQ n x - x = 1 := i6.1 rfl
      cases b5 with
      | true =>
        have h5 : ((rM n x % 2 : Nat) : Int) = 1 := i5.1 rfl
        cases b7 with
        | true =>
          have h7 : okP (rM n x + 1) (rQ n x) = true := i7.1 rfl
          cases b1 with
          | true =>
            exact absurd (i1.1 rfl) ((by omega))
          | false =>
            have h1 : ¬ (rT n x > 1023) := fun c => Bool.false_ne_true (i1.2 c)
            cases b3 with
            | true =>
              exact absurd (i3.1 rfl) ((by omega))
            | false =>
              have h3 : ¬ (rQ n x - x ≤ 0) := fun c => Bool.false_ne_true (i3.2 c)
              exact fin _ (DNear_dn_t_r3 b2) rfl (show Ending.returned (.tuple #[.float .f64 (mkW true (rM n x + 1) (rQ n x)), .int .i64 0]) = .returned (.tuple #[.float .f64 (rnd true n x (upNear n x)), .int .i64 0]) from by rw [upNear_t (Or.inr ⟨(show rW n x = 2 from (by rw [rW_dn hn h hu, if_neg (fun c => h4 (by rw [c]; rfl)), if_pos h6])), by have := h5; omega⟩), rnd_t, mkW_ok h7])
        | false =>
          have h7 : ¬ (okP (rM n x + 1) (rQ n x) = true) := fun c => Bool.false_ne_true (i7.2 c)
          cases b1 with
          | true =>
            exact absurd (i1.1 rfl) ((by omega))
          | false =>
            have h1 : ¬ (rT n x > 1023) := fun c => Bool.false_ne_true (i1.2 c)
            cases b3 with
            | true =>
              exact absurd (i3.1 rfl) ((by omega))
            | false =>
              have h3 : ¬ (rQ n x - x ≤ 0) := fun c => Bool.false_ne_true (i3.2 c)
              exact fin _ (DNear_dn_t_r4 b2) rfl (show Ending.returned (.tuple #[.float .f64 18442240474082181120, .int .i64 0]) = .returned (.tuple #[.float .f64 (rnd true n x (upNear n x)), .int .i64 0]) from by rw [upNear_t (Or.inr ⟨(show rW n x = 2 from (by rw [rW_dn hn h hu, if_neg (fun c => h4 (by rw [c]; rfl)), if_pos h6])), by have := h5; omega⟩), rnd_t, inf_t h7])
      | false =>
        have h5 : ¬ (((rM n x % 2 : Nat) : Int) = 1) := fun c => Bool.false_ne_true (i5.2 c)
        cases b2 with
        | true =>
          have h2 : okP (rM n x) (rQ n x) = true := i2.1 rfl
          cases b1 with
          | true =>
            exact absurd (i1.1 rfl) ((by omega))
          | false =>
            have h1 : ¬ (rT n x > 1023) := fun c => Bool.false_ne_true (i1.2 c)
            cases b3 with
            | true =>
              exact absurd (i3.1 rfl) ((by omega))
            | false =>
              have h3 : ¬ (rQ n x - x ≤ 0) := fun c => Bool.false_ne_true (i3.2 c)
              exact fin _ (DNear_dn_t_r5 b7) rfl (show Ending.returned (.tuple #[.float .f64 (mkW true (rM n x) (rQ n x)), .int .i64 0]) = .returned (.tuple #[.float .f64 (rnd true n x (upNear n x)), .int .i64 0]) from by rw [upNear_f (fun c => by rcases c with c | ⟨_, c⟩; exact absurd ((show rW n x = 2 from (by rw [rW_dn hn h hu, if_neg (fun c => h4 (by rw [c]; rfl)), if_pos h6])).symm.trans c) (by decide); exact h5 (by rw [c]; rfl)), rnd_f, mkW_ok h2])
        | false =>
          exact absurd (i2.2 (okP_lt (rM_b (x := x) (odd_ne hn.2.1)).1)) Bool.false_ne_true
    | false =>
      have h6 : ¬ (rQ n x - x = 1) := fun c => Bool.false_ne_true (i6.2 c)
      cases b5 with
      | true =>
        have h5 : ((rM n x % 2 : Nat) : Int) = 1 := i5.1 rfl
        cases b7 with
        | true =>
          have h7 : okP (rM n x + 1) (rQ n x) = true := i7.1 rfl
          cases b1 with
          | true =>
            exact absurd (i1.1 rfl) ((by omega))
          | false =>
            have h1 : ¬ (rT n x > 1023) := fun c => Bool.false_ne_true (i1.2 c)
            cases b3 with
            | true =>
              exact absurd (i3.1 rfl) ((by omega))
            | false =>
              have h3 : ¬ (rQ n x - x ≤ 0) := fun c => Bool.false_ne_true (i3.2 c)
              exact fin _ (DNear_dn_t_r6 b2) rfl (show Ending.returned (.tuple #[.float .f64 (mkW true (rM n x + 1) (rQ n x)), .int .i64 0]) = .returned (.tuple #[.float .f64 (rnd true n x (upNear n x)), .int .i64 0]) from by rw [upNear_t (Or.inl (show rW n x = 3 from (by rw [rW_dn hn h hu, if_neg (fun c => h4 (by rw [c]; rfl)), if_neg h6]))), rnd_t, mkW_ok h7])
        | false =>
          have h7 : ¬ (okP (rM n x + 1) (rQ n x) = true) := fun c => Bool.false_ne_true (i7.2 c)
          cases b1 with
          | true =>
            exact absurd (i1.1 rfl) ((by omega))
          | false =>
            have h1 : ¬ (rT n x > 1023) := fun c => Bool.false_ne_true (i1.2 c)
            cases b3 with
            | true =>
              exact absurd (i3.1 rfl) ((by omega))
            | false =>
              have h3 : ¬ (rQ n x - x ≤ 0) := fun c => Bool.false_ne_true (i3.2 c)
              exact fin _ (DNear_dn_t_r7 b2) rfl (show Ending.returned (.tuple #[.float .f64 18442240474082181120, .int .i64 0]) = .returned (.tuple #[.float .f64 (rnd true n x (upNear n x)), .int .i64 0]) from by rw [upNear_t (Or.inl (show rW n x = 3 from (by rw [rW_dn hn h hu, if_neg (fun c => h4 (by rw [c]; rfl)), if_neg h6]))), rnd_t, inf_t h7])
      | false =>
        have h5 : ¬ (((rM n x % 2 : Nat) : Int) = 1) := fun c => Bool.false_ne_true (i5.2 c)
        cases b7 with
        | true =>
          have h7 : okP (rM n x + 1) (rQ n x) = true := i7.1 rfl
          cases b1 with
          | true =>
            exact absurd (i1.1 rfl) ((by omega))
          | false =>
            have h1 : ¬ (rT n x > 1023) := fun c => Bool.false_ne_true (i1.2 c)
            cases b3 with
            | true =>
              exact absurd (i3.1 rfl) ((by omega))
            | false =>
              have h3 : ¬ (rQ n x - x ≤ 0) := fun c => Bool.false_ne_true (i3.2 c)
              exact fin _ (DNear_dn_t_r8 b2) rfl (show Ending.returned (.tuple #[.float .f64 (mkW true (rM n x + 1) (rQ n x)), .int .i64 0]) = .returned (.tuple #[.float .f64 (rnd true n x (upNear n x)), .int .i64 0]) from by rw [upNear_t (Or.inl (show rW n x = 3 from (by rw [rW_dn hn h hu, if_neg (fun c => h4 (by rw [c]; rfl)), if_neg h6]))), rnd_t, mkW_ok h7])
        | false =>
          have h7 : ¬ (okP (rM n x + 1) (rQ n x) = true) := fun c => Bool.false_ne_true (i7.2 c)
          cases b1 with
          | true =>
            exact absurd (i1.1 rfl) ((by omega))
          | false =>
            have h1 : ¬ (rT n x > 1023) := fun c => Bool.false_ne_true (i1.2 c)
            cases b3 with
            | true =>
              exact absurd (i3.1 rfl) ((by omega))
            | false =>
              have h3 : ¬ (rQ n x - x ≤ 0) := fun c => Bool.false_ne_true (i3.2 c)
              exact fin _ (DNear_dn_t_r9 b2) rfl (show Ending.returned (.tuple #[.float .f64 18442240474082181120, .int .i64 0]) = .returned (.tuple #[.float .f64 (rnd true n x (upNear n x)), .int .i64 0]) from by rw [upNear_t (Or.inl (show rW n x = 3 from (by rw [rW_dn hn h hu, if_neg (fun c => h4 (by rw [c]; rfl)), if_neg h6]))), rnd_t, inf_t h7])
theorem DNear_t (n : Nat) (x : Int) (w : World) (hn : (Dy.mk true n x).Num) (hG : Globs glT w) : Calls Tryz.prog 44 #[.agg #[.bool true, .string (natS n), .int .i64 x]] w fun e w' => e = .returned (.tuple #[.float .f64 (rnd true n x (upNear n x)), .int .i64 0]) ∧ Below w.heap.size w w' := by
  by_cases h : 1024 ≤ rT n x
  · exact DNear_far_t n x w hn h hG
  · by_cases hu : rQ n x ≤ x
    · exact DNear_up_t n x w hn h hu hG
    · exact DNear_dn_t n x w hn h hu hG
@[reducible] def DAbove_far_f_f : FuncId := 49
@[reducible] def DAbove_far_f_a : List AV := [.agg [.lit (.bool false), .sym 0, .sym 1]]
@[reducible] noncomputable def DAbove_far_f_k (b1 b2 : Bool) : Know := ⟨[([0, 15, 3], [.sym 2, .lit (.int .i64 1023)], .lit (.bool b2))],
  [(53, [.agg [.lit (.bool false), .sym 0, .sym 1]], .lit (.int .i64 0)),
  (84, [.agg [.lit (.bool false), .sym 0, .sym 1]], .tup [.sym 2, .lit (.bool true)]),
  (109, [.lit (.bool false), .lit (.int .u64 9007199254740992), .lit (.int .i64 971)], .tup [.sym 3, .lit (.bool b1)])]⟩
theorem DAbove_far_f_r1 : @comes (DAbove_far_f_k false true) Tryz.prog glT 3000 DAbove_far_f_f DAbove_far_f_a = some (.lit (.tuple #[.float .f64 9218868437227405312, .int .i64 0])) := by kernel_rfl
set_option maxRecDepth 100000 in
set_option maxHeartbeats 4000000 in
theorem DAbove_far_f (n : Nat) (x : Int) (w : World) (hn : (Dy.mk false n x).Num) (h : 1024 ≤ rT n x) (hG : Globs glT w) : Calls Tryz.prog 49 #[.agg #[.bool false, .string (natS n), .int .i64 x]] w fun e w' => e = .returned (.tuple #[.float .f64 (rnd false n x (upAbove false n x)), .int .i64 0]) ∧ Below w.heap.size w w' := by
  obtain ⟨b1, i1⟩ := bex (okP 9007199254740992 971 = true)
  obtain ⟨b2, i2⟩ := bex (rT n x > 1023)
  letI : Env := mkEnv glT [.string (natS n), .int .i64 x, .int .i64 (rT n x), .float .f64 (mkW false 9007199254740992 971)] rfl
  have hops : OpsT Tryz.prog (@Know.ops (DAbove_far_f_k b1 b2)) := ⟨opt_gtr_i rfl rfl i2,
    trivial⟩
  have hcalls : CallsT Tryz.prog (@Know.calls (DAbove_far_f_k b1 b2)) := ⟨callt rfl rfl fun w hG => DCheck_dyr (Dy.mk false n x) (Or.inr hn) w,
    callt rfl rfl fun w hG => DTop_r false n x w hn,
    callt rfl rfl fun w hG => bMake_i false 9007199254740992 971 w (by omega) (by omega) (by omega) (Or.inl (by omega)) i1 hG,
    trivial⟩
  have fin : ∀ v, @comes (DAbove_far_f_k b1 b2) Tryz.prog glT 3000 DAbove_far_f_f DAbove_far_f_a = some v → ground v = true → Ending.returned (gval v) = .returned (.tuple #[.float .f64 (rnd false n x (upAbove false n x)), .int .i64 0]) → Calls Tryz.prog 49 #[.agg #[.bool false, .string (natS n), .int .i64 x]] w fun e w' => e = .returned (.tuple #[.float .f64 (rnd false n x (upAbove false n x)), .int .i64 0]) ∧ Below w.heap.size w w' := fun v h1 h2 h3 => (@sym_ok _ (DAbove_far_f_k b1 b2) _ (@KnowOk.of _ (DAbove_far_f_k b1 b2) _ hops hcalls) (by kernel_rfl) _ _ _ _ h1 rfl h2 _ hG).mono fun e w' h => ⟨h.1.trans h3, h.2⟩
  clear hops hcalls
  cases b1 with
  | true =>
    exact absurd (i1.1 rfl) (fun c => okP_iff.1 c ⟨rfl, rfl⟩)
  | false =>
    have h1 : ¬ (okP 9007199254740992 971 = true) := fun c => Bool.false_ne_true (i1.2 c)
    cases b2 with
    | true =>
      have h2 : rT n x > 1023 := i2.1 rfl
      exact fin _ (DAbove_far_f_r1) rfl (show Ending.returned (.tuple #[.float .f64 9218868437227405312, .int .i64 0]) = .returned (.tuple #[.float .f64 (rnd false n x (upAbove false n x)), .int .i64 0]) from by rw [upAbove_t (by rw [(rQ_far h).2.2]; decide), rnd_t, (rQ_far h).1, (rQ_far h).2.1, inf_f h1])
    | false =>
      exact absurd (i2.2 ((by omega))) Bool.false_ne_true
@[reducible] def DAbove_up_f_f : FuncId := 49
@[reducible] def DAbove_up_f_a : List AV := [.agg [.lit (.bool false), .sym 0, .sym 1]]
@[reducible] noncomputable def DAbove_up_f_k (b1 b2 b3 : Bool) : Know := ⟨[([0, 15, 3], [.sym 2, .lit (.int .i64 1023)], .lit (.bool b1)),
  ([0, 1, 3], [.sym 3, .sym 1], .sym 4),
  ([1, 0, 3], [.sym 4], .sym 5),
  ([0, 14, 3], [.sym 4, .lit (.int .i64 0)], .lit (.bool b3))],
  [(53, [.agg [.lit (.bool false), .sym 0, .sym 1]], .lit (.int .i64 0)),
  (84, [.agg [.lit (.bool false), .sym 0, .sym 1]], .tup [.sym 2, .lit (.bool true)]),
  (86, [.sym 2], .sym 3),
  (87, [.sym 0, .sym 5], .tup [.sym 6, .lit (.int .i64 0)]),
  (88, [.sym 6], .tup [.sym 7, .lit (.bool true)]),
  (109, [.lit (.bool false), .sym 7, .sym 3], .tup [.sym 8, .lit (.bool b2)])]⟩
theorem DAbove_up_f_r1 : @comes (DAbove_up_f_k false true true) Tryz.prog glT 3000 DAbove_up_f_f DAbove_up_f_a = some (.tup [.sym 8, .lit (.int .i64 0)]) := by kernel_rfl
set_option maxRecDepth 100000 in
set_option maxHeartbeats 4000000 in
theorem DAbove_up_f (n : Nat) (x : Int) (w : World) (hn : (Dy.mk false n x).Num) (h : ¬ 1024 ≤ rT n x) (hu : rQ n x ≤ x) (hG : Globs glT w) : Calls Tryz.prog 49 #[.agg #[.bool false, .string (natS n), .int .i64 x]] w fun e w' => e = .returned (.tuple #[.float .f64 (rnd false n x (upAbove false n x)), .int .i64 0]) ∧ Below w.heap.size w w' := by
  obtain ⟨b1, i1⟩ := bex (rT n x > 1023)
  obtain ⟨b2, i2⟩ := bex (okP (rM n x) (rQ n x) = true)
  obtain ⟨b3, i3⟩ := bex (rQ n x - x ≤ 0)
  letI : Env := mkEnv glT [.string (natS n), .int .i64 x, .int .i64 (rT n x), .int .i64 (rQ n x), .int .i64 (rQ n x - x), .int .i64 (-(rQ n x - x)), .string (natS (rM n x)), .int .u64 (((rM n x : Nat) : Int)), .float .f64 (mkW false (rM n x) (rQ n x))] rfl
  have hops : OpsT Tryz.prog (@Know.ops (DAbove_up_f_k b1 b2 b3)) := ⟨opt_gtr_i rfl rfl i1,
    opt_sub rfl rfl rfl rfl rfl (by have := (rQ_b n x); have := hn.2.2.1; have := hn.2.2.2; simp only at *; omega),
    opt_neg rfl rfl rfl rfl (by have := (rQ_b n x); have := hn.2.2.1; have := hn.2.2.2; simp only at *; omega),
    opt_leq_i rfl rfl i3,
    trivial⟩
  have hcalls : CallsT Tryz.prog (@Know.calls (DAbove_up_f_k b1 b2 b3)) := ⟨callt rfl rfl fun w hG => DCheck_dyr (Dy.mk false n x) (Or.inr hn) w,
    callt rfl rfl fun w hG => DTop_r false n x w hn,
    callt rfl rfl fun w hG => Least_r false n x w hn h,
    callt rfl rfl fun w hG => NShift_r false n x w hn h,
    callt rfl rfl fun w hG => NSmall_r false n x w hn,
    callt rfl rfl fun w hG => bMake_i false (rM n x) (rQ n x) w (Nat.le_of_lt (rM_b (x := x) (odd_ne hn.2.1)).1) (rQ_b n x).1 (rQ_b n x).2 (rM_b (x := x) (odd_ne hn.2.1)).2 i2 hG,
    trivial⟩
  have fin : ∀ v, @comes (DAbove_up_f_k b1 b2 b3) Tryz.prog glT 3000 DAbove_up_f_f DAbove_up_f_a = some v → ground v = true → Ending.returned (gval v) = .returned (.tuple #[.float .f64 (rnd false n x (upAbove false n x)), .int .i64 0]) → Calls Tryz.prog 49 #[.agg #[.bool false, .string (natS n), .int .i64 x]] w fun e w' => e = .returned (.tuple #[.float .f64 (rnd false n x (upAbove false n x)), .int .i64 0]) ∧ Below w.heap.size w w' := fun v h1 h2 h3 => (@sym_ok _ (DAbove_up_f_k b1 b2 b3) _ (@KnowOk.of _ (DAbove_up_f_k b1 b2 b3) _ hops hcalls) (by kernel_rfl) _ _ _ _ h1 rfl h2 _ hG).mono fun e w' h => ⟨h.1.trans h3, h.2⟩
  clear hops hcalls
  cases b2 with
  | true =>
    have h2 : okP (rM n x) (rQ n x) = true := i2.1 rfl
    cases b1 with
    | true =>
      exact absurd (i1.1 rfl) ((by omega))
    | false =>
      have h1 : ¬ (rT n x > 1023) := fun c => Bool.false_ne_true (i1.2 c)
      cases b3 with
      | true =>
        have h3 : rQ n x - x ≤ 0 := i3.1 rfl
        exact fin _ (DAbove_up_f_r1) rfl (show Ending.returned (.tuple #[.float .f64 (mkW false (rM n x) (rQ n x)), .int .i64 0]) = .returned (.tuple #[.float .f64 (rnd false n x (upAbove false n x)), .int .i64 0]) from by rw [upAbove_f (rM_up h hu).2, rnd_f, mkW_ok h2])
      | false =>
        exact absurd (i3.2 ((by omega))) Bool.false_ne_true
  | false =>
    exact absurd (i2.2 (okP_lt (rM_b (x := x) (odd_ne hn.2.1)).1)) Bool.false_ne_true
@[reducible] def DAbove_dn_f_f : FuncId := 49
@[reducible] def DAbove_dn_f_a : List AV := [.agg [.lit (.bool false), .sym 0, .sym 1]]
@[reducible] noncomputable def DAbove_dn_f_k (b1 b2 b3 b4 b5 b6 : Bool) : Know := ⟨[([0, 15, 3], [.sym 2, .lit (.int .i64 1023)], .lit (.bool b1)),
  ([0, 1, 3], [.sym 3, .sym 1], .sym 4),
  ([1, 0, 3], [.sym 4], .sym 5),
  ([0, 14, 3], [.sym 4, .lit (.int .i64 0)], .lit (.bool b2)),
  ([0, 1, 3], [.sym 4, .lit (.int .i64 1)], .sym 8),
  ([0, 11, 5], [.sym 9, .lit (.int .u8 0)], .lit (.bool b3)),
  ([0, 5, 69], [.sym 7, .lit (.int .u64 1)], .sym 10),
  ([0, 11, 69], [.sym 10, .lit (.int .u64 1)], .lit (.bool b4)),
  ([0, 0, 69], [.sym 7, .lit (.int .u64 1)], .sym 11),
  ([0, 11, 3], [.sym 4, .lit (.int .i64 1)], .lit (.bool b6))],
  [(53, [.agg [.lit (.bool false), .sym 0, .sym 1]], .lit (.int .i64 0)),
  (84, [.agg [.lit (.bool false), .sym 0, .sym 1]], .tup [.sym 2, .lit (.bool true)]),
  (86, [.sym 2], .sym 3),
  (87, [.sym 0, .sym 5], .tup [.sym 6, .lit (.int .i64 0)]),
  (88, [.sym 6], .tup [.sym 7, .lit (.bool true)]),
  (111, [.sym 0, .sym 8], .tup [.sym 9, .lit (.int .i64 0)]),
  (109, [.lit (.bool false), .sym 11, .sym 3], .tup [.sym 12, .lit (.bool b5)])]⟩
theorem DAbove_dn_f_r1 (b6 : Bool) : @comes (DAbove_dn_f_k false false true true true b6) Tryz.prog glT 3000 DAbove_dn_f_f DAbove_dn_f_a = some (.tup [.sym 12, .lit (.int .i64 0)]) := by kernel_rfl
theorem DAbove_dn_f_r2 (b6 : Bool) : @comes (DAbove_dn_f_k false false true true false b6) Tryz.prog glT 3000 DAbove_dn_f_f DAbove_dn_f_a = some (.lit (.tuple #[.float .f64 9218868437227405312, .int .i64 0])) := by kernel_rfl
theorem DAbove_dn_f_r3 (b6 : Bool) : @comes (DAbove_dn_f_k false false true false true b6) Tryz.prog glT 3000 DAbove_dn_f_f DAbove_dn_f_a = some (.tup [.sym 12, .lit (.int .i64 0)]) := by kernel_rfl
theorem DAbove_dn_f_r4 (b6 : Bool) : @comes (DAbove_dn_f_k false false true false false b6) Tryz.prog glT 3000 DAbove_dn_f_f DAbove_dn_f_a = some (.lit (.tuple #[.float .f64 9218868437227405312, .int .i64 0])) := by kernel_rfl
theorem DAbove_dn_f_r5 : @comes (DAbove_dn_f_k false false false true true true) Tryz.prog glT 3000 DAbove_dn_f_f DAbove_dn_f_a = some (.tup [.sym 12, .lit (.int .i64 0)]) := by kernel_rfl
theorem DAbove_dn_f_r6 : @comes (DAbove_dn_f_k false false false true false true) Tryz.prog glT 3000 DAbove_dn_f_f DAbove_dn_f_a = some (.lit (.tuple #[.float .f64 9218868437227405312, .int .i64 0])) := by kernel_rfl
theorem DAbove_dn_f_r7 : @comes (DAbove_dn_f_k false false false false true true) Tryz.prog glT 3000 DAbove_dn_f_f DAbove_dn_f_a = some (.tup [.sym 12, .lit (.int .i64 0)]) := by kernel_rfl
theorem DAbove_dn_f_r8 : @comes (DAbove_dn_f_k false false false false false true) Tryz.prog glT 3000 DAbove_dn_f_f DAbove_dn_f_a = some (.lit (.tuple #[.float .f64 9218868437227405312, .int .i64 0])) := by kernel_rfl
theorem DAbove_dn_f_r9 : @comes (DAbove_dn_f_k false false false true true false) Tryz.prog glT 3000 DAbove_dn_f_f DAbove_dn_f_a = some (.tup [.sym 12, .lit (.int .i64 0)]) := by kernel_rfl
theorem DAbove_dn_f_r10 : @comes (DAbove_dn_f_k false false false true false false) Tryz.prog glT 3000 DAbove_dn_f_f DAbove_dn_f_a = some (.lit (.tuple #[.float .f64 9218868437227405312, .int .i64 0])) := by kernel_rfl
theorem DAbove_dn_f_r11 : @comes (DAbove_dn_f_k false false false false true false) Tryz.prog glT 3000 DAbove_dn_f_f DAbove_dn_f_a = some (.tup [.sym 12, .lit (.int .i64 0)]) := by kernel_rfl
theorem DAbove_dn_f_r12 : @comes (DAbove_dn_f_k false false false false false false) Tryz.prog glT 3000 DAbove_dn_f_f DAbove_dn_f_a = some (.lit (.tuple #[.float .f64 9218868437227405312, .int .i64 0])) := by kernel_rfl
set_option maxRecDepth 100000 in
set_option maxHeartbeats 4000000 in
theorem DAbove_dn_f (n : Nat) (x : Int) (w : World) (hn : (Dy.mk false n x).Num) (h : ¬ 1024 ≤ rT n x) (hu : ¬ rQ n x ≤ x) (hG : Globs glT w) : Calls Tryz.prog 49 #[.agg #[.bool false, .string (natS n), .int .i64 x]] w fun e w' => e = .returned (.tuple #[.float .f64 (rnd false n x (upAbove false n x)), .int .i64 0]) ∧ Below w.heap.size w w' := by
  obtain ⟨b1, i1⟩ := bex (rT n x > 1023)
  obtain ⟨b2, i2⟩ := bex (rQ n x - x ≤ 0)
  obtain ⟨b3, i3⟩ := bex (((rB n x : Nat) : Int) = 0)
  obtain ⟨b4, i4⟩ := bex (((rM n x % 2 : Nat) : Int) = 1)
  obtain ⟨b5, i5⟩ := bex (okP (rM n x + 1) (rQ n x) = true)
  obtain ⟨b6, i6⟩ := bex (rQ n x - x = 1)
  letI : Env := mkEnv glT [.string (natS n), .int .i64 x, .int .i64 (rT n x), .int .i64 (rQ n x), .int .i64 (rQ n x - x), .int .i64 (-(rQ n x - x)), .string (natS (rM n x)), .int .u64 (((rM n x : Nat) : Int)), .int .i64 (rQ n x - x - 1), .int .u8 (((rB n x : Nat) : Int)), .int .u64 (((rM n x % 2 : Nat) : Int)), .int .u64 (((rM n x + 1 : Nat) : Int)), .float .f64 (mkW false (rM n x + 1) (rQ n x))] rfl
  have hops : OpsT Tryz.prog (@Know.ops (DAbove_dn_f_k b1 b2 b3 b4 b5 b6)) := ⟨opt_gtr_i rfl rfl i1,
    opt_sub rfl rfl rfl rfl rfl (by have := (rQ_b n x); have := hn.2.2.1; have := hn.2.2.2; simp only at *; omega),
    opt_neg rfl rfl rfl rfl (by have := (rQ_b n x); have := hn.2.2.1; have := hn.2.2.2; simp only at *; omega),
    opt_leq_i rfl rfl i2,
    opt_sub rfl rfl rfl rfl rfl (by have := (rQ_b n x); have := hn.2.2.1; have := hn.2.2.2; simp only at *; omega),
    opt_eql_i rfl rfl i3,
    opt_odd rfl rfl rfl rfl (by have : rM n x < 9007199254740992 := (rM_b (x := x) (odd_ne hn.2.1)).1; omega),
    opt_eql_i rfl rfl i4,
    opt_add64 (y := 1) rfl rfl rfl rfl rfl (by have : rM n x < 9007199254740992 := (rM_b (x := x) (odd_ne hn.2.1)).1; omega),
    opt_eql_i rfl rfl i6,
    trivial⟩
  have hcalls : CallsT Tryz.prog (@Know.calls (DAbove_dn_f_k b1 b2 b3 b4 b5 b6)) := ⟨callt rfl rfl fun w hG => DCheck_dyr (Dy.mk false n x) (Or.inr hn) w,
    callt rfl rfl fun w hG => DTop_r false n x w hn,
    callt rfl rfl fun w hG => Least_r false n x w hn h,
    callt rfl rfl fun w hG => NShift_r false n x w hn h,
    callt rfl rfl fun w hG => NSmall_r false n x w hn,
    callt rfl rfl fun w hG => NBit_r false n x w hn hu,
    callt rfl rfl fun w hG => bMake_i false (rM n x + 1) (rQ n x) w (rM_b (x := x) (odd_ne hn.2.1)).1 (rQ_b n x).1 (rQ_b n x).2 ((rM_b (x := x) (odd_ne hn.2.1)).2.imp (fun h => Nat.le_succ_of_le h) id) i5 hG,
    trivial⟩
  have fin : ∀ v, @comes (DAbove_dn_f_k b1 b2 b3 b4 b5 b6) Tryz.prog glT 3000 DAbove_dn_f_f DAbove_dn_f_a = some v → ground v = true → Ending.returned (gval v) = .returned (.tuple #[.float .f64 (rnd false n x (upAbove false n x)), .int .i64 0]) → Calls Tryz.prog 49 #[.agg #[.bool false, .string (natS n), .int .i64 x]] w fun e w' => e = .returned (.tuple #[.float .f64 (rnd false n x (upAbove false n x)), .int .i64 0]) ∧ Below w.heap.size w w' := fun v h1 h2 h3 => (@sym_ok _ (DAbove_dn_f_k b1 b2 b3 b4 b5 b6) _ (@KnowOk.of _ (DAbove_dn_f_k b1 b2 b3 b4 b5 b6) _ hops hcalls) (by kernel_rfl) _ _ _ _ h1 rfl h2 _ hG).mono fun e w' h => ⟨h.1.trans h3, h.2⟩
  clear hops hcalls
  cases b3 with
  | true =>
    have h3 : ((rB n x : Nat) : Int) = 0 := i3.1 rfl
    cases b4 with
    | true =>
      have h4 : ((rM n x % 2 : Nat) : Int) = 1 := i4.1 rfl
      cases b5 with
      | true =>
        have h5 : okP (rM n x + 1) (rQ n x) = true := i5.1 rfl
        cases b1 with
        | true =>
          exact absurd (i1.1 rfl) ((by omega))
        | false =>
          have h1 : ¬ (rT n x > 1023) := fun c => Bool.false_ne_true (i1.2 c)
          cases b2 with
          | true =>
            exact absurd (i2.1 rfl) ((by omega))
          | false =>
            have h2 : ¬ (rQ n x - x ≤ 0) := fun c => Bool.false_ne_true (i2.2 c)
            exact fin _ (DAbove_dn_f_r1 b6) rfl (show Ending.returned (.tuple #[.float .f64 (mkW false (rM n x + 1) (rQ n x)), .int .i64 0]) = .returned (.tuple #[.float .f64 (rnd false n x (upAbove false n x)), .int .i64 0]) from by rw [upAbove_t (by rw [(show rW n x = 1 from (by rw [rW_dn hn h hu, if_pos (by have := h3; omega)]))]; decide), rnd_t, mkW_ok h5])
      | false =>
        have h5 : ¬ (okP (rM n x + 1) (rQ n x) = true) := fun c => Bool.false_ne_true (i5.2 c)
        cases b1 with
        | true =>
          exact absurd (i1.1 rfl) ((by omega))
        | false =>
          have h1 : ¬ (rT n x > 1023) := fun c => Bool.false_ne_true (i1.2 c)
          cases b2 with
          | true =>
            exact absurd (i2.1 rfl) ((by omega))
          | false =>
            have h2 : ¬ (rQ n x - x ≤ 0) := fun c => Bool.false_ne_true (i2.2 c)
            exact fin _ (DAbove_dn_f_r2 b6) rfl (show Ending.returned (.tuple #[.float .f64 9218868437227405312, .int .i64 0]) = .returned (.tuple #[.float .f64 (rnd false n x (upAbove false n x)), .int .i64 0]) from by rw [upAbove_t (by rw [(show rW n x = 1 from (by rw [rW_dn hn h hu, if_pos (by have := h3; omega)]))]; decide), rnd_t, inf_f h5])
    | false =>
      have h4 : ¬ (((rM n x % 2 : Nat) : Int) = 1) := fun c => Bool.false_ne_true (i4.2 c)
      cases b5 with
      | true =>
        have h5 : okP (rM n x + 1) (rQ n x) = true := i5.1 rfl
        cases b1 with
        | true =>
          exact absurd (i1.1 rfl) ((by omega))
        | false =>
          have h1 : ¬ (rT n x > 1023) := fun c => Bool.false_ne_true (i1.2 c)
          cases b2 with
          | true =>
            exact absurd (i2.1 rfl) ((by omega))
          | false =>
            have h2 : ¬ (rQ n x - x ≤ 0) := fun c => Bool.false_ne_true (i2.2 c)
            exact fin _ (DAbove_dn_f_r3 b6) rfl (show Ending.returned (.tuple #[.float .f64 (mkW false (rM n x + 1) (rQ n x)), .int .i64 0]) = .returned (.tuple #[.float .f64 (rnd false n x (upAbove false n x)), .int .i64 0]) from by rw [upAbove_t (by rw [(show rW n x = 1 from (by rw [rW_dn hn h hu, if_pos (by have := h3; omega)]))]; decide), rnd_t, mkW_ok h5])
      | false =>
        have h5 : ¬ (okP (rM n x + 1) (rQ n x) = true) := fun c => Bool.false_ne_true (i5.2 c)
        cases b1 with
        | true =>
          exact absurd (i1.1 rfl) ((by omega))
        | false =>
          have h1 : ¬ (rT n x > 1023) := fun c => Bool.false_ne_true (i1.2 c)
          cases b2 with
          | true =>
            exact absurd (i2.1 rfl) ((by omega))
          | false =>
            have h2 : ¬ (rQ n x - x ≤ 0) := fun c => Bool.false_ne_true (i2.2 c)
            exact fin _ (DAbove_dn_f_r4 b6) rfl (show Ending.returned (.tuple #[.float .f64 9218868437227405312, .int .i64 0]) = .returned (.tuple #[.float .f64 (rnd false n x (upAbove false n x)), .int .i64 0]) from by rw [upAbove_t (by rw [(show rW n x = 1 from (by rw [rW_dn hn h hu, if_pos (by have := h3; omega)]))]; decide), rnd_t, inf_f h5])
  | false =>
    have h3 : ¬ (((rB n x : Nat) : Int) = 0) := fun c => Bool.false_ne_true (i3.2 c)
    cases b6 with
    | true =>
      have h6 : rQ n x - x = 1 := i6.1 rfl
      cases b4 with
      | true =>
        have h4 : ((rM n x % 2 : Nat) : Int) = 1 := i4.1 rfl
        cases b5 with
        | true =>
          have h5 : okP (rM n x + 1) (rQ n x) = true := i5.1 rfl
          cases b1 with
          | true =>
            exact absurd (i1.1 rfl) ((by omega))
          | false =>
            have h1 : ¬ (rT n x > 1023) := fun c => Bool.false_ne_true (i1.2 c)
            cases b2 with
            | true =>
              exact absurd (i2.1 rfl) ((by omega))
            | false =>
              have h2 : ¬ (rQ n x - x ≤ 0) := fun c => Bool.false_ne_true (i2.2 c)
              exact fin _ (DAbove_dn_f_r5) rfl (show Ending.returned (.tuple #[.float .f64 (mkW false (rM n x + 1) (rQ n x)), .int .i64 0]) = .returned (.tuple #[.float .f64 (rnd false n x (upAbove false n x)), .int .i64 0]) from by rw [upAbove_t (by rw [(show rW n x = 2 from (by rw [rW_dn hn h hu, if_neg (fun c => h3 (by rw [c]; rfl)), if_pos h6]))]; decide), rnd_t, mkW_ok h5])
        | false =>
          have h5 : ¬ (okP (rM n x + 1) (rQ n x) = true) := fun c => Bool.false_ne_true (i5.2 c)
          cases b1 with
          | true =>
            exact absurd (i1.1 rfl) ((by omega))
          | false =>
            have h1 : ¬ (rT n x > 1023) := fun c => Bool.false_ne_true (i1.2 c)
            cases b2 with
            | true =>
              exact absurd (i2.1 rfl) ((by omega))
            | false =>
              have h2 : ¬ (rQ n x - x ≤ 0) := fun c => Bool.false_ne_true (i2.2 c)
              exact fin _ (DAbove_dn_f_r6) rfl (show Ending.returned (.tuple #[.float .f64 9218868437227405312, .int .i64 0]) = .returned (.tuple #[.float .f64 (rnd false n x (upAbove false n x)), .int .i64 0]) from by rw [upAbove_t (by rw [(show rW n x = 2 from (by rw [rW_dn hn h hu, if_neg (fun c => h3 (by rw [c]; rfl)), if_pos h6]))]; decide), rnd_t, inf_f h5])
      | false =>
        have h4 : ¬ (((rM n x % 2 : Nat) : Int) = 1) := fun c => Bool.false_ne_true (i4.2 c)
        cases b5 with
        | true =>
          have h5 : okP (rM n x + 1) (rQ n x) = true := i5.1 rfl
          cases b1 with
          | true =>
            exact absurd (i1.1 rfl) ((by omega))
          | false =>
            have h1 : ¬ (rT n x > 1023) := fun c => Bool.false_ne_true (i1.2 c)
            cases b2 with
            | true =>
              exact absurd (i2.1 rfl) ((by omega))
            | false =>
              have h2 : ¬ (rQ n x - x ≤ 0) := fun c => Bool.false_ne_true (i2.2 c)
              exact fin _ (DAbove_dn_f_r7) rfl (show Ending.returned (.tuple #[.float .f64 (mkW false (rM n x + 1) (rQ n x)), .int .i64 0]) = .returned (.tuple #[.float .f64 (rnd false n x (upAbove false n x)), .int .i64 0]) from by rw [upAbove_t (by rw [(show rW n x = 2 from (by rw [rW_dn hn h hu, if_neg (fun c => h3 (by rw [c]; rfl)), if_pos h6]))]; decide), rnd_t, mkW_ok h5])
        | false =>
          have h5 : ¬ (okP (rM n x + 1) (rQ n x) = true) := fun c => Bool.false_ne_true (i5.2 c)
          cases b1 with
          | true =>
            exact absurd (i1.1 rfl) ((by omega))
          | false =>
            have h1 : ¬ (rT n x > 1023) := fun c => Bool.false_ne_true (i1.2 c)
            cases b2 with
            | true =>
              exact absurd (i2.1 rfl) ((by omega))
            | false =>
              have h2 : ¬ (rQ n x - x ≤ 0) := fun c => Bool.false_ne_true (i2.2 c)
              exact fin _ (DAbove_dn_f_r8) rfl (show Ending.returned (.tuple #[.float .f64 9218868437227405312, .int .i64 0]) = .returned (.tuple #[.float .f64 (rnd false n x (upAbove false n x)), .int .i64 0]) from by rw [upAbove_t (by rw [(show rW n x = 2 from (by rw [rW_dn hn h hu, if_neg (fun c => h3 (by rw [c]; rfl)), if_pos h6]))]; decide), rnd_t, inf_f h5])
    | false =>
      have h6 : ¬ (rQ n x - x = 1) := fun c => Bool.false_ne_true (i6.2 c)
      cases b4 with
      | true =>
        have h4 : ((rM n x % 2 : Nat) : Int) = 1 := i4.1 rfl
        cases b5 with
        | true =>
          have h5 : okP (rM n x + 1) (rQ n x) = true := i5.1 rfl
          cases b1 with
          | true =>
            exact absurd (i1.1 rfl) ((by omega))
          | false =>
            have h1 : ¬ (rT n x > 1023) := fun c => Bool.false_ne_true (i1.2 c)
            cases b2 with
            | true =>
              exact absurd (i2.1 rfl) ((by omega))
            | false =>
              have h2 : ¬ (rQ n x - x ≤ 0) := fun c => Bool.false_ne_true (i2.2 c)
              exact fin _ (DAbove_dn_f_r9) rfl (show Ending.returned (.tuple #[.float .f64 (mkW false (rM n x + 1) (rQ n x)), .int .i64 0]) = .returned (.tuple #[.float .f64 (rnd false n x (upAbove false n x)), .int .i64 0]) from by rw [upAbove_t (by rw [(show rW n x = 3 from (by rw [rW_dn hn h hu, if_neg (fun c => h3 (by rw [c]; rfl)), if_neg h6]))]; decide), rnd_t, mkW_ok h5])
        | false =>
          have h5 : ¬ (okP (rM n x + 1) (rQ n x) = true) := fun c => Bool.false_ne_true (i5.2 c)
          cases b1 with
          | true =>
            exact absurd (i1.1 rfl) ((by omega))
          | false =>
            have h1 : ¬ (rT n x > 1023) := fun c => Bool.false_ne_true (i1.2 c)
            cases b2 with
            | true =>
              exact absurd (i2.1 rfl) ((by omega))
            | false =>
              have h2 : ¬ (rQ n x - x ≤ 0) := fun c => Bool.false_ne_true (i2.2 c)
              exact fin _ (DAbove_dn_f_r10) rfl (show Ending.returned (.tuple #[.float .f64 9218868437227405312, .int .i64 0]) = .returned (.tuple #[.float .f64 (rnd false n x (upAbove false n x)), .int .i64 0]) from by rw [upAbove_t (by rw [(show rW n x = 3 from (by rw [rW_dn hn h hu, if_neg (fun c => h3 (by rw [c]; rfl)), if_neg h6]))]; decide), rnd_t, inf_f h5])
      | false =>
        have h4 : ¬ (((rM n x % 2 : Nat) : Int) = 1) := fun c => Bool.false_ne_true (i4.2 c)
        cases b5 with
        | true =>
          have h5 : okP (rM n x + 1) (rQ n x) = true := i5.1 rfl
          cases b1 with
          | true =>
            exact absurd (i1.1 rfl) ((by omega))
          | false =>
            have h1 : ¬ (rT n x > 1023) := fun c => Bool.false_ne_true (i1.2 c)
            cases b2 with
            | true =>
              exact absurd (i2.1 rfl) ((by omega))
            | false =>
              have h2 : ¬ (rQ n x - x ≤ 0) := fun c => Bool.false_ne_true (i2.2 c)
              exact fin _ (DAbove_dn_f_r11) rfl (show Ending.returned (.tuple #[.float .f64 (mkW false (rM n x + 1) (rQ n x)), .int .i64 0]) = .returned (.tuple #[.float .f64 (rnd false n x (upAbove false n x)), .int .i64 0]) from by rw [upAbove_t (by rw [(show rW n x = 3 from (by rw [rW_dn hn h hu, if_neg (fun c => h3 (by rw [c]; rfl)), if_neg h6]))]; decide), rnd_t, mkW_ok h5])
        | false =>
          have h5 : ¬ (okP (rM n x + 1) (rQ n x) = true) := fun c => Bool.false_ne_true (i5.2 c)
          cases b1 with
          | true =>
            exact absurd (i1.1 rfl) ((by omega))
          | false =>
            have h1 : ¬ (rT n x > 1023) := fun c => Bool.false_ne_true (i1.2 c)
            cases b2 with
            | true =>
              exact absurd (i2.1 rfl) ((by omega))
            | false =>
              have h2 : ¬ (rQ n x - x ≤ 0) := fun c => Bool.false_ne_true (i2.2 c)
              exact fin _ (DAbove_dn_f_r12) rfl (show Ending.returned (.tuple #[.float .f64 9218868437227405312, .int .i64 0]) = .returned (.tuple #[.float .f64 (rnd false n x (upAbove false n x)), .int .i64 0]) from by rw [upAbove_t (by rw [(show rW n x = 3 from (by rw [rW_dn hn h hu, if_neg (fun c => h3 (by rw [c]; rfl)), if_neg h6]))]; decide), rnd_t, inf_f h5])
theorem DAbove_f (n : Nat) (x : Int) (w : World) (hn : (Dy.mk false n x).Num) (hG : Globs glT w) : Calls Tryz.prog 49 #[.agg #[.bool false, .string (natS n), .int .i64 x]] w fun e w' => e = .returned (.tuple #[.float .f64 (rnd false n x (upAbove false n x)), .int .i64 0]) ∧ Below w.heap.size w w' := by
  by_cases h : 1024 ≤ rT n x
  · exact DAbove_far_f n x w hn h hG
  · by_cases hu : rQ n x ≤ x
    · exact DAbove_up_f n x w hn h hu hG
    · exact DAbove_dn_f n x w hn h hu hG
@[reducible] def DAbove_far_t_f : FuncId := 49
@[reducible] def DAbove_far_t_a : List AV := [.agg [.lit (.bool true), .sym 0, .sym 1]]
@[reducible] noncomputable def DAbove_far_t_k (b1 b2 : Bool) : Know := ⟨[([0, 15, 3], [.sym 2, .lit (.int .i64 1023)], .lit (.bool b2))],
  [(53, [.agg [.lit (.bool true), .sym 0, .sym 1]], .lit (.int .i64 0)),
  (84, [.agg [.lit (.bool true), .sym 0, .sym 1]], .tup [.sym 2, .lit (.bool true)]),
  (109, [.lit (.bool true), .lit (.int .u64 9007199254740991), .lit (.int .i64 971)], .tup [.sym 3, .lit (.bool b1)])]⟩
theorem DAbove_far_t_r1 : @comes (DAbove_far_t_k true true) Tryz.prog glT 3000 DAbove_far_t_f DAbove_far_t_a = some (.tup [.sym 3, .lit (.int .i64 0)]) := by kernel_rfl
set_option maxRecDepth 100000 in
set_option maxHeartbeats 4000000 in
theorem DAbove_far_t (n : Nat) (x : Int) (w : World) (hn : (Dy.mk true n x).Num) (h : 1024 ≤ rT n x) (hG : Globs glT w) : Calls Tryz.prog 49 #[.agg #[.bool true, .string (natS n), .int .i64 x]] w fun e w' => e = .returned (.tuple #[.float .f64 (rnd true n x (upAbove true n x)), .int .i64 0]) ∧ Below w.heap.size w w' := by
  obtain ⟨b1, i1⟩ := bex (okP 9007199254740991 971 = true)
  obtain ⟨b2, i2⟩ := bex (rT n x > 1023)
  letI : Env := mkEnv glT [.string (natS n), .int .i64 x, .int .i64 (rT n x), .float .f64 (mkW true 9007199254740991 971)] rfl
  have hops : OpsT Tryz.prog (@Know.ops (DAbove_far_t_k b1 b2)) := ⟨opt_gtr_i rfl rfl i2,
    trivial⟩
  have hcalls : CallsT Tryz.prog (@Know.calls (DAbove_far_t_k b1 b2)) := ⟨callt rfl rfl fun w hG => DCheck_dyr (Dy.mk true n x) (Or.inr hn) w,
    callt rfl rfl fun w hG => DTop_r true n x w hn,
    callt rfl rfl fun w hG => bMake_i true 9007199254740991 971 w (by omega) (by omega) (by omega) (Or.inl (by omega)) i1 hG,
    trivial⟩
  have fin : ∀ v, @comes (DAbove_far_t_k b1 b2) Tryz.prog glT 3000 DAbove_far_t_f DAbove_far_t_a = some v → ground v = true → Ending.returned (gval v) = .returned (.tuple #[.float .f64 (rnd true n x (upAbove true n x)), .int .i64 0]) → Calls Tryz.prog 49 #[.agg #[.bool true, .string (natS n), .int .i64 x]] w fun e w' => e = .returned (.tuple #[.float .f64 (rnd true n x (upAbove true n x)), .int .i64 0]) ∧ Below w.heap.size w w' := fun v h1 h2 h3 => (@sym_ok _ (DAbove_far_t_k b1 b2) _ (@KnowOk.of _ (DAbove_far_t_k b1 b2) _ hops hcalls) (by kernel_rfl) _ _ _ _ h1 rfl h2 _ hG).mono fun e w' h => ⟨h.1.trans h3, h.2⟩
  clear hops hcalls
  cases b1 with
  | true =>
    have h1 : okP 9007199254740991 971 = true := i1.1 rfl
    cases b2 with
    | true =>
      have h2 : rT n x > 1023 := i2.1 rfl
      exact fin _ (DAbove_far_t_r1) rfl (show Ending.returned (.tuple #[.float .f64 (mkW true 9007199254740991 971), .int .i64 0]) = .returned (.tuple #[.float .f64 (rnd true n x (upAbove true n x)), .int .i64 0]) from by rw [upAbove_n n x, rnd_f, (rQ_far h).1, (rQ_far h).2.1, mkW_ok h1])
    | false =>
      exact absurd (i2.2 ((by omega))) Bool.false_ne_true
  | false =>
    exact absurd (i1.2 (okP_lt (by omega))) Bool.false_ne_true
@[reducible] def DAbove_up_t_f : FuncId := 49
@[reducible] def DAbove_up_t_a : List AV := [.agg [.lit (.bool true), .sym 0, .sym 1]]
@[reducible] noncomputable def DAbove_up_t_k (b1 b2 b3 : Bool) : Know := ⟨[([0, 15, 3], [.sym 2, .lit (.int .i64 1023)], .lit (.bool b1)),
  ([0, 1, 3], [.sym 3, .sym 1], .sym 4),
  ([1, 0, 3], [.sym 4], .sym 5),
  ([0, 14, 3], [.sym 4, .lit (.int .i64 0)], .lit (.bool b3))],
  [(53, [.agg [.lit (.bool true), .sym 0, .sym 1]], .lit (.int .i64 0)),
  (84, [.agg [.lit (.bool true), .sym 0, .sym 1]], .tup [.sym 2, .lit (.bool true)]),
  (86, [.sym 2], .sym 3),
  (87, [.sym 0, .sym 5], .tup [.sym 6, .lit (.int .i64 0)]),
  (88, [.sym 6], .tup [.sym 7, .lit (.bool true)]),
  (109, [.lit (.bool true), .sym 7, .sym 3], .tup [.sym 8, .lit (.bool b2)])]⟩
theorem DAbove_up_t_r1 : @comes (DAbove_up_t_k false true true) Tryz.prog glT 3000 DAbove_up_t_f DAbove_up_t_a = some (.tup [.sym 8, .lit (.int .i64 0)]) := by kernel_rfl
set_option maxRecDepth 100000 in
set_option maxHeartbeats 4000000 in
theorem DAbove_up_t (n : Nat) (x : Int) (w : World) (hn : (Dy.mk true n x).Num) (h : ¬ 1024 ≤ rT n x) (hu : rQ n x ≤ x) (hG : Globs glT w) : Calls Tryz.prog 49 #[.agg #[.bool true, .string (natS n), .int .i64 x]] w fun e w' => e = .returned (.tuple #[.float .f64 (rnd true n x (upAbove true n x)), .int .i64 0]) ∧ Below w.heap.size w w' := by
  obtain ⟨b1, i1⟩ := bex (rT n x > 1023)
  obtain ⟨b2, i2⟩ := bex (okP (rM n x) (rQ n x) = true)
  obtain ⟨b3, i3⟩ := bex (rQ n x - x ≤ 0)
  letI : Env := mkEnv glT [.string (natS n), .int .i64 x, .int .i64 (rT n x), .int .i64 (rQ n x), .int .i64 (rQ n x - x), .int .i64 (-(rQ n x - x)), .string (natS (rM n x)), .int .u64 (((rM n x : Nat) : Int)), .float .f64 (mkW true (rM n x) (rQ n x))] rfl
  have hops : OpsT Tryz.prog (@Know.ops (DAbove_up_t_k b1 b2 b3)) := ⟨opt_gtr_i rfl rfl i1,
    opt_sub rfl rfl rfl rfl rfl (by have := (rQ_b n x); have := hn.2.2.1; have := hn.2.2.2; simp only at *; omega),
    opt_neg rfl rfl rfl rfl (by have := (rQ_b n x); have := hn.2.2.1; have := hn.2.2.2; simp only at *; omega),
    opt_leq_i rfl rfl i3,
    trivial⟩
  have hcalls : CallsT Tryz.prog (@Know.calls (DAbove_up_t_k b1 b2 b3)) := ⟨callt rfl rfl fun w hG => DCheck_dyr (Dy.mk true n x) (Or.inr hn) w,
    callt rfl rfl fun w hG => DTop_r true n x w hn,
    callt rfl rfl fun w hG => Least_r true n x w hn h,
    callt rfl rfl fun w hG => NShift_r true n x w hn h,
    callt rfl rfl fun w hG => NSmall_r true n x w hn,
    callt rfl rfl fun w hG => bMake_i true (rM n x) (rQ n x) w (Nat.le_of_lt (rM_b (x := x) (odd_ne hn.2.1)).1) (rQ_b n x).1 (rQ_b n x).2 (rM_b (x := x) (odd_ne hn.2.1)).2 i2 hG,
    trivial⟩
  have fin : ∀ v, @comes (DAbove_up_t_k b1 b2 b3) Tryz.prog glT 3000 DAbove_up_t_f DAbove_up_t_a = some v → ground v = true → Ending.returned (gval v) = .returned (.tuple #[.float .f64 (rnd true n x (upAbove true n x)), .int .i64 0]) → Calls Tryz.prog 49 #[.agg #[.bool true, .string (natS n), .int .i64 x]] w fun e w' => e = .returned (.tuple #[.float .f64 (rnd true n x (upAbove true n x)), .int .i64 0]) ∧ Below w.heap.size w w' := fun v h1 h2 h3 => (@sym_ok _ (DAbove_up_t_k b1 b2 b3) _ (@KnowOk.of _ (DAbove_up_t_k b1 b2 b3) _ hops hcalls) (by kernel_rfl) _ _ _ _ h1 rfl h2 _ hG).mono fun e w' h => ⟨h.1.trans h3, h.2⟩
  clear hops hcalls
  cases b2 with
  | true =>
    have h2 : okP (rM n x) (rQ n x) = true := i2.1 rfl
    cases b1 with
    | true =>
      exact absurd (i1.1 rfl) ((by omega))
    | false =>
      have h1 : ¬ (rT n x > 1023) := fun c => Bool.false_ne_true (i1.2 c)
      cases b3 with
      | true =>
        have h3 : rQ n x - x ≤ 0 := i3.1 rfl
        exact fin _ (DAbove_up_t_r1) rfl (show Ending.returned (.tuple #[.float .f64 (mkW true (rM n x) (rQ n x)), .int .i64 0]) = .returned (.tuple #[.float .f64 (rnd true n x (upAbove true n x)), .int .i64 0]) from by rw [upAbove_n n x, rnd_f, mkW_ok h2])
      | false =>
        exact absurd (i3.2 ((by omega))) Bool.false_ne_true
  | false =>
    exact absurd (i2.2 (okP_lt (rM_b (x := x) (odd_ne hn.2.1)).1)) Bool.false_ne_true
@[reducible] def DAbove_dn_t_f : FuncId := 49
@[reducible] def DAbove_dn_t_a : List AV := [.agg [.lit (.bool true), .sym 0, .sym 1]]
@[reducible] noncomputable def DAbove_dn_t_k (b1 b2 b3 b4 b5 b6 : Bool) : Know := ⟨[([0, 15, 3], [.sym 2, .lit (.int .i64 1023)], .lit (.bool b1)),
  ([0, 1, 3], [.sym 3, .sym 1], .sym 4),
  ([1, 0, 3], [.sym 4], .sym 5),
  ([0, 14, 3], [.sym 4, .lit (.int .i64 0)], .lit (.bool b3)),
  ([0, 1, 3], [.sym 4, .lit (.int .i64 1)], .sym 9),
  ([0, 11, 5], [.sym 10, .lit (.int .u8 0)], .lit (.bool b4)),
  ([0, 5, 69], [.sym 7, .lit (.int .u64 1)], .sym 11),
  ([0, 11, 69], [.sym 11, .lit (.int .u64 1)], .lit (.bool b5)),
  ([0, 11, 3], [.sym 4, .lit (.int .i64 1)], .lit (.bool b6))],
  [(53, [.agg [.lit (.bool true), .sym 0, .sym 1]], .lit (.int .i64 0)),
  (84, [.agg [.lit (.bool true), .sym 0, .sym 1]], .tup [.sym 2, .lit (.bool true)]),
  (86, [.sym 2], .sym 3),
  (87, [.sym 0, .sym 5], .tup [.sym 6, .lit (.int .i64 0)]),
  (88, [.sym 6], .tup [.sym 7, .lit (.bool true)]),
  (109, [.lit (.bool true), .sym 7, .sym 3], .tup [.sym 8, .lit (.bool b2)]),
  (111, [.sym 0, .sym 9], .tup [.sym 10, .lit (.int .i64 0)])]⟩
theorem DAbove_dn_t_r1 (b6 : Bool) : @comes (DAbove_dn_t_k false true false true true b6) Tryz.prog glT 3000 DAbove_dn_t_f DAbove_dn_t_a = some (.tup [.sym 8, .lit (.int .i64 0)]) := by kernel_rfl
theorem DAbove_dn_t_r2 (b6 : Bool) : @comes (DAbove_dn_t_k false true false true false b6) Tryz.prog glT 3000 DAbove_dn_t_f DAbove_dn_t_a = some (.tup [.sym 8, .lit (.int .i64 0)]) := by kernel_rfl
theorem DAbove_dn_t_r3 : @comes (DAbove_dn_t_k false true false false true true) Tryz.prog glT 3000 DAbove_dn_t_f DAbove_dn_t_a = some (.tup [.sym 8, .lit (.int .i64 0)]) := by kernel_rfl
theorem DAbove_dn_t_r4 : @comes (DAbove_dn_t_k false true false false false true) Tryz.prog glT 3000 DAbove_dn_t_f DAbove_dn_t_a = some (.tup [.sym 8, .lit (.int .i64 0)]) := by kernel_rfl
theorem DAbove_dn_t_r5 : @comes (DAbove_dn_t_k false true false false true false) Tryz.prog glT 3000 DAbove_dn_t_f DAbove_dn_t_a = some (.tup [.sym 8, .lit (.int .i64 0)]) := by kernel_rfl
theorem DAbove_dn_t_r6 : @comes (DAbove_dn_t_k false true false false false false) Tryz.prog glT 3000 DAbove_dn_t_f DAbove_dn_t_a = some (.tup [.sym 8, .lit (.int .i64 0)]) := by kernel_rfl
set_option maxRecDepth 100000 in
set_option maxHeartbeats 4000000 in
theorem DAbove_dn_t (n : Nat) (x : Int) (w : World) (hn : (Dy.mk true n x).Num) (h : ¬ 1024 ≤ rT n x) (hu : ¬ rQ n x ≤ x) (hG : Globs glT w) : Calls Tryz.prog 49 #[.agg #[.bool true, .string (natS n), .int .i64 x]] w fun e w' => e = .returned (.tuple #[.float .f64 (rnd true n x (upAbove true n x)), .int .i64 0]) ∧ Below w.heap.size w w' := by
  obtain ⟨b1, i1⟩ := bex (rT n x > 1023)
  obtain ⟨b2, i2⟩ := bex (okP (rM n x) (rQ n x) = true)
  obtain ⟨b3, i3⟩ := bex (rQ n x - x ≤ 0)
  obtain ⟨b4, i4⟩ := bex (((rB n x : Nat) : Int) = 0)
  obtain ⟨b5, i5⟩ := bex (((rM n x % 2 : Nat) : Int) = 1)
  obtain ⟨b6, i6⟩ := bex (rQ n x - x = 1)
  letI : Env := mkEnv glT [.string (natS n), .int .i64 x, .int .i64 (rT n x), .int .i64 (rQ n x), .int .i64 (rQ n x - x), .int .i64 (-(rQ n x - x)), .string (natS (rM n x)), .int .u64 (((rM n x : Nat) : Int)), .float .f64 (mkW true (rM n x) (rQ n x)), .int .i64 (rQ n x - x - 1), .int .u8 (((rB n x : Nat) : Int)), .int .u64 (((rM n x % 2 : Nat) : Int))] rfl
  have hops : OpsT Tryz.prog (@Know.ops (DAbove_dn_t_k b1 b2 b3 b4 b5 b6)) := ⟨opt_gtr_i rfl rfl i1,
    opt_sub rfl rfl rfl rfl rfl (by have := (rQ_b n x); have := hn.2.2.1; have := hn.2.2.2; simp only at *; omega),
    opt_neg rfl rfl rfl rfl (by have := (rQ_b n x); have := hn.2.2.1; have := hn.2.2.2; simp only at *; omega),
    opt_leq_i rfl rfl i3,
    opt_sub rfl rfl rfl rfl rfl (by have := (rQ_b n x); have := hn.2.2.1; have := hn.2.2.2; simp only at *; omega),
    opt_eql_i rfl rfl i4,
    opt_odd rfl rfl rfl rfl (by have : rM n x < 9007199254740992 := (rM_b (x := x) (odd_ne hn.2.1)).1; omega),
    opt_eql_i rfl rfl i5,
    opt_eql_i rfl rfl i6,
    trivial⟩
  have hcalls : CallsT Tryz.prog (@Know.calls (DAbove_dn_t_k b1 b2 b3 b4 b5 b6)) := ⟨callt rfl rfl fun w hG => DCheck_dyr (Dy.mk true n x) (Or.inr hn) w,
    callt rfl rfl fun w hG => DTop_r true n x w hn,
    callt rfl rfl fun w hG => Least_r true n x w hn h,
    callt rfl rfl fun w hG => NShift_r true n x w hn h,
    callt rfl rfl fun w hG => NSmall_r true n x w hn,
    callt rfl rfl fun w hG => bMake_i true (rM n x) (rQ n x) w (Nat.le_of_lt (rM_b (x := x) (odd_ne hn.2.1)).1) (rQ_b n x).1 (rQ_b n x).2 (rM_b (x := x) (odd_ne hn.2.1)).2 i2 hG,
    callt rfl rfl fun w hG => NBit_r true n x w hn hu,
    trivial⟩
  have fin : ∀ v, @comes (DAbove_dn_t_k b1 b2 b3 b4 b5 b6) Tryz.prog glT 3000 DAbove_dn_t_f DAbove_dn_t_a = some v → ground v = true → Ending.returned (gval v) = .returned (.tuple #[.float .f64 (rnd true n x (upAbove true n x)), .int .i64 0]) → Calls Tryz.prog 49 #[.agg #[.bool true, .string (natS n), .int .i64 x]] w fun e w' => e = .returned (.tuple #[.float .f64 (rnd true n x (upAbove true n x)), .int .i64 0]) ∧ Below w.heap.size w w' := fun v h1 h2 h3 => (@sym_ok _ (DAbove_dn_t_k b1 b2 b3 b4 b5 b6) _ (@KnowOk.of _ (DAbove_dn_t_k b1 b2 b3 b4 b5 b6) _ hops hcalls) (by kernel_rfl) _ _ _ _ h1 rfl h2 _ hG).mono fun e w' h => ⟨h.1.trans h3, h.2⟩
  clear hops hcalls
  cases b4 with
  | true =>
    have h4 : ((rB n x : Nat) : Int) = 0 := i4.1 rfl
    cases b5 with
    | true =>
      have h5 : ((rM n x % 2 : Nat) : Int) = 1 := i5.1 rfl
      cases b2 with
      | true =>
        have h2 : okP (rM n x) (rQ n x) = true := i2.1 rfl
        cases b1 with
        | true =>
          exact absurd (i1.1 rfl) ((by omega))
        | false =>
          have h1 : ¬ (rT n x > 1023) := fun c => Bool.false_ne_true (i1.2 c)
          cases b3 with
          | true =>
            exact absurd (i3.1 rfl) ((by omega))
          | false =>
            have h3 : ¬ (rQ n x - x ≤ 0) := fun c => Bool.false_ne_true (i3.2 c)
            exact fin _ (DAbove_dn_t_r1 b6) rfl (show Ending.returned (.tuple #[.float .f64 (mkW true (rM n x) (rQ n x)), .int .i64 0]) = .returned (.tuple #[.float .f64 (rnd true n x (upAbove true n x)), .int .i64 0]) from by rw [upAbove_n n x, rnd_f, mkW_ok h2])
      | false =>
        exact absurd (i2.2 (okP_lt (rM_b (x := x) (odd_ne hn.2.1)).1)) Bool.false_ne_true
    | false =>
      have h5 : ¬ (((rM n x % 2 : Nat) : Int) = 1) := fun c => Bool.false_ne_true (i5.2 c)
      cases b2 with
      | true =>
        have h2 : okP (rM n x) (rQ n x) = true := i2.1 rfl
        cases b1 with
        | true =>
          exact absurd (i1.1 rfl) ((by omega))
        | false =>
          have h1 : ¬ (rT n x > 1023) := fun c => Bool.false_ne_true (i1.2 c)
          cases b3 with
          | true =>
            exact absurd (i3.1 rfl) ((by omega))
          | false =>
            have h3 : ¬ (rQ n x - x ≤ 0) := fun c => Bool.false_ne_true (i3.2 c)
            exact fin _ (DAbove_dn_t_r2 b6) rfl (show Ending.returned (.tuple #[.float .f64 (mkW true (rM n x) (rQ n x)), .int .i64 0]) = .returned (.tuple #[.float .f64 (rnd true n x (upAbove true n x)), .int .i64 0]) from by rw [upAbove_n n x, rnd_f, mkW_ok h2])
      | false =>
        exact absurd (i2.2 (okP_lt (rM_b (x := x) (odd_ne hn.2.1)).1)) Bool.false_ne_true
  | false =>
    have h4 : ¬ (((rB n x : Nat) : Int) = 0) := fun c => Bool.false_ne_true (i4.2 c)
    cases b6 with
    | true =>
      have h6 : rQ n x - x = 1 := i6.1 rfl
      cases b5 with
      | true =>
        have h5 : ((rM n x % 2 : Nat) : Int) = 1 := i5.1 rfl
        cases b2 with
        | true =>
          have h2 : okP (rM n x) (rQ n x) = true := i2.1 rfl
          cases b1 with
          | true =>
            exact absurd (i1.1 rfl) ((by omega))
          | false =>
            have h1 : ¬ (rT n x > 1023) := fun c => Bool.false_ne_true (i1.2 c)
            cases b3 with
            | true =>
              exact absurd (i3.1 rfl) ((by omega))
            | false =>
              have h3 : ¬ (rQ n x - x ≤ 0) := fun c => Bool.false_ne_true (i3.2 c)
              exact fin _ (DAbove_dn_t_r3) rfl (show Ending.returned (.tuple #[.float .f64 (mkW true (rM n x) (rQ n x)), .int .i64 0]) = .returned (.tuple #[.float .f64 (rnd true n x (upAbove true n x)), .int .i64 0]) from by rw [upAbove_n n x, rnd_f, mkW_ok h2])
        | false =>
          exact absurd (i2.2 (okP_lt (rM_b (x := x) (odd_ne hn.2.1)).1)) Bool.false_ne_true
      | false =>
        have h5 : ¬ (((rM n x % 2 : Nat) : Int) = 1) := fun c => Bool.false_ne_true (i5.2 c)
        cases b2 with
        | true =>
          have h2 : okP (rM n x) (rQ n x) = true := i2.1 rfl
          cases b1 with
          | true =>
            exact absurd (i1.1 rfl) ((by omega))
          | false =>
            have h1 : ¬ (rT n x > 1023) := fun c => Bool.false_ne_true (i1.2 c)
            cases b3 with
            | true =>
              exact absurd (i3.1 rfl) ((by omega))
            | false =>
              have h3 : ¬ (rQ n x - x ≤ 0) := fun c => Bool.false_ne_true (i3.2 c)
              exact fin _ (DAbove_dn_t_r4) rfl (show Ending.returned (.tuple #[.float .f64 (mkW true (rM n x) (rQ n x)), .int .i64 0]) = .returned (.tuple #[.float .f64 (rnd true n x (upAbove true n x)), .int .i64 0]) from by rw [upAbove_n n x, rnd_f, mkW_ok h2])
        | false =>
          exact absurd (i2.2 (okP_lt (rM_b (x := x) (odd_ne hn.2.1)).1)) Bool.false_ne_true
    | false =>
      have h6 : ¬ (rQ n x - x = 1) := fun c => Bool.false_ne_true (i6.2 c)
      cases b5 with
      | true =>
        have h5 : ((rM n x % 2 : Nat) : Int) = 1 := i5.1 rfl
        cases b2 with
        | true =>
          have h2 : okP (rM n x) (rQ n x) = true := i2.1 rfl
          cases b1 with
          | true =>
            exact absurd (i1.1 rfl) ((by omega))
          | false =>
            have h1 : ¬ (rT n x > 1023) := fun c => Bool.false_ne_true (i1.2 c)
            cases b3 with
            | true =>
              exact absurd (i3.1 rfl) ((by omega))
            | false =>
              have h3 : ¬ (rQ n x - x ≤ 0) := fun c => Bool.false_ne_true (i3.2 c)
              exact fin _ (DAbove_dn_t_r5) rfl (show Ending.returned (.tuple #[.float .f64 (mkW true (rM n x) (rQ n x)), .int .i64 0]) = .returned (.tuple #[.float .f64 (rnd true n x (upAbove true n x)), .int .i64 0]) from by rw [upAbove_n n x, rnd_f, mkW_ok h2])
        | false =>
          exact absurd (i2.2 (okP_lt (rM_b (x := x) (odd_ne hn.2.1)).1)) Bool.false_ne_true
      | false =>
        have h5 : ¬ (((rM n x % 2 : Nat) : Int) = 1) := fun c => Bool.false_ne_true (i5.2 c)
        cases b2 with
        | true =>
          have h2 : okP (rM n x) (rQ n x) = true := i2.1 rfl
          cases b1 with
          | true =>
            exact absurd (i1.1 rfl) ((by omega))
          | false =>
            have h1 : ¬ (rT n x > 1023) := fun c => Bool.false_ne_true (i1.2 c)
            cases b3 with
            | true =>
              exact absurd (i3.1 rfl) ((by omega))
            | false =>
              have h3 : ¬ (rQ n x - x ≤ 0) := fun c => Bool.false_ne_true (i3.2 c)
              exact fin _ (DAbove_dn_t_r6) rfl (show Ending.returned (.tuple #[.float .f64 (mkW true (rM n x) (rQ n x)), .int .i64 0]) = .returned (.tuple #[.float .f64 (rnd true n x (upAbove true n x)), .int .i64 0]) from by rw [upAbove_n n x, rnd_f, mkW_ok h2])
        | false =>
          exact absurd (i2.2 (okP_lt (rM_b (x := x) (odd_ne hn.2.1)).1)) Bool.false_ne_true
theorem DAbove_t (n : Nat) (x : Int) (w : World) (hn : (Dy.mk true n x).Num) (hG : Globs glT w) : Calls Tryz.prog 49 #[.agg #[.bool true, .string (natS n), .int .i64 x]] w fun e w' => e = .returned (.tuple #[.float .f64 (rnd true n x (upAbove true n x)), .int .i64 0]) ∧ Below w.heap.size w w' := by
  by_cases h : 1024 ≤ rT n x
  · exact DAbove_far_t n x w hn h hG
  · by_cases hu : rQ n x ≤ x
    · exact DAbove_up_t n x w hn h hu hG
    · exact DAbove_dn_t n x w hn h hu hG
end Go.Proofs.YtmjjodficjjehabGreatDoor
namespace Go.Proofs.YtmjjodficjjehabGreatDoor
open Go Go.RowKit Nt
end Go.Proofs.YtmjjodficjjehabGreatDoor
