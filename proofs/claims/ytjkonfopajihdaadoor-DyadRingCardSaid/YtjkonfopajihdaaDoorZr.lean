/- Texts put together: D35 D36 D37 D38. -/
import Derived.Test.YtjkonfopajihdaaDoorZq
import Derived.Test.YtjkonfopajihdaaDoorZk
set_option linter.unusedSimpArgs false
set_option linter.unusedVariables false
namespace Go.Proofs.YtjkonfopajihdaaDoor
open Go Go.RowKit Nt

theorem Dbrief_c (a b : Dy) (j : Nat) (w : World) (ha : a.Num) (hb : b.Num) (hj : j = (a.x - b.x).toNat) (hj2 : j ≤ 3000000) :
    Calls Tryd.prog 79 #[.agg #[.bool a.g, .string (natS a.n), .int .i64 a.x], .agg #[.bool b.g, .string (natS b.n), .int .i64 b.x], .int .i64 (j : Nat)] w (BrPost a b w) := by
  cases c1 : brB a.n with
  | false => exact Dbrief_no a b j w ha hb hj2 (Or.inl c1)
  | true =>
    cases c2 : brB b.n with
    | false => exact Dbrief_no a b j w ha hb hj2 (Or.inr (Or.inl ⟨c1, c2⟩))
    | true =>
      by_cases c3 : 62 < j
      · exact Dbrief_no a b j w ha hb hj2 (Or.inr (Or.inr (Or.inl ⟨c1, c2, c3⟩)))
      · by_cases c4 : 62 < nd 2 a.n + j
        · exact Dbrief_no a b j w ha hb hj2 (Or.inr (Or.inr (Or.inr (Or.inl ⟨c1, c2, c3, c4⟩))))
        · by_cases c5 : 62 < nd 2 b.n
          · exact Dbrief_no a b j w ha hb hj2 (Or.inr (Or.inr (Or.inr (Or.inr ⟨c1, c2, c3, c4, c5⟩))))
          · exact Dbrief_yes a b j w ha hb hj c1 c2 c3 c4 c5
/-- From w on: two Dyads in boxes, and a third box for what is answered. -/
def TC (w : World) (a b : Dt) (W : World) : Prop := TB w a b W ∧ Box3 W (w.heap.size + 2) (.bool false) (.string ⟨#[]⟩) (.int .i64 0)
theorem TC.start (w : World) (a b : Dt) : TC w a b (((w.alloc (.cells #[.bool a.g, .string a.s, .int .i64 a.x] 24)).alloc (.cells #[.bool b.g, .string b.s, .int .i64 b.x] 24)).alloc (.cells #[.bool false, .string ⟨#[]⟩, .int .i64 0] 24)) := by
  refine ⟨(TB.start w a b).more _, ?_⟩
  have := Box3.new ((w.alloc (.cells #[.bool a.g, .string a.s, .int .i64 a.x] 24)).alloc (.cells #[.bool b.g, .string b.s, .int .i64 b.x] 24)) (.bool false) (.string ⟨#[]⟩) (.int .i64 0)
  simpa using this
theorem TC.step {w : World} {a b : Dt} {W W' : World} (h : TC w a b W) (hb : Below W.heap.size W W') : TC w a b W' := ⟨h.1.step hb, h.2.step hb⟩
theorem TC.more {w : World} {a b : Dt} {W : World} (h : TC w a b W) (o : Obj) : TC w a b (W.alloc o) := h.step ((Below.refl _ _).alloc (Nat.le_refl _) _)
theorem TC.drawn {w : World} {a b : Dt} {W : World} (h : TC w a b W) (n : Nat) : TC w a b (W.drewN n) := h.step (below_drewN (Below.refl _ _) n)
theorem TC.drew {w : World} {a b : Dt} {W : World} (h : TC w a b W) : TC w a b W.drew := h.step (Below.refl _ _).drew
theorem TC.fin {w : World} {a b : Dt} {W : World} (h : TC w a b W) (x y z : Value) : Below w.heap.size w (((W.setCell ⟨w.heap.size + 2, 0, none⟩ x).setCell ⟨w.heap.size + 2, 1, none⟩ y).setCell ⟨w.heap.size + 2, 2, none⟩ z) := below_put h.1.1 (by omega) x y z
set_option maxRecDepth 100000 in
set_option maxHeartbeats 2000000 in
theorem DAdd_bad (a b : Dt) (w : World) (ha : a.s.size ≤ 9223372036854775807) (hb : b.s.size ≤ 9223372036854775807) (hn : ¬ (a.Ok ∧ b.Ok)) :
    Calls Tryd.prog 40 #[.agg #[.bool a.g, .string a.s, .int .i64 a.x], .agg #[.bool b.g, .string b.s, .int .i64 b.x]] w fun e w' => e = .returned (.tuple #[.agg #[.bool false, .string ⟨#[]⟩, .int .i64 0], .int .i64 2]) ∧ Below w.heap.size w w' := by
  have he : dE [a, b] = 2 := by
    by_cases h : a.Ok
    · exact dE_no (t := b) (by simp) (fun c => hn ⟨h, c⟩)
    · exact dE_no (t := a) (by simp) h
  have KA := Lib.hid (fun W T A hA => Dall2 a b W T A hA ha hb)
  rw [he] at KA
  have T0 := TC.start w a b
  clear ha hb hn he
  go_enter Tryd.func40, Tryd.ntmps40
  go_wp2_with fail
  refine (KA.out _ _ _ (by simp)).mono ?_
  rintro e w1 ⟨rfl, hb⟩
  replace T0 := (T0.more _).step hb
  clear hb
  obtain ⟨r0, r1, r2, r3, r4, r5, r6⟩ := T0.2.facts
  go_wp2_with fail
  refine bodyPost_ret (v := .tuple #[.agg #[.bool false, .string ⟨#[]⟩, .int .i64 0], .int .i64 2]) (by simp [results, Tryd.results40, go_sem, r0, r1, r2, r3]) rfl ⟨rfl, ?_⟩
  repeat (refine Below.setCell ?_ (by simp; omega) _)
  exact T0.1.1
theorem all_ok2 (a b : Dy) (ha : a.Ok) (hb : b.Ok) (W : World) (T : TypeId) (A : Nat) (hA : A = W.heap.size) :
    Calls Tryd.prog 75 #[.slice (some ⟨A, 0, none⟩) 2 2] (W.alloc (.cells #[.bool a.g, .string (natS a.n), .int .i64 a.x, .bool b.g, .string (natS b.n), .int .i64 b.x] T)) fun e w' => e = .returned (.int .i64 0) ∧ Below (W.alloc (.cells #[.bool a.g, .string (natS a.n), .int .i64 a.x, .bool b.g, .string (natS b.n), .int .i64 b.x] T)).heap.size (W.alloc (.cells #[.bool a.g, .string (natS a.n), .int .i64 a.x, .bool b.g, .string (natS b.n), .int .i64 b.x] T)) w' := by
  have := Dall2 a.t b.t W T A hA (by have := Dy.small ha; show (natS a.n).size ≤ _; omega) (by have := Dy.small hb; show (natS b.n).size ≤ _; omega)
  rwa [dE_ok (fun t ht => by
    rcases List.mem_cons.1 ht with rfl | ht
    · exact Dy.ok_t ha
    · rw [List.mem_singleton.1 ht]; exact Dy.ok_t hb)] at this
set_option maxRecDepth 100000 in
set_option maxHeartbeats 2000000 in
theorem DAdd_zl (b : Dy) (w : World) (hb : b.Ok) :
    Calls Tryd.prog 40 #[.agg #[.bool false, .string ⟨#[]⟩, .int .i64 0], .agg #[.bool b.g, .string (natS b.n), .int .i64 b.x]] w fun e w' => e = .returned (.tuple #[.agg #[.bool b.g, .string (natS b.n), .int .i64 b.x], .int .i64 0]) ∧ Below w.heap.size w w' := by
  have KA := Lib.hid (fun W T A hA => all_ok2 Dy.zero b (Or.inl rfl) hb W T A hA)
  simp only [Dy.zero, natS_zero] at KA
  have T0 := TC.start w ⟨false, ⟨#[]⟩, 0⟩ b.t
  unfold Dy.t at T0
  clear hb
  go_enter Tryd.func40, Tryd.ntmps40
  go_wp2_with fail
  refine (KA.out _ _ _ (by simp)).mono ?_
  rintro e w1 ⟨rfl, hb⟩
  replace T0 := (T0.more _).step hb
  clear hb
  obtain ⟨p0, p1, p2, p3, p4, p5, p6⟩ := T0.1.2.1.facts
  obtain ⟨q0, q1, q2, q3, q4, q5, q6⟩ := T0.1.2.2.facts
  obtain ⟨r0, r1, r2, r3, r4, r5, r6⟩ := T0.2.facts
  go_wp2_with fail
  refine bodyPost_ret (v := .tuple #[.agg #[.bool b.g, .string (natS b.n), .int .i64 b.x], .int .i64 0]) (by simp [results, Tryd.results40, go_sem, r0, r1, r2, r3]) rfl ⟨rfl, ?_⟩
  repeat (refine Below.setCell ?_ (by simp; omega) _)
  exact T0.1.1
set_option maxRecDepth 100000 in
set_option maxHeartbeats 2000000 in
theorem DAdd_zr (a : Dy) (w : World) (ha : a.Num) :
    Calls Tryd.prog 40 #[.agg #[.bool a.g, .string (natS a.n), .int .i64 a.x], .agg #[.bool false, .string ⟨#[]⟩, .int .i64 0]] w fun e w' => e = .returned (.tuple #[.agg #[.bool a.g, .string (natS a.n), .int .i64 a.x], .int .i64 0]) ∧ Below w.heap.size w w' := by
  have KA := Lib.hid (fun W T A hA => all_ok2 a Dy.zero (Or.inr ha) (Or.inl rfl) W T A hA)
  simp only [Dy.zero, natS_zero] at KA
  have T0 := TC.start w a.t ⟨false, ⟨#[]⟩, 0⟩
  unfold Dy.t at T0
  have hE := natS_full (odd_ne ha.2.1)
  have hE2 := natS_full2 (odd_ne ha.2.1)
  clear ha
  go_enter Tryd.func40, Tryd.ntmps40
  go_wp2_with fail
  refine (KA.out _ _ _ (by simp)).mono ?_
  rintro e w1 ⟨rfl, hb⟩
  replace T0 := (T0.more _).step hb
  clear hb
  obtain ⟨p0, p1, p2, p3, p4, p5, p6⟩ := T0.1.2.1.facts
  obtain ⟨q0, q1, q2, q3, q4, q5, q6⟩ := T0.1.2.2.facts
  obtain ⟨r0, r1, r2, r3, r4, r5, r6⟩ := T0.2.facts
  go_wp2_with fail
  refine bodyPost_ret (v := .tuple #[.agg #[.bool a.g, .string (natS a.n), .int .i64 a.x], .int .i64 0]) (by simp [results, Tryd.results40, go_sem, r0, r1, r2, r3]) rfl ⟨rfl, ?_⟩
  repeat (refine Below.setCell ?_ (by simp; omega) _)
  exact T0.1.1
end Go.Proofs.YtjkonfopajihdaaDoor
set_option linter.unusedSimpArgs false
set_option linter.unusedVariables false
namespace Go.Proofs.YtjkonfopajihdaaDoor
open Go Go.RowKit Nt

theorem TC.swap {w : World} {a b : Dt} {W : World} (h : TC w a b W) : TC w b a ((((((W.setCell ⟨w.heap.size, 0, none⟩ (.bool b.g)).setCell ⟨w.heap.size, 1, none⟩ (.string b.s)).setCell ⟨w.heap.size, 2, none⟩ (.int .i64 b.x)).setCell ⟨w.heap.size + 1, 0, none⟩ (.bool a.g)).setCell ⟨w.heap.size + 1, 1, none⟩ (.string a.s)).setCell ⟨w.heap.size + 1, 2, none⟩ (.int .i64 a.x)) := by
  obtain ⟨⟨h1, h2, h3⟩, h4⟩ := h
  refine ⟨⟨below_put (below_put h1 (Nat.le_refl _) _ _ _) (by omega) _ _ _, ?_, ?_⟩, ?_⟩
  · exact Box3.far (h2.put _ _ _) (by omega) _ _ _
  · exact Box3.put (Box3.far h3 (by omega) _ _ _) _ _ _
  · exact Box3.far (Box3.far h4 (by omega) _ _ _) (by omega) _ _ _
/-- Too far apart. -/
theorem hi_long {p q : Dy} (hp : p.Num) (hq : q.Num) (hx : 131072 < p.x - q.x) : hiD p q = Dy.zero ∧ hiE p q = 4 := by
  obtain ⟨j, hj⟩ : ∃ j, j = (p.x - q.x).toNat := ⟨_, rfl⟩
  obtain ⟨E, hE⟩ : ∃ E, E = 131072 := ⟨_, rfl⟩
  have hj2 : E + 1 ≤ j := by omega
  have hup : upN p q = p.n * 2 ^ j := by rw [upN_eq, ← hj]
  have hy : q.n < 2 ^ E := (lt_pow_iff (b := 2) (by omega) E q.n).2 (by rw [hE]; exact bits_131072' hq.1)
  have hX : 2 ^ (E + 1) ≤ upN p q := by
    rw [hup]
    exact Nat.le_trans (Nat.pow_le_pow_right (by omega) hj2) (Nat.le_mul_of_pos_left _ (Nat.pos_of_ne_zero (odd_ne hp.2.1)))
  have hev : upN p q % 2 = 0 := by
    rw [hup, show j = (j - 1) + 1 by omega, Nat.pow_succ, ← Nat.mul_assoc]; exact Nat.mul_mod_left _ _
  have hqo := hq.2.1
  rw [Nat.pow_succ] at hX
  have hbig : ∀ N, nd 2 N ≤ 131072 → N < 2 ^ E := fun N h => (lt_pow_iff (b := 2) (by omega) E N).2 (by omega)
  generalize (2 : Nat) ^ E = P at *
  clear hE hj2 hj
  have key : ∀ N, N % 2 = 1 → P ≤ N → ¬ mkOk3 N q.x := by
    intro N ho hN hk
    rcases hk with hk | ⟨hk, _⟩
    · exact odd_ne ho hk
    · rw [odN_odd ho] at hk
      have h2 := hbig N (bits_131072' hk)
      omega
  have hN : ¬ mkOk3 (sumN p.g q.g (upN p q) q.n) q.x := by
    unfold sumN
    split
    · exact key _ (by omega) (by omega)
    · rw [if_neg (by omega)]
      exact key _ (by omega) (by omega)
  exact ⟨by rw [hiD_eq, mkD_no hN], by rw [hiE_eq, mkE_no hN]⟩
theorem hi_same {p q : Dy} (h : p.g = q.g) (X : Nat) (hX : upN p q = X) : hiD p q = mkD p.g (X + q.n) q.x ∧ hiE p q = mkE (X + q.n) q.x := by
  rw [hiD_eq, hiE_eq, hX]; unfold sumG sumN; rw [if_pos h, if_pos h]; exact ⟨rfl, rfl⟩
theorem hi_lt {p q : Dy} (h : ¬ p.g = q.g) (X : Nat) (hX : upN p q = X) (hl : X < q.n) : hiD p q = mkD q.g (q.n - X) q.x ∧ hiE p q = mkE (q.n - X) q.x := by
  rw [hiD_eq, hiE_eq, hX]; unfold sumG sumN; rw [if_neg h, if_neg h, if_pos hl, if_pos hl]; exact ⟨rfl, rfl⟩
theorem hi_ge {p q : Dy} (h : ¬ p.g = q.g) (X : Nat) (hX : upN p q = X) (hl : ¬ X < q.n) : hiD p q = mkD p.g (X - q.n) q.x ∧ hiE p q = mkE (X - q.n) q.x := by
  rw [hiD_eq, hiE_eq, hX]; unfold sumG sumN; rw [if_neg h, if_neg h, if_neg hl, if_neg hl]; exact ⟨rfl, rfl⟩
theorem read_nat (n : Nat) (w : World) (hf : fits n) : Calls Tryd.prog 81 #[.string (natS n)] w (NumPost n w) := by
  have := Read_c (natS n) w (by rw [natS_size]; unfold fits at hf; omega)
  rwa [bytesN_natS] at this
theorem fits_W {n : Nat} (h : fits n) : nd W n ≤ 2048 := by
  have := words_bytes n
  unfold fits at h
  omega
end Go.Proofs.YtjkonfopajihdaaDoor
set_option linter.unusedSimpArgs false
set_option linter.unusedVariables false
namespace Go.Proofs.YtjkonfopajihdaaDoor
open Go Go.RowKit Nt

/-- As TC, whatever stands in the third box. -/
def TD (w : World) (a b : Dt) (W : World) : Prop := TB w a b W ∧ ∃ x y z, Box3 W (w.heap.size + 2) x y z
theorem TD.step {w : World} {a b : Dt} {W W' : World} (h : TD w a b W) (hb : Below W.heap.size W W') : TD w a b W' := by
  obtain ⟨h1, x, y, z, h2⟩ := h; exact ⟨h1.step hb, x, y, z, h2.step hb⟩
theorem TD.drawn {w : World} {a b : Dt} {W : World} (h : TD w a b W) (n : Nat) : TD w a b (W.drewN n) := h.step (below_drewN (Below.refl _ _) n)
theorem TD.drew {w : World} {a b : Dt} {W : World} (h : TD w a b W) : TD w a b W.drew := h.step (Below.refl _ _).drew
theorem TC.td {w : World} {a b : Dt} {W : World} (h : TC w a b W) : TD w a b W := ⟨h.1, _, _, _, h.2⟩
theorem TD.put {w : World} {a b : Dt} {W : World} (h : TD w a b W) (x y z : Value) : TD w a b (((W.setCell ⟨w.heap.size + 2, 0, none⟩ x).setCell ⟨w.heap.size + 2, 1, none⟩ y).setCell ⟨w.heap.size + 2, 2, none⟩ z) := by
  obtain ⟨⟨h1, h2, h3⟩, x', y', z', h4⟩ := h
  exact ⟨⟨below_put h1 (by omega) _ _ _, h2.far (by omega) _ _ _, h3.far (by omega) _ _ _⟩, _, _, _, h4.put _ _ _⟩
theorem TD.res {w : World} {a b : Dt} {W : World} (h : TD w a b W) : w.heap.size + 2 < W.heap.size ∧ (W.cell? ⟨w.heap.size + 2, 0, none⟩).isSome = true ∧ (W.cell? ⟨w.heap.size + 2, 1, none⟩).isSome = true ∧ (W.cell? ⟨w.heap.size + 2, 2, none⟩).isSome = true ∧ W.frozen? ⟨w.heap.size + 2, 0, none⟩ = false ∧ W.frozen? ⟨w.heap.size + 2, 1, none⟩ = false ∧ W.frozen? ⟨w.heap.size + 2, 2, none⟩ = false := by
  obtain ⟨h1, x, y, z, h4⟩ := h
  obtain ⟨r0, r1, r2, r3, r4, r5, r6⟩ := h4.facts
  exact ⟨r0, by rw [r1]; rfl, by rw [r2]; rfl, by rw [r3]; rfl, r4, r5, r6⟩
/-- What stands in a cell. -/
@[irreducible] def cellAt (W : World) (B i : Nat) : Value := (W.cell? ⟨B, i, none⟩).getD undef
theorem cellAt_eq {W : World} {B i : Nat} {v : Value} (h : W.cell? ⟨B, i, none⟩ = some v) : W.cell? ⟨B, i, none⟩ = some (cellAt W B i) := by unfold cellAt; rw [h]; rfl
theorem TD.cells {w : World} {a b : Dt} {W : World} (h : TD w a b W) : w.heap.size + 2 < W.heap.size ∧ W.cell? ⟨w.heap.size + 2, 0, none⟩ = some (cellAt W (w.heap.size + 2) 0) ∧ W.cell? ⟨w.heap.size + 2, 1, none⟩ = some (cellAt W (w.heap.size + 2) 1) ∧ W.cell? ⟨w.heap.size + 2, 2, none⟩ = some (cellAt W (w.heap.size + 2) 2) ∧ W.frozen? ⟨w.heap.size + 2, 0, none⟩ = false ∧ W.frozen? ⟨w.heap.size + 2, 1, none⟩ = false ∧ W.frozen? ⟨w.heap.size + 2, 2, none⟩ = false := by
  obtain ⟨h1, x, y, z, h4⟩ := h
  obtain ⟨r0, r1, r2, r3, r4, r5, r6⟩ := h4.facts
  exact ⟨r0, cellAt_eq r1, cellAt_eq r2, cellAt_eq r3, r4, r5, r6⟩
theorem nd_addW {x y m : Nat} (hx : nd W x ≤ m) (hy : nd W y ≤ m) : nd W (x + y) ≤ m + 1 := by
  refine nd_le W2 ?_
  have h1 := (lt_pow_iff W2 m x).2 hx
  have h2 := (lt_pow_iff W2 m y).2 hy
  rw [Nat.pow_succ]
  have h4 := Nat.mul_le_mul_left (W ^ m) W2
  omega
set_option maxRecDepth 100000 in
set_option maxHeartbeats 4000000 in
theorem DAdd_num (a b : Dy) (w : World) (ha : a.Num) (hb : b.Num) (hG : Globs glT w) :
    Calls Tryd.prog 40 #[.agg #[.bool a.g, .string (natS a.n), .int .i64 a.x], .agg #[.bool b.g, .string (natS b.n), .int .i64 b.x]] w fun e w' => e = .returned (.tuple #[(addD a b).v, .int .i64 (addE a b)]) ∧ Below w.heap.size w w' := by
  have KA := Lib.hid (fun W T A hA => all_ok2 a b (Or.inr ha) (Or.inr hb) W T A hA)
  have T0 := TC.start w a.t b.t
  have hsw : ∃ p q : Dy, p.Num ∧ q.Num ∧ q.x ≤ p.x ∧ Hid (addD a b = hiD p q ∧ addE a b = hiE p q) ∧ ((a.x < b.x ∧ p = b ∧ q = a) ∨ (¬ a.x < b.x ∧ p = a ∧ q = b)) := by
    by_cases h : a.x < b.x
    · exact ⟨b, a, hb, ha, by omega, Lib.hid (add_lt (odd_ne ha.2.1) (odd_ne hb.2.1) h), Or.inl ⟨h, rfl, rfl⟩⟩
    · exact ⟨a, b, ha, hb, by omega, Lib.hid (add_ge (odd_ne ha.2.1) (odd_ne hb.2.1) h), Or.inr ⟨h, rfl, rfl⟩⟩
  obtain ⟨p, q, hp, hq, hle, HADD, hsw⟩ := hsw
  clear ha hb
  obtain ⟨j, hj⟩ : ∃ j, j = (p.x - q.x).toNat := ⟨_, rfl⟩
  have hpx := hp.2.2
  have hqx := hq.2.2
  have hjx : p.x - q.x = (j : Int) := by omega
  have KB := Lib.hid (fun w => Dbrief_c p q j w hp hq hj (by omega))
  have hEp := natS_full (odd_ne hp.2.1)
  have hEp2 := natS_full2 (odd_ne hp.2.1)
  have hEq := natS_full (odd_ne hq.2.1)
  have hEq2 := natS_full2 (odd_ne hq.2.1)
  have HTB := Lib.hid (fun W (h : TC w p.t q.t W) => tabs_of (hG.below h.1.1 (Nat.le_refl _)))
  have HGG := Lib.hid hG
  have HP := Lib.hid hp
  have HQ := Lib.hid hq
  have HJ := Lib.hid hj
  clear hp hq hG hj
  rcases hsw with ⟨hlt, h1, h2⟩ | ⟨hlt, h1, h2⟩
  case' inl =>
    subst h1 h2
    unfold Dy.t at T0
    go_enter Tryd.func40, Tryd.ntmps40
    go_wp2_with fail
    refine (KA.out _ _ _ (by simp)).mono ?_
    rintro e w1 ⟨rfl, hb⟩
    replace T0 := (T0.more _).step hb
    clear hb
    obtain ⟨p0, p1, p2, p3, p4, p5, p6⟩ := T0.1.2.1.facts
    obtain ⟨q0, q1, q2, q3, q4, q5, q6⟩ := T0.1.2.2.facts
    go_wp2_with fail
    refine (KB.out _).mono ?_
    rintro e w2 ⟨D, ok, rfl, hok, hb⟩
    replace T0 := (TC.swap T0).step hb
    clear hb p0 p1 p2 p3 p4 p5 p6 q0 q1 q2 q3 q4 q5 q6
  case' inr =>
    subst h1 h2
    unfold Dy.t at T0
    go_enter Tryd.func40, Tryd.ntmps40
    go_wp2_with fail
    refine (KA.out _ _ _ (by simp)).mono ?_
    rintro e w1 ⟨rfl, hb⟩
    replace T0 := (T0.more _).step hb
    clear hb
    obtain ⟨p0, p1, p2, p3, p4, p5, p6⟩ := T0.1.2.1.facts
    obtain ⟨q0, q1, q2, q3, q4, q5, q6⟩ := T0.1.2.2.facts
    go_wp2_with fail
    refine (KB.out _).mono ?_
    rintro e w2 ⟨D, ok, rfl, hok, hb⟩
    replace T0 := T0.step hb
    clear hb p0 p1 p2 p3 p4 p5 p6 q0 q1 q2 q3 q4 q5 q6
  all_goals
    have hok2 := Lib.hid hok
    clear hok
    cases ok
    case' true =>
      have hDD := hok2.out rfl
      have HDD := Lib.hid hDD
      clear hDD hok2
      replace T0 := T0.more (.cells #[.bool D.g, .string (natS D.n), .int .i64 D.x] 24)
      obtain ⟨r0, r1, r2, r3, r4, r5, r6⟩ := T0.2.facts
      go_wp2_with fail
      refine bodyPost_ret (v := .tuple #[.agg #[.bool D.g, .string (natS D.n), .int .i64 D.x], .int .i64 0]) (by simp [results, Tryd.results40, go_sem, r0, r1, r2, r3]) rfl ⟨?_, ?_⟩
      · rw [HADD.out.1, HADD.out.2, ← HDD.out.1, HDD.out.2]; rfl
      · repeat (refine Below.setCell ?_ (by simp; omega) _)
        exact T0.1.1
  all_goals
    clear hok2
    have T1 : TC w p.t q.t _ := (T0.more (.cells #[.bool D.g, .string (natS D.n), .int .i64 D.x] 24))
    have HT0 := Lib.hid T0
    clear T0
    by_cases hlong : 131072 < j
    case' pos =>
      have hL := hi_long HP.out HQ.out (by omega)
      have HL := Lib.hid hL
      clear hL
      obtain ⟨r0, r1, r2, r3, r4, r5, r6⟩ := (HT0.out.more (.cells #[.bool D.g, .string (natS D.n), .int .i64 D.x] 24)).2.facts
      go_wp2_with fail
      refine bodyPost_ret (v := .tuple #[.agg #[.bool false, .string ⟨#[]⟩, .int .i64 0], .int .i64 4]) (by simp [results, Tryd.results40, go_sem, r0, r1, r2, r3]) rfl ⟨?_, ?_⟩
      · rw [HADD.out.1, HADD.out.2, HL.out.1, HL.out.2, Dy.zero_v]
      · repeat (refine Below.setCell ?_ (by simp; omega) _)
        exact T1.1.1
  all_goals
    obtain ⟨X, hX⟩ : ∃ X, X = p.n * 2 ^ j := ⟨_, rfl⟩
    have HUP := Lib.hid (show upN p q = X by rw [upN_eq, ← HJ.out, hX])
    have hfp := fits_W HP.out.1
    have hfq := fits_W HQ.out.1
    have hXW : nd W X ≤ 4097 := by
      have h1 := nd_mul_pow (j := j) (odd_ne HP.out.2.1)
      rw [← hX] at h1
      have h2 := bits_131072' HP.out.1
      exact (nd_pow (b := 2) (c := W) (e := 64) (by omega) (by omega) W_two X 4097).1 (by omega)
    have KRp := Lib.hid (fun w => read_nat p.n w HP.out.1)
    have KRq := Lib.hid (fun w => read_nat q.n w HQ.out.1)
    have KS : Hid (∀ (A : Option Addr) (c : Nat) (W' : World), Row W' W'.heap.size A p.n (nd W p.n) → Calls Tryd.prog 80 #[.slice A (nd W p.n) c, .int .i64 (j : Nat)] W' (NumPost X W')) := Lib.hid fun A c W' h => by
      rw [hX]; exact Shl_c A c p.n j W'.heap.size W' (by omega) h (Nat.le_refl _)
    clear hX
    have L0 : ∀ W, TC w p.t q.t W → W.cell? ⟨w.heap.size, 0, none⟩ = some (.bool p.g) := fun W h => h.1.2.1.facts.2.1
    have L1 : ∀ W, TC w p.t q.t W → W.cell? ⟨w.heap.size, 1, none⟩ = some (.string (natS p.n)) := fun W h => h.1.2.1.facts.2.2.1
    have L2 : ∀ W, TC w p.t q.t W → W.cell? ⟨w.heap.size, 2, none⟩ = some (.int .i64 p.x) := fun W h => h.1.2.1.facts.2.2.2.1
    have L3 : ∀ W, TC w p.t q.t W → W.cell? ⟨w.heap.size + 1, 0, none⟩ = some (.bool q.g) := fun W h => h.1.2.2.facts.2.1
    have L4 : ∀ W, TC w p.t q.t W → W.cell? ⟨w.heap.size + 1, 1, none⟩ = some (.string (natS q.n)) := fun W h => h.1.2.2.facts.2.2.1
    have L5 : ∀ W, TC w p.t q.t W → W.cell? ⟨w.heap.size + 1, 2, none⟩ = some (.int .i64 q.x) := fun W h => h.1.2.2.facts.2.2.2.1
    go_wp2_with fail
    go_region_held3 (TC w p.t q.t) (first | assumption | exact TC.step (by assumption) (by assumption) | exact TC.drew (by assumption) | exact TC.drawn (by assumption) _)
      (first
        | (go_at_call 80; (refine (KS.out _ _ _ (by assumption)).mono ?_); rintro e wb hnp2; obtain ⟨A2, c2, rfl, hc2, hr2, hb8⟩ := hnp2.get)
        | (go_at_call 81; (with_reducible refine (KRp.out _).mono ?_); rintro e wa hnp1; obtain ⟨A1, c1, rfl, hc1, hr1, hb7⟩ := hnp1.get)
        | (go_at_call 81; (with_reducible refine (KRq.out _).mono ?_); rintro e wc hnp3; obtain ⟨A3, c3, rfl, hc3, hr3, hb9⟩ := hnp3.get))
    rename_i hHeld
    have hx2 := (hr2.below hb9).more hb9.size
    have HX2 := Lib.hid hx2
    have HY2 := Lib.hid hr3
    have T2 := hHeld
    clear hHeld T1 HT0 hr1 hr2 hr3 hx2 hc1 hc2 hc3 hnp1 hnp2 hnp3 hb7 hb8 hb9
    have KF : Hid (∀ (g : Bool) (N : Nat) (A : Option Addr) (c : Nat) (W' : World), nd W N ≤ 10000 → Row W' W'.heap.size A N (nd W N) → Bt.Tabs W' → Calls Tryd.prog 82 #[.bool g, .slice A (nd W N) c, .int .i64 q.x] W' (MkPost g N q.x W')) := Lib.hid fun g N A c W' h1 h2 h3 => DFit_c g N q.x A c W'.heap.size W' h1 (by have := HQ.out.2.2; omega) h2 (Nat.le_refl _) h3
    obtain ⟨p0, p1, p2, p3, p4, p5, p6⟩ := T2.1.2.1.facts
    obtain ⟨q0, q1, q2, q3, q4, q5, q6⟩ := T2.1.2.2.facts
    replace p1 : wc.cell? ⟨w.heap.size, 0, none⟩ = some (.bool p.g) := p1
    replace q1 : wc.cell? ⟨w.heap.size + 1, 0, none⟩ = some (.bool q.g) := q1
    replace HTB : Hid (∀ W, TD w p.t q.t W → Bt.Tabs W) := Lib.hid fun W h => tabs_of (HGG.out.below h.1.1 (Nat.le_refl _))
    clear L0 L1 L2 L3 L4 L5
    by_cases hg : p.g = q.g
    case' pos =>
      have HNW : Hid (nd W (X + q.n) ≤ 10000) := Lib.hid (Nat.le_trans (nd_addW (x := X) (y := q.n) (m := 4097) (by omega) (by omega)) (by omega))
      have HRES := Lib.hid (hi_same hg X HUP.out)
      go_wp2_with fail
      clear p0 p1 p2 p3 p4 p5 p6 q0 q1 q2 q3 q4 q5 q6
      have T3 : TD w p.t q.t wc.drew := T2.drew.td
      have KO := Lib.hid (Add_c A2 A3 c2 c3 X q.n _ wc.drew (by omega) (by omega) (HX2.out.drewN 1) (HY2.out.drewN 1) (Nat.le_refl _))
      have M0 : ∀ W, TD w p.t q.t W → W.cell? ⟨w.heap.size, 0, none⟩ = some (.bool p.g) := fun W h => h.1.2.1.facts.2.1
      have M3 : ∀ W, TD w p.t q.t W → W.cell? ⟨w.heap.size + 1, 0, none⟩ = some (.bool q.g) := fun W h => h.1.2.2.facts.2.1
      have M5 : ∀ W, TD w p.t q.t W → W.cell? ⟨w.heap.size + 1, 2, none⟩ = some (.int .i64 q.x) := fun W h => h.1.2.2.facts.2.2.2.1
      have M6 := fun W (h : TD w p.t q.t W) => h.cells.2.1
      have M7 := fun W (h : TD w p.t q.t W) => h.cells.2.2.1
      have M8 := fun W (h : TD w p.t q.t W) => h.cells.2.2.2.1
      have M9 := fun W (h : TD w p.t q.t W) => h.cells.2.2.2.2.1
      have M10 := fun W (h : TD w p.t q.t W) => h.cells.2.2.2.2.2.1
      have M11 := fun W (h : TD w p.t q.t W) => h.cells.2.2.2.2.2.2
      go_region_held3 (TD w p.t q.t) (first | assumption | exact TD.step (by assumption) (by assumption) | exact TD.put (by assumption) _ _ _ | exact TD.drew (by assumption) | exact TD.drawn (by assumption) _)
        (first
          | (go_at_call 83; (refine KO.out.mono ?_); rintro e wd hnp4; obtain ⟨A4, c4, rfl, hc4, hr4, hb10⟩ := hnp4.get)
          | (go_at_call 82; (refine (KF.out _ _ _ _ _ HNW.out (by assumption) (HTB.out _ (by assumption))).mono ?_); rintro e we ⟨rfl, hb11⟩; have HSV := Lib.hid (TD.step (a := p.t) (b := q.t) (w := w) (by assumption) hb11); unfold Dy.v))
      obtain ⟨r0, r1, r2, r3, r4, r5, r6⟩ := HSV.out.cells
      have hfin := below_put HSV.out.1.1 (show w.heap.size ≤ w.heap.size + 2 by omega)
      clear T3 M0 M3 M5 M6 M7 M8 M9 M10 M11
      go_wp2_with fail
      refine bodyPost_ret (v := .tuple #[(mkD q.g (X + q.n) q.x).v, .int .i64 (mkE (X + q.n) q.x)]) (by simp [results, Tryd.results40, go_sem, r0, r1, r2, r3, Dy.v]) rfl ⟨?_, ?_⟩
      · rw [HADD.out.1, HADD.out.2, HRES.out.1, HRES.out.2, hg]
      · exact hfin _ _ _
    case' neg =>
      have hgb : (p.g == q.g) = false := beq_eq_false_iff_ne.2 hg
      have KC := Lib.hid (Cmp_c A2 A3 c2 c3 X q.n _ wc (by omega) (by omega) HX2.out HY2.out)
      go_wp2_with fail
      refine KC.out.mono ?_
      rintro e w6 ⟨rfl, nn, rfl⟩
      clear p0 p1 p2 p3 p4 p5 p6 q0 q1 q2 q3 q4 q5 q6
      by_cases hl : X < q.n
      case' pos =>
        have hcn := cmp_neg hl
        have HRES := Lib.hid (hi_lt hg X HUP.out hl)
        have HNW : Hid (nd W (q.n - X) ≤ 10000) := Lib.hid (Nat.le_trans (nd_mono W2 (Nat.sub_le _ _)) (by omega))
        generalize cmpN X q.n = cc at *
        go_wp2_with fail
        have T3 : TD w p.t q.t (wc.drewN nn).drew := (T2.drawn nn).drew.td
        have KO := Lib.hid (Sub_c A3 A2 c3 c2 q.n X _ (wc.drewN nn).drew (Nat.le_of_lt hl) (by omega) (HY2.out.drewN (nn + 1)) (HX2.out.drewN (nn + 1)) (Nat.le_refl _))
        have M0 : ∀ W, TD w p.t q.t W → W.cell? ⟨w.heap.size, 0, none⟩ = some (.bool p.g) := fun W h => h.1.2.1.facts.2.1
        have M3 : ∀ W, TD w p.t q.t W → W.cell? ⟨w.heap.size + 1, 0, none⟩ = some (.bool q.g) := fun W h => h.1.2.2.facts.2.1
        have M5 : ∀ W, TD w p.t q.t W → W.cell? ⟨w.heap.size + 1, 2, none⟩ = some (.int .i64 q.x) := fun W h => h.1.2.2.facts.2.2.2.1
        have M6 := fun W (h : TD w p.t q.t W) => h.cells.2.1
        have M7 := fun W (h : TD w p.t q.t W) => h.cells.2.2.1
        have M8 := fun W (h : TD w p.t q.t W) => h.cells.2.2.2.1
        have M9 := fun W (h : TD w p.t q.t W) => h.cells.2.2.2.2.1
        have M10 := fun W (h : TD w p.t q.t W) => h.cells.2.2.2.2.2.1
        have M11 := fun W (h : TD w p.t q.t W) => h.cells.2.2.2.2.2.2
        go_region_held3 (TD w p.t q.t) (first | assumption | exact TD.step (by assumption) (by assumption) | exact TD.put (by assumption) _ _ _ | exact TD.drew (by assumption) | exact TD.drawn (by assumption) _)
          (first
            | (go_at_call 85; (refine KO.out.mono ?_); rintro e wd hnp4; obtain ⟨A4, c4, rfl, hc4, hr4, hb10⟩ := hnp4.get)
            | (go_at_call 82; (refine (KF.out _ _ _ _ _ HNW.out (by assumption) (HTB.out _ (by assumption))).mono ?_); rintro e we ⟨rfl, hb11⟩; have HSV := Lib.hid (TD.step (a := p.t) (b := q.t) (w := w) (by assumption) hb11); unfold Dy.v))
        obtain ⟨r0, r1, r2, r3, r4, r5, r6⟩ := HSV.out.cells
        have hfin := below_put HSV.out.1.1 (show w.heap.size ≤ w.heap.size + 2 by omega)
        clear T3 M0 M3 M5 M6 M7 M8 M9 M10 M11
        go_wp2_with fail
        refine bodyPost_ret (v := .tuple #[(mkD q.g (q.n - X) q.x).v, .int .i64 (mkE (q.n - X) q.x)]) (by simp [results, Tryd.results40, go_sem, r0, r1, r2, r3, Dy.v]) rfl ⟨?_, ?_⟩
        · rw [HADD.out.1, HADD.out.2, HRES.out.1, HRES.out.2]
        · exact hfin _ _ _
      case' neg =>
        have hcn := cmp_pos (Nat.le_of_not_lt hl)
        have HRES := Lib.hid (hi_ge hg X HUP.out hl)
        have HNW : Hid (nd W (X - q.n) ≤ 10000) := Lib.hid (Nat.le_trans (nd_mono W2 (Nat.sub_le _ _)) (by omega))
        generalize cmpN X q.n = cc at *
        go_wp2_with fail
        have T3 : TD w p.t q.t (wc.drewN nn).drew := (T2.drawn nn).drew.td
        have KO := Lib.hid (Sub_c A2 A3 c2 c3 X q.n _ (wc.drewN nn).drew (Nat.le_of_not_lt hl) (by omega) (HX2.out.drewN (nn + 1)) (HY2.out.drewN (nn + 1)) (Nat.le_refl _))
        have M0 : ∀ W, TD w p.t q.t W → W.cell? ⟨w.heap.size, 0, none⟩ = some (.bool p.g) := fun W h => h.1.2.1.facts.2.1
        have M3 : ∀ W, TD w p.t q.t W → W.cell? ⟨w.heap.size + 1, 0, none⟩ = some (.bool q.g) := fun W h => h.1.2.2.facts.2.1
        have M5 : ∀ W, TD w p.t q.t W → W.cell? ⟨w.heap.size + 1, 2, none⟩ = some (.int .i64 q.x) := fun W h => h.1.2.2.facts.2.2.2.1
        have M6 := fun W (h : TD w p.t q.t W) => h.cells.2.1
        have M7 := fun W (h : TD w p.t q.t W) => h.cells.2.2.1
        have M8 := fun W (h : TD w p.t q.t W) => h.cells.2.2.2.1
        have M9 := fun W (h : TD w p.t q.t W) => h.cells.2.2.2.2.1
        have M10 := fun W (h : TD w p.t q.t W) => h.cells.2.2.2.2.2.1
        have M11 := fun W (h : TD w p.t q.t W) => h.cells.2.2.2.2.2.2
        go_region_held3 (TD w p.t q.t) (first | assumption | exact TD.step (by assumption) (by assumption) | exact TD.put (by assumption) _ _ _ | exact TD.drew (by assumption) | exact TD.drawn (by assumption) _)
          (first
            | (go_at_call 85; (refine KO.out.mono ?_); rintro e wd hnp4; obtain ⟨A4, c4, rfl, hc4, hr4, hb10⟩ := hnp4.get)
            | (go_at_call 82; (refine (KF.out _ _ _ _ _ HNW.out (by assumption) (HTB.out _ (by assumption))).mono ?_); rintro e we ⟨rfl, hb11⟩; have HSV := Lib.hid (TD.step (a := p.t) (b := q.t) (w := w) (by assumption) hb11); unfold Dy.v))
        obtain ⟨r0, r1, r2, r3, r4, r5, r6⟩ := HSV.out.cells
        have hfin := below_put HSV.out.1.1 (show w.heap.size ≤ w.heap.size + 2 by omega)
        clear T3 M0 M3 M5 M6 M7 M8 M9 M10 M11
        go_wp2_with fail
        refine bodyPost_ret (v := .tuple #[(mkD p.g (X - q.n) q.x).v, .int .i64 (mkE (X - q.n) q.x)]) (by simp [results, Tryd.results40, go_sem, r0, r1, r2, r3, Dy.v]) rfl ⟨?_, ?_⟩
        · rw [HADD.out.1, HADD.out.2, HRES.out.1, HRES.out.2]
        · exact hfin _ _ _
end Go.Proofs.YtjkonfopajihdaaDoor
set_option linter.unusedSimpArgs false
set_option linter.unusedVariables false
namespace Go.Proofs.YtjkonfopajihdaaDoor
open Go Go.RowKit Nt

set_option maxRecDepth 100000 in
set_option maxHeartbeats 2000000 in
theorem rAdd3_zl (b : Dy) (w : World) (g : Bool) (x : Int) :
    Calls Tryd.prog 44 #[.agg #[.bool g, .string ⟨#[]⟩, .int .i64 x], .agg #[.bool b.g, .string (natS b.n), .int .i64 b.x]] w fun e w' => e = .returned (.tuple #[.agg #[.bool b.g, .string (natS b.n), .int .i64 b.x], .int .i64 0]) ∧ Below w.heap.size w w' := by
  have T0 := TC.start w ⟨g, ⟨#[]⟩, x⟩ b.t
  unfold Dy.t at T0
  obtain ⟨r0, r1, r2, r3, r4, r5, r6⟩ := T0.2.facts
  go_enter Tryd.func44, Tryd.ntmps44
  go_wp2_with fail
  refine bodyPost_ret (v := .tuple #[.agg #[.bool b.g, .string (natS b.n), .int .i64 b.x], .int .i64 0]) (by simp [results, Tryd.results44, go_sem, r0, r1, r2, r3]) rfl ⟨rfl, ?_⟩
  repeat (refine Below.setCell ?_ (by simp; omega) _)
  first
    | exact T0.1.1
    | exact (((Below.refl _ _).alloc (Nat.le_refl _) _).alloc (by simp) _).alloc (by simp; omega) _
set_option maxRecDepth 100000 in
set_option maxHeartbeats 2000000 in
theorem rAdd3_zr (a : Dy) (w : World) (ha : a.n ≠ 0) (g : Bool) (x : Int) :
    Calls Tryd.prog 44 #[.agg #[.bool a.g, .string (natS a.n), .int .i64 a.x], .agg #[.bool g, .string ⟨#[]⟩, .int .i64 x]] w fun e w' => e = .returned (.tuple #[.agg #[.bool a.g, .string (natS a.n), .int .i64 a.x], .int .i64 0]) ∧ Below w.heap.size w w' := by
  have T0 := TC.start w a.t ⟨g, ⟨#[]⟩, x⟩
  unfold Dy.t at T0
  have hE := natS_full ha
  have hE2 := natS_full2 ha
  clear ha
  go_enter Tryd.func44, Tryd.ntmps44
  go_wp2_with fail
  refine bodyPost_ret (v := .tuple #[.agg #[.bool a.g, .string (natS a.n), .int .i64 a.x], .int .i64 0]) (by simp [results, Tryd.results44, go_sem]) rfl ⟨rfl, ?_⟩
  repeat (refine Below.setCell ?_ (by simp; omega) _)
  first
    | exact T0.1.1
    | exact (((Below.refl _ _).alloc (Nat.le_refl _) _).alloc (by simp) _).alloc (by simp; omega) _
theorem nd_add256 {x y m : Nat} (hx : nd 256 x ≤ m) (hy : nd 256 y ≤ m) : nd 256 (x + y) ≤ m + 1 := by
  refine nd_le (by omega) ?_
  have h1 := (lt_pow_iff (b := 256) (by omega) m x).2 hx
  have h2 := (lt_pow_iff (b := 256) (by omega) m y).2 hy
  rw [Nat.pow_succ]; omega
set_option maxRecDepth 100000 in
set_option maxHeartbeats 4000000 in
theorem rAdd3_ge (p q : Dy) (w : World) (hp : p.Num) (hq : q.Num) (hle : q.x ≤ p.x) :
    Calls Tryd.prog 44 #[.agg #[.bool p.g, .string (natS p.n), .int .i64 p.x], .agg #[.bool q.g, .string (natS q.n), .int .i64 q.x]] w fun e w' => e = .returned (.tuple #[(hiD p q).v, .int .i64 (hiE p q)]) ∧ Below w.heap.size w w' := by
  have T0 := TC.start w p.t q.t
  obtain ⟨j, hj⟩ : ∃ j, j = (p.x - q.x).toNat := ⟨_, rfl⟩
  have hpx := hp.2.2
  have hqx := hq.2.2
  have hjx : p.x - q.x = (j : Int) := by omega
  have hEp := natS_full (odd_ne hp.2.1)
  have hEp2 := natS_full2 (odd_ne hp.2.1)
  have hEq := natS_full (odd_ne hq.2.1)
  have hEq2 := natS_full2 (odd_ne hq.2.1)
  have HP := Lib.hid hp
  have HQ := Lib.hid hq
  have HJ := Lib.hid hj
  have hlt : ¬ p.x < q.x := by omega
  clear hp hq hj hle
  unfold Dy.t at T0
  obtain ⟨p0, p1, p2, p3, p4, p5, p6⟩ := T0.1.2.1.facts
  obtain ⟨q0, q1, q2, q3, q4, q5, q6⟩ := T0.1.2.2.facts
  obtain ⟨r0, r1, r2, r3, r4, r5, r6⟩ := T0.2.facts
  by_cases hlong : 131080 < j
  · have HL := Lib.hid (hi_long HP.out HQ.out (by omega))
    go_enter Tryd.func44, Tryd.ntmps44
    go_wp2_with fail
    refine bodyPost_ret (v := .tuple #[.agg #[.bool false, .string ⟨#[]⟩, .int .i64 0], .int .i64 4]) (by simp [results, Tryd.results44, go_sem, r0, r1, r2, r3]) rfl ⟨?_, ?_⟩
    · rw [HL.out.1, HL.out.2, Dy.zero_v]
    · repeat (refine Below.setCell ?_ (by simp; omega) _)
      first
        | exact T0.1.1
        | exact (((Below.refl _ _).alloc (Nat.le_refl _) _).alloc (by simp) _).alloc (by simp; omega) _
  · obtain ⟨X, hX⟩ : ∃ X, X = p.n * 2 ^ j := ⟨_, rfl⟩
    have HUP := Lib.hid (show upN p q = X by rw [upN_eq, ← HJ.out, hX])
    have hfp : nd 256 p.n ≤ 16384 := HP.out.1
    have hfq : nd 256 q.n ≤ 16384 := HQ.out.1
    have hXW : nd 256 X ≤ 40000 := by
      have h1 := nd_mul_pow (j := j) (odd_ne HP.out.2.1)
      rw [← hX] at h1
      have h2 := bits_131072' HP.out.1
      exact (bits_le X 40000).1 (by omega)
    have KRp := Lib.hid (fun w => rOf3_c p.n w (by omega))
    have KRq := Lib.hid (fun w => rOf3_c q.n w (by omega))
    have KS : Hid (∀ (B : Nat) (A : Option Addr) (c : Nat) (W' : World), Own W' B 3 .i64 (.slice A (nd 256 p.n) c) (dl 256 p.n (nd 256 p.n)) → Calls Tryd.prog 77 #[.slice A (nd 256 p.n) c, .int .i64 (j : Nat)] W' (BigP X W')) := Lib.hid fun B A c W' h => by
      rw [hX]; exact rShifted3_c p.n j B A c W' (by omega) (by omega) h
    clear hX
    have T1 : TC w p.t q.t _ := T0
    have L1 : ∀ W, TC w p.t q.t W → W.cell? ⟨w.heap.size, 1, none⟩ = some (.string (natS p.n)) := fun W h => h.1.2.1.facts.2.2.1
    have L4 : ∀ W, TC w p.t q.t W → W.cell? ⟨w.heap.size + 1, 1, none⟩ = some (.string (natS q.n)) := fun W h => h.1.2.2.facts.2.2.1
    go_enter Tryd.func44, Tryd.ntmps44
    go_wp2_with fail
    go_region_held3 (TC w p.t q.t) (first | assumption | exact TC.step (by assumption) (by assumption) | exact TC.drew (by assumption) | exact TC.drawn (by assumption) _)
      (first
        | (go_at_call 77; (refine (KS.out _ _ _ _ (by assumption)).mono ?_); rintro e wb ⟨A2, c2, rfl, hown2, hb8⟩)
        | (go_at_call 61; (with_reducible refine (KRp.out _).mono ?_); rintro e wa ⟨v1, rfl, hown1, hb7⟩; obtain ⟨A1, c1, rfl, hc1⟩ := hown1.len; rw [dl_length] at hown1 hc1 ⊢)
        | (go_at_call 61; (with_reducible refine (KRq.out _).mono ?_); rintro e wc ⟨v3, rfl, hown3, hb9⟩; obtain ⟨A3, c3, rfl, hc3⟩ := hown3.len; rw [dl_length] at hown3 hc3 ⊢))
    rename_i hHeld
    have HX2 := Lib.hid (hown2.whole hb9)
    have HY2 := Lib.hid hown3
    have T2 := hHeld
    clear hHeld T1 T0 hown1 hown2 hown3 hc1 hc3 hb7 hb8 hb9 L1 L4 p0 p1 p2 p3 p4 p5 p6 q0 q1 q2 q3 q4 q5 q6 r0 r1 r2 r3 r4 r5 r6
    have KF : Hid (∀ (g : Bool) (N : Nat) (B : Nat) (A : Option Addr) (c : Nat) (W' : World), nd 256 N ≤ 100000 → Own W' B 3 .i64 (.slice A (nd 256 N) c) (dl 256 N (nd 256 N)) → Calls Tryd.prog 66 #[.bool g, .slice A (nd 256 N) c, .int .i64 q.x] W' (MkPost g N q.x W')) := Lib.hid fun g N B A c W' h1 h2 => rFit3_c g N q.x B A c W' h1 (by have := HQ.out.2.2; omega) h2
    obtain ⟨p0, p1, p2, p3, p4, p5, p6⟩ := T2.1.2.1.facts
    obtain ⟨q0, q1, q2, q3, q4, q5, q6⟩ := T2.1.2.2.facts
    replace p1 : wc.cell? ⟨w.heap.size, 0, none⟩ = some (.bool p.g) := p1
    replace q1 : wc.cell? ⟨w.heap.size + 1, 0, none⟩ = some (.bool q.g) := q1
    by_cases hg : p.g = q.g
    · have HNW : Hid (nd 256 (X + q.n) ≤ 100000) := Lib.hid (Nat.le_trans (nd_add256 (x := X) (y := q.n) (m := 40000) (by omega) (by omega)) (by omega))
      have HRES := Lib.hid (hi_same hg X HUP.out)
      go_wp2_with fail
      clear p0 p1 p2 p3 p4 p5 p6 q0 q1 q2 q3 q4 q5 q6
      have T3 : TD w p.t q.t wc.drew := T2.drew.td
      have KO := Lib.hid (rPlus3_c X q.n _ _ A2 A3 c2 c3 wc.drew (by omega) (by omega) (HX2.out.drewN 1) (HY2.out.drewN 1))
      have M0 : ∀ W, TD w p.t q.t W → W.cell? ⟨w.heap.size, 0, none⟩ = some (.bool p.g) := fun W h => h.1.2.1.facts.2.1
      have M3 : ∀ W, TD w p.t q.t W → W.cell? ⟨w.heap.size + 1, 0, none⟩ = some (.bool q.g) := fun W h => h.1.2.2.facts.2.1
      have M5 : ∀ W, TD w p.t q.t W → W.cell? ⟨w.heap.size + 1, 2, none⟩ = some (.int .i64 q.x) := fun W h => h.1.2.2.facts.2.2.2.1
      have M6 := fun W (h : TD w p.t q.t W) => h.cells.2.1
      have M7 := fun W (h : TD w p.t q.t W) => h.cells.2.2.1
      have M8 := fun W (h : TD w p.t q.t W) => h.cells.2.2.2.1
      have M9 := fun W (h : TD w p.t q.t W) => h.cells.2.2.2.2.1
      have M10 := fun W (h : TD w p.t q.t W) => h.cells.2.2.2.2.2.1
      have M11 := fun W (h : TD w p.t q.t W) => h.cells.2.2.2.2.2.2
      go_region_held3 (TD w p.t q.t) (first | assumption | exact TD.step (by assumption) (by assumption) | exact TD.put (by assumption) _ _ _ | exact TD.drew (by assumption) | exact TD.drawn (by assumption) _)
        (first
          | (go_at_call 87; (refine KO.out.mono ?_); rintro e wd ⟨A4, c4, rfl, hown4, hb10⟩)
          | (go_at_call 66; (refine (KF.out _ _ _ _ _ _ HNW.out (by assumption)).mono ?_); rintro e we ⟨rfl, hb11⟩; have HSV := Lib.hid (TD.step (a := p.t) (b := q.t) (w := w) (by assumption) hb11); unfold Dy.v))
      obtain ⟨r0, r1, r2, r3, r4, r5, r6⟩ := HSV.out.cells
      have hfin := below_put HSV.out.1.1 (show w.heap.size ≤ w.heap.size + 2 by omega)
      clear T3 M0 M3 M5 M6 M7 M8 M9 M10 M11
      go_wp2_with fail
      refine bodyPost_ret (v := .tuple #[(mkD q.g (X + q.n) q.x).v, .int .i64 (mkE (X + q.n) q.x)]) (by simp [results, Tryd.results44, go_sem, r0, r1, r2, r3, Dy.v]) rfl ⟨?_, ?_⟩
      · rw [HRES.out.1, HRES.out.2, hg]
      · exact hfin _ _ _
    · have hgb : (p.g == q.g) = false := beq_eq_false_iff_ne.2 hg
      have KC := Lib.hid (rCmp3_c X q.n _ _ A2 A3 c2 c3 wc (by omega) (by omega) HX2.out HY2.out)
      go_wp2_with fail
      refine KC.out.mono ?_
      rintro e w6 ⟨rfl, nn, rfl⟩
      clear p0 p1 p2 p3 p4 p5 p6 q0 q1 q2 q3 q4 q5 q6
      by_cases hl : X < q.n
      · have hcn : ¬ (0 : Int) ≤ cmpN X q.n := by rw [cmpN_lt hl]; decide
        have HRES := Lib.hid (hi_lt hg X HUP.out hl)
        have HNW : Hid (nd 256 (q.n - X) ≤ 100000) := Lib.hid (Nat.le_trans (nd_mono (by omega) (Nat.sub_le _ _)) (by omega))
        generalize cmpN X q.n = cc at *
        go_wp2_with fail
        have T3 : TD w p.t q.t (wc.drewN nn).drew := (T2.drawn nn).drew.td
        have KO := Lib.hid (rMinus3_c q.n X _ _ A3 A2 c3 c2 (wc.drewN nn).drew (Nat.le_of_lt hl) (by omega) (HY2.out.drewN (nn + 1)) (HX2.out.drewN (nn + 1)))
        have M0 : ∀ W, TD w p.t q.t W → W.cell? ⟨w.heap.size, 0, none⟩ = some (.bool p.g) := fun W h => h.1.2.1.facts.2.1
        have M3 : ∀ W, TD w p.t q.t W → W.cell? ⟨w.heap.size + 1, 0, none⟩ = some (.bool q.g) := fun W h => h.1.2.2.facts.2.1
        have M5 : ∀ W, TD w p.t q.t W → W.cell? ⟨w.heap.size + 1, 2, none⟩ = some (.int .i64 q.x) := fun W h => h.1.2.2.facts.2.2.2.1
        have M6 := fun W (h : TD w p.t q.t W) => h.cells.2.1
        have M7 := fun W (h : TD w p.t q.t W) => h.cells.2.2.1
        have M8 := fun W (h : TD w p.t q.t W) => h.cells.2.2.2.1
        have M9 := fun W (h : TD w p.t q.t W) => h.cells.2.2.2.2.1
        have M10 := fun W (h : TD w p.t q.t W) => h.cells.2.2.2.2.2.1
        have M11 := fun W (h : TD w p.t q.t W) => h.cells.2.2.2.2.2.2
        go_region_held3 (TD w p.t q.t) (first | assumption | exact TD.step (by assumption) (by assumption) | exact TD.put (by assumption) _ _ _ | exact TD.drew (by assumption) | exact TD.drawn (by assumption) _)
          (first
            | (go_at_call 88; (refine KO.out.mono ?_); rintro e wd ⟨A4, c4, rfl, hown4, hb10⟩)
            | (go_at_call 66; (refine (KF.out _ _ _ _ _ _ HNW.out (by assumption)).mono ?_); rintro e we ⟨rfl, hb11⟩; have HSV := Lib.hid (TD.step (a := p.t) (b := q.t) (w := w) (by assumption) hb11); unfold Dy.v))
        obtain ⟨r0, r1, r2, r3, r4, r5, r6⟩ := HSV.out.cells
        have hfin := below_put HSV.out.1.1 (show w.heap.size ≤ w.heap.size + 2 by omega)
        clear T3 M0 M3 M5 M6 M7 M8 M9 M10 M11
        go_wp2_with fail
        refine bodyPost_ret (v := .tuple #[(mkD q.g (q.n - X) q.x).v, .int .i64 (mkE (q.n - X) q.x)]) (by simp [results, Tryd.results44, go_sem, r0, r1, r2, r3, Dy.v]) rfl ⟨?_, ?_⟩
        · rw [HRES.out.1, HRES.out.2]
        · exact hfin _ _ _
      · have hcn : (0 : Int) ≤ cmpN X q.n := by
          rcases Nat.eq_or_lt_of_le (Nat.le_of_not_lt hl) with h | h
          · rw [h, cmpN_eq]; decide
          · rw [cmpN_gt h]; decide
        have HRES := Lib.hid (hi_ge hg X HUP.out hl)
        have HNW : Hid (nd 256 (X - q.n) ≤ 100000) := Lib.hid (Nat.le_trans (nd_mono (by omega) (Nat.sub_le _ _)) (by omega))
        generalize cmpN X q.n = cc at *
        go_wp2_with fail
        have T3 : TD w p.t q.t (wc.drewN nn).drew := (T2.drawn nn).drew.td
        have KO := Lib.hid (rMinus3_c X q.n _ _ A2 A3 c2 c3 (wc.drewN nn).drew (Nat.le_of_not_lt hl) (by omega) (HX2.out.drewN (nn + 1)) (HY2.out.drewN (nn + 1)))
        have M0 : ∀ W, TD w p.t q.t W → W.cell? ⟨w.heap.size, 0, none⟩ = some (.bool p.g) := fun W h => h.1.2.1.facts.2.1
        have M3 : ∀ W, TD w p.t q.t W → W.cell? ⟨w.heap.size + 1, 0, none⟩ = some (.bool q.g) := fun W h => h.1.2.2.facts.2.1
        have M5 : ∀ W, TD w p.t q.t W → W.cell? ⟨w.heap.size + 1, 2, none⟩ = some (.int .i64 q.x) := fun W h => h.1.2.2.facts.2.2.2.1
        have M6 := fun W (h : TD w p.t q.t W) => h.cells.2.1
        have M7 := fun W (h : TD w p.t q.t W) => h.cells.2.2.1
        have M8 := fun W (h : TD w p.t q.t W) => h.cells.2.2.2.1
        have M9 := fun W (h : TD w p.t q.t W) => h.cells.2.2.2.2.1
        have M10 := fun W (h : TD w p.t q.t W) => h.cells.2.2.2.2.2.1
        have M11 := fun W (h : TD w p.t q.t W) => h.cells.2.2.2.2.2.2
        go_region_held3 (TD w p.t q.t) (first | assumption | exact TD.step (by assumption) (by assumption) | exact TD.put (by assumption) _ _ _ | exact TD.drew (by assumption) | exact TD.drawn (by assumption) _)
          (first
            | (go_at_call 88; (refine KO.out.mono ?_); rintro e wd ⟨A4, c4, rfl, hown4, hb10⟩)
            | (go_at_call 66; (refine (KF.out _ _ _ _ _ _ HNW.out (by assumption)).mono ?_); rintro e we ⟨rfl, hb11⟩; have HSV := Lib.hid (TD.step (a := p.t) (b := q.t) (w := w) (by assumption) hb11); unfold Dy.v))
        obtain ⟨r0, r1, r2, r3, r4, r5, r6⟩ := HSV.out.cells
        have hfin := below_put HSV.out.1.1 (show w.heap.size ≤ w.heap.size + 2 by omega)
        clear T3 M0 M3 M5 M6 M7 M8 M9 M10 M11
        go_wp2_with fail
        refine bodyPost_ret (v := .tuple #[(mkD p.g (X - q.n) q.x).v, .int .i64 (mkE (X - q.n) q.x)]) (by simp [results, Tryd.results44, go_sem, r0, r1, r2, r3, Dy.v]) rfl ⟨?_, ?_⟩
        · rw [HRES.out.1, HRES.out.2]
        · exact hfin _ _ _
end Go.Proofs.YtjkonfopajihdaaDoor
