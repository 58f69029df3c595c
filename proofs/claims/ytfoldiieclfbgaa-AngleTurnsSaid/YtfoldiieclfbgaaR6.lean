/- Texts put together: A26 A27 Rw A28 A29 A31 A30 A33 A34 A32. -/
import Derived.Test.YtfoldiieclfbgaaR5
import Derived.Test.YtfoldiieclfbgaaR1
import Derived.Laws.AppendOwnNone
import Derived.Maps.AppendAt
import Derived.Deep.RegionHeld3
set_option linter.unusedSimpArgs false
set_option linter.unusedVariables false
namespace Go.Proofs.Ytfoldiieclfbgaa
open Go Go.RowKit Nt

theorem ang_cells {w : World} {B : Nat} {t : TypeId} {x y : Value} (h : Blk w B t #[x, y]) : w.cell? ⟨B, 0, none⟩ = some x ∧ w.cell? ⟨B, 1, none⟩ = some y ∧ w.frozen? ⟨B, 0, none⟩ = false ∧ w.frozen? ⟨B, 1, none⟩ = false := ⟨h.cell 0, h.cell 1, h.frozen 0, h.frozen 1⟩
set_option maxRecDepth 100000 in
set_option maxHeartbeats 2000000 in
theorem rTurns_c (a : An) (d n : Int) (w : World) (ha : a.Ok) (hd1 : 2 ≤ d) (hd2 : d ≤ 64) (hn : 0 ≤ n) (hn2 : n ≤ 9223372036854775807) :
    Calls Try.prog 29 #[.agg #[.int .u64 (a.n : Nat), .int .u64 (a.d : Nat)], .int .i64 d, .int .i64 n] w fun e w' => e = .returned (.agg #[.int .u64 (lowNum (a.n * (d.toNat ^ n.toNat % a.d)) a.d : Nat), .int .u64 (lowDen (a.n * (d.toNat ^ n.toNat % a.d)) a.d : Nat)]) ∧ Below w.heap.size w w' := by
  obtain ⟨D, hD⟩ : ∃ D, D = d.toNat := ⟨_, rfl⟩
  obtain ⟨N, hN⟩ : ∃ N, N = n.toNat := ⟨_, rfl⟩
  have eD : d = (D : Int) := by omega
  have eN : n = (N : Int) := by omega
  rw [← hD, ← hN]
  subst eD
  subst eN
  obtain ⟨m, hm⟩ : ∃ m, m = a.d := ⟨_, rfl⟩
  obtain ⟨b, hb⟩ : ∃ b, b = a.n := ⟨_, rfl⟩
  have hm0 : 0 < m := by rw [hm]; exact ha.le.2.2
  have hm1 : m ≤ 2147483647 := by rw [hm]; exact ha.le.2.1
  have hb1 : b ≤ 2147483647 := by rw [hb]; exact ha.le.1
  rw [← hm, ← hb]
  clear hm hb ha hD hN
  obtain ⟨R, hR⟩ : ∃ R, R = D ^ N % m := ⟨_, rfl⟩
  have hRm : R < m := by rw [hR]; exact Nat.mod_lt _ hm0
  have hbR : b * R < 18446744073709551616 := prod_lt hb1 (by omega)
  have KL := Lib.hid (fun w => rlow_any (b * R) m w hbR hm0 (by omega))
  rw [← hR]
  generalize lowNum (b * R) m = LN at *
  generalize lowDen (b * R) m = LD at *
  obtain ⟨T, hT⟩ : ∃ T, T = b * R := ⟨_, rfl⟩
  have eT : ((b : Int) * (R : Int)) = (T : Int) := by rw [hT, Int.natCast_mul]
  have hT64 : T < 18446744073709551616 := by rw [hT]; exact hbR
  rw [← hT] at KL
  obtain ⟨p0, hp0⟩ : ∃ p, p = 1 % m := ⟨_, rfl⟩
  obtain ⟨d0, hd0⟩ : ∃ p, p = D % m := ⟨_, rfl⟩
  have hp1 : p0 < m := by rw [hp0]; exact Nat.mod_lt _ hm0
  have hd3 : d0 < m := by rw [hd0]; exact Nat.mod_lt _ hm0
  obtain ⟨a1, a2⟩ := rest21 1 m
  obtain ⟨b1, b2⟩ := rest21 D m
  rw [← hp0] at a1 a2
  rw [← hd0] at b1 b2
  have hmz : ¬ m = 0 := by omega
  obtain ⟨z1, z2⟩ := eqz21 hmz
  have HS : Hid (p0 * d0 ^ N % m = R) := Lib.hid (by rw [hR, hp0, hd0, pow21_start])
  have HM0 := Lib.hid hm0
  have HM := Lib.hid hm1
  have hpI : (0 : Int) < (m : Int) := by omega
  simp only [Int.natCast_one] at a1 a2
  have A0 := (Blk.new w 30 #[.int .u64 (b : Nat), .int .u64 (m : Nat)]).alloc (.cells #[.int .u64 0, .int .u64 0] 30)
  have R0 := Blk.new (w.alloc (.cells #[.int .u64 (b : Nat), .int .u64 (m : Nat)] 30)) 30 #[.int .u64 0, .int .u64 0]
  rw [World.size_alloc] at R0
  have HB : Below w.heap.size w ((w.alloc (.cells #[.int .u64 (b : Nat), .int .u64 (m : Nat)] 30)).alloc (.cells #[.int .u64 0, .int .u64 0] 30)) := ((Below.refl _ w).alloc (Nat.le_refl _) _).alloc (by simp) _
  clear hR hp0 hd0 hT hbR
  go_enter Try.func29, Try.ntmps29
  go_wp2_with fail
  generalize (w.alloc (.cells #[.int .u64 (b : Nat), .int .u64 (m : Nat)] 30)).alloc (.cells #[.int .u64 0, .int .u64 0] 30) = w0 at *
  obtain ⟨c0, c1, _, _⟩ := ang_cells A0
  go_quiet (fail)
  replace A0 := A0.drewN nq
  replace R0 := R0.drewN nq
  replace HB := below_drewN HB nq
  clear c0 c1
  generalize w0.drewN nq = w1 at *
  obtain ⟨c0, c1, _, _⟩ := ang_cells A0
  obtain ⟨s0, s1, s2, s3⟩ := ang_cells R0
  clear a1 a2 b1 b2
  go_wp2_with fail
  go_loopw [2, 7, 8] (fun vn vp vq wr => ∃ k p x : Nat, vn = .int .i64 (k : Nat) ∧ vp = .int .u64 (p : Nat) ∧ vq = .int .u64 (x : Nat) ∧ x < m ∧ k ≤ 9223372036854775807 ∧ p < m ∧ Hid (p * x ^ k % m = R) ∧ wr = w1) (fun vn _ _ _ => (intOf vn).toNat)
  case atStart => exact ⟨N, p0, d0, rfl, rfl, rfl, hd3, by omega, hp1, HS, rfl⟩
  case round =>
    clear HS hn hn2 hp1 hd3
    obtain ⟨k, p, x, rfl, rfl, rfl, hx, hk, hp, hinv, rfl⟩ := hrel
    by_cases h0 : k = 0
    · subst h0
      have HP : p = R := by have := hinv.out; rwa [pow21_end hp] at this
      subst HP
      go_wp2_with fail
      refine (KL.out _).mono ?_
      rintro e w2 ⟨rfl, hb2⟩
      have R2 := R0.below hb2 R0.lt
      obtain ⟨s0, s1, s2, s3⟩ := ang_cells R2
      have HB2 := below_chain HB hb2
      clear R2 hb2
      go_wp2_with fail
      refine bodyPost_ret (v := .agg #[.int .u64 (LN : Nat), .int .u64 (LD : Nat)]) (by simp [results, Try.results29, go_sem, s0, s1]) rfl ⟨rfl, ?_⟩
      exact (HB2.setCell (p := ⟨w.heap.size + 1, 0, none⟩) (by show w.heap.size ≤ w.heap.size + 1; omega) _).setCell (p := ⟨w.heap.size + 1, 1, none⟩) (by show w.heap.size ≤ w.heap.size + 1; omega) _
    · have hk0 : (0 : Int) < (k : Int) := by omega
      have hsq : x * x < 18446744073709551616 := prod_lt (by have := HM.out; omega) (by have := HM.out; omega)
      have hpx : p * x < 18446744073709551616 := prod_lt (by have := HM.out; omega) (by have := HM.out; omega)
      obtain ⟨S, hS⟩ : ∃ S, S = x * x := ⟨_, rfl⟩
      obtain ⟨U, hU⟩ : ∃ U, U = p * x := ⟨_, rfl⟩
      obtain ⟨x2, hx2⟩ : ∃ y, y = S % m := ⟨_, rfl⟩
      obtain ⟨p2, hp2⟩ : ∃ y, y = U % m := ⟨_, rfl⟩
      have eS : ((x : Int) * (x : Int)) = (S : Int) := by rw [hS, Int.natCast_mul]
      have eU : ((p : Int) * (x : Int)) = (U : Int) := by rw [hU, Int.natCast_mul]
      obtain ⟨e1, e2⟩ := rest21 S m
      rw [← hx2] at e1 e2
      obtain ⟨d1, d2⟩ := rest21 U m
      rw [← hp2] at d1 d2
      have hS64 : S < 18446744073709551616 := by rw [hS]; exact hsq
      have hU64 : U < 18446744073709551616 := by rw [hU]; exact hpx
      have hx2m : x2 < m := by rw [hx2]; exact Nat.mod_lt _ HM0.out
      have hp2m : p2 < m := by rw [hp2]; exact Nat.mod_lt _ HM0.out
      obtain ⟨q, hq⟩ : ∃ q, q = k / 2 := ⟨_, rfl⟩
      have hqk : q < k := by omega
      have eq1 : ((k : Int).tdiv 2) = (q : Int) := by rw [Int.tdiv_eq_ediv_of_nonneg (by omega)]; omega
      have eq2 : ((k : Int) / 2) = (q : Int) := by omega
      have HQ := Lib.hid hqk
      have hq64 : q ≤ 9223372036854775807 := by omega
      by_cases hodd : k % 2 = 1
      · have HI : Hid (p2 * x2 ^ q % m = R) := Lib.hid (by rw [← hinv.out, hp2, hx2, hU, hS, hq]; exact pow21_odd hodd)
        have et1 : ((k : Int).tmod 2) = 1 := by rw [Int.tmod_eq_emod_of_nonneg (by omega)]; omega
        have et2 : ((k : Int) % 2) = 1 := by omega
        clear hsq hpx hS hU hx2 hp2 hq hqk hodd hinv h0
        go_wp2_with fail
        go_roundw
        case rel => exact ⟨q, p2, x2, by go_num, rfl, rfl, hx2m, hq64, hp2m, HI, trivial⟩
        case measure => simp [intOf]; exact HQ.out
      · have HI : Hid (p * x2 ^ q % m = R) := Lib.hid (by rw [← hinv.out, hx2, hS, hq]; exact pow21_even hodd)
        have et1 : ((k : Int).tmod 2) = 0 := by rw [Int.tmod_eq_emod_of_nonneg (by omega)]; omega
        have et2 : ((k : Int) % 2) = 0 := by omega
        clear hsq hpx hS hU hx2 hp2 hq hqk hodd hinv h0 hU64 eU d1 d2 hp2m
        go_wp2_with fail
        go_roundw
        case rel => exact ⟨q, p, x2, by go_num, rfl, rfl, hx2m, hq64, hp, HI, trivial⟩
        case measure => simp [intOf]; exact HQ.out
end Go.Proofs.Ytfoldiieclfbgaa
set_option linter.unusedVariables false
set_option linter.unusedSimpArgs false
namespace Go.Proofs.Ytfoldiieclfbgaa
open Go Go.RowKit Nt

/-- An angle turned n times. -/
def turnsA (a : An) (d n : Int) : An := ⟨lowNum (a.n * (d.toNat ^ n.toNat % a.d)) a.d, lowDen (a.n * (d.toNat ^ n.toNat % a.d)) a.d⟩
theorem turnsA_ok {a : An} (d n : Int) (ha : a.Ok) : (turnsA a d n).Ok := ⟨lowNum_lt ha.le.2.2, Nat.le_trans (lowDen_le _ _) ha.le.2.1, low_coprime ha.le.2.2⟩
theorem Amade_turns (a : An) (d n : Int) (w : World) (ha : a.Ok) : Calls Try.prog 47 #[.int .u64 ((a.n * (d.toNat ^ n.toNat % a.d) : Nat) : Int), .int .u64 ((a.d : Nat) : Int)] w fun e w' => e = .returned (.tuple #[.agg #[.bool false, .string (natS (turnsA a d n).n), .string (natS (turnsA a d n).d)], .int .i64 0]) ∧ Below w.heap.size w w' := by
  have h := Amade_any (a.n * (d.toNat ^ n.toNat % a.d)) a.d w (prod_lt ha.le.1 (Nat.le_trans (Nat.le_of_lt (Nat.mod_lt _ ha.le.2.2)) ha.le.2.1)) ha.le.2.2 ha.small.2
  have hl : lowDen (a.n * (d.toNat ^ n.toNat % a.d)) a.d ≤ 2147483647 := Nat.le_trans (lowDen_le _ _) ha.le.2.1
  rw [(md_ok hl).1, (md_ok hl).2.1, (md_ok hl).2.2] at h
  exact h

@[reducible] def ATurns_k_f : FuncId := 25
@[reducible] def ATurns_k_a : List AV := [.agg [.lit (.bool false), .sym 0, .sym 1], .sym 2, .sym 3]
@[reducible] noncomputable def ATurns_k_k (b1 b2 b3 : Bool) : Know := ⟨[([0, 16, 3], [.sym 2, .lit (.int .i64 2)], .lit (.bool b1)),
  ([0, 14, 3], [.sym 2, .lit (.int .i64 64)], .lit (.bool b2)),
  ([0, 13, 3], [.sym 3, .lit (.int .i64 0)], .lit (.bool b3)),
  ([2, 3, 28], [.sym 2], .sym 6),
  ([2, 3, 28], [.sym 3], .sym 7),
  ([0, 2, 28], [.sym 4, .sym 8], .sym 9)],
  [(51, [.agg [.lit (.bool false), .sym 0, .sym 1]], .tup [.agg [.sym 4, .sym 5], .lit (.int .i64 0)]),
  (54, [.sym 6, .sym 7, .sym 5], .sym 8),
  (47, [.sym 9, .sym 5], .tup [.agg [.lit (.bool false), .sym 10, .sym 11], .lit (.int .i64 0)])]⟩
theorem ATurns_k_r1 : @comes (ATurns_k_k true true false) Try.prog glT 3000 ATurns_k_f ATurns_k_a = some (.tup [.agg [.lit (.bool false), .sym 10, .sym 11], .lit (.int .i64 0)]) := by kernel_rfl

set_option maxRecDepth 100000 in
set_option maxHeartbeats 4000000 in
theorem ATurns_k (a : An) (d n : Int) (w : World) (ha : a.Ok) (hd1 : 2 ≤ d) (hd2 : d ≤ 64) (hn : 0 ≤ n) (hn2 : n ≤ 9223372036854775807) : Calls Try.prog 25 #[.agg #[.bool false, .string (natS a.n), .string (natS a.d)], .int .i64 d, .int .i64 n] w fun e w' => e = .returned (.tuple #[.agg #[.bool false, .string (natS (turnsA a d n).n), .string (natS (turnsA a d n).d)], .int .i64 0]) ∧ Below w.heap.size w w' := by
  have hG : Globs glT w := glT_all w
  obtain ⟨b1, i1⟩ := bex (d ≥ 2)
  obtain ⟨b2, i2⟩ := bex (d ≤ 64)
  obtain ⟨b3, i3⟩ := bex (n < 0)
  letI : Env := mkEnv glT [.string (natS a.n), .string (natS a.d), .int .i64 d, .int .i64 n, .int .u64 ((a.n : Nat) : Int), .int .u64 ((a.d : Nat) : Int), .int .u64 ((d.toNat : Nat) : Int), .int .u64 ((n.toNat : Nat) : Int), .int .u64 ((d.toNat ^ n.toNat % a.d : Nat) : Int), .int .u64 ((a.n * (d.toNat ^ n.toNat % a.d) : Nat) : Int), .string (natS (turnsA a d n).n), .string (natS (turnsA a d n).d)] rfl
  have hops : OpsT Try.prog (@Know.ops (ATurns_k_k b1 b2 b3)) := ⟨opt_geq_i rfl rfl i1,
    opt_leq_i rfl rfl i2,
    opt_lss_i rfl rfl i3,
    opt_conv (x := d) (z := d.toNat) rfl rfl rfl (by omega) (by omega),
    opt_conv (x := n) (z := n.toNat) rfl rfl rfl (by omega) (by omega),
    nopt_mul (x := a.n) (y := (d.toNat ^ n.toNat % a.d)) (z := a.n * (d.toNat ^ n.toNat % a.d)) rfl rfl rfl rfl rfl (prod_lt ha.le.1 (Nat.le_trans (Nat.le_of_lt (Nat.mod_lt _ ha.le.2.2)) ha.le.2.1)),
    trivial⟩
  have hcalls : CallsT Try.prog (@Know.calls (ATurns_k_k b1 b2 b3)) := ⟨callt rfl rfl fun w hG => Aopen_ok a ha w,
    callt rfl rfl fun w hG => Apower_b d.toNat n.toNat a.d w (by omega) (by omega) ha.le.2.2 (by have := ha.le.2.1; omega),
    callt rfl rfl fun w hG => Amade_turns a d n w ha,
    trivial⟩
  have fin : ∀ v, @comes (ATurns_k_k b1 b2 b3) Try.prog glT 3000 ATurns_k_f ATurns_k_a = some v → ground v = true → Ending.returned (gval v) = .returned (.tuple #[.agg #[.bool false, .string (natS (turnsA a d n).n), .string (natS (turnsA a d n).d)], .int .i64 0]) → Calls Try.prog 25 #[.agg #[.bool false, .string (natS a.n), .string (natS a.d)], .int .i64 d, .int .i64 n] w fun e w' => e = .returned (.tuple #[.agg #[.bool false, .string (natS (turnsA a d n).n), .string (natS (turnsA a d n).d)], .int .i64 0]) ∧ Below w.heap.size w w' := fun v h1 h2 h3 => (@sym_ok _ (ATurns_k_k b1 b2 b3) _ (@KnowOk.of _ (ATurns_k_k b1 b2 b3) _ hops hcalls) (by kernel_rfl) _ _ _ _ h1 rfl h2 _ hG).mono fun e w' h => ⟨h.1.trans h3, h.2⟩
  clear hops hcalls
  cases b1 with
  | true =>
    have h1 : d ≥ 2 := i1.1 rfl
    cases b2 with
    | true =>
      have h2 : d ≤ 64 := i2.1 rfl
      cases b3 with
      | true =>
        exact absurd (i3.1 rfl) ((by omega))
      | false =>
        have h3 : ¬ (n < 0) := fun c => Bool.false_ne_true (i3.2 c)
        exact fin _ (ATurns_k_r1) rfl rfl
    | false =>
      exact absurd (i2.2 ((by omega))) Bool.false_ne_true
  | false =>
    exact absurd (i1.2 ((by omega))) Bool.false_ne_true

@[reducible] def ATurns_neg_f : FuncId := 25
@[reducible] def ATurns_neg_a : List AV := [.agg [.lit (.bool false), .sym 0, .sym 1], .sym 2, .sym 3]
@[reducible] noncomputable def ATurns_neg_k (b1 b2 b3 : Bool) : Know := ⟨[([0, 16, 3], [.sym 2, .lit (.int .i64 2)], .lit (.bool b1)),
  ([0, 14, 3], [.sym 2, .lit (.int .i64 64)], .lit (.bool b2)),
  ([0, 13, 3], [.sym 3, .lit (.int .i64 0)], .lit (.bool b3))],
  [(51, [.agg [.lit (.bool false), .sym 0, .sym 1]], .tup [.agg [.sym 4, .sym 5], .lit (.int .i64 0)])]⟩
theorem ATurns_neg_r1 : @comes (ATurns_neg_k true true true) Try.prog glT 3000 ATurns_neg_f ATurns_neg_a = some (.lit (.tuple #[.agg #[.bool false, .string ⟨#[]⟩, .string ⟨#[]⟩], .int .i64 2])) := by kernel_rfl

set_option maxRecDepth 100000 in
set_option maxHeartbeats 4000000 in
theorem ATurns_neg (a : An) (d n : Int) (w : World) (ha : a.Ok) (hd1 : 2 ≤ d) (hd2 : d ≤ 64) (hn : n < 0) : Calls Try.prog 25 #[.agg #[.bool false, .string (natS a.n), .string (natS a.d)], .int .i64 d, .int .i64 n] w fun e w' => e = .returned (.tuple #[.agg #[.bool false, .string ⟨#[]⟩, .string ⟨#[]⟩], .int .i64 2]) ∧ Below w.heap.size w w' := by
  have hG : Globs glT w := glT_all w
  obtain ⟨b1, i1⟩ := bex (d ≥ 2)
  obtain ⟨b2, i2⟩ := bex (d ≤ 64)
  obtain ⟨b3, i3⟩ := bex (n < 0)
  letI : Env := mkEnv glT [.string (natS a.n), .string (natS a.d), .int .i64 d, .int .i64 n, .int .u64 ((a.n : Nat) : Int), .int .u64 ((a.d : Nat) : Int)] rfl
  have hops : OpsT Try.prog (@Know.ops (ATurns_neg_k b1 b2 b3)) := ⟨opt_geq_i rfl rfl i1,
    opt_leq_i rfl rfl i2,
    opt_lss_i rfl rfl i3,
    trivial⟩
  have hcalls : CallsT Try.prog (@Know.calls (ATurns_neg_k b1 b2 b3)) := ⟨callt rfl rfl fun w hG => Aopen_ok a ha w,
    trivial⟩
  have fin : ∀ v, @comes (ATurns_neg_k b1 b2 b3) Try.prog glT 3000 ATurns_neg_f ATurns_neg_a = some v → ground v = true → Ending.returned (gval v) = .returned (.tuple #[.agg #[.bool false, .string ⟨#[]⟩, .string ⟨#[]⟩], .int .i64 2]) → Calls Try.prog 25 #[.agg #[.bool false, .string (natS a.n), .string (natS a.d)], .int .i64 d, .int .i64 n] w fun e w' => e = .returned (.tuple #[.agg #[.bool false, .string ⟨#[]⟩, .string ⟨#[]⟩], .int .i64 2]) ∧ Below w.heap.size w w' := fun v h1 h2 h3 => (@sym_ok _ (ATurns_neg_k b1 b2 b3) _ (@KnowOk.of _ (ATurns_neg_k b1 b2 b3) _ hops hcalls) (by kernel_rfl) _ _ _ _ h1 rfl h2 _ hG).mono fun e w' h => ⟨h.1.trans h3, h.2⟩
  clear hops hcalls
  cases b1 with
  | true =>
    have h1 : d ≥ 2 := i1.1 rfl
    cases b2 with
    | true =>
      have h2 : d ≤ 64 := i2.1 rfl
      cases b3 with
      | true =>
        have h3 : n < 0 := i3.1 rfl
        exact fin _ (ATurns_neg_r1) rfl rfl
      | false =>
        exact absurd (i3.2 ((by omega))) Bool.false_ne_true
    | false =>
      exact absurd (i2.2 ((by omega))) Bool.false_ne_true
  | false =>
    exact absurd (i1.2 ((by omega))) Bool.false_ne_true

@[reducible] def Aboth_k_f : FuncId := 53
@[reducible] def Aboth_k_a : List AV := [.agg [.lit (.bool false), .sym 0, .sym 1], .sym 2]
@[reducible] noncomputable def Aboth_k_k (b1 b2 : Bool) : Know := ⟨[([0, 16, 3], [.sym 2, .lit (.int .i64 2)], .lit (.bool b1)),
  ([0, 14, 3], [.sym 2, .lit (.int .i64 64)], .lit (.bool b2))],
  [(51, [.agg [.lit (.bool false), .sym 0, .sym 1]], .tup [.agg [.sym 3, .sym 4], .lit (.int .i64 0)])]⟩
theorem Aboth_k_r1 : @comes (Aboth_k_k true true) Try.prog glT 3000 Aboth_k_f Aboth_k_a = some (.tup [.agg [.sym 3, .sym 4], .lit (.int .i64 0)]) := by kernel_rfl

set_option maxRecDepth 100000 in
set_option maxHeartbeats 4000000 in
theorem Aboth_k (a : An) (d : Int) (w : World) (ha : a.Ok) (hd1 : 2 ≤ d) (hd2 : d ≤ 64) : Calls Try.prog 53 #[.agg #[.bool false, .string (natS a.n), .string (natS a.d)], .int .i64 d] w fun e w' => e = .returned (.tuple #[.agg #[.int .u64 ((a.n : Nat) : Int), .int .u64 ((a.d : Nat) : Int)], .int .i64 0]) ∧ Below w.heap.size w w' := by
  have hG : Globs glT w := glT_all w
  obtain ⟨b1, i1⟩ := bex (d ≥ 2)
  obtain ⟨b2, i2⟩ := bex (d ≤ 64)
  letI : Env := mkEnv glT [.string (natS a.n), .string (natS a.d), .int .i64 d, .int .u64 ((a.n : Nat) : Int), .int .u64 ((a.d : Nat) : Int)] rfl
  have hops : OpsT Try.prog (@Know.ops (Aboth_k_k b1 b2)) := ⟨opt_geq_i rfl rfl i1,
    opt_leq_i rfl rfl i2,
    trivial⟩
  have hcalls : CallsT Try.prog (@Know.calls (Aboth_k_k b1 b2)) := ⟨callt rfl rfl fun w hG => Aopen_ok a ha w,
    trivial⟩
  have fin : ∀ v, @comes (Aboth_k_k b1 b2) Try.prog glT 3000 Aboth_k_f Aboth_k_a = some v → ground v = true → Ending.returned (gval v) = .returned (.tuple #[.agg #[.int .u64 ((a.n : Nat) : Int), .int .u64 ((a.d : Nat) : Int)], .int .i64 0]) → Calls Try.prog 53 #[.agg #[.bool false, .string (natS a.n), .string (natS a.d)], .int .i64 d] w fun e w' => e = .returned (.tuple #[.agg #[.int .u64 ((a.n : Nat) : Int), .int .u64 ((a.d : Nat) : Int)], .int .i64 0]) ∧ Below w.heap.size w w' := fun v h1 h2 h3 => (@sym_ok _ (Aboth_k_k b1 b2) _ (@KnowOk.of _ (Aboth_k_k b1 b2) _ hops hcalls) (by kernel_rfl) _ _ _ _ h1 rfl h2 _ hG).mono fun e w' h => ⟨h.1.trans h3, h.2⟩
  clear hops hcalls
  cases b1 with
  | true =>
    have h1 : d ≥ 2 := i1.1 rfl
    cases b2 with
    | true =>
      have h2 : d ≤ 64 := i2.1 rfl
      exact fin _ (Aboth_k_r1) rfl rfl
    | false =>
      exact absurd (i2.2 ((by omega))) Bool.false_ne_true
  | false =>
    exact absurd (i1.2 ((by omega))) Bool.false_ne_true

end Go.Proofs.Ytfoldiieclfbgaa
set_option linter.unusedSimpArgs false
set_option linter.unusedVariables false
namespace Go.Proofs.Ytfoldiieclfbgaa
open Go Go.RowKit

/-- The cells of a list, one element after the other. -/
def cellsOfL {α : Type} (cs : α → List Value) : List α → List Value
  | [] => []
  | x :: l => cs x ++ cellsOfL cs l
theorem cellsOfL_snoc {α : Type} (cs : α → List Value) (x : α) : ∀ l, cellsOfL cs (l ++ [x]) = cellsOfL cs l ++ cs x
  | [] => by simp [cellsOfL]
  | y :: l => by rw [List.cons_append, cellsOfL, cellsOfL_snoc cs x l, cellsOfL, List.append_assoc]
theorem cellsOfL_get {α : Type} (cs : α → List Value) (k : Nat) (hk : ∀ x, (cs x).length = k) : ∀ (l : List α) (j : Nat) (hj : j < l.length) (i : Nat), i < k → (cellsOfL cs l)[j * k + i]? = (cs l[j])[i]?
  | [], j, hj, _, _ => absurd hj (by simp)
  | x :: l, 0, _, i, hi => by
    rw [Nat.zero_mul, Nat.zero_add, cellsOfL, List.getElem?_append_left (by rw [hk]; exact hi)]
    rfl
  | x :: l, j + 1, hj, i, hi => by
    rw [cellsOfL, List.getElem?_append_right (by rw [hk, Nat.add_mul]; omega), hk]
    rw [show (j + 1) * k + i - k = j * k + i by rw [Nat.add_mul]; omega]
    rw [cellsOfL_get cs k hk l j (by simpa using hj) i hi]
    rfl
/-- A slice of the call's own that holds this list. -/
def OwnK {α : Type} (w : World) (B : Nat) (T : TypeId) (k : Nat) (cs : α → List Value) (v : Value) (l : List α) : Prop := w.ownsRow B T k v l.length (cellsOfL cs l)
section
variable {α : Type} {w w' : World} {B B' k : Nat} {T : TypeId} {cs : α → List Value} {v : Value} {l : List α}
theorem OwnK.nil (w : World) (B : Nat) (T : TypeId) (k : Nat) (cs : α → List Value) : OwnK w B T k cs (.slice none 0 0) [] := World.ownsRow_nil w B T k
theorem OwnK.below (h : OwnK w B T k cs v l) (hb : Below B' w w') (hB : ∀ g, v.ownBlock = some g → g < B') : OwnK w' B T k cs v l := by
  rcases h.2 with ⟨rfl, h0⟩ | ⟨g, cap, cur, rfl, hB1, hh, hn, hm, hs, ht⟩
  · exact ⟨h.1, Or.inl ⟨rfl, h0⟩⟩
  · exact ⟨h.1, Or.inr ⟨g, cap, cur, rfl, hB1, (hb.block g (hB g rfl)).trans hh, hn, hm, hs, ht⟩⟩
theorem OwnK.lt (h : OwnK w B T k cs v l) : ∀ g, v.ownBlock = some g → B ≤ g ∧ g < w.heap.size := World.ownsRow.lt h
theorem OwnK.whole (h : OwnK w B T k cs v l) (hb : Below w.heap.size w w') : OwnK w' B T k cs v l := h.below hb fun g e => (h.lt g e).2
theorem OwnK.drewN (h : OwnK w B T k cs v l) (n : Nat) : OwnK (w.drewN n) B T k cs v l := h
theorem OwnK.alloc (h : OwnK w B T k cs v l) (o : Obj) : OwnK (w.alloc o) B T k cs v l := World.ownsRow.alloc h o
theorem OwnK.less (h : OwnK w B T k cs v l) (hB : B' ≤ B) : OwnK w B' T k cs v l := by
  rcases h.2 with ⟨rfl, h0⟩ | ⟨g, cap, cur, rfl, hB1, hh, hn, hm, hs, ht⟩
  · exact ⟨h.1, Or.inl ⟨rfl, h0⟩⟩
  · exact ⟨h.1, Or.inr ⟨g, cap, cur, rfl, Nat.le_trans hB hB1, hh, hn, hm, hs, ht⟩⟩
theorem OwnK.form (h : OwnK w B T k cs v l) (hk : ∀ x, (cs x).length = k) : (v = .slice none 0 0 ∧ l = []) ∨ ∃ g cap, v = .slice (some ⟨g, 0, none⟩) l.length cap ∧ l.length ≤ cap ∧ cap ≤ 9223372036854775807 ∧ B ≤ g ∧ g < w.heap.size ∧
    ∀ j (hj : j < l.length) i, i < k → w.cell? ⟨g, j * k + i, none⟩ = (cs l[j])[i]? ∧ w.frozen? ⟨g, j * k + i, none⟩ = false := by
  rcases h.2 with ⟨rfl, h0⟩ | ⟨g, cap, cur, rfl, hB, hh, hn, hm, hs, ht⟩
  · exact Or.inl ⟨rfl, List.eq_nil_of_length_eq_zero h0⟩
  · have hlt : g < w.heap.size := by
      rcases Nat.lt_or_ge g w.heap.size with h' | h'
      · exact h'
      · rw [Array.getElem?_eq_none h'] at hh; cases hh
    refine Or.inr ⟨g, cap, rfl, hn, by simpa [maxLen] using hm, hB, hlt, fun j hj i hi => ⟨?_, ?_⟩⟩
    · rw [cell_of_row w g (j * k + i) cur T (0, 0) hh]
      have e := congrArg (fun x => x[j * k + i]?) ht
      have hlt2 : j * k + i < l.length * k := by
        have : (j + 1) * k ≤ l.length * k := Nat.mul_le_mul_right k hj
        rw [Nat.add_mul] at this; omega
      rw [List.getElem?_take, if_pos hlt2, cellsOfL_get cs k hk l j hj i hi] at e
      rw [← Array.getElem?_toList]; exact e
    · simp [World.frozen?, hh]
end
/-- 'append(s, x)' of one struct that lies in a block of one. -/
theorem wpList_appK1 {α : Type} {P : Program} (w0 : World) {ops : Array Oper} {rest : List Oper} {o : Oper} {a : Act} {Q : Exit → Act → World → Prop} (hgd : o.guard = none) (s x : Operand) (t : TypeId)
    (ho : o.op = .call { callee := .builtin .append, args := #[s, x], argTypes := #[t, t] })
    (B : Nat) (e U : TypeId) (i : TypeInfo) (z : Value) (k bytes : Nat) (cs : α → List Value) (hk : ∀ x, (cs x).length = k) (h1 : ∀ x, ∀ u ∈ cs x, u.oneCell' = true) (ht : P.underlying t = some (.slice e)) (hi : P.info? e = some i) (hz : i.zero = some z)
    (hsize : i.size = k) (hby : i.bytes = bytes) (hzc : z.cells.size = k) (hk0 : 0 < k)
    (v : Value) (l : List α) (y : α) (A : Nat) (hA : A = w0.heap.size) (hs : a.eval s = v) (hx : a.eval x = .slice (some ⟨A, 0, none⟩) 1 1) (hown : OwnK w0 B e k cs v l)
    (hm : l.length + 1 ≤ maxLen) (hn : (l.length + 1) * bytes ≤ 140737488355328) (hB : B ≤ w0.heap.size)
    (h : ∀ v' w', OwnK w' B e k cs v' (l ++ [y]) → Below B w0 w' → (∀ g, g < w0.heap.size → v.ownBlock ≠ some g → w'.heap[g]? = w0.heap[g]?) → w0.heap.size ≤ w'.heap.size → wpList P ops Q rest (a.put o.dst v') w') :
    wpList P ops Q (o :: rest) a (w0.alloc (.cells (cs y).toArray U)) := by
  subst hA
  have hown1 : (w0.alloc (.cells (cs y).toArray U)).ownsRow B e k v l.length (cellsOfL cs l) := World.ownsRow.alloc hown _
  refine wpList_plain hgd fun _ hK => ?_
  obtain ⟨v', w', hrun, h2, hg, _, h5⟩ := run_append_own_at (P := P) (w0.alloc (.cells (cs y).toArray U)) B t o.type e i z k bytes ht hi hz hsize hby hzc hk0 v l.length (cellsOfL cs l) hown1
    ⟨w0.heap.size, 0, none⟩ 1 1 (cs y) (by rw [hk, Nat.one_mul]) (by
      intro j u hu
      have e2 : (⟨w0.heap.size, 0, none⟩ : Addr).add j = ⟨w0.heap.size, j, none⟩ := by unfold Addr.add; split <;> simp_all
      rw [e2, (Blk.new w0 U (cs y).toArray).cell j, List.getElem?_toArray]
      exact hu) (h1 y) hm hn (by simp; omega)
  unfold Oper.wp execOp
  simp only [ho, resolve, invoke, builtin, Sem.run_bind, Sem.run_pure, Result.andThen_ok, List.map_toArray, List.map_cons, List.map_nil, hs, hx, hrun]
  have hsz : (w0.alloc (.cells (cs y).toArray U)).heap.size = w0.heap.size + 1 := by simp
  refine hK _ _ (h v' w' ?_ ?_ ?_ ?_)
  · unfold OwnK
    rw [cellsOfL_snoc, List.length_append, List.length_singleton]
    exact h2
  · exact Below.grown ((Below.refl _ _).alloc hB _) hg (by simp; omega) (fun g e => (World.ownsRow.lt hown g e).1)
  · intro g hlt hne
    rw [hg.block g (by rw [hsz]; omega) (fun e => hne e.symm)]
    exact Below.heap_alloc w0 _ g hlt
  · have := hg.size
    rw [hsz] at this; omega
end Go.Proofs.Ytfoldiieclfbgaa
set_option linter.unusedSimpArgs false
set_option linter.unusedVariables false
namespace Go.Proofs.Ytfoldiieclfbgaa
open Go Go.RowKit Nt

/-- The k-th angle that is turned to a. -/
def bkA (a : An) (D k : Nat) : An := ⟨lowNum (a.n + k * a.d) (a.d * D), lowDen (a.n + k * a.d) (a.d * D)⟩
def bkOK (a : An) (D : Nat) : Prop := ∀ k, k < D → (bkA a D k).d ≤ 2147483647
def bkL (a : An) (D j : Nat) : List An := (List.range j).map (bkA a D)
theorem bkL_succ (a : An) (D j : Nat) : bkL a D (j + 1) = bkL a D j ++ [bkA a D j] := by unfold bkL; rw [List.range_succ, List.map_append]; rfl
theorem bkL_len (a : An) (D j : Nat) : (bkL a D j).length = j := by unfold bkL; simp
def csR (a : An) : List Value := [.bool false, .string (natS a.n), .string (natS a.d)]
def csA (a : An) : List Value := [.int .u64 (a.n : Nat), .int .u64 (a.d : Nat)]
theorem csR_arr {a b : An} (h : a = b) : (csR a).toArray = #[.bool false, .string (natS b.n), .string (natS b.d)] := by rw [h]; rfl
theorem csR_len (a : An) : (csR a).length = 3 := rfl
theorem csA_len (a : An) : (csA a).length = 2 := rfl
theorem csR_one (a : An) : ∀ u ∈ csR a, u.oneCell' = true := fun u hu => by
  rcases List.mem_cons.1 hu with rfl | hu
  · rfl
  · rcases List.mem_cons.1 hu with rfl | hu
    · rfl
    · rw [List.mem_singleton.1 hu]; rfl
theorem csA_one (a : An) : ∀ u ∈ csA a, u.oneCell' = true := fun u hu => by
  rcases List.mem_cons.1 hu with rfl | hu
  · rfl
  · rw [List.mem_singleton.1 hu]; rfl
/-- What Back tells: the list, or nothing and 210. -/
def BkPost (T : TypeId) (c : Nat) (cs : An → List Value) (a : An) (D : Nat) (w : World) (e : Ending) (w' : World) : Prop :=
  ∃ v E, e = .returned (.tuple #[v, .int .i64 E]) ∧ Below w.heap.size w w' ∧ ((E = 0 ∧ bkOK a D ∧ OwnK w' w.heap.size T c cs v (bkL a D D)) ∨ (E = 210 ∧ ¬ bkOK a D ∧ v = .slice none 0 0))
theorem bk_bounds {a : An} (ha : a.Ok) {D k : Nat} (hD : D ≤ 64) (hk : k ≤ 64) : k * a.d ≤ 137438953408 ∧ a.n + k * a.d ≤ 139586437055 ∧ a.d * D ≤ 137438953408 := by
  have h1 : k * a.d ≤ 64 * 2147483647 := Nat.mul_le_mul hk ha.le.2.1
  have h2 : a.d * D ≤ 2147483647 * 64 := Nat.mul_le_mul ha.le.2.1 hD
  have h3 := ha.le.1
  omega
set_option maxRecDepth 100000 in
set_option maxHeartbeats 2000000 in
theorem ABack_k (a : An) (d : Int) (w : World) (ha : a.Ok) (hd1 : 2 ≤ d) (hd2 : d ≤ 64) :
    Calls Try.prog 26 #[.agg #[.bool false, .string (natS a.n), .string (natS a.d)], .int .i64 d] w (BkPost 24 3 csR a d.toNat w) := by
  obtain ⟨i0, hi0, hz0, hj1, hj2⟩ := info_parts (P := Try.prog) (e := 24) (z := .agg #[.bool false, .string ⟨#[]⟩, .string ⟨#[]⟩]) (size := 3) (bytes := 40) (by kernel_rfl)
  obtain ⟨D, hD⟩ : ∃ D, D = d.toNat := ⟨_, rfl⟩
  have eD : d = (D : Int) := by omega
  have KB := Lib.hid (fun w => Aboth_k a d w ha hd1 hd2)
  rw [← hD]
  subst eD
  have hD1 : 2 ≤ D := by omega
  have hD2 : D ≤ 64 := by omega
  have HA := Lib.hid ha
  obtain ⟨b, hb⟩ : ∃ b, b = a.n := ⟨_, rfl⟩
  obtain ⟨m, hm⟩ : ∃ m, m = a.d := ⟨_, rfl⟩
  have HBN := Lib.hid hb
  have HMN := Lib.hid hm
  have hm1 : m ≤ 2147483647 := by rw [hm]; exact ha.le.2.1
  have hb1 : b ≤ 2147483647 := by rw [hb]; exact ha.le.1
  rw [← hb, ← hm] at KB
  rw [← hb, ← hm]
  obtain ⟨M, hM⟩ : ∃ M, M = m * D := ⟨_, rfl⟩
  have eM : ((m : Int) * (D : Int)) = (M : Int) := by rw [hM, Int.natCast_mul]
  have hM64 : M < 18446744073709551616 := by rw [hM, hm]; have := (bk_bounds ha hD2 hD2).2.2; omega
  have HMM := Lib.hid hM
  have HX := (Blk.new w 24 #[.bool false, .string (natS b), .string (natS m)])
  have HB : Below w.heap.size w (w.alloc (.cells #[.bool false, .string (natS b), .string (natS m)] 24)) := (Below.refl _ w).alloc (Nat.le_refl _) _
  clear hb hm hM ha hd1 hd2 hD
  go_enter Try.func26, Try.ntmps26
  go_wp2_with fail
  refine (KB.out _).mono ?_
  rintro e w1 ⟨rfl, hb1w⟩
  replace HB := below_chain HB hb1w
  have PB := Blk.new w1 93 #[.int .u64 (b : Nat), .int .u64 (m : Nat)]
  replace HB := HB.alloc HB.size (.cells #[.int .u64 (b : Nat), .int .u64 (m : Nat)] 93)
  obtain ⟨B6, hB6⟩ : ∃ B, B = w1.heap.size := ⟨_, rfl⟩
  rw [← hB6] at PB
  clear hb1w HX KB
  go_wp2_with fail
  rw [← hB6]
  generalize w1.alloc (.cells #[.int .u64 (b : Nat), .int .u64 (m : Nat)] 93) = w2 at *
  clear hB6
  have hPB := PB.lt
  go_loopw [8, 23] (fun v vk wr => ∃ j : Nat, j ≤ D ∧ vk = .int .u64 (j : Nat) ∧ Hid (OwnK wr w2.heap.size 24 3 csR v (bkL a D j)) ∧ Hid (∀ k, k < j → (bkA a D k).d ≤ 2147483647) ∧ Below w2.heap.size w2 wr) (fun _ vk _ => D - (intOf vk).toNat)
  case atStart => exact ⟨0, Nat.zero_le _, rfl, Lib.hid (OwnK.nil _ _ _ _ _), Lib.hid (fun k h => absurd h (by omega)), Below.refl _ _⟩
  case round =>
    obtain ⟨j, hj, rfl, hown, hok, hb⟩ := hrel
    have hP := Lib.hid (PB.below hb hPB)
    by_cases hlt : j < D
    · obtain ⟨p0, p1, _, _⟩ := ang_cells hP.out
      obtain ⟨S, hS⟩ : ∃ S, S = j * m := ⟨_, rfl⟩
      obtain ⟨U, hU⟩ : ∃ U, U = b + S := ⟨_, rfl⟩
      have hbd := bk_bounds HA.out hD2 (show j ≤ 64 by omega)
      rw [← HMN.out, ← HBN.out, ← hS, ← hU] at hbd
      have eS : ((j : Int) * (m : Int)) = (S : Int) := by rw [hS, Int.natCast_mul]
      have eU : ((b : Int) + (S : Int)) = (U : Int) := by rw [hU]; omega
      have hS64 : S < 18446744073709551616 := by omega
      have hU64 : U < 18446744073709551616 := by omega
      have hbk : bkA a D j = ⟨lowNum U M, lowDen U M⟩ := by unfold bkA; rw [← HBN.out, ← HMN.out, ← hS, ← hU, HMM.out]
      have KM := Lib.hid (fun w => Amade_any U M w hU64 (by have := HMM.out; rw [this]; exact Nat.mul_pos (by rw [HMN.out]; exact HA.out.le.2.2) (by omega)) hM64)
      have HBK := Lib.hid hbk
      clear hS hU hbd hbk
      by_cases hl : lowDen U M ≤ 2147483647
      · rw [(md_ok hl).1, (md_ok hl).2.1, (md_ok hl).2.2] at KM
        have HL := Lib.hid hl
        have HLT := Lib.hid hlt
        have hj64 : j < 64 := by omega
        clear hl
        go_wp2_with (first
          | (go_at_call 47; refine (KM.out _).mono ?_; rintro e w3 ⟨rfl, hb3⟩; have HB3 := Lib.hid hb3; clear hb3)
          | (at_builtin; go_loud (refine wpList_appK1 (w3.alloc (.cells #[.bool false, .string (natS (lowNum U M)), .string (natS (lowDen U M))] 24)) rfl (.tmp 45) (.tmp 47) _ rfl w2.heap.size 24 24 i0 _ 3 40 csR csR_len csR_one Try.underlying46 hi0 hz0 hj1 hj2 rfl (by decide) _ (bkL a D j) (⟨lowNum U M, lowDen U M⟩ : An) (w3.heap.size + 1) (by simp) rfl rfl ((hown.out.whole HB3.out).alloc _) (by rw [bkL_len]; unfold maxLen; omega) (by rw [bkL_len]; omega) (by have := (below_chain hb HB3.out).size; simp; omega) ?_); intro v4 w4 hown4 hb4 hk4 hs4))
        have HO4 := Lib.hid hown4
        have hb5 := ((below_chain hb HB3.out).alloc (below_chain hb HB3.out).size (.cells #[.bool false, .string (natS (lowNum U M)), .string (natS (lowDen U M))] 24)).trans hb4
        clear hown4 hb4 hk4 hs4 hb
        go_roundw
        case rel =>
          refine ⟨j + 1, by have := HLT.out; omega, by go_num, Lib.hid ?_, Lib.hid (fun k hk => ?_), hb5⟩
          · rw [bkL_succ, HBK.out]; exact HO4.out
          · rcases Nat.lt_or_ge k j with h | h
            · exact hok.out k h
            · obtain rfl : k = j := by omega
              rw [HBK.out]; exact HL.out
        case measure => have := HLT.out; simp [intOf]; omega
      · rw [(md_no hl).1, (md_no hl).2.1, (md_no hl).2.2] at KM
        have HNO : Hid (¬ bkOK a D) := Lib.hid (fun c => hl (by have := c j hlt; rw [HBK.out] at this; exact this))
        have hj64 : j < 64 := by omega
        clear hl
        go_wp2_with (go_at_call 47; refine (KM.out _).mono ?_; rintro e w3 ⟨rfl, hb3⟩)
        go_ret2
        refine ⟨_, _, rfl, ?_, Or.inr ⟨rfl, HNO.out, rfl⟩⟩
        exact (below_chain HB (below_chain hb hb3)).alloc (below_chain HB (below_chain hb hb3)).size _
    · obtain rfl : j = D := by omega
      go_wp2_with fail
      go_ret2
      exact ⟨_, _, rfl, below_chain HB hb, Or.inl ⟨rfl, hok.out, hown.out.less HB.size⟩⟩
set_option maxRecDepth 100000 in
set_option maxHeartbeats 2000000 in
theorem rBack_k (a : An) (d : Int) (w : World) (ha : a.Ok) (hd1 : 2 ≤ d) (hd2 : d ≤ 64) :
    Calls Try.prog 30 #[.agg #[.int .u64 (a.n : Nat), .int .u64 (a.d : Nat)], .int .i64 d] w (BkPost 30 2 csA a d.toNat w) := by
  obtain ⟨i0, hi0, hz0, hj1, hj2⟩ := info_parts (P := Try.prog) (e := 30) (z := .agg #[.int .u64 0, .int .u64 0]) (size := 2) (bytes := 16) (by kernel_rfl)
  obtain ⟨D, hD⟩ : ∃ D, D = d.toNat := ⟨_, rfl⟩
  have eD : d = (D : Int) := by omega
  rw [← hD]
  subst eD
  have hD1 : 2 ≤ D := by omega
  have hD2 : D ≤ 64 := by omega
  have HA := Lib.hid ha
  obtain ⟨b, hb⟩ : ∃ b, b = a.n := ⟨_, rfl⟩
  obtain ⟨m, hm⟩ : ∃ m, m = a.d := ⟨_, rfl⟩
  have HBN := Lib.hid hb
  have HMN := Lib.hid hm
  have hm1 : m ≤ 2147483647 := by rw [hm]; exact ha.le.2.1
  have hb1 : b ≤ 2147483647 := by rw [hb]; exact ha.le.1
  rw [← hb, ← hm]
  obtain ⟨M, hM⟩ : ∃ M, M = m * D := ⟨_, rfl⟩
  have eM : ((D : Int) * (m : Int)) = (M : Int) := by rw [hM, Int.natCast_mul, Int.mul_comm]
  have hM64 : M < 18446744073709551616 := by rw [hM, hm]; have := (bk_bounds ha hD2 hD2).2.2; omega
  have HMM := Lib.hid hM
  have PB := Blk.new w 30 #[.int .u64 (b : Nat), .int .u64 (m : Nat)]
  have HB : Below w.heap.size w (w.alloc (.cells #[.int .u64 (b : Nat), .int .u64 (m : Nat)] 30)) := (Below.refl _ w).alloc (Nat.le_refl _) _
  clear hb hm hM ha hd1 hd2 hD
  go_enter Try.func30, Try.ntmps30
  go_wp2_with fail
  generalize w.alloc (.cells #[.int .u64 (b : Nat), .int .u64 (m : Nat)] 30) = w2 at *
  have hPB := PB.lt
  go_loopw [6, 7] (fun v vk wr => ∃ j : Nat, j ≤ D ∧ vk = .int .i64 (j : Nat) ∧ Hid (OwnK wr w2.heap.size 30 2 csA v (bkL a D j)) ∧ Hid (∀ k, k < j → (bkA a D k).d ≤ 2147483647) ∧ Below w2.heap.size w2 wr) (fun _ vk _ => D - (intOf vk).toNat)
  case atStart => exact ⟨0, Nat.zero_le _, rfl, Lib.hid (OwnK.nil _ _ _ _ _), Lib.hid (fun k h => absurd h (by omega)), Below.refl _ _⟩
  case round =>
    obtain ⟨j, hj, rfl, hown, hok, hb⟩ := hrel
    have hP := Lib.hid (PB.below hb hPB)
    by_cases hlt : j < D
    · obtain ⟨p0, p1, _, _⟩ := ang_cells hP.out
      obtain ⟨S, hS⟩ : ∃ S, S = j * m := ⟨_, rfl⟩
      obtain ⟨U, hU⟩ : ∃ U, U = b + S := ⟨_, rfl⟩
      have hbd := bk_bounds HA.out hD2 (show j ≤ 64 by omega)
      rw [← HMN.out, ← HBN.out, ← hS, ← hU] at hbd
      have eS : ((j : Int) * (m : Int)) = (S : Int) := by rw [hS, Int.natCast_mul]
      have eU : ((b : Int) + (S : Int)) = (U : Int) := by rw [hU]; omega
      have hS64 : S < 18446744073709551616 := by omega
      have hU64 : U < 18446744073709551616 := by omega
      have hbk : bkA a D j = ⟨lowNum U M, lowDen U M⟩ := by unfold bkA; rw [← HBN.out, ← HMN.out, ← hS, ← hU, HMM.out]
      have KM := Lib.hid (fun w => rlow_any U M w hU64 (by have := HMM.out; rw [this]; exact Nat.mul_pos (by rw [HMN.out]; exact HA.out.le.2.2) (by omega)) hM64)
      have HBK := Lib.hid hbk
      have hLN : lowDen U M ≤ M := lowDen_le _ _
      clear hS hU hbd hbk
      by_cases hl : lowDen U M ≤ 2147483647
      · have HL := Lib.hid hl
        have HLT := Lib.hid hlt
        have hj64 : j < 64 := by omega
        go_wp2_with (first
          | (go_at_call 48; refine (KM.out _).mono ?_; rintro e w3 ⟨rfl, hb3⟩; have HB3 := Lib.hid hb3; clear hb3)
          | (at_builtin; refine wpList_appK1 (w3.alloc (.cells #[.int .u64 (lowNum U M : Nat), .int .u64 (lowDen U M : Nat)] 30)) rfl (.tmp 31) (.tmp 33) _ rfl w2.heap.size 30 30 i0 _ 2 16 csA csA_len csA_one Try.underlying52 hi0 hz0 hj1 hj2 rfl (by decide) _ (bkL a D j) (⟨lowNum U M, lowDen U M⟩ : An) (w3.heap.size + 1) (by simp) rfl rfl ((hown.out.whole HB3.out).alloc _) (by rw [bkL_len]; unfold maxLen; omega) (by rw [bkL_len]; omega) (by have := (below_chain hb HB3.out).size; simp; omega) ?_; intro v4 w4 hown4 hb4 hk4 hs4))
        have HO4 := Lib.hid hown4
        have hb5 := ((below_chain hb HB3.out).alloc (below_chain hb HB3.out).size (.cells #[.int .u64 (lowNum U M : Nat), .int .u64 (lowDen U M : Nat)] 30)).trans hb4
        clear hown4 hb4 hk4 hs4 hb hl
        go_roundw
        case rel =>
          refine ⟨j + 1, by have := HLT.out; omega, by go_num, Lib.hid ?_, Lib.hid (fun k hk => ?_), hb5⟩
          · rw [bkL_succ, HBK.out]; exact HO4.out
          · rcases Nat.lt_or_ge k j with h | h
            · exact hok.out k h
            · obtain rfl : k = j := by omega
              rw [HBK.out]; exact HL.out
        case measure => have := HLT.out; simp [intOf]; omega
      · have HNO : Hid (¬ bkOK a D) := Lib.hid (fun c => hl (by have := c j hlt; rw [HBK.out] at this; exact this))
        have hj64 : j < 64 := by omega
        have hgt : (2147483647 : Int) < (lowDen U M : Int) := by omega
        go_wp2_with (go_at_call 48; refine (KM.out _).mono ?_; rintro e w3 ⟨rfl, hb3⟩)
        go_ret2
        refine ⟨_, _, rfl, ?_, Or.inr ⟨rfl, HNO.out, rfl⟩⟩
        exact (below_chain HB (below_chain hb hb3)).alloc (below_chain HB (below_chain hb hb3)).size _
    · obtain rfl : j = D := by omega
      go_wp2_with fail
      go_ret2
      exact ⟨_, _, rfl, below_chain HB hb, Or.inl ⟨rfl, hok.out, hown.out.less HB.size⟩⟩
end Go.Proofs.Ytfoldiieclfbgaa
set_option linter.unusedSimpArgs false
set_option linter.unusedVariables false
namespace Go.Proofs.Ytfoldiieclfbgaa
open Go Go.RowKit Nt

/-- Nothing but block g may have changed of what stood. -/
def Kp (g : Nat) (w W : World) : Prop := g ≤ w.heap.size ∧ Below g w W ∧ ∀ x, x < w.heap.size → x ≠ g → W.heap[x]? = w.heap[x]?
theorem Kp.refl {g : Nat} {w : World} (h : g ≤ w.heap.size) : Kp g w w := ⟨h, Below.refl _ _, fun _ _ _ => rfl⟩
theorem Kp.step {g : Nat} {w W W' : World} (h : Kp g w W) (hb : Below W.heap.size W W') : Kp g w W' := by
  have hs := h.2.1.size
  exact ⟨h.1, h.2.1.trans (hb.mono (Nat.le_trans h.1 hs)), fun x hx hne => (hb.block x (Nat.lt_of_lt_of_le hx hs)).trans (h.2.2 x hx hne)⟩
theorem Kp.set {g i : Nat} {w W : World} (h : Kp g w W) (u : Value) : Kp g w (W.setCell ⟨g, i, none⟩ u) :=
  ⟨h.1, h.2.1.setCell (p := ⟨g, i, none⟩) (Nat.le_refl _) u, fun x hx hne => (Below.heap_setCell W ⟨g, i, none⟩ u x hne).trans (h.2.2 x hx hne)⟩
def OwnRs (w : World) (g : Nat) (L : List An) (j : Nat) : Prop := ∃ cs : Array Value, Blk w g 24 cs ∧ L.length * 3 ≤ cs.size ∧
  ∀ k (h : k < L.length), j ≤ k → cs[k * 3]? = some (.bool false) ∧ cs[k * 3 + 1]? = some (.string (natS L[k].n)) ∧ cs[k * 3 + 2]? = some (.string (natS L[k].d))
theorem OwnRs.lt {w : World} {g j : Nat} {L : List An} (h : OwnRs w g L j) : g < w.heap.size := by obtain ⟨cs, h, _⟩ := h; exact h.lt
theorem OwnRs.step {w w' : World} {g j : Nat} {L : List An} (h : OwnRs w g L j) (hb : Below w.heap.size w w') : OwnRs w' g L j := by
  obtain ⟨cs, h1, h2, h3⟩ := h
  exact ⟨cs, h1.below hb h1.lt, h2, h3⟩
theorem OwnRs.at_ {w : World} {g j : Nat} {L : List An} (h : OwnRs w g L j) (hj : j < L.length) :
    w.cell? ⟨g, j * 3, none⟩ = some (.bool false) ∧ w.cell? ⟨g, j * 3 + 1, none⟩ = some (.string (natS L[j].n)) ∧ w.cell? ⟨g, j * 3 + 2, none⟩ = some (.string (natS L[j].d)) ∧
    w.frozen? ⟨g, j * 3, none⟩ = false ∧ w.frozen? ⟨g, j * 3 + 1, none⟩ = false ∧ w.frozen? ⟨g, j * 3 + 2, none⟩ = false := by
  obtain ⟨cs, h1, h2, h3⟩ := h
  obtain ⟨a, b, c⟩ := h3 j hj (Nat.le_refl _)
  exact ⟨by rw [h1.cell]; exact a, by rw [h1.cell]; exact b, by rw [h1.cell]; exact c, h1.frozen _, h1.frozen _, h1.frozen _⟩
theorem OwnRs.next {w : World} {g j : Nat} {L : List An} (h : OwnRs w g L j) (a b c : Value) : OwnRs (((w.setCell ⟨g, j * 3, none⟩ a).setCell ⟨g, j * 3 + 1, none⟩ b).setCell ⟨g, j * 3 + 2, none⟩ c) g L (j + 1) := by
  obtain ⟨cs, h1, h2, h3⟩ := h
  refine ⟨_, ((h1.set_ (j * 3) a).set_ (j * 3 + 1) b).set_ (j * 3 + 2) c, by simpa using h2, fun k hk hj => ?_⟩
  obtain ⟨e1, e2, e3⟩ := h3 k hk (by omega)
  refine ⟨?_, ?_, ?_⟩
  · rw [Array.getElem?_setIfInBounds_ne (by omega), Array.getElem?_setIfInBounds_ne (by omega), Array.getElem?_setIfInBounds_ne (by omega)]; exact e1
  · rw [Array.getElem?_setIfInBounds_ne (by omega), Array.getElem?_setIfInBounds_ne (by omega), Array.getElem?_setIfInBounds_ne (by omega)]; exact e2
  · rw [Array.getElem?_setIfInBounds_ne (by omega), Array.getElem?_setIfInBounds_ne (by omega), Array.getElem?_setIfInBounds_ne (by omega)]; exact e3
/-- The document's list. -/
def OwnAs (w : World) (h : Nat) (L : List An) : Prop := h < w.heap.size ∧ ∀ k (hk : k < L.length), w.cell? ⟨h, k * 2, none⟩ = some (.int .u64 (L[k].n : Nat)) ∧ w.cell? ⟨h, k * 2 + 1, none⟩ = some (.int .u64 (L[k].d : Nat))
theorem OwnAs.kp {w W : World} {g h : Nat} {L : List An} (o : OwnAs w h L) (k : Kp g w W) (hne : h ≠ g) : OwnAs W h L := by
  refine ⟨Nat.lt_of_lt_of_le o.1 k.2.1.size, fun j hj => ?_⟩
  have hb := k.2.2 h o.1 hne
  obtain ⟨c1, c2⟩ := o.2 j hj
  exact ⟨(World.cell?_of_block (w := w) (a := ⟨h, j * 2, none⟩) hb).trans c1, (World.cell?_of_block (w := w) (a := ⟨h, j * 2 + 1, none⟩) hb).trans c2⟩
theorem OwnK.rs {w : World} {B : Nat} {v : Value} {L : List An} (h : OwnK w B 24 3 csR v L) (h0 : L ≠ []) : ∃ g cap, v = .slice (some ⟨g, 0, none⟩) L.length cap ∧ B ≤ g ∧ OwnRs w g L 0 := by
  have hf := h.form csR_len
  rcases h.2 with ⟨rfl, h1⟩ | ⟨g, cap, cur, rfl, hB, hh, hn, hm, hs, ht⟩
  · exact absurd (List.eq_nil_of_length_eq_zero h1) h0
  · have hbk : Blk w g 24 cur := hh
    refine ⟨g, cap, rfl, hB, cur, hbk, by omega, fun k hk _ => ?_⟩
    rcases hf with ⟨h1, _⟩ | ⟨g', cap', e, _, _, _, _, hc⟩
    · exact absurd h1 (by simp)
    · injection e with e1 e2 e3
      injection e1 with e1
      injection e1 with e1
      subst e1
      have c0 := (hc k hk 0 (by omega)).1
      have c1 := (hc k hk 1 (by omega)).1
      have c2 := (hc k hk 2 (by omega)).1
      rw [hbk.cell] at c0 c1 c2
      exact ⟨c0, c1, c2⟩
theorem OwnK.as {w : World} {B : Nat} {v : Value} {L : List An} (h : OwnK w B 30 2 csA v L) (h0 : L ≠ []) : ∃ g cap, v = .slice (some ⟨g, 0, none⟩) L.length cap ∧ B ≤ g ∧ OwnAs w g L := by
  rcases h.form csA_len with ⟨_, h1⟩ | ⟨g, cap, rfl, _, _, hB, hlt, hc⟩
  · exact absurd h1 h0
  · exact ⟨g, cap, rfl, hB, hlt, fun k hk => ⟨(hc k hk 0 (by omega)).1, (hc k hk 1 (by omega)).1⟩⟩
/-- Where a round of same stands. -/
def SM (w : World) (g h : Nat) (L : List An) (j : Nat) (W : World) : Prop := Kp g w W ∧ OwnRs W g L j ∧ OwnAs W h L
theorem SM.step {w W W' : World} {g h j : Nat} {L : List An} (s : SM w g h L j W) (hb : Below W.heap.size W W') : SM w g h L j W' := by
  refine ⟨s.1.step hb, s.2.1.step hb, Nat.lt_of_lt_of_le s.2.2.1 hb.size, fun k hk => ?_⟩
  obtain ⟨c1, c2⟩ := s.2.2.2 k hk
  exact ⟨(hb.cell (p := ⟨h, k * 2, none⟩) s.2.2.1).trans c1, (hb.cell (p := ⟨h, k * 2 + 1, none⟩) s.2.2.1).trans c2⟩
theorem SM.drew {w W : World} {g h j : Nat} {L : List An} (s : SM w g h L j W) : SM w g h L j W.drew := s.step (Below.refl _ _).drew
theorem SM.drawn {w W : World} {g h j : Nat} {L : List An} (s : SM w g h L j W) (n : Nat) : SM w g h L j (W.drewN n) := s.step (below_drewN (Below.refl _ _) n)
theorem SM.reads {w W : World} {g h j : Nat} {L : List An} {y : An} (hj : j < L.length) (hy : y = L[j]) (s : SM w g h L j W) :
    W.cell? ⟨g, j * 3, none⟩ = some (.bool false) ∧ W.cell? ⟨g, j * 3 + 1, none⟩ = some (.string (natS y.n)) ∧ W.cell? ⟨g, j * 3 + 2, none⟩ = some (.string (natS y.d)) ∧
    W.cell? ⟨h, j * 2, none⟩ = some (.int .u64 (y.n : Nat)) ∧ W.cell? ⟨h, j * 2 + 1, none⟩ = some (.int .u64 (y.d : Nat)) := by
  subst hy
  exact ⟨(s.2.1.at_ hj).1, (s.2.1.at_ hj).2.1, (s.2.1.at_ hj).2.2.1, (s.2.2.2 j hj).1, (s.2.2.2 j hj).2⟩
/-- A Ratio stored. -/
theorem wpList_storeR {P : Program} {ops : Array Oper} {rest : List Oper} {op : Oper} {a : Act} {w : World} {Q : Exit → Act → World → Prop} (G i : Nat) (hgd : op.guard = none) (ty : TypeId) (x y : Operand) (ho : op.op = .store ty x y)
    (u v z : Value) (hx : a.eval x = .pointer (some ⟨G, i, none⟩)) (hy : a.eval y = .agg #[u, v, z]) (h1 : u.oneCell' = true) (h2 : v.oneCell' = true) (h3 : z.oneCell' = true) (hi : (P.info? ty).map (·.size) = some 3)
    (r0 : (w.cell? ⟨G, i, none⟩).isSome = true ∧ w.frozen? ⟨G, i, none⟩ = false) (r1 : (w.cell? ⟨G, i + 1, none⟩).isSome = true ∧ w.frozen? ⟨G, i + 1, none⟩ = false) (r2 : (w.cell? ⟨G, i + 2, none⟩).isSome = true ∧ w.frozen? ⟨G, i + 2, none⟩ = false)
    (h : ∀ W, W = (((w.setCell ⟨G, i, none⟩ u).setCell ⟨G, i + 1, none⟩ v).setCell ⟨G, i + 2, none⟩ z) → wpList P ops Q rest (a.put op.dst undef) W) : wpList P ops Q (op :: rest) a w :=
  wpList_store_mid hgd ty x y ho G i #[u, v, z] hx hy (fun j hj => by
    match j, hj with
    | 0, _ => exact r0
    | 1, _ => exact r1
    | 2, _ => exact r2
    | n + 3, hj => exact absurd hj (by simp)) (by rw [hi]; rfl) (by simp [h1, h2, h3]) (h _ rfl)
set_option maxRecDepth 100000 in
set_option maxHeartbeats 2000000 in
theorem same_c (L : List An) (g h cap cap' : Nat) (w : World) (hg : OwnRs w g L 0) (hh : OwnAs w h L) (hne : h ≠ g) (hL : L.length ≤ 64) (hok : ∀ k (hk : k < L.length), L[k].n < 18446744073709551616 ∧ L[k].d < 18446744073709551616) :
    Calls Try.prog 31 #[.slice (some ⟨g, 0, none⟩) L.length cap, .slice (some ⟨h, 0, none⟩) L.length cap'] w fun e w' => e = .returned (.bool true) ∧ Kp g w w' := by
  have S0 := Lib.hid (show SM w g h L 0 w from ⟨Kp.refl (Nat.le_of_lt hg.lt), hg, hh⟩)
  have HOK := Lib.hid hok
  obtain ⟨n, hn⟩ : ∃ n, n = L.length := ⟨_, rfl⟩
  have HN := Lib.hid hn
  rw [← hn] at hL
  rw [← hn]
  clear hg hh hok hn
  have HNE := Lib.hid hne
  clear hne
  go_enter Try.func31, Try.ntmps31
  go_wp2_with fail
  go_loopw [5] (fun i wr => ∃ k : Nat, k ≤ n ∧ i = .int .i64 k ∧ Hid (SM w g h L k wr)) (fun i _ => n - (intOf i).toNat)
  case atStart => exact ⟨0, Nat.zero_le _, rfl, S0⟩
  case round =>
    obtain ⟨k, hk, rfl, hS⟩ := hrel
    by_cases hlt : k < n
    · have hlt' : k < L.length := by rw [← HN.out]; exact hlt
      have hok := HOK.out k hlt'
      have HLT := Lib.hid hlt
      have hk64 : k < 64 := by omega
      obtain ⟨y, hy⟩ : ∃ y, y = L[k] := ⟨_, rfl⟩
      rw [← hy] at hok
      have L0 := fun W (s : SM w g h L k W) => (s.reads hlt' hy).1
      have L1 := fun W (s : SM w g h L k W) => (s.reads hlt' hy).2.1
      have L2 := fun W (s : SM w g h L k W) => (s.reads hlt' hy).2.2.1
      have L3 := fun W (s : SM w g h L k W) => (s.reads hlt' hy).2.2.2.1
      have L4 := fun W (s : SM w g h L k W) => (s.reads hlt' hy).2.2.2.2
      have F0 := Lib.hid (fun W (s : SM w g h L k W) => (s.2.1.at_ hlt').2.2.2)
      clear hlt' hy
      have KR := Lib.hid (fun W => rRatio_any y W hok)
      have SS := hS.out
      clear hok
      go_wp2_with fail
      go_region_held3 (SM w g h L k) (first | assumption | exact SM.step (by assumption) (by assumption) | exact SM.drew (by assumption) | exact SM.drawn (by assumption) _)
        (first
          | (go_at_call 37; refine (KR.out _).mono ?_; rintro e w' ⟨rfl, hb7⟩))
      rename_i hHeld
      have hf := F0.out _ hHeld
      have R0 := Lib.hid (And.intro (show (w'.cell? ⟨g, k * 3, none⟩).isSome = true by rw [L0 _ hHeld]; rfl) hf.1)
      have R1 := Lib.hid (And.intro (show (w'.cell? ⟨g, k * 3 + 1, none⟩).isSome = true by rw [L1 _ hHeld]; rfl) hf.2.1)
      have R2 := Lib.hid (And.intro (show (w'.cell? ⟨g, k * 3 + 2, none⟩).isSome = true by rw [L2 _ hHeld]; rfl) hf.2.2)
      have HH := Lib.hid hHeld
      clear L0 L1 L2 L3 L4 SS KR hf F0 hHeld hb7
      go_wp2_with (refine wpList_storeR g (k * 3) rfl _ _ _ rfl (.bool true) (.string ⟨#[]⟩) (.string ⟨#[]⟩) rfl rfl rfl rfl rfl (by kernel_rfl) R0.out R1.out R2.out ?_; intro W hW; subst hW)
      go_roundw
      case rel => exact ⟨k + 1, by have := HLT.out; omega, by go_num, Lib.hid ⟨((HH.out.1.set _).set _).set _, HH.out.2.1.next _ _ _, HH.out.2.2.kp (((Kp.refl (Nat.le_of_lt HH.out.2.1.lt)).set _).set _ |>.set _) HNE.out⟩⟩
      case measure => have := HLT.out; simp [intOf]; omega
    · obtain rfl : k = n := by omega
      go_wp2_with fail
      go_ret
      exact ⟨rfl, hS.out.1⟩
end Go.Proofs.Ytfoldiieclfbgaa
set_option linter.unusedSimpArgs false
set_option linter.unusedVariables false
namespace Go.Proofs.Ytfoldiieclfbgaa
open Go Go.RowKit Nt

theorem Kp.below {g B : Nat} {w W : World} (h : Kp g w W) (hB : B ≤ g) : Below B w W := h.2.1.mono hB
theorem OwnRs.kp {w W : World} {g g' : Nat} {L : List An} (o : OwnRs w g' L 0) (k : Kp g w W) (hne : g' ≠ g) : OwnRs W g' L 0 := by
  obtain ⟨cs, h1, h2, h3⟩ := o
  exact ⟨cs, (k.2.2 g' h1.lt hne).trans h1, h2, h3⟩
theorem OwnAs.step {w W : World} {h : Nat} {L : List An} (o : OwnAs w h L) (hb : Below w.heap.size w W) : OwnAs W h L := by
  refine ⟨Nat.lt_of_lt_of_le o.1 hb.size, fun j hj => ?_⟩
  obtain ⟨c1, c2⟩ := o.2 j hj
  exact ⟨(hb.cell (p := ⟨h, j * 2, none⟩) o.1).trans c1, (hb.cell (p := ⟨h, j * 2 + 1, none⟩) o.1).trans c2⟩
theorem bkL_ne {a : An} {D : Nat} (h : 2 ≤ D) : bkL a D D ≠ [] := fun c => by
  have := bkL_len a D D
  rw [c] at this
  simp at this
  omega
theorem ABack_ok (a : An) (d : Int) (w : World) (ha : a.Ok) (hd1 : 2 ≤ d) (hd2 : d ≤ 64) (hk : bkOK a d.toNat) :
    Calls Try.prog 26 #[.agg #[.bool false, .string (natS a.n), .string (natS a.d)], .int .i64 d] w fun e w' => ∃ g cap, e = .returned (.tuple #[.slice (some ⟨g, 0, none⟩) (bkL a d.toNat d.toNat).length cap, .int .i64 0]) ∧ Below w.heap.size w w' ∧ w.heap.size ≤ g ∧ OwnRs w' g (bkL a d.toNat d.toNat) 0 := by
  refine (ABack_k a d w ha hd1 hd2).mono ?_
  rintro e w' ⟨v, E, rfl, hb, ⟨rfl, _, ho⟩ | ⟨_, hc, _⟩⟩
  · obtain ⟨g, cap, rfl, hB, hr⟩ := ho.rs (bkL_ne (by omega))
    exact ⟨g, cap, rfl, hb, hB, hr⟩
  · exact absurd hk hc
theorem rBack_ok (a : An) (d : Int) (w : World) (ha : a.Ok) (hd1 : 2 ≤ d) (hd2 : d ≤ 64) (hk : bkOK a d.toNat) :
    Calls Try.prog 30 #[.agg #[.int .u64 (a.n : Nat), .int .u64 (a.d : Nat)], .int .i64 d] w fun e w' => ∃ g cap, e = .returned (.tuple #[.slice (some ⟨g, 0, none⟩) (bkL a d.toNat d.toNat).length cap, .int .i64 0]) ∧ Below w.heap.size w w' ∧ w.heap.size ≤ g ∧ OwnAs w' g (bkL a d.toNat d.toNat) := by
  refine (rBack_k a d w ha hd1 hd2).mono ?_
  rintro e w' ⟨v, E, rfl, hb, ⟨rfl, _, ho⟩ | ⟨_, hc, _⟩⟩
  · obtain ⟨g, cap, rfl, hB, hr⟩ := ho.as (bkL_ne (by omega))
    exact ⟨g, cap, rfl, hb, hB, hr⟩
  · exact absurd hk hc
theorem ABack_no (a : An) (d : Int) (w : World) (ha : a.Ok) (hd1 : 2 ≤ d) (hd2 : d ≤ 64) (hk : ¬ bkOK a d.toNat) :
    Calls Try.prog 26 #[.agg #[.bool false, .string (natS a.n), .string (natS a.d)], .int .i64 d] w fun e w' => e = .returned (.tuple #[.slice none 0 0, .int .i64 210]) ∧ Below w.heap.size w w' := by
  refine (ABack_k a d w ha hd1 hd2).mono ?_
  rintro e w' ⟨v, E, rfl, hb, ⟨rfl, hc, _⟩ | ⟨rfl, _, rfl⟩⟩
  · exact absurd hc hk
  · exact ⟨rfl, hb⟩
theorem rBack_no (a : An) (d : Int) (w : World) (ha : a.Ok) (hd1 : 2 ≤ d) (hd2 : d ≤ 64) (hk : ¬ bkOK a d.toNat) :
    Calls Try.prog 30 #[.agg #[.int .u64 (a.n : Nat), .int .u64 (a.d : Nat)], .int .i64 d] w fun e w' => e = .returned (.tuple #[.slice none 0 0, .int .i64 210]) ∧ Below w.heap.size w w' := by
  refine (rBack_k a d w ha hd1 hd2).mono ?_
  rintro e w' ⟨v, E, rfl, hb, ⟨rfl, hc, _⟩ | ⟨rfl, _, rfl⟩⟩
  · exact absurd hc hk
  · exact ⟨rfl, hb⟩
theorem bkA_ok {a : An} (D k : Nat) (ha : a.Ok) (hD : 0 < D) (h : (bkA a D k).d ≤ 2147483647) : (bkA a D k).n < 18446744073709551616 ∧ (bkA a D k).d < 18446744073709551616 := by
  have h1 : (bkA a D k).n < (bkA a D k).d := lowNum_lt (Nat.mul_pos ha.le.2.2 hD)
  omega
theorem bkL_ok {a : An} {D : Nat} (ha : a.Ok) (hD : 0 < D) (hk : bkOK a D) : ∀ k (h : k < (bkL a D D).length), (bkL a D D)[k].n < 18446744073709551616 ∧ (bkL a D D)[k].d < 18446744073709551616 := by
  intro k h
  have hl : k < D := by rw [bkL_len] at h; exact h
  have e : (bkL a D D)[k] = bkA a D k := by simp [bkL]
  rw [e]
  exact bkA_ok D k ha hD (hk k hl)
theorem same_nil (w : World) : Calls Try.prog 31 #[.slice none 0 0, .slice none 0 0] w fun e w' => e = .returned (.bool true) ∧ Below w.heap.size w w' := closed_with (by kernel_rfl) (show saysG Try.prog glT 3000 31 [.slice none 0 0, .slice none 0 0] true = true by kernel_rfl) (glT_all w)
def St (w W : World) : Prop := Below w.heap.size w W
theorem St.step {w W W' : World} (h : St w W) (hb : Below W.heap.size W W') : St w W' := below_chain h hb
theorem St.drew {w W : World} (h : St w W) : St w W.drew := Below.drew h
theorem St.drawn {w W : World} (h : St w W) (n : Nat) : St w (W.drewN n) := below_drewN h n
end Go.Proofs.Ytfoldiieclfbgaa
set_option linter.unusedVariables false
set_option linter.unusedSimpArgs false
namespace Go.Proofs.Ytfoldiieclfbgaa
open Go Go.RowKit Nt

theorem rt_bound {a : An} {d : Int} (ha : a.Ok) (hd2 : d ≤ 64) : a.n * d.toNat < 18446744073709551616 := prod_lt ha.le.1 (by omega)
theorem rlow_turn (a : An) (d : Int) (w : World) (ha : a.Ok) (hd2 : d ≤ 64) : Calls Try.prog 48 #[.int .u64 ((a.n * d.toNat : Nat) : Int), .int .u64 ((a.d : Nat) : Int)] w fun e w' => e = .returned (.agg #[.int .u64 (((turnA a d).n : Nat) : Int), .int .u64 (((turnA a d).d : Nat) : Int)]) ∧ Below w.heap.size w w' := by
  have h := rlow_any (a.n * d.toNat) a.d w (rt_bound ha hd2) ha.le.2.2 ha.small.2
  have e := low_mul_mod a.n (d.toNat ^ 1) a.d
  rw [Nat.pow_one] at e
  rw [← e.1, ← e.2] at h
  have e1 : (turnA a d).n = lowNum (a.n * (d.toNat % a.d)) a.d := by show lowNum (a.n * (d.toNat ^ 1 % a.d)) a.d = _; rw [Nat.pow_one]
  have e2 : (turnA a d).d = lowDen (a.n * (d.toNat % a.d)) a.d := by show lowDen (a.n * (d.toNat ^ 1 % a.d)) a.d = _; rw [Nat.pow_one]
  rw [e1, e2]
  exact h
theorem is_no (r : Rt) (w : World) (hk : anE r = 210) : Calls Try.prog 16 #[.agg #[.bool false, .string ⟨#[]⟩, .string ⟨#[]⟩], .int .i64 (anE r), .agg #[.int .u64 (((anA r).n : Nat) : Int), .int .u64 (((anA r).d : Nat) : Int)], .int .i64 210] w fun e w' => e = .returned (.bool true) ∧ Below w.heap.size w w' := by
  rw [hk]
  exact is_e (anA r) 210 w (by decide)
theorem Aopen_0 (r : Rt) (hz : r.small) (hk : anE r = 0) (w : World) : Calls Try.prog 51 #[.agg #[.bool r.g, .string r.s, .string r.t]] w fun e w' => e = .returned (.tuple #[.agg #[.int .u64 (((anA r).n : Nat) : Int), .int .u64 (((anA r).d : Nat) : Int)], .int .i64 0]) ∧ Below w.heap.size w w' := by
  have h := Aopen_any r hz w
  rw [hk] at h
  exact h

@[reducible] def rTurn_k_f : FuncId := 28
@[reducible] def rTurn_k_a : List AV := [.agg [.sym 0, .sym 1], .sym 2]
@[reducible] noncomputable def rTurn_k_k : Know := ⟨[([2, 3, 28], [.sym 2], .sym 3),
  ([0, 2, 28], [.sym 0, .sym 3], .sym 4)],
  [(48, [.sym 4, .sym 1], .agg [.sym 5, .sym 6])]⟩
theorem rTurn_k_r1 : @comes rTurn_k_k Try.prog glT 3000 rTurn_k_f rTurn_k_a = some (.agg [.sym 5, .sym 6]) := by kernel_rfl

set_option maxRecDepth 100000 in
set_option maxHeartbeats 4000000 in
theorem rTurn_k (a : An) (d : Int) (w : World) (ha : a.Ok) (hd1 : 2 ≤ d) (hd2 : d ≤ 64) : Calls Try.prog 28 #[.agg #[.int .u64 ((a.n : Nat) : Int), .int .u64 ((a.d : Nat) : Int)], .int .i64 d] w fun e w' => e = .returned (.agg #[.int .u64 (((turnA a d).n : Nat) : Int), .int .u64 (((turnA a d).d : Nat) : Int)]) ∧ Below w.heap.size w w' := by
  have hG : Globs glT w := glT_all w
  letI : Env := mkEnv glT [.int .u64 ((a.n : Nat) : Int), .int .u64 ((a.d : Nat) : Int), .int .i64 d, .int .u64 ((d.toNat : Nat) : Int), .int .u64 ((a.n * d.toNat : Nat) : Int), .int .u64 (((turnA a d).n : Nat) : Int), .int .u64 (((turnA a d).d : Nat) : Int)] rfl
  have hops : OpsT Try.prog (@Know.ops rTurn_k_k) := ⟨opt_conv (x := d) (z := d.toNat) rfl rfl rfl (by omega) (by omega),
    nopt_mul (x := a.n) (y := d.toNat) (z := a.n * d.toNat) rfl rfl rfl rfl rfl (rt_bound ha hd2),
    trivial⟩
  have hcalls : CallsT Try.prog (@Know.calls rTurn_k_k) := ⟨callt rfl rfl fun w hG => rlow_turn a d w ha hd2,
    trivial⟩
  have fin : ∀ v, @comes rTurn_k_k Try.prog glT 3000 rTurn_k_f rTurn_k_a = some v → ground v = true → Ending.returned (gval v) = .returned (.agg #[.int .u64 (((turnA a d).n : Nat) : Int), .int .u64 (((turnA a d).d : Nat) : Int)]) → Calls Try.prog 28 #[.agg #[.int .u64 ((a.n : Nat) : Int), .int .u64 ((a.d : Nat) : Int)], .int .i64 d] w fun e w' => e = .returned (.agg #[.int .u64 (((turnA a d).n : Nat) : Int), .int .u64 (((turnA a d).d : Nat) : Int)]) ∧ Below w.heap.size w w' := fun v h1 h2 h3 => (@sym_ok _ rTurn_k_k _ (@KnowOk.of _ rTurn_k_k _ hops hcalls) (by kernel_rfl) _ _ _ _ h1 rfl h2 _ hG).mono fun e w' h => ⟨h.1.trans h3, h.2⟩
  clear hops hcalls
  exact fin _ (rTurn_k_r1) rfl rfl

@[reducible] def rRound_k_f : FuncId := 27
@[reducible] def rRound_k_a : List AV := [.sym 0]
@[reducible] noncomputable def rRound_k_k (b1 b2 : Bool) : Know := ⟨[([0, 16, 3], [.sym 0, .lit (.int .i64 2)], .lit (.bool b1)),
  ([0, 14, 3], [.sym 0, .lit (.int .i64 64)], .lit (.bool b2))],
  []⟩
theorem rRound_k_r1 : @comes (rRound_k_k true true) Try.prog glT 3000 rRound_k_f rRound_k_a = some (.lit (.bool true)) := by kernel_rfl

set_option maxRecDepth 100000 in
set_option maxHeartbeats 4000000 in
theorem rRound_k (d : Int) (w : World) (hd1 : 2 ≤ d) (hd2 : d ≤ 64) : Calls Try.prog 27 #[.int .i64 d] w fun e w' => e = .returned (.bool true) ∧ Below w.heap.size w w' := by
  have hG : Globs glT w := glT_all w
  obtain ⟨b1, i1⟩ := bex (d ≥ 2)
  obtain ⟨b2, i2⟩ := bex (d ≤ 64)
  letI : Env := mkEnv glT [.int .i64 d] rfl
  have hops : OpsT Try.prog (@Know.ops (rRound_k_k b1 b2)) := ⟨opt_geq_i rfl rfl i1,
    opt_leq_i rfl rfl i2,
    trivial⟩
  have hcalls : CallsT Try.prog (@Know.calls (rRound_k_k b1 b2)) := trivial
  have fin : ∀ v, @comes (rRound_k_k b1 b2) Try.prog glT 3000 rRound_k_f rRound_k_a = some v → ground v = true → Ending.returned (gval v) = .returned (.bool true) → Calls Try.prog 27 #[.int .i64 d] w fun e w' => e = .returned (.bool true) ∧ Below w.heap.size w w' := fun v h1 h2 h3 => (@sym_ok _ (rRound_k_k b1 b2) _ (@KnowOk.of _ (rRound_k_k b1 b2) _ hops hcalls) (by kernel_rfl) _ _ _ _ h1 rfl h2 _ hG).mono fun e w' h => ⟨h.1.trans h3, h.2⟩
  clear hops hcalls
  cases b1 with
  | true =>
    have h1 : d ≥ 2 := i1.1 rfl
    cases b2 with
    | true =>
      have h2 : d ≤ 64 := i2.1 rfl
      exact fin _ (rRound_k_r1) rfl rfl
    | false =>
      exact absurd (i2.2 ((by omega))) Bool.false_ne_true
  | false =>
    exact absurd (i1.2 ((by omega))) Bool.false_ne_true

end Go.Proofs.Ytfoldiieclfbgaa
set_option linter.unusedVariables false
set_option linter.unusedSimpArgs false
namespace Go.Proofs.Ytfoldiieclfbgaa
open Go Go.RowKit Nt

@[reducible] def AngleTurns_n1_f : FuncId := 4
@[reducible] def AngleTurns_n1_a : List AV := [.agg [.sym 0, .sym 1, .sym 2], .sym 3, .sym 4]
@[reducible] noncomputable def AngleTurns_n1_k (b1 b2 b3 : Bool) : Know := ⟨[([0, 11, 25], [.sym 7, .lit (.int .i64 0)], .lit (.bool b1)),
  ([0, 16, 3], [.sym 3, .lit (.int .i64 2)], .lit (.bool b2)),
  ([0, 14, 3], [.sym 3, .lit (.int .i64 64)], .lit (.bool b3)),
  ([0, 12, 25], [.sym 7, .lit (.int .i64 0)], .lit (.bool (!b1))),
  ([0, 11, 3], [.sym 7, .lit (.int .i64 210)], .lit (.bool true))],
  [(51, [.agg [.sym 0, .sym 1, .sym 2]], .tup [.agg [.sym 5, .sym 6], .sym 7]),
  (17, [.agg [.sym 0, .sym 1, .sym 2]], .tup [.agg [.sym 8, .sym 9], .lit (.bool false)]),
  (16, [.lit (.agg #[.bool false, .string ⟨#[]⟩, .string ⟨#[]⟩]), .sym 7, .agg [.sym 8, .sym 9], .lit (.int .i64 210)], .lit (.bool true)),
  (21, [], .lit (.bool true))]⟩
theorem AngleTurns_n1_r1 (b2 b3 : Bool) : @comes (AngleTurns_n1_k false b2 b3) Try.prog glT 3000 AngleTurns_n1_f AngleTurns_n1_a = some (.lit (.bool true)) := by kernel_rfl

set_option maxRecDepth 100000 in
set_option maxHeartbeats 4000000 in
theorem AngleTurns_n1 (r : Rt) (d n : Int) (w : World) (hzr : r.small) (hk : anE r = 210) : Calls Try.prog 4 #[.agg #[.bool r.g, .string r.s, .string r.t], .int .i64 d, .int .i64 n] w fun e w' => e = .returned (.bool true) ∧ Below w.heap.size w w' := by
  have hG : Globs glT w := glT_all w
  obtain ⟨b1, i1⟩ := bex (anE r = 0)
  obtain ⟨b2, i2⟩ := bex (d ≥ 2)
  obtain ⟨b3, i3⟩ := bex (d ≤ 64)
  have h4 : anE r = 210 := hk
  have i4 : true = true ↔ (anE r = 210) := ⟨fun _ => h4, fun _ => rfl⟩
  letI : Env := mkEnv glT [.bool r.g, .string r.s, .string r.t, .int .i64 d, .int .i64 n, .int .u64 (((anA r).n : Nat) : Int), .int .u64 (((anA r).d : Nat) : Int), .int .i64 (anE r), .int .u64 (((anA r).n : Nat) : Int), .int .u64 (((anA r).d : Nat) : Int)] rfl
  have hops : OpsT Try.prog (@Know.ops (AngleTurns_n1_k b1 b2 b3)) := ⟨opt_eql_i rfl rfl i1,
    opt_geq_i rfl rfl i2,
    opt_leq_i rfl rfl i3,
    opt_neq_i rfl rfl i1,
    opt_eql_i rfl rfl i4,
    trivial⟩
  have hcalls : CallsT Try.prog (@Know.calls (AngleTurns_n1_k b1 b2 b3)) := ⟨callt rfl rfl fun w hG => Aopen_any r hzr w,
    callt rfl rfl fun w hG => rOf21_i r hzr w ⟨fun h => absurd h Bool.false_ne_true, fun h => absurd (anE_iff.2 h) (by omega)⟩,
    callt rfl rfl fun w hG => is_no r w hk,
    callt rfl rfl fun w hG => awake21_c w,
    trivial⟩
  have fin : ∀ v, @comes (AngleTurns_n1_k b1 b2 b3) Try.prog glT 3000 AngleTurns_n1_f AngleTurns_n1_a = some v → ground v = true → Ending.returned (gval v) = .returned (.bool true) → Calls Try.prog 4 #[.agg #[.bool r.g, .string r.s, .string r.t], .int .i64 d, .int .i64 n] w fun e w' => e = .returned (.bool true) ∧ Below w.heap.size w w' := fun v h1 h2 h3 => (@sym_ok _ (AngleTurns_n1_k b1 b2 b3) _ (@KnowOk.of _ (AngleTurns_n1_k b1 b2 b3) _ hops hcalls) (by kernel_rfl) _ _ _ _ h1 rfl h2 _ hG).mono fun e w' h => ⟨h.1.trans h3, h.2⟩
  clear hops hcalls
  cases b1 with
  | true =>
    exact absurd (i1.1 rfl) ((by omega))
  | false =>
    have h1 : ¬ (anE r = 0) := fun c => Bool.false_ne_true (i1.2 c)
    exact fin _ (AngleTurns_n1_r1 b2 b3) rfl rfl

end Go.Proofs.Ytfoldiieclfbgaa
set_option linter.unusedVariables false
set_option linter.unusedSimpArgs false
namespace Go.Proofs.Ytfoldiieclfbgaa
open Go Go.RowKit Nt

@[reducible] def AngleTurns_n2_f : FuncId := 4
@[reducible] def AngleTurns_n2_a : List AV := [.agg [.sym 0, .sym 1, .sym 2], .sym 3, .sym 4]
@[reducible] noncomputable def AngleTurns_n2_k (b1 b2 : Bool) : Know := ⟨[([0, 16, 3], [.sym 3, .lit (.int .i64 2)], .lit (.bool b1)),
  ([0, 14, 3], [.sym 3, .lit (.int .i64 64)], .lit (.bool b2))],
  [(51, [.agg [.sym 0, .sym 1, .sym 2]], .tup [.agg [.sym 5, .sym 6], .lit (.int .i64 0)]),
  (17, [.agg [.sym 0, .sym 1, .sym 2]], .tup [.agg [.sym 7, .sym 8], .lit (.bool true)]),
  (16, [.lit (.agg #[.bool false, .string ⟨#[]⟩, .string ⟨#[]⟩]), .lit (.int .i64 2), .agg [.sym 7, .sym 8], .lit (.int .i64 2)], .lit (.bool true)),
  (21, [], .lit (.bool true))]⟩
theorem AngleTurns_n2_r1 : @comes (AngleTurns_n2_k true false) Try.prog glT 3000 AngleTurns_n2_f AngleTurns_n2_a = some (.lit (.bool true)) := by kernel_rfl
theorem AngleTurns_n2_r2 (b2 : Bool) : @comes (AngleTurns_n2_k false b2) Try.prog glT 3000 AngleTurns_n2_f AngleTurns_n2_a = some (.lit (.bool true)) := by kernel_rfl

set_option maxRecDepth 100000 in
set_option maxHeartbeats 4000000 in
theorem AngleTurns_n2 (r : Rt) (d n : Int) (w : World) (hzr : r.small) (hk : anE r = 0) (hno : ¬ (2 ≤ d ∧ d ≤ 64)) : Calls Try.prog 4 #[.agg #[.bool r.g, .string r.s, .string r.t], .int .i64 d, .int .i64 n] w fun e w' => e = .returned (.bool true) ∧ Below w.heap.size w w' := by
  have hG : Globs glT w := glT_all w
  obtain ⟨b1, i1⟩ := bex (d ≥ 2)
  obtain ⟨b2, i2⟩ := bex (d ≤ 64)
  letI : Env := mkEnv glT [.bool r.g, .string r.s, .string r.t, .int .i64 d, .int .i64 n, .int .u64 (((anA r).n : Nat) : Int), .int .u64 (((anA r).d : Nat) : Int), .int .u64 (((anA r).n : Nat) : Int), .int .u64 (((anA r).d : Nat) : Int)] rfl
  have hops : OpsT Try.prog (@Know.ops (AngleTurns_n2_k b1 b2)) := ⟨opt_geq_i rfl rfl i1,
    opt_leq_i rfl rfl i2,
    trivial⟩
  have hcalls : CallsT Try.prog (@Know.calls (AngleTurns_n2_k b1 b2)) := ⟨callt rfl rfl fun w hG => Aopen_0 r hzr hk w,
    callt rfl rfl fun w hG => rOf21_i r hzr w ⟨fun _ => anE_iff.1 hk, fun _ => rfl⟩,
    callt rfl rfl fun w hG => is_e (anA r) 2 w (by decide),
    callt rfl rfl fun w hG => awake21_c w,
    trivial⟩
  have fin : ∀ v, @comes (AngleTurns_n2_k b1 b2) Try.prog glT 3000 AngleTurns_n2_f AngleTurns_n2_a = some v → ground v = true → Ending.returned (gval v) = .returned (.bool true) → Calls Try.prog 4 #[.agg #[.bool r.g, .string r.s, .string r.t], .int .i64 d, .int .i64 n] w fun e w' => e = .returned (.bool true) ∧ Below w.heap.size w w' := fun v h1 h2 h3 => (@sym_ok _ (AngleTurns_n2_k b1 b2) _ (@KnowOk.of _ (AngleTurns_n2_k b1 b2) _ hops hcalls) (by kernel_rfl) _ _ _ _ h1 rfl h2 _ hG).mono fun e w' h => ⟨h.1.trans h3, h.2⟩
  clear hops hcalls
  cases b1 with
  | true =>
    have h1 : d ≥ 2 := i1.1 rfl
    cases b2 with
    | true =>
      exact absurd (i2.1 rfl) ((fun c => hno ⟨h1, c⟩))
    | false =>
      have h2 : ¬ (d ≤ 64) := fun c => Bool.false_ne_true (i2.2 c)
      exact fin _ (AngleTurns_n2_r1) rfl rfl
  | false =>
    have h1 : ¬ (d ≥ 2) := fun c => Bool.false_ne_true (i1.2 c)
    exact fin _ (AngleTurns_n2_r2 b2) rfl rfl

end Go.Proofs.Ytfoldiieclfbgaa
set_option linter.unusedSimpArgs false
set_option linter.unusedVariables false
namespace Go.Proofs.Ytfoldiieclfbgaa
open Go Go.RowKit Nt

theorem rTurns_k (a : An) (d n : Int) (w : World) (ha : a.Ok) (hd1 : 2 ≤ d) (hd2 : d ≤ 64) (hn : 0 ≤ n) (hn2 : n ≤ 9223372036854775807) : Calls Try.prog 29 #[.agg #[.int .u64 (a.n : Nat), .int .u64 (a.d : Nat)], .int .i64 d, .int .i64 n] w fun e w' => e = .returned (.agg #[.int .u64 ((turnsA a d n).n : Nat), .int .u64 ((turnsA a d n).d : Nat)]) ∧ Below w.heap.size w w' := rTurns_c a d n w ha hd1 hd2 hn hn2
set_option maxRecDepth 100000 in
set_option maxHeartbeats 4000000 in
theorem AngleTurns_kp (a : An) (d n : Int) (w : World) (ha : a.Ok) (hd1 : 2 ≤ d) (hd2 : d ≤ 64) (hn : 0 ≤ n) (hn2 : n ≤ 9223372036854775807) (hk : bkOK a d.toNat) :
    Calls Try.prog 4 #[.agg #[.bool false, .string (natS a.n), .string (natS a.d)], .int .i64 d, .int .i64 n] w fun e w' => e = .returned (.bool true) ∧ Below w.heap.size w w' := by
  have KT := Lib.hid (fun w => ATurn_k a d w ha hd1 hd2)
  have KS := Lib.hid (fun w => ATurns_k a d n w ha hd1 hd2 hn hn2)
  have KB := Lib.hid (fun w => ABack_ok a d w ha hd1 hd2 hk)
  have KO := Lib.hid (fun w => rOf21_ok a ha w)
  have KR := Lib.hid (fun w => rRound_k d w hd1 hd2)
  have KU := Lib.hid (fun w => rTurn_k a d w ha hd1 hd2)
  have KI := Lib.hid (fun w => is_k (turnA a d) w (turnA_ok d ha).small)
  have KV := Lib.hid (fun w => rTurns_k a d n w ha hd1 hd2 hn hn2)
  have KJ := Lib.hid (fun w => is_k (turnsA a d n) w (turnsA_ok d n ha).small)
  have KC := Lib.hid (fun w => rBack_ok a d w ha hd1 hd2 hk)
  have KL := Lib.hid (show (bkL a d.toNat d.toNat).length ≤ 64 from by rw [bkL_len]; omega)
  have KK := Lib.hid (bkL_ok ha (show 0 < d.toNat by omega) hk)
  generalize bkL a d.toNat d.toNat = L at *
  generalize turnA a d = t at *
  generalize turnsA a d n = u at *
  have hneg : decide (n < 0) = false := decide_eq_false (by omega)
  clear hn2
  clear hd1 hd2 hk ha hn
  have P0 := Blk.new w 24 #[.bool false, .string (natS a.n), .string (natS a.d)]
  have HB : Below w.heap.size w (w.alloc (.cells #[.bool false, .string (natS a.n), .string (natS a.d)] 24)) := (Below.refl _ w).alloc (Nat.le_refl _) _
  go_enter Try.func4, Try.ntmps4
  obtain ⟨p0, p1, p2⟩ := rat_cells P0
  go_wp2_with fail
  generalize w.alloc (.cells #[.bool false, .string (natS a.n), .string (natS a.d)] 24) = w0 at *
  obtain ⟨b0, hb0⟩ : ∃ b, b = w.heap.size := ⟨_, rfl⟩
  rw [← hb0] at P0 ⊢
  have HB0 := Lib.hid hb0
  clear p0 p1 p2 hb0
  refine (KT.out _).mono ?_
  rintro e w1 ⟨rfl, hb1⟩
  replace P0 := P0.below hb1 P0.lt
  replace HB := below_chain HB hb1
  clear hb1 KT
  have P1 := Blk.new w1 24 #[.bool false, .string (natS t.n), .string (natS t.d)]
  replace P0 := P0.alloc (.cells #[.bool false, .string (natS t.n), .string (natS t.d)] 24)
  replace HB := HB.alloc HB.size (.cells #[.bool false, .string (natS t.n), .string (natS t.d)] 24)
  obtain ⟨b1, hb1⟩ : ∃ b, b = w1.heap.size := ⟨_, rfl⟩
  rw [← hb1] at P1
  obtain ⟨c00, c01, c02⟩ := rat_cells P0
  go_wp2_with fail
  rw [← hb1]
  generalize w1.alloc (.cells #[.bool false, .string (natS t.n), .string (natS t.d)] 24) = w2 at *
  clear hb1
  clear c00 c01 c02
  refine (KS.out _).mono ?_
  rintro e w3 ⟨rfl, hb3⟩
  replace P0 := P0.below hb3 P0.lt
  replace P1 := P1.below hb3 P1.lt
  replace HB := below_chain HB hb3
  clear hb3 KS
  have P2 := Blk.new w3 24 #[.bool false, .string (natS u.n), .string (natS u.d)]
  replace P0 := P0.alloc (.cells #[.bool false, .string (natS u.n), .string (natS u.d)] 24)
  replace P1 := P1.alloc (.cells #[.bool false, .string (natS u.n), .string (natS u.d)] 24)
  replace HB := HB.alloc HB.size (.cells #[.bool false, .string (natS u.n), .string (natS u.d)] 24)
  obtain ⟨b2, hb2⟩ : ∃ b, b = w3.heap.size := ⟨_, rfl⟩
  rw [← hb2] at P2
  obtain ⟨c00, c01, c02⟩ := rat_cells P0
  go_wp2_with fail
  rw [← hb2]
  generalize w3.alloc (.cells #[.bool false, .string (natS u.n), .string (natS u.d)] 24) = w4 at *
  clear hb2
  clear c00 c01 c02
  refine (KB.out _).mono ?_
  rintro e w5 ⟨g, cg, rfl, hbb, hgg, OG⟩
  have Lg := Lib.hid OG.lt
  have Bg := Lib.hid (Nat.le_trans HB.size hgg)
  replace hgg := Lib.hid hgg
  replace P0 := P0.below hbb P0.lt
  replace P1 := P1.below hbb P1.lt
  replace P2 := P2.below hbb P2.lt
  replace HB := below_chain HB hbb
  clear hbb
  obtain ⟨c00, c01, c02⟩ := rat_cells P0
  go_wp2_with fail
  clear c00 c01 c02
  refine (KB.out _).mono ?_
  rintro e w6 ⟨g2, cg2, rfl, hbb, hgg2, OG2⟩
  have Lg2 := Lib.hid OG2.lt
  have Bg2 := Lib.hid (Nat.le_trans HB.size hgg2)
  replace hgg2 := Lib.hid hgg2
  replace P0 := P0.below hbb P0.lt
  replace P1 := P1.below hbb P1.lt
  replace P2 := P2.below hbb P2.lt
  replace HB := below_chain HB hbb
  replace OG := OG.step hbb
  clear hbb KB
  obtain ⟨c00, c01, c02⟩ := rat_cells P0
  go_wp2_with fail
  clear c00 c01 c02
  refine (KO.out _).mono ?_
  rintro e w7 ⟨rfl, hb7⟩
  replace P0 := P0.below hb7 P0.lt
  replace P1 := P1.below hb7 P1.lt
  replace P2 := P2.below hb7 P2.lt
  replace HB := below_chain HB hb7
  replace OG := OG.step hb7
  replace OG2 := OG2.step hb7
  clear hb7 KO
  clear P0
  have P3 := Blk.new w7 30 #[.int .u64 (a.n : Nat), .int .u64 (a.d : Nat)]
  replace P1 := P1.alloc (.cells #[.int .u64 (a.n : Nat), .int .u64 (a.d : Nat)] 30)
  replace P2 := P2.alloc (.cells #[.int .u64 (a.n : Nat), .int .u64 (a.d : Nat)] 30)
  replace HB := HB.alloc HB.size (.cells #[.int .u64 (a.n : Nat), .int .u64 (a.d : Nat)] 30)
  obtain ⟨b3, hb3⟩ : ∃ b, b = w7.heap.size := ⟨_, rfl⟩
  rw [← hb3] at P3
  replace OG := OG.step (show Below w7.heap.size w7 (w7.alloc (.cells #[.int .u64 (a.n : Nat), .int .u64 (a.d : Nat)] 30)) from (Below.refl _ _).alloc (Nat.le_refl _) _)
  replace OG2 := OG2.step (show Below w7.heap.size w7 (w7.alloc (.cells #[.int .u64 (a.n : Nat), .int .u64 (a.d : Nat)] 30)) from (Below.refl _ _).alloc (Nat.le_refl _) _)
  go_wp2_with fail
  rw [← hb3]
  generalize w7.alloc (.cells #[.int .u64 (a.n : Nat), .int .u64 (a.d : Nat)] 30) = w8 at *
  clear hb3
  refine (KR.out _).mono ?_
  rintro e w9 ⟨rfl, hb9⟩
  replace P1 := P1.below hb9 P1.lt
  replace P2 := P2.below hb9 P2.lt
  replace P3 := P3.below hb9 P3.lt
  replace HB := below_chain HB hb9
  replace OG := OG.step hb9
  replace OG2 := OG2.step hb9
  clear hb9 KR
  have S0 : St w9 w9 := Below.refl _ _
  go_wp2_with fail
  have L0 := fun W (s : St w9 W) => (rat_cells (P1.below s P1.lt)).1
  have L1 := fun W (s : St w9 W) => (rat_cells (P1.below s P1.lt)).2.1
  have L2 := fun W (s : St w9 W) => (rat_cells (P1.below s P1.lt)).2.2
  have L3 := fun W (s : St w9 W) => (ang_cells (P3.below s P3.lt)).1
  have L4 := fun W (s : St w9 W) => (ang_cells (P3.below s P3.lt)).2.1
  go_region_held3 (St w9) (first | assumption | exact St.step (by assumption) (by assumption) | exact St.drew (by assumption) | exact St.drawn (by assumption) _)
    (first
      | (go_at_call 28; refine (KU.out _).mono ?_; rintro e w10 ⟨rfl, hb11⟩)
      | (go_at_call 16; refine (KI.out _).mono ?_; rintro e w10 ⟨rfl, hb11⟩))
  rename_i hHeld
  clear L0 L1 L2 L3 L4
  clear hb11
  have hst : Below w9.heap.size w9 w10 := hHeld
  replace P1 := P1.below hst P1.lt
  replace P2 := P2.below hst P2.lt
  replace P3 := P3.below hst P3.lt
  replace HB := below_chain HB hst
  replace OG := OG.step hst
  replace OG2 := OG2.step hst
  clear hHeld hst KU KI S0
  have S0 : St w10 w10 := Below.refl _ _
  go_wp2_with fail
  have L0 := fun W (s : St w10 W) => (rat_cells (P2.below s P2.lt)).1
  have L1 := fun W (s : St w10 W) => (rat_cells (P2.below s P2.lt)).2.1
  have L2 := fun W (s : St w10 W) => (rat_cells (P2.below s P2.lt)).2.2
  have L3 := fun W (s : St w10 W) => (ang_cells (P3.below s P3.lt)).1
  have L4 := fun W (s : St w10 W) => (ang_cells (P3.below s P3.lt)).2.1
  go_region_held3 (St w10) (first | assumption | exact St.step (by assumption) (by assumption) | exact St.drew (by assumption) | exact St.drawn (by assumption) _)
    (first
      | (go_at_call 29; refine (KV.out _).mono ?_; rintro e w11 ⟨rfl, hb11⟩)
      | (go_at_call 16; refine (KJ.out _).mono ?_; rintro e w11 ⟨rfl, hb11⟩))
  rename_i hHeld
  clear L0 L1 L2 L3 L4
  clear hb11
  have hst : Below w10.heap.size w10 w11 := hHeld
  replace P1 := P1.below hst P1.lt
  replace P2 := P2.below hst P2.lt
  replace P3 := P3.below hst P3.lt
  replace HB := below_chain HB hst
  replace OG := OG.step hst
  replace OG2 := OG2.step hst
  clear hHeld hst KV KJ S0
  obtain ⟨c30, c31, _, _⟩ := ang_cells P3
  go_wp2_with fail
  clear c30 c31
  refine (KC.out _).mono ?_
  rintro e w12 ⟨h, ch, rfl, hbb, hh, OH⟩
  have N1 := Lib.hid (Nat.ne_of_gt (Nat.lt_of_lt_of_le OG.lt hh))
  have N2 := Lib.hid (Nat.ne_of_gt (Nat.lt_of_lt_of_le OG2.lt hh))
  have N3 := Lib.hid (Nat.ne_of_gt (Nat.lt_of_lt_of_le Lg.out hgg2.out))
  clear hh
  replace P1 := P1.below hbb P1.lt
  replace P2 := P2.below hbb P2.lt
  replace P3 := P3.below hbb P3.lt
  replace HB := below_chain HB hbb
  replace OG := OG.step hbb
  replace OG2 := OG2.step hbb
  clear hbb P1 P2 P3
  go_wp2_with fail
  refine (same_c L g h cg ch _ OG OH N1.out KL.out KK.out).mono ?_
  rintro e w13 ⟨rfl, k1⟩
  replace OG2 := OG2.kp k1 N3.out
  replace OH := OH.kp k1 N1.out
  replace HB := HB.trans (k1.below Bg.out)
  clear k1 OG
  go_wp2_with fail
  refine (same_c L g2 h cg2 ch _ OG2 OH N2.out KL.out KK.out).mono ?_
  rintro e w14 ⟨rfl, k2⟩
  replace HB := HB.trans (k2.below Bg2.out)
  clear k2 OG2 OH
  go_wp2_with fail
  refine (awake21_c _).mono ?_
  rintro e w15 ⟨rfl, hbb⟩
  replace HB := below_chain HB hbb
  clear hbb
  go_wp2_with fail
  go_ret
  exact ⟨rfl, HB⟩
set_option maxRecDepth 100000 in
set_option maxHeartbeats 4000000 in
theorem AngleTurns_kn (a : An) (d n : Int) (w : World) (ha : a.Ok) (hd1 : 2 ≤ d) (hd2 : d ≤ 64) (hn : n < 0) (hk : bkOK a d.toNat) :
    Calls Try.prog 4 #[.agg #[.bool false, .string (natS a.n), .string (natS a.d)], .int .i64 d, .int .i64 n] w fun e w' => e = .returned (.bool true) ∧ Below w.heap.size w w' := by
  have KT := Lib.hid (fun w => ATurn_k a d w ha hd1 hd2)
  have KS := Lib.hid (fun w => ATurns_neg a d n w ha hd1 hd2 hn)
  have KB := Lib.hid (fun w => ABack_ok a d w ha hd1 hd2 hk)
  have KO := Lib.hid (fun w => rOf21_ok a ha w)
  have KR := Lib.hid (fun w => rRound_k d w hd1 hd2)
  have KU := Lib.hid (fun w => rTurn_k a d w ha hd1 hd2)
  have KI := Lib.hid (fun w => is_k (turnA a d) w (turnA_ok d ha).small)
  have KJ := Lib.hid (fun w => is_e a 2 w (by decide))
  have KC := Lib.hid (fun w => rBack_ok a d w ha hd1 hd2 hk)
  have KL := Lib.hid (show (bkL a d.toNat d.toNat).length ≤ 64 from by rw [bkL_len]; omega)
  have KK := Lib.hid (bkL_ok ha (show 0 < d.toNat by omega) hk)
  generalize bkL a d.toNat d.toNat = L at *
  generalize turnA a d = t at *
  have hneg : decide (n < 0) = true := decide_eq_true (by omega)
  clear hd1 hd2 hk ha hn
  have P0 := Blk.new w 24 #[.bool false, .string (natS a.n), .string (natS a.d)]
  have HB : Below w.heap.size w (w.alloc (.cells #[.bool false, .string (natS a.n), .string (natS a.d)] 24)) := (Below.refl _ w).alloc (Nat.le_refl _) _
  go_enter Try.func4, Try.ntmps4
  obtain ⟨p0, p1, p2⟩ := rat_cells P0
  go_wp2_with fail
  generalize w.alloc (.cells #[.bool false, .string (natS a.n), .string (natS a.d)] 24) = w0 at *
  obtain ⟨b0, hb0⟩ : ∃ b, b = w.heap.size := ⟨_, rfl⟩
  rw [← hb0] at P0 ⊢
  have HB0 := Lib.hid hb0
  clear p0 p1 p2 hb0
  refine (KT.out _).mono ?_
  rintro e w1 ⟨rfl, hb1⟩
  replace P0 := P0.below hb1 P0.lt
  replace HB := below_chain HB hb1
  clear hb1 KT
  have P1 := Blk.new w1 24 #[.bool false, .string (natS t.n), .string (natS t.d)]
  replace P0 := P0.alloc (.cells #[.bool false, .string (natS t.n), .string (natS t.d)] 24)
  replace HB := HB.alloc HB.size (.cells #[.bool false, .string (natS t.n), .string (natS t.d)] 24)
  obtain ⟨b1, hb1⟩ : ∃ b, b = w1.heap.size := ⟨_, rfl⟩
  rw [← hb1] at P1
  obtain ⟨c00, c01, c02⟩ := rat_cells P0
  go_wp2_with fail
  rw [← hb1]
  generalize w1.alloc (.cells #[.bool false, .string (natS t.n), .string (natS t.d)] 24) = w2 at *
  clear hb1
  clear c00 c01 c02
  refine (KS.out _).mono ?_
  rintro e w3 ⟨rfl, hb3⟩
  replace P0 := P0.below hb3 P0.lt
  replace P1 := P1.below hb3 P1.lt
  replace HB := below_chain HB hb3
  clear hb3 KS
  have P2 := Blk.new w3 24 #[.bool false, .string ⟨#[]⟩, .string ⟨#[]⟩]
  replace P0 := P0.alloc (.cells #[.bool false, .string ⟨#[]⟩, .string ⟨#[]⟩] 24)
  replace P1 := P1.alloc (.cells #[.bool false, .string ⟨#[]⟩, .string ⟨#[]⟩] 24)
  replace HB := HB.alloc HB.size (.cells #[.bool false, .string ⟨#[]⟩, .string ⟨#[]⟩] 24)
  obtain ⟨b2, hb2⟩ : ∃ b, b = w3.heap.size := ⟨_, rfl⟩
  rw [← hb2] at P2
  obtain ⟨c00, c01, c02⟩ := rat_cells P0
  go_wp2_with fail
  rw [← hb2]
  generalize w3.alloc (.cells #[.bool false, .string ⟨#[]⟩, .string ⟨#[]⟩] 24) = w4 at *
  clear hb2
  clear c00 c01 c02
  refine (KB.out _).mono ?_
  rintro e w5 ⟨g, cg, rfl, hbb, hgg, OG⟩
  have Lg := Lib.hid OG.lt
  have Bg := Lib.hid (Nat.le_trans HB.size hgg)
  replace hgg := Lib.hid hgg
  replace P0 := P0.below hbb P0.lt
  replace P1 := P1.below hbb P1.lt
  replace P2 := P2.below hbb P2.lt
  replace HB := below_chain HB hbb
  clear hbb
  obtain ⟨c00, c01, c02⟩ := rat_cells P0
  go_wp2_with fail
  clear c00 c01 c02
  refine (KB.out _).mono ?_
  rintro e w6 ⟨g2, cg2, rfl, hbb, hgg2, OG2⟩
  have Lg2 := Lib.hid OG2.lt
  have Bg2 := Lib.hid (Nat.le_trans HB.size hgg2)
  replace hgg2 := Lib.hid hgg2
  replace P0 := P0.below hbb P0.lt
  replace P1 := P1.below hbb P1.lt
  replace P2 := P2.below hbb P2.lt
  replace HB := below_chain HB hbb
  replace OG := OG.step hbb
  clear hbb KB
  obtain ⟨c00, c01, c02⟩ := rat_cells P0
  go_wp2_with fail
  clear c00 c01 c02
  refine (KO.out _).mono ?_
  rintro e w7 ⟨rfl, hb7⟩
  replace P0 := P0.below hb7 P0.lt
  replace P1 := P1.below hb7 P1.lt
  replace P2 := P2.below hb7 P2.lt
  replace HB := below_chain HB hb7
  replace OG := OG.step hb7
  replace OG2 := OG2.step hb7
  clear hb7 KO
  clear P0
  have P3 := Blk.new w7 30 #[.int .u64 (a.n : Nat), .int .u64 (a.d : Nat)]
  replace P1 := P1.alloc (.cells #[.int .u64 (a.n : Nat), .int .u64 (a.d : Nat)] 30)
  replace P2 := P2.alloc (.cells #[.int .u64 (a.n : Nat), .int .u64 (a.d : Nat)] 30)
  replace HB := HB.alloc HB.size (.cells #[.int .u64 (a.n : Nat), .int .u64 (a.d : Nat)] 30)
  obtain ⟨b3, hb3⟩ : ∃ b, b = w7.heap.size := ⟨_, rfl⟩
  rw [← hb3] at P3
  replace OG := OG.step (show Below w7.heap.size w7 (w7.alloc (.cells #[.int .u64 (a.n : Nat), .int .u64 (a.d : Nat)] 30)) from (Below.refl _ _).alloc (Nat.le_refl _) _)
  replace OG2 := OG2.step (show Below w7.heap.size w7 (w7.alloc (.cells #[.int .u64 (a.n : Nat), .int .u64 (a.d : Nat)] 30)) from (Below.refl _ _).alloc (Nat.le_refl _) _)
  go_wp2_with fail
  rw [← hb3]
  generalize w7.alloc (.cells #[.int .u64 (a.n : Nat), .int .u64 (a.d : Nat)] 30) = w8 at *
  clear hb3
  refine (KR.out _).mono ?_
  rintro e w9 ⟨rfl, hb9⟩
  replace P1 := P1.below hb9 P1.lt
  replace P2 := P2.below hb9 P2.lt
  replace P3 := P3.below hb9 P3.lt
  replace HB := below_chain HB hb9
  replace OG := OG.step hb9
  replace OG2 := OG2.step hb9
  clear hb9 KR
  have S0 : St w9 w9 := Below.refl _ _
  go_wp2_with fail
  have L0 := fun W (s : St w9 W) => (rat_cells (P1.below s P1.lt)).1
  have L1 := fun W (s : St w9 W) => (rat_cells (P1.below s P1.lt)).2.1
  have L2 := fun W (s : St w9 W) => (rat_cells (P1.below s P1.lt)).2.2
  have L3 := fun W (s : St w9 W) => (ang_cells (P3.below s P3.lt)).1
  have L4 := fun W (s : St w9 W) => (ang_cells (P3.below s P3.lt)).2.1
  go_region_held3 (St w9) (first | assumption | exact St.step (by assumption) (by assumption) | exact St.drew (by assumption) | exact St.drawn (by assumption) _)
    (first
      | (go_at_call 28; refine (KU.out _).mono ?_; rintro e w10 ⟨rfl, hb11⟩)
      | (go_at_call 16; refine (KI.out _).mono ?_; rintro e w10 ⟨rfl, hb11⟩))
  rename_i hHeld
  clear L0 L1 L2 L3 L4
  clear hb11
  have hst : Below w9.heap.size w9 w10 := hHeld
  replace P1 := P1.below hst P1.lt
  replace P2 := P2.below hst P2.lt
  replace P3 := P3.below hst P3.lt
  replace HB := below_chain HB hst
  replace OG := OG.step hst
  replace OG2 := OG2.step hst
  clear hHeld hst KU KI S0
  obtain ⟨c20, c21, c22⟩ := rat_cells P2
  obtain ⟨c30, c31, _, _⟩ := ang_cells P3
  go_wp2_with fail
  clear c20 c21 c22 c30 c31
  refine (KJ.out _).mono ?_
  rintro e w11 ⟨rfl, hb12⟩
  replace P1 := P1.below hb12 P1.lt
  replace P2 := P2.below hb12 P2.lt
  replace P3 := P3.below hb12 P3.lt
  replace HB := below_chain HB hb12
  replace OG := OG.step hb12
  replace OG2 := OG2.step hb12
  clear hb12
  obtain ⟨c30, c31, _, _⟩ := ang_cells P3
  go_wp2_with fail
  clear c30 c31
  refine (KC.out _).mono ?_
  rintro e w12 ⟨h, ch, rfl, hbb, hh, OH⟩
  have N1 := Lib.hid (Nat.ne_of_gt (Nat.lt_of_lt_of_le OG.lt hh))
  have N2 := Lib.hid (Nat.ne_of_gt (Nat.lt_of_lt_of_le OG2.lt hh))
  have N3 := Lib.hid (Nat.ne_of_gt (Nat.lt_of_lt_of_le Lg.out hgg2.out))
  clear hh
  replace P1 := P1.below hbb P1.lt
  replace P2 := P2.below hbb P2.lt
  replace P3 := P3.below hbb P3.lt
  replace HB := below_chain HB hbb
  replace OG := OG.step hbb
  replace OG2 := OG2.step hbb
  clear hbb P1 P2 P3
  go_wp2_with fail
  refine (same_c L g h cg ch _ OG OH N1.out KL.out KK.out).mono ?_
  rintro e w13 ⟨rfl, k1⟩
  replace OG2 := OG2.kp k1 N3.out
  replace OH := OH.kp k1 N1.out
  replace HB := HB.trans (k1.below Bg.out)
  clear k1 OG
  go_wp2_with fail
  refine (same_c L g2 h cg2 ch _ OG2 OH N2.out KL.out KK.out).mono ?_
  rintro e w14 ⟨rfl, k2⟩
  replace HB := HB.trans (k2.below Bg2.out)
  clear k2 OG2 OH
  go_wp2_with fail
  refine (awake21_c _).mono ?_
  rintro e w15 ⟨rfl, hbb⟩
  replace HB := below_chain HB hbb
  clear hbb
  go_wp2_with fail
  go_ret
  exact ⟨rfl, HB⟩
set_option maxRecDepth 100000 in
set_option maxHeartbeats 4000000 in
theorem AngleTurns_xp (a : An) (d n : Int) (w : World) (ha : a.Ok) (hd1 : 2 ≤ d) (hd2 : d ≤ 64) (hn : 0 ≤ n) (hn2 : n ≤ 9223372036854775807) (hk : ¬ bkOK a d.toNat) :
    Calls Try.prog 4 #[.agg #[.bool false, .string (natS a.n), .string (natS a.d)], .int .i64 d, .int .i64 n] w fun e w' => e = .returned (.bool true) ∧ Below w.heap.size w w' := by
  have KT := Lib.hid (fun w => ATurn_k a d w ha hd1 hd2)
  have KS := Lib.hid (fun w => ATurns_k a d n w ha hd1 hd2 hn hn2)
  have KB := Lib.hid (fun w => ABack_no a d w ha hd1 hd2 hk)
  have KO := Lib.hid (fun w => rOf21_ok a ha w)
  have KR := Lib.hid (fun w => rRound_k d w hd1 hd2)
  have KU := Lib.hid (fun w => rTurn_k a d w ha hd1 hd2)
  have KI := Lib.hid (fun w => is_k (turnA a d) w (turnA_ok d ha).small)
  have KV := Lib.hid (fun w => rTurns_k a d n w ha hd1 hd2 hn hn2)
  have KJ := Lib.hid (fun w => is_k (turnsA a d n) w (turnsA_ok d n ha).small)
  have KC := Lib.hid (fun w => rBack_no a d w ha hd1 hd2 hk)
  generalize turnA a d = t at *
  generalize turnsA a d n = u at *
  have hneg : decide (n < 0) = false := decide_eq_false (by omega)
  clear hn2
  clear hd1 hd2 hk ha hn
  have P0 := Blk.new w 24 #[.bool false, .string (natS a.n), .string (natS a.d)]
  have HB : Below w.heap.size w (w.alloc (.cells #[.bool false, .string (natS a.n), .string (natS a.d)] 24)) := (Below.refl _ w).alloc (Nat.le_refl _) _
  go_enter Try.func4, Try.ntmps4
  obtain ⟨p0, p1, p2⟩ := rat_cells P0
  go_wp2_with fail
  generalize w.alloc (.cells #[.bool false, .string (natS a.n), .string (natS a.d)] 24) = w0 at *
  obtain ⟨b0, hb0⟩ : ∃ b, b = w.heap.size := ⟨_, rfl⟩
  rw [← hb0] at P0 ⊢
  have HB0 := Lib.hid hb0
  clear p0 p1 p2 hb0
  refine (KT.out _).mono ?_
  rintro e w1 ⟨rfl, hb1⟩
  replace P0 := P0.below hb1 P0.lt
  replace HB := below_chain HB hb1
  clear hb1 KT
  have P1 := Blk.new w1 24 #[.bool false, .string (natS t.n), .string (natS t.d)]
  replace P0 := P0.alloc (.cells #[.bool false, .string (natS t.n), .string (natS t.d)] 24)
  replace HB := HB.alloc HB.size (.cells #[.bool false, .string (natS t.n), .string (natS t.d)] 24)
  obtain ⟨b1, hb1⟩ : ∃ b, b = w1.heap.size := ⟨_, rfl⟩
  rw [← hb1] at P1
  obtain ⟨c00, c01, c02⟩ := rat_cells P0
  go_wp2_with fail
  rw [← hb1]
  generalize w1.alloc (.cells #[.bool false, .string (natS t.n), .string (natS t.d)] 24) = w2 at *
  clear hb1
  clear c00 c01 c02
  refine (KS.out _).mono ?_
  rintro e w3 ⟨rfl, hb3⟩
  replace P0 := P0.below hb3 P0.lt
  replace P1 := P1.below hb3 P1.lt
  replace HB := below_chain HB hb3
  clear hb3 KS
  have P2 := Blk.new w3 24 #[.bool false, .string (natS u.n), .string (natS u.d)]
  replace P0 := P0.alloc (.cells #[.bool false, .string (natS u.n), .string (natS u.d)] 24)
  replace P1 := P1.alloc (.cells #[.bool false, .string (natS u.n), .string (natS u.d)] 24)
  replace HB := HB.alloc HB.size (.cells #[.bool false, .string (natS u.n), .string (natS u.d)] 24)
  obtain ⟨b2, hb2⟩ : ∃ b, b = w3.heap.size := ⟨_, rfl⟩
  rw [← hb2] at P2
  obtain ⟨c00, c01, c02⟩ := rat_cells P0
  go_wp2_with fail
  rw [← hb2]
  generalize w3.alloc (.cells #[.bool false, .string (natS u.n), .string (natS u.d)] 24) = w4 at *
  clear hb2
  clear c00 c01 c02
  refine (KB.out _).mono ?_
  rintro e w5 ⟨rfl, hbb⟩
  replace P0 := P0.below hbb P0.lt
  replace P1 := P1.below hbb P1.lt
  replace P2 := P2.below hbb P2.lt
  replace HB := below_chain HB hbb
  clear hbb
  obtain ⟨c00, c01, c02⟩ := rat_cells P0
  go_wp2_with fail
  clear c00 c01 c02
  refine (KB.out _).mono ?_
  rintro e w6 ⟨rfl, hbb⟩
  replace P0 := P0.below hbb P0.lt
  replace P1 := P1.below hbb P1.lt
  replace P2 := P2.below hbb P2.lt
  replace HB := below_chain HB hbb
  clear hbb KB
  obtain ⟨c00, c01, c02⟩ := rat_cells P0
  go_wp2_with fail
  clear c00 c01 c02
  refine (KO.out _).mono ?_
  rintro e w7 ⟨rfl, hb7⟩
  replace P0 := P0.below hb7 P0.lt
  replace P1 := P1.below hb7 P1.lt
  replace P2 := P2.below hb7 P2.lt
  replace HB := below_chain HB hb7
  clear hb7 KO
  clear P0
  have P3 := Blk.new w7 30 #[.int .u64 (a.n : Nat), .int .u64 (a.d : Nat)]
  replace P1 := P1.alloc (.cells #[.int .u64 (a.n : Nat), .int .u64 (a.d : Nat)] 30)
  replace P2 := P2.alloc (.cells #[.int .u64 (a.n : Nat), .int .u64 (a.d : Nat)] 30)
  replace HB := HB.alloc HB.size (.cells #[.int .u64 (a.n : Nat), .int .u64 (a.d : Nat)] 30)
  obtain ⟨b3, hb3⟩ : ∃ b, b = w7.heap.size := ⟨_, rfl⟩
  rw [← hb3] at P3
  go_wp2_with fail
  rw [← hb3]
  generalize w7.alloc (.cells #[.int .u64 (a.n : Nat), .int .u64 (a.d : Nat)] 30) = w8 at *
  clear hb3
  refine (KR.out _).mono ?_
  rintro e w9 ⟨rfl, hb9⟩
  replace P1 := P1.below hb9 P1.lt
  replace P2 := P2.below hb9 P2.lt
  replace P3 := P3.below hb9 P3.lt
  replace HB := below_chain HB hb9
  clear hb9 KR
  have S0 : St w9 w9 := Below.refl _ _
  go_wp2_with fail
  have L0 := fun W (s : St w9 W) => (rat_cells (P1.below s P1.lt)).1
  have L1 := fun W (s : St w9 W) => (rat_cells (P1.below s P1.lt)).2.1
  have L2 := fun W (s : St w9 W) => (rat_cells (P1.below s P1.lt)).2.2
  have L3 := fun W (s : St w9 W) => (ang_cells (P3.below s P3.lt)).1
  have L4 := fun W (s : St w9 W) => (ang_cells (P3.below s P3.lt)).2.1
  go_region_held3 (St w9) (first | assumption | exact St.step (by assumption) (by assumption) | exact St.drew (by assumption) | exact St.drawn (by assumption) _)
    (first
      | (go_at_call 28; refine (KU.out _).mono ?_; rintro e w10 ⟨rfl, hb11⟩)
      | (go_at_call 16; refine (KI.out _).mono ?_; rintro e w10 ⟨rfl, hb11⟩))
  rename_i hHeld
  clear L0 L1 L2 L3 L4
  clear hb11
  have hst : Below w9.heap.size w9 w10 := hHeld
  replace P1 := P1.below hst P1.lt
  replace P2 := P2.below hst P2.lt
  replace P3 := P3.below hst P3.lt
  replace HB := below_chain HB hst
  clear hHeld hst KU KI S0
  have S0 : St w10 w10 := Below.refl _ _
  go_wp2_with fail
  have L0 := fun W (s : St w10 W) => (rat_cells (P2.below s P2.lt)).1
  have L1 := fun W (s : St w10 W) => (rat_cells (P2.below s P2.lt)).2.1
  have L2 := fun W (s : St w10 W) => (rat_cells (P2.below s P2.lt)).2.2
  have L3 := fun W (s : St w10 W) => (ang_cells (P3.below s P3.lt)).1
  have L4 := fun W (s : St w10 W) => (ang_cells (P3.below s P3.lt)).2.1
  go_region_held3 (St w10) (first | assumption | exact St.step (by assumption) (by assumption) | exact St.drew (by assumption) | exact St.drawn (by assumption) _)
    (first
      | (go_at_call 29; refine (KV.out _).mono ?_; rintro e w11 ⟨rfl, hb11⟩)
      | (go_at_call 16; refine (KJ.out _).mono ?_; rintro e w11 ⟨rfl, hb11⟩))
  rename_i hHeld
  clear L0 L1 L2 L3 L4
  clear hb11
  have hst : Below w10.heap.size w10 w11 := hHeld
  replace P1 := P1.below hst P1.lt
  replace P2 := P2.below hst P2.lt
  replace P3 := P3.below hst P3.lt
  replace HB := below_chain HB hst
  clear hHeld hst KV KJ S0
  obtain ⟨c30, c31, _, _⟩ := ang_cells P3
  go_wp2_with fail
  clear c30 c31
  refine (KC.out _).mono ?_
  rintro e w12 ⟨rfl, hbb⟩
  replace HB := below_chain HB hbb
  clear hbb P1 P2 P3
  go_wp2_with fail
  refine (same_nil _).mono ?_
  rintro e w13 ⟨rfl, hbb⟩
  replace HB := below_chain HB hbb
  clear hbb
  go_wp2_with fail
  refine (same_nil _).mono ?_
  rintro e w14 ⟨rfl, hbb⟩
  replace HB := below_chain HB hbb
  clear hbb
  go_wp2_with fail
  refine (awake21_c _).mono ?_
  rintro e w15 ⟨rfl, hbb⟩
  replace HB := below_chain HB hbb
  clear hbb
  go_wp2_with fail
  go_ret
  exact ⟨rfl, HB⟩
set_option maxRecDepth 100000 in
set_option maxHeartbeats 4000000 in
theorem AngleTurns_xn (a : An) (d n : Int) (w : World) (ha : a.Ok) (hd1 : 2 ≤ d) (hd2 : d ≤ 64) (hn : n < 0) (hk : ¬ bkOK a d.toNat) :
    Calls Try.prog 4 #[.agg #[.bool false, .string (natS a.n), .string (natS a.d)], .int .i64 d, .int .i64 n] w fun e w' => e = .returned (.bool true) ∧ Below w.heap.size w w' := by
  have KT := Lib.hid (fun w => ATurn_k a d w ha hd1 hd2)
  have KS := Lib.hid (fun w => ATurns_neg a d n w ha hd1 hd2 hn)
  have KB := Lib.hid (fun w => ABack_no a d w ha hd1 hd2 hk)
  have KO := Lib.hid (fun w => rOf21_ok a ha w)
  have KR := Lib.hid (fun w => rRound_k d w hd1 hd2)
  have KU := Lib.hid (fun w => rTurn_k a d w ha hd1 hd2)
  have KI := Lib.hid (fun w => is_k (turnA a d) w (turnA_ok d ha).small)
  have KJ := Lib.hid (fun w => is_e a 2 w (by decide))
  have KC := Lib.hid (fun w => rBack_no a d w ha hd1 hd2 hk)
  generalize turnA a d = t at *
  have hneg : decide (n < 0) = true := decide_eq_true (by omega)
  clear hd1 hd2 hk ha hn
  have P0 := Blk.new w 24 #[.bool false, .string (natS a.n), .string (natS a.d)]
  have HB : Below w.heap.size w (w.alloc (.cells #[.bool false, .string (natS a.n), .string (natS a.d)] 24)) := (Below.refl _ w).alloc (Nat.le_refl _) _
  go_enter Try.func4, Try.ntmps4
  obtain ⟨p0, p1, p2⟩ := rat_cells P0
  go_wp2_with fail
  generalize w.alloc (.cells #[.bool false, .string (natS a.n), .string (natS a.d)] 24) = w0 at *
  obtain ⟨b0, hb0⟩ : ∃ b, b = w.heap.size := ⟨_, rfl⟩
  rw [← hb0] at P0 ⊢
  have HB0 := Lib.hid hb0
  clear p0 p1 p2 hb0
  refine (KT.out _).mono ?_
  rintro e w1 ⟨rfl, hb1⟩
  replace P0 := P0.below hb1 P0.lt
  replace HB := below_chain HB hb1
  clear hb1 KT
  have P1 := Blk.new w1 24 #[.bool false, .string (natS t.n), .string (natS t.d)]
  replace P0 := P0.alloc (.cells #[.bool false, .string (natS t.n), .string (natS t.d)] 24)
  replace HB := HB.alloc HB.size (.cells #[.bool false, .string (natS t.n), .string (natS t.d)] 24)
  obtain ⟨b1, hb1⟩ : ∃ b, b = w1.heap.size := ⟨_, rfl⟩
  rw [← hb1] at P1
  obtain ⟨c00, c01, c02⟩ := rat_cells P0
  go_wp2_with fail
  rw [← hb1]
  generalize w1.alloc (.cells #[.bool false, .string (natS t.n), .string (natS t.d)] 24) = w2 at *
  clear hb1
  clear c00 c01 c02
  refine (KS.out _).mono ?_
  rintro e w3 ⟨rfl, hb3⟩
  replace P0 := P0.below hb3 P0.lt
  replace P1 := P1.below hb3 P1.lt
  replace HB := below_chain HB hb3
  clear hb3 KS
  have P2 := Blk.new w3 24 #[.bool false, .string ⟨#[]⟩, .string ⟨#[]⟩]
  replace P0 := P0.alloc (.cells #[.bool false, .string ⟨#[]⟩, .string ⟨#[]⟩] 24)
  replace P1 := P1.alloc (.cells #[.bool false, .string ⟨#[]⟩, .string ⟨#[]⟩] 24)
  replace HB := HB.alloc HB.size (.cells #[.bool false, .string ⟨#[]⟩, .string ⟨#[]⟩] 24)
  obtain ⟨b2, hb2⟩ : ∃ b, b = w3.heap.size := ⟨_, rfl⟩
  rw [← hb2] at P2
  obtain ⟨c00, c01, c02⟩ := rat_cells P0
  go_wp2_with fail
  rw [← hb2]
  generalize w3.alloc (.cells #[.bool false, .string ⟨#[]⟩, .string ⟨#[]⟩] 24) = w4 at *
  clear hb2
  clear c00 c01 c02
  refine (KB.out _).mono ?_
  rintro e w5 ⟨rfl, hbb⟩
  replace P0 := P0.below hbb P0.lt
  replace P1 := P1.below hbb P1.lt
  replace P2 := P2.below hbb P2.lt
  replace HB := below_chain HB hbb
  clear hbb
  obtain ⟨c00, c01, c02⟩ := rat_cells P0
  go_wp2_with fail
  clear c00 c01 c02
  refine (KB.out _).mono ?_
  rintro e w6 ⟨rfl, hbb⟩
  replace P0 := P0.below hbb P0.lt
  replace P1 := P1.below hbb P1.lt
  replace P2 := P2.below hbb P2.lt
  replace HB := below_chain HB hbb
  clear hbb KB
  obtain ⟨c00, c01, c02⟩ := rat_cells P0
  go_wp2_with fail
  clear c00 c01 c02
  refine (KO.out _).mono ?_
  rintro e w7 ⟨rfl, hb7⟩
  replace P0 := P0.below hb7 P0.lt
  replace P1 := P1.below hb7 P1.lt
  replace P2 := P2.below hb7 P2.lt
  replace HB := below_chain HB hb7
  clear hb7 KO
  clear P0
  have P3 := Blk.new w7 30 #[.int .u64 (a.n : Nat), .int .u64 (a.d : Nat)]
  replace P1 := P1.alloc (.cells #[.int .u64 (a.n : Nat), .int .u64 (a.d : Nat)] 30)
  replace P2 := P2.alloc (.cells #[.int .u64 (a.n : Nat), .int .u64 (a.d : Nat)] 30)
  replace HB := HB.alloc HB.size (.cells #[.int .u64 (a.n : Nat), .int .u64 (a.d : Nat)] 30)
  obtain ⟨b3, hb3⟩ : ∃ b, b = w7.heap.size := ⟨_, rfl⟩
  rw [← hb3] at P3
  go_wp2_with fail
  rw [← hb3]
  generalize w7.alloc (.cells #[.int .u64 (a.n : Nat), .int .u64 (a.d : Nat)] 30) = w8 at *
  clear hb3
  refine (KR.out _).mono ?_
  rintro e w9 ⟨rfl, hb9⟩
  replace P1 := P1.below hb9 P1.lt
  replace P2 := P2.below hb9 P2.lt
  replace P3 := P3.below hb9 P3.lt
  replace HB := below_chain HB hb9
  clear hb9 KR
  have S0 : St w9 w9 := Below.refl _ _
  go_wp2_with fail
  have L0 := fun W (s : St w9 W) => (rat_cells (P1.below s P1.lt)).1
  have L1 := fun W (s : St w9 W) => (rat_cells (P1.below s P1.lt)).2.1
  have L2 := fun W (s : St w9 W) => (rat_cells (P1.below s P1.lt)).2.2
  have L3 := fun W (s : St w9 W) => (ang_cells (P3.below s P3.lt)).1
  have L4 := fun W (s : St w9 W) => (ang_cells (P3.below s P3.lt)).2.1
  go_region_held3 (St w9) (first | assumption | exact St.step (by assumption) (by assumption) | exact St.drew (by assumption) | exact St.drawn (by assumption) _)
    (first
      | (go_at_call 28; refine (KU.out _).mono ?_; rintro e w10 ⟨rfl, hb11⟩)
      | (go_at_call 16; refine (KI.out _).mono ?_; rintro e w10 ⟨rfl, hb11⟩))
  rename_i hHeld
  clear L0 L1 L2 L3 L4
  clear hb11
  have hst : Below w9.heap.size w9 w10 := hHeld
  replace P1 := P1.below hst P1.lt
  replace P2 := P2.below hst P2.lt
  replace P3 := P3.below hst P3.lt
  replace HB := below_chain HB hst
  clear hHeld hst KU KI S0
  obtain ⟨c20, c21, c22⟩ := rat_cells P2
  obtain ⟨c30, c31, _, _⟩ := ang_cells P3
  go_wp2_with fail
  clear c20 c21 c22 c30 c31
  refine (KJ.out _).mono ?_
  rintro e w11 ⟨rfl, hb12⟩
  replace P1 := P1.below hb12 P1.lt
  replace P2 := P2.below hb12 P2.lt
  replace P3 := P3.below hb12 P3.lt
  replace HB := below_chain HB hb12
  clear hb12
  obtain ⟨c30, c31, _, _⟩ := ang_cells P3
  go_wp2_with fail
  clear c30 c31
  refine (KC.out _).mono ?_
  rintro e w12 ⟨rfl, hbb⟩
  replace HB := below_chain HB hbb
  clear hbb P1 P2 P3
  go_wp2_with fail
  refine (same_nil _).mono ?_
  rintro e w13 ⟨rfl, hbb⟩
  replace HB := below_chain HB hbb
  clear hbb
  go_wp2_with fail
  refine (same_nil _).mono ?_
  rintro e w14 ⟨rfl, hbb⟩
  replace HB := below_chain HB hbb
  clear hbb
  go_wp2_with fail
  refine (awake21_c _).mono ?_
  rintro e w15 ⟨rfl, hbb⟩
  replace HB := below_chain HB hbb
  clear hbb
  go_wp2_with fail
  go_ret
  exact ⟨rfl, HB⟩
theorem rt_back {r : Rt} (h : anE r = 0) : (anA r).r = r := by
  obtain ⟨a, ha⟩ := okB_iff.1 (anE_iff.1 h)
  rw [(okB_is ha).2.1]; exact ha.2.symm
theorem AngleTurns_law (r : Rt) (d n : Int) (w : World) (hz : r.small) (hn1 : -9223372036854775808 ≤ n) (hn2 : n ≤ 9223372036854775807) : Calls Try.prog 4 #[.agg #[.bool r.g, .string r.s, .string r.t], .int .i64 d, .int .i64 n] w fun e w' => e = .returned (.bool true) ∧ Below w.heap.size w w' := by
  by_cases hk : anE r = 0
  · by_cases hd : 2 ≤ d ∧ d ≤ 64
    · have hr := rt_back hk
      have ha := anA_ok0 hk
      have e1 : natS (anA r).n = r.s := congrArg Rt.s hr
      have e2 : natS (anA r).d = r.t := congrArg Rt.t hr
      have e3 : false = r.g := congrArg Rt.g hr
      rw [← e1, ← e2, ← e3]
      by_cases hb : bkOK (anA r) d.toNat
      · by_cases hn : n < 0
        · exact AngleTurns_kn _ d n w ha hd.1 hd.2 hn hb
        · exact AngleTurns_kp _ d n w ha hd.1 hd.2 (by omega) hn2 hb
      · by_cases hn : n < 0
        · exact AngleTurns_xn _ d n w ha hd.1 hd.2 hn hb
        · exact AngleTurns_xp _ d n w ha hd.1 hd.2 (by omega) hn2 hb
    · exact AngleTurns_n2 r d n w hz hk hd
  · exact AngleTurns_n1 r d n w hz (okB_f (fun c => hk (anE_iff.2 c)))
end Go.Proofs.Ytfoldiieclfbgaa
