/- Contracts: the document's answer's digits, Make. -/
import Derived.Test.YtbmfbmepgcbhfaaDoorB4
set_option linter.unusedSimpArgs false
set_option linter.unusedVariables false
namespace Go.Proofs.YtbmfbmepgcbhfaaDoor
open Go Go.RowKit Ff

theorem rdigits_c (m : Nat) (hm : m < 18446744073709551616) (w : World) :
    Calls Tryd.prog 36 #[.int .u64 m] w fun e w' => e = .returned (.int .i64 (Lib.bitLen m)) ∧ w = w' := by
  go_enter Tryd.func36, Tryd.ntmps36
  go_wp2
  go_loop [0, 3] (fun a b => ∃ q n : Nat, q < 18446744073709551616 ∧ Hid (n + Lib.bitLen q = Lib.bitLen m) ∧ n ≤ 64 ∧ a = .int .u64 q ∧ b = .int .i64 n) (fun a _ => (intOf a).toNat)
  case atStart => exact ⟨m, 0, hm, Lib.hid (by omega), by omega, rfl, rfl⟩
  case round =>
    obtain ⟨q, n, hq, H, hn, rfl, rfl⟩ := hrel
    have hbm := bl_le hm
    by_cases h0 : 0 < q
    · have hh := Lib.hid (Lib.bitLen_half q (by omega) (by omega))
      go_wp2
      go_round
      case rel => exact ⟨q / 2, n + 1, by omega, Lib.hid (by have := H.out; have := hh.out; omega), by have := H.out; have := hh.out; omega, by go_num, by go_num⟩
      case measure => simp [intOf]; omega
    · have : q = 0 := by omega
      subst this
      go_wp2
      go_ret
      exact ⟨ret_int (by have := H.out; have := bl_zero; omega), rfl⟩

@[irreducible] def shl (q k : Nat) : Nat := q * 2 ^ k
theorem shl_eq (q k : Nat) : shl q k = q * 2 ^ k := by unfold shl; rfl
theorem shl_zero (q : Nat) : shl q 0 = q := by rw [shl_eq]; simp
theorem shl_succ (q k : Nat) : shl q (k + 1) = 2 * shl q k := by rw [shl_eq, shl_eq, Nat.pow_succ, ← Nat.mul_assoc, Nat.mul_comm]
theorem shl_lt {q B k n : Nat} (h : q < 2 ^ B) (hk : B + k ≤ n) : shl q k < 2 ^ n := by
  rw [shl_eq]; exact Nat.lt_of_lt_of_le (mul_lt_pow h) (Nat.pow_le_pow_right (by decide) hk)

@[irreducible] def shlB (q k : Nat) : Bool := decide (shl q k < 4503599627370496)
theorem shlB_true (q k : Nat) : shlB q k = true ↔ shl q k < 4503599627370496 := by unfold shlB; exact decide_eq_true_iff
theorem shlB_false (q k : Nat) : shlB q k = false ↔ ¬ shl q k < 4503599627370496 := by unfold shlB; exact decide_eq_false_iff_not
@[local go_sem] theorem lt_shl (q k : Nat) : decide ((shl q k : Int) < 4503599627370496) = shlB q k := by
  rw [Bool.eq_iff_iff, decide_eq_true_iff, shlB_true]; omega

theorem ret_fb {neg t : Bool} {a b : Nat} (h : a = b) : Ending.returned (.tuple #[.float .f64 (wf neg a), .bool t]) = .returned (.tuple #[.float .f64 (wf neg b), .bool t]) := by rw [h]

theorem rMake_zero (neg : Bool) (e : Int) (w : World) :
    Calls Tryd.prog 15 #[.bool neg, .int .u64 0, .int .i64 e] w fun r w' => r = .returned (.tuple #[.float .f64 (wf neg 0), .bool true]) ∧ w = w' := by
  go_enter Tryd.func15, Tryd.ntmps15
  go_wp2_with (go_at_call 13; refine (rsigned_c neg 0 (by decide) _).mono ?_; rintro e w' ⟨rfl, rfl⟩)
  go_ret2
  exact ⟨rfl, rfl⟩
theorem rMake_far (neg : Bool) (m : Nat) (h0 : m ≠ 0) (e : Int) (he : 1024 < e ∨ e < -1138) (w : World) :
    Calls Tryd.prog 15 #[.bool neg, .int .u64 m, .int .i64 e] w fun r w' => r = .returned (.tuple #[.float .f64 0, .bool false]) ∧ w = w' := by
  have hz : ((m : Int) == 0) = false := by rw [beq_eq_false_iff_ne]; omega
  rcases he with he | he
  · go_enter Tryd.func15, Tryd.ntmps15
    go_wp2
    go_ret2
    exact ⟨rfl, rfl⟩
  · have he2 : ¬ 1024 < e := by omega
    go_enter Tryd.func15, Tryd.ntmps15
    go_wp2
    go_ret2
    exact ⟨rfl, rfl⟩

theorem rMake_bad (neg : Bool) (m : Nat) (h0 : 0 < m) (hm : m < 18446744073709551616) (e : Int) (he1 : e ≤ 1024) (he2 : -1138 ≤ e) (hmk : ¬ mkOk (od m) (e + tz m)) (w : World) :
    Calls Tryd.prog 15 #[.bool neg, .int .u64 m, .int .i64 e] w fun r w' => r = .returned (.tuple #[.float .f64 0, .bool false]) ∧ w = w' := by
  have hz : ((m : Int) == 0) = false := by rw [beq_eq_false_iff_ne]; omega
  have g1 : ¬ 1024 < e := by omega
  have g2 : ¬ e < -1138 := by omega
  have hk := (tz_spec h0 hm).2.2
  have hq0 := od_pos h0 hm
  have hq1 : od m < 18446744073709551616 := Nat.lt_of_le_of_lt od_le hm
  have hb := bl_le hq1
  go_enter Tryd.func15, Tryd.ntmps15
  go_wp2
  go_loop [1, 2] (fun a b => ∃ (q : Nat) (ex : Int), 0 < q ∧ q < 18446744073709551616 ∧ Hid (od q = od m) ∧ Hid (ex + tz q = e + tz m) ∧ -2000 ≤ ex ∧ a = .int .u64 q ∧ b = .int .i64 ex) (fun a _ => (intOf a).toNat)
  case atStart => exact ⟨m, e, h0, hm, Lib.hid rfl, Lib.hid rfl, by omega, rfl, rfl⟩
  case round =>
    obtain ⟨q, ex, hq0', hq1', H1, H2, hl, rfl, rfl⟩ := hrel
    have hu : ex ≤ 1100 := by have := H2.out; omega
    by_cases ho : q % 2 = 1
    · have ht : ((q : Int) % 2 == 0) = false := by rw [beq_eq_false_iff_ne]; omega
      have e1 : q = od m := by rw [← H1.out, od_odd ho]
      have e2 : ex = e + tz m := by rw [← H2.out, tz_odd ho]; omega
      subst e1
      rw [← e2] at hmk
      clear H1 H2
      have e2' := Lib.hid e2
      clear e2
      by_cases c1 : 53 < (Lib.bitLen (od m) : Int)
      · clear hmk
        go_wp2_with (go_at_call 36; refine (rdigits_c _ (by omega) _).mono ?_; rintro e w' ⟨rfl, rfl⟩)
        go_ret2
        exact ⟨rfl, rfl⟩
      · by_cases c2 : ex < -1074
        · clear hmk
          go_wp2_with (go_at_call 36; refine (rdigits_c _ (by omega) _).mono ?_; rintro e w' ⟨rfl, rfl⟩)
          go_ret2
          exact ⟨rfl, rfl⟩
        · have c3 : 1024 < ex + (Lib.bitLen (od m) : Int) := by unfold mkOk at hmk; omega
          clear hmk
          go_wp2_with (go_at_call 36; refine (rdigits_c _ (by omega) _).mono ?_; rintro e w' ⟨rfl, rfl⟩)
          go_ret2
          exact ⟨rfl, rfl⟩
    · have ht : ((q : Int) % 2 == 0) = true := by rw [beq_iff_eq]; omega
      have H3 := Lib.hid (tz_even hq0' hq1' (by omega))
      go_wp2
      go_round
      case rel => exact ⟨q / 2, ex + 1, by omega, by omega, Lib.hid (by rw [← od_even hq0' hq1' (by omega)]; exact H1.out), Lib.hid (by have := H2.out; rw [H3.out] at this; omega), by omega, by go_num, rfl⟩
      case measure => simp [intOf]; omega

theorem rMake_ok (neg : Bool) (m : Nat) (h0 : 0 < m) (hm : m < 18446744073709551616) (e : Int) (he1 : e ≤ 1024) (he2 : -1138 ≤ e) (hmk : mkOk (od m) (e + tz m)) (w : World) :
    Calls Tryd.prog 15 #[.bool neg, .int .u64 m, .int .i64 e] w fun r w' => r = .returned (.tuple #[.float .f64 (wf neg (mkR (od m) (e + tz m))), .bool true]) ∧ w = w' := by
  have hz : ((m : Int) == 0) = false := by rw [beq_eq_false_iff_ne]; omega
  have g1 : ¬ 1024 < e := by omega
  have g2 : ¬ e < -1138 := by omega
  have hk := (tz_spec h0 hm).2.2
  have hq0 := od_pos h0 hm
  have hq1 : od m < 18446744073709551616 := Nat.lt_of_le_of_lt od_le hm
  have hb := bl_le hq1
  go_enter Tryd.func15, Tryd.ntmps15
  go_wp2
  go_loop [1, 2] (fun a b => ∃ (q : Nat) (ex : Int), 0 < q ∧ q < 18446744073709551616 ∧ Hid (od q = od m) ∧ Hid (ex + tz q = e + tz m) ∧ -2000 ≤ ex ∧ a = .int .u64 q ∧ b = .int .i64 ex) (fun a _ => (intOf a).toNat)
  case atStart => exact ⟨m, e, h0, hm, Lib.hid rfl, Lib.hid rfl, by omega, rfl, rfl⟩
  case round =>
    obtain ⟨q, ex, hq0', hq1', H1, H2, hl, rfl, rfl⟩ := hrel
    have hu : ex ≤ 1100 := by have := H2.out; omega
    by_cases ho : q % 2 = 1
    · have ht : ((q : Int) % 2 == 0) = false := by rw [beq_eq_false_iff_ne]; omega
      have e1 : q = od m := by rw [← H1.out, od_odd ho]
      have e2 : ex = e + tz m := by rw [← H2.out, tz_odd ho]; omega
      subst e1
      rw [← e2] at hmk
      rw [← e2]
      clear H1 H2
      have e2' := Lib.hid e2
      clear e2
      obtain ⟨k1, k2, k3⟩ := mkOk_bits hmk
      have hp := Nat.two_pow_pos (Lib.bitLen (od m))
      have c1 : ¬ 53 < (Lib.bitLen (od m) : Int) := by omega
      have c2 : ¬ ex < -1074 := by omega
      have c3 : ¬ 1024 < ex + (Lib.bitLen (od m) : Int) := by omega
      go_wp2_with (go_at_call 36; refine (rdigits_c _ (by omega) _).mono ?_; rintro e w' ⟨rfl, rfl⟩)
      go_loop [1, 2, 8] (fun a b c => ∃ k : Nat, k ≤ 53 - Lib.bitLen (od m) ∧ (k : Int) ≤ ex + 1074 ∧ a = .int .u64 (shl (od m) k) ∧ b = .int .i64 (ex - k) ∧ c = .int .i64 ((Lib.bitLen (od m) + k : Nat) : Int)) (fun a b c => 53 - (intOf c).toNat)
      case atStart => exact ⟨0, by omega, by omega, by rw [shl_zero], by simp, by simp⟩
      case round =>
        obtain ⟨k, hk1, hk2, rfl, rfl, rfl⟩ := hrel
        have hs1 : shl (od m) k < 9007199254740992 := shl_lt (n := 53) (bl_lt hq1) (by omega)
        by_cases d1 : Lib.bitLen (od m) + k < 53
        · by_cases d2 : -1074 < ex - (k : Int)
          · go_wp2
            go_round
            case rel => exact ⟨k + 1, by omega, by omega, by rw [shl_succ]; go_num, by go_num, by go_num⟩
            case measure => simp [intOf]; omega
          · have hs2 : shl (od m) k < 4503599627370496 := shl_lt (n := 52) (bl_lt hq1) (by omega)
            have hs3 : shlB (od m) k = true := (shlB_true _ _).2 hs2
            clear hs2
            have hr : shl (od m) k = mkR (od m) ex := by rw [mkR_sub (by omega), shl_eq, show k = (ex + 1074).toNat by omega]
            have HR := Lib.hid hr
            clear hr
            go_wp2_with (go_at_call 13; refine (rsigned_c neg _ (by have := (shlB_true _ _).1 hs3; omega) _).mono ?_; rintro e w' ⟨rfl, rfl⟩)
            go_ret2
            exact ⟨ret_fb (by rw [← e2'.out]; exact HR.out), rfl⟩
        · obtain ⟨n1, n2⟩ := nor_small hq0 hq1 hmk
          have hs2 : ¬ shl (od m) k < 4503599627370496 := by rw [shl_eq, show k = 53 - Lib.bitLen (od m) by omega]; omega
          have hml := mkR_lt hq0 hq1 hmk
          have hr : IntKind.u64.wrap (IntKind.u64.wrap ((shl (od m) k : Int) - 4503599627370496) + (ex - (k : Int) + 1074 + 1) * 4503599627370496) = (mkR (od m) ex : Int) := by
            rw [IntKind.wrap_u64, IntKind.wrap_u64]
            rw [mkR_nor (by omega)] at hml ⊢
            have ek : k = 53 - Lib.bitLen (od m) := by omega
            have es : shl (od m) k = od m * 2 ^ (53 - Lib.bitLen (od m)) := by rw [shl_eq, ← ek]
            rw [es]
            clear es
            generalize od m * 2 ^ (53 - Lib.bitLen (od m)) = z at n1 n2 hml
            omega
          have hs3 : shlB (od m) k = false := (shlB_false _ _).2 hs2
          have HR := Lib.hid hr
          clear hs2 n1 n2 hr
          go_wp2_with fail
          rw [HR.out]
          refine (rsigned_c neg _ (by omega) _).mono ?_; rintro e w' ⟨rfl, rfl⟩
          go_wp2
          go_ret2
          exact ⟨ret_fb (by rw [← e2'.out]), rfl⟩
    · have ht : ((q : Int) % 2 == 0) = true := by rw [beq_iff_eq]; omega
      have H3 := Lib.hid (tz_even hq0' hq1' (by omega))
      go_wp2
      go_round
      case rel => exact ⟨q / 2, ex + 1, by omega, by omega, Lib.hid (by rw [← od_even hq0' hq1' (by omega)]; exact H1.out), Lib.hid (by have := H2.out; rw [H3.out] at this; omega), by omega, by go_num, rfl⟩
      case measure => simp [intOf]; omega
end Go.Proofs.YtbmfbmepgcbhfaaDoor
