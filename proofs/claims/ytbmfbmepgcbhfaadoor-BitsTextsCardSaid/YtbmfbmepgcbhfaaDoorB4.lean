/- Contracts: Make of package bits and of the document's answer. -/
import Derived.Test.YtbmfbmepgcbhfaaDoorB3
set_option linter.unusedSimpArgs false
set_option linter.unusedVariables false
namespace Go.Proofs.YtbmfbmepgcbhfaaDoor
open Go Go.RowKit Ff

/-- The float of odd q times 2 to the power e, by its rung; where it is one. -/
@[irreducible] def mkR (q : Nat) (e : Int) : Nat := if e + Lib.bitLen q > -1022 then q * 2 ^ (53 - Lib.bitLen q) - 4503599627370496 + (e + Lib.bitLen q + 1022).toNat * 4503599627370496 else q * 2 ^ (e + 1074).toNat
def mkOk (q : Nat) (e : Int) : Prop := Lib.bitLen q ≤ 53 ∧ -1074 ≤ e ∧ e + Lib.bitLen q - 1 ≤ 1023
instance (q : Nat) (e : Int) : Decidable (mkOk q e) := by unfold mkOk; exact inferInstance

theorem Make_zero (neg : Bool) (e : Int) (w : World) :
    Calls Tryd.prog 24 #[.bool neg, .int .u64 0, .int .i64 e] w fun r w' => r = .returned (.tuple #[.float .f64 (wf neg 0), .bool true]) ∧ w = w' := by
  go_enter Tryd.func24, Tryd.ntmps24
  go_wp2_with (go_at_call 32; refine (signed_b neg 0 (by decide) _).mono ?_; rintro e w' ⟨rfl, rfl⟩)
  go_ret2
  exact ⟨rfl, rfl⟩
theorem Make_far (neg : Bool) (m : Nat) (h0 : m ≠ 0) (e : Int) (he : 1023 < e ∨ e < -1137) (w : World) :
    Calls Tryd.prog 24 #[.bool neg, .int .u64 m, .int .i64 e] w fun r w' => r = .returned (.tuple #[.float .f64 0, .bool false]) ∧ w = w' := by
  have hz : ((m : Int) == 0) = false := by rw [beq_eq_false_iff_ne]; omega
  rcases he with he | he
  · go_enter Tryd.func24, Tryd.ntmps24
    go_wp2
    go_ret2
    exact ⟨rfl, rfl⟩
  · have he2 : ¬ 1023 < e := by omega
    go_enter Tryd.func24, Tryd.ntmps24
    go_wp2
    go_ret2
    exact ⟨rfl, rfl⟩
theorem shr_tz {m : Nat} (h0 : 0 < m) (hm : m < 18446744073709551616) : (m : Int) / 2 ^ Lib.ctz 64 m = (od m : Int) := by
  unfold od tz; norm_cast

theorem mkOk_bits {q : Nat} {e : Int} (h : mkOk q e) : Lib.bitLen q ≤ 53 ∧ -1074 ≤ e ∧ e + Lib.bitLen q - 1 ≤ 1023 := h
theorem Make_bad (neg : Bool) (m : Nat) (h0 : 0 < m) (hm : m < 18446744073709551616) (e : Int) (he1 : e ≤ 1023) (he2 : -1137 ≤ e) (hk : ¬ mkOk (od m) (e + tz m)) (w : World) (ht : Tabs w) :
    Calls Tryd.prog 24 #[.bool neg, .int .u64 m, .int .i64 e] w fun r w' => r = .returned (.tuple #[.float .f64 0, .bool false]) ∧ w = w' := by
  have hz : ((m : Int) == 0) = false := by rw [beq_eq_false_iff_ne]; omega
  have g1 : ¬ 1023 < e := by omega
  have g2 : ¬ e < -1137 := by omega
  have hs := shr_tz h0 hm
  have hk' : Lib.ctz 64 m < 64 := (tz_spec h0 hm).2.2
  have hq1 : od m < 18446744073709551616 := Nat.lt_of_le_of_lt od_le hm
  have hb := bl_le hq1
  unfold mkOk tz at hk
  by_cases c1 : 53 < (Lib.bitLen (od m) : Int)
  · clear hk
    go_enter Tryd.func24, Tryd.ntmps24
    go_wp2_with (first | (go_at_call 38; refine (Tryd.bits_TrailingZeros64 _ (by omega) _ (fun _ => ht.1)).mono ?_; rintro e w' ⟨rfl, rfl⟩) | (go_at_call 42; refine (Tryd.bits_Len64 _ _ (by omega) (by omega)).mono ?_; rintro e w' ⟨rfl, rfl⟩))
    go_ret2
    exact ⟨rfl, rfl⟩
  · by_cases c2 : e + (Lib.ctz 64 m : Int) < -1074
    · clear hk
      go_enter Tryd.func24, Tryd.ntmps24
      go_wp2_with (first | (go_at_call 38; refine (Tryd.bits_TrailingZeros64 _ (by omega) _ (fun _ => ht.1)).mono ?_; rintro e w' ⟨rfl, rfl⟩) | (go_at_call 42; refine (Tryd.bits_Len64 _ _ (by omega) (by omega)).mono ?_; rintro e w' ⟨rfl, rfl⟩))
      go_ret2
      exact ⟨rfl, rfl⟩
    · have c3 : 1023 < e + (Lib.ctz 64 m : Int) + (Lib.bitLen (od m) : Int) - 1 := by omega
      clear hk
      go_enter Tryd.func24, Tryd.ntmps24
      go_wp2_with (first | (go_at_call 38; refine (Tryd.bits_TrailingZeros64 _ (by omega) _ (fun _ => ht.1)).mono ?_; rintro e w' ⟨rfl, rfl⟩) | (go_at_call 42; refine (Tryd.bits_Len64 _ _ (by omega) (by omega)).mono ?_; rintro e w' ⟨rfl, rfl⟩))
      go_ret2
      exact ⟨rfl, rfl⟩
theorem mul_lt_pow {q B k : Nat} (h : q < 2 ^ B) : q * 2 ^ k < 2 ^ (B + k) := by
  rw [Nat.pow_add]; exact Nat.mul_lt_mul_of_pos_right h (Nat.two_pow_pos k)
theorem mkR_sub {q : Nat} {e : Int} (h : ¬ e + Lib.bitLen q > -1022) : mkR q e = q * 2 ^ (e + 1074).toNat := by unfold mkR; rw [if_neg h]
theorem mkR_nor {q : Nat} {e : Int} (h : e + Lib.bitLen q > -1022) : mkR q e = q * 2 ^ (53 - Lib.bitLen q) - 4503599627370496 + (e + Lib.bitLen q + 1022).toNat * 4503599627370496 := by unfold mkR; rw [if_pos h]
theorem sub_small {q : Nat} {e : Int} (hq : q < 18446744073709551616) (h : mkOk q e) (hs : ¬ e + Lib.bitLen q > -1022) : q * 2 ^ (e + 1074).toNat < 4503599627370496 := by
  obtain ⟨h1, h2, h3⟩ := mkOk_bits h
  refine Nat.lt_of_lt_of_le (mul_lt_pow (bl_lt hq)) ?_
  have p := Nat.pow_le_pow_right (n := 2) (by decide) (show Lib.bitLen q + (e + 1074).toNat ≤ 52 by omega)
  exact p
theorem nor_small {q : Nat} {e : Int} (hq0 : 0 < q) (hq : q < 18446744073709551616) (h : mkOk q e) : 4503599627370496 ≤ q * 2 ^ (53 - Lib.bitLen q) ∧ q * 2 ^ (53 - Lib.bitLen q) < 9007199254740992 := by
  obtain ⟨h1, h2, h3⟩ := mkOk_bits h
  constructor
  · have g := bl_ge hq hq0
    have p : 2 ^ Lib.bitLen q * 2 ^ (53 - Lib.bitLen q) = 9007199254740992 := by rw [← Nat.pow_add, show Lib.bitLen q + (53 - Lib.bitLen q) = 53 by omega]
    have := Nat.mul_le_mul_right (2 ^ (53 - Lib.bitLen q)) g
    rw [p, Nat.mul_assoc] at this
    omega
  · have := mul_lt_pow (k := 53 - Lib.bitLen q) (bl_lt hq)
    rw [show Lib.bitLen q + (53 - Lib.bitLen q) = 53 by omega] at this
    exact this
theorem mkR_lt {q : Nat} {e : Int} (hq0 : 0 < q) (hq : q < 18446744073709551616) (h : mkOk q e) : mkR q e < 9218868437227405312 := by
  obtain ⟨h1, h2, h3⟩ := mkOk_bits h
  by_cases c : e + Lib.bitLen q > -1022
  · rw [mkR_nor c]
    have := (nor_small hq0 hq h).2
    omega
  · rw [mkR_sub c]
    have := sub_small hq h c
    omega
theorem cast_mul_pow (a k : Nat) : (a : Int) * 2 ^ k = ((a * 2 ^ k : Nat) : Int) := by rw [Int.natCast_mul, Int.natCast_pow]; rfl
theorem mk_sub {m : Nat} {e : Int} (hq : od m < 18446744073709551616) (h : mkOk (od m) (e + tz m)) (c : ¬ -1023 < e + (Lib.ctz 64 m : Int) + (Lib.bitLen (od m) : Int) - 1) :
    IntKind.u64.wrap ((od m : Int) * 2 ^ (e + (Lib.ctz 64 m : Int) + 1074).toNat) = (mkR (od m) (e + tz m) : Int) := by
  have c' : ¬ e + (tz m : Int) + Lib.bitLen (od m) > -1022 := by unfold tz; omega
  rw [mkR_sub c', IntKind.wrap_u64]
  have := sub_small hq h c'
  unfold tz at this ⊢
  rw [cast_mul_pow]
  omega
theorem mk_nor {m : Nat} {e : Int} (hq0 : 0 < od m) (hq : od m < 18446744073709551616) (h : mkOk (od m) (e + tz m)) (c : -1023 < e + (Lib.ctz 64 m : Int) + (Lib.bitLen (od m) : Int) - 1) :
    bits BinOp.or IntKind.u64 (bits BinOp.and IntKind.u64 (IntKind.u64.wrap ((od m : Int) * 2 ^ (53 - Lib.bitLen (od m)))) 4503599627370495)
      ((e + (Lib.ctz 64 m : Int) + (Lib.bitLen (od m) : Int) - 1 + 1023) * 4503599627370496) = (mkR (od m) (e + tz m) : Int) := by
  have c' : e + (tz m : Int) + Lib.bitLen (od m) > -1022 := by unfold tz; omega
  obtain ⟨n1, n2⟩ := nor_small hq0 hq h
  obtain ⟨h1, h2, h3⟩ := mkOk_bits h
  rw [mkR_nor c']
  have e1 : IntKind.u64.wrap ((od m : Int) * 2 ^ (53 - Lib.bitLen (od m))) = ((od m * 2 ^ (53 - Lib.bitLen (od m)) : Nat) : Int) := by
    rw [IntKind.wrap_u64, cast_mul_pow]; omega
  rw [e1]
  generalize od m * 2 ^ (53 - Lib.bitLen (od m)) = z at n1 n2
  rw [show (4503599627370495 : Int) = ((4503599627370495 : Nat) : Int) from rfl, u64_and_nat z _ (by omega) (by decide)]
  have e2 : z &&& 4503599627370495 = z - 4503599627370496 := by
    rw [show z &&& 4503599627370495 = z % 4503599627370496 from Nat.and_two_pow_sub_one_eq_mod z 52]; omega
  rw [e2]
  obtain ⟨k, hk⟩ : ∃ k : Nat, e + (Lib.ctz 64 m : Int) + (Lib.bitLen (od m) : Int) - 1 + 1023 = (k : Int) := ⟨(e + (Lib.ctz 64 m : Int) + (Lib.bitLen (od m) : Int) - 1 + 1023).toNat, by omega⟩
  have hk2 : (e + (tz m : Int) + (Lib.bitLen (od m) : Int) + 1022).toNat = k := by unfold tz; omega
  have hk3 : k ≤ 2046 := by unfold tz at h3; omega
  rw [hk2, hk, show (k : Int) * 4503599627370496 = ((k * 4503599627370496 : Nat) : Int) by omega, u64_or_nat _ _ (by omega) (by omega), Nat.or_comm]
  congr 1
  rw [nat_join 52 _ _ (by omega) (by omega), Nat.add_comm]
theorem Make_ok (neg : Bool) (m : Nat) (h0 : 0 < m) (hm : m < 18446744073709551616) (e : Int) (he1 : e ≤ 1023) (he2 : -1137 ≤ e) (hk : mkOk (od m) (e + tz m)) (w : World) (ht : Tabs w) :
    Calls Tryd.prog 24 #[.bool neg, .int .u64 m, .int .i64 e] w fun r w' => r = .returned (.tuple #[.float .f64 (wf neg (mkR (od m) (e + tz m))), .bool true]) ∧ w = w' := by
  have hz : ((m : Int) == 0) = false := by rw [beq_eq_false_iff_ne]; omega
  have g1 : ¬ 1023 < e := by omega
  have g2 : ¬ e < -1137 := by omega
  have hs := shr_tz h0 hm
  have hk' : Lib.ctz 64 m < 64 := (tz_spec h0 hm).2.2
  have hq1 : od m < 18446744073709551616 := Nat.lt_of_le_of_lt od_le hm
  have hb := bl_le hq1
  obtain ⟨k1, k2, k3⟩ := mkOk_bits hk
  unfold tz at k2 k3
  have c1 : ¬ 53 < (Lib.bitLen (od m) : Int) := by omega
  have c2 : ¬ e + (Lib.ctz 64 m : Int) < -1074 := by omega
  have c3 : ¬ 1023 < e + (Lib.ctz 64 m : Int) + (Lib.bitLen (od m) : Int) - 1 := by omega
  have hq0 := od_pos h0 hm
  have hlt := mkR_lt hq0 hq1 hk
  by_cases c4 : -1023 < e + (Lib.ctz 64 m : Int) + (Lib.bitLen (od m) : Int) - 1
  case' pos => have hr := mk_nor hq0 hq1 hk c4
  case' neg => have hr := mk_sub hq1 hk c4
  all_goals
    go_enter Tryd.func24, Tryd.ntmps24
    go_wp2_with (first | (go_at_call 38; refine (Tryd.bits_TrailingZeros64 _ (by omega) _ (fun _ => ht.1)).mono ?_; rintro e w' ⟨rfl, rfl⟩) | (go_at_call 42; refine (Tryd.bits_Len64 _ _ (by omega) (by omega)).mono ?_; rintro e w' ⟨rfl, rfl⟩) | (go_at_call 32; refine (signed_b neg _ (by omega) _).mono ?_; rintro e w' ⟨rfl, rfl⟩))
    go_ret2
    exact ⟨rfl, rfl⟩
end Go.Proofs.YtbmfbmepgcbhfaaDoor
