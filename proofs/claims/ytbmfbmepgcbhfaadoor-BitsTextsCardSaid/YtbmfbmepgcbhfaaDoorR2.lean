/- Plain facts: what is made of a float's parts is the float; what is made has the parts that it was made of. -/
import Derived.Test.YtbmfbmepgcbhfaaDoorR1
set_option linter.unusedSimpArgs false
set_option linter.unusedVariables false
namespace Go.Proofs.YtbmfbmepgcbhfaaDoor
open Go Ff

theorem od_tz_mul {q : Nat} (hq : q % 2 = 1) : ∀ k : Nat, q * 2 ^ k < 18446744073709551616 → od (q * 2 ^ k) = q ∧ tz (q * 2 ^ k) = k
  | 0, h => by rw [Nat.pow_zero, Nat.mul_one]; exact ⟨od_odd hq, tz_odd hq⟩
  | k + 1, h => by
    have e : q * 2 ^ (k + 1) = 2 * (q * 2 ^ k) := by rw [Nat.pow_succ, ← Nat.mul_assoc, Nat.mul_comm]
    rw [e] at h ⊢
    have hp : 0 < q * 2 ^ k := Nat.mul_pos (by omega) (Nat.two_pow_pos k)
    have ih := od_tz_mul hq k (by omega)
    rw [od_even (by omega) h (by omega), tz_even (by omega) h (by omega), show 2 * (q * 2 ^ k) / 2 = q * 2 ^ k by omega]
    exact ⟨ih.1, by rw [ih.2]⟩
theorem bl_mul {q : Nat} (hq : 0 < q) : ∀ k : Nat, q * 2 ^ k < 18446744073709551616 → Lib.bitLen (q * 2 ^ k) = Lib.bitLen q + k
  | 0, h => by rw [Nat.pow_zero, Nat.mul_one]; rfl
  | k + 1, h => by
    have e : q * 2 ^ (k + 1) = 2 * (q * 2 ^ k) := by rw [Nat.pow_succ, ← Nat.mul_assoc, Nat.mul_comm]
    rw [e] at h ⊢
    have hp : 0 < q * 2 ^ k := Nat.mul_pos (by omega) (Nat.two_pow_pos k)
    rw [Lib.bitLen_half _ (by omega) (by omega), show 2 * (q * 2 ^ k) / 2 = q * 2 ^ k by omega, bl_mul hq k (by omega)]; omega
theorem bl_eq {m k : Nat} (h : m < 18446744073709551616) (h1 : m < 2 ^ k) (h2 : 2 ^ k ≤ 2 * m) : Lib.bitLen m = k := by
  have a := (bl_le_iff (k := k) h).2 h1
  apply Nat.le_antisymm a
  apply Nat.le_of_not_lt
  intro c
  obtain ⟨j, rfl⟩ : ∃ j, k = j + 1 := ⟨k - 1, by omega⟩
  have := (bl_le_iff (k := j) h).1 (by omega)
  rw [Nat.pow_succ] at h2; omega

theorem zero_word {x : Nat} (hx : x < 18446744073709551616) (h0 : rung x = 0) : wf (sgn x) 0 = x := by
  cases s : sgn x
  · rw [wf_eq]; have := sgn_rung hx s; simp only [Bool.false_eq_true, if_false]; omega
  · rw [wf_eq, if_pos rfl]; have := sgn_rung' hx s; rw [this, h0]
theorem word_rung {x : Nat} (hx : x < 18446744073709551616) : wf (sgn x) (rung x) = x := by
  cases s : sgn x
  · rw [wf_eq]; have := sgn_rung hx s; simp only [Bool.false_eq_true, if_false]; omega
  · rw [wf_eq, if_pos rfl]; exact (sgn_rung' hx s).symm

/-- What is made of a finite float's parts is the float. -/
theorem mk_parts {x : Nat} (hx : x < 18446744073709551616) (hf : finB x = true) : mkB (partM x) (partE x) = true ∧ mkF (sgn x) (partM x) (partE x) = x := by
  by_cases h0 : rung x = 0
  · have em : partM x = 0 := by unfold partM; rw [if_pos h0]
    rw [em, mkB_zero, mkF_zero]; exact ⟨rfl, zero_word hx h0⟩
  · have hr := (finB_true x).1 hf
    have hp := pm_pos h0
    have hl := pm_lt x
    obtain ⟨t1, t2, t3⟩ := tz_spec hp (by omega)
    have eM := partM_od h0
    have eE := partE_eq h0
    have hq0 : 0 < od (pm x) := by omega
    have e2 : od (partM x) = od (pm x) := by rw [eM, od_odd t2]
    have e3 : tz (partM x) = 0 := by rw [eM, tz_odd t2]
    have hbl : Lib.bitLen (pm x) = Lib.bitLen (od (pm x)) + tz (pm x) := by
      have := bl_mul hq0 (tz (pm x)) (by rw [t1]; omega)
      rw [t1] at this; exact this
    have hct : (Lib.ctz 64 (pm x) : Int) = tz (pm x) := rfl
    have hb := (bl_le_iff (m := pm x) (k := 53) (by omega)).2 hl
    by_cases hn : rung x < 4503599627370496
    · have hb2 := (bl_le_iff (m := pm x) (k := 52) (by omega)).2 (by rw [pm_sub hn]; exact hn)
      have ok : mkOk (od (partM x)) (partE x + tz (partM x)) := by
        rw [e2, e3, eE, hct, pex_sub hn]; unfold mkOk; omega
      rw [mkB_ok ok, mkF_ok (by omega) ok, e2, e3, eE, hct, pex_sub hn, mkR_sub (by omega)]
      have e4 : ((-1074 : Int) + (tz (pm x) : Int) + ((0 : Nat) : Int) + 1074).toNat = tz (pm x) := by omega
      rw [e4, t1, pm_sub hn]
      exact ⟨rfl, word_rung hx⟩
    · have hg : Lib.bitLen (pm x) = 53 := bl_eq (by omega) hl (by rw [pm_nor hn]; omega)
      have ok : mkOk (od (partM x)) (partE x + tz (partM x)) := by
        rw [e2, e3, eE, hct, pex_nor hn]; unfold mkOk; omega
      rw [mkB_ok ok, mkF_ok (by omega) ok, e2, e3, eE, hct, pex_nor hn, mkR_nor (by omega)]
      have e4 : 53 - Lib.bitLen (od (pm x)) = tz (pm x) := by omega
      rw [e4, t1]
      refine ⟨rfl, ?_⟩
      have e6 : pm x = 4503599627370496 + rung x % 4503599627370496 := by rw [pm_nor hn, frac_eq]
      have e5 : pm x - 4503599627370496 + ((-1074 : Int) + ((rung x / 4503599627370496 - 1 : Nat) : Int) + (tz (pm x) : Int) + ((0 : Nat) : Int) + (Lib.bitLen (od (pm x)) : Int) + 1022).toNat * 4503599627370496 = rung x := by
        have : ((-1074 : Int) + ((rung x / 4503599627370496 - 1 : Nat) : Int) + (tz (pm x) : Int) + ((0 : Nat) : Int) + (Lib.bitLen (od (pm x)) : Int) + 1022).toNat = rung x / 4503599627370496 := by omega
        rw [this]; omega
      rw [e5]; exact word_rung hx

theorem wf_rung {neg : Bool} {r : Nat} (h : r < 9223372036854775808) : rung (wf neg r) = r ∧ sgn (wf neg r) = neg := by
  rw [wf_eq]; cases neg
  · simp only [Bool.false_eq_true, if_false]; exact rung_low h
  · rw [if_pos rfl]; exact rung_top h
theorem wf_lt {neg : Bool} {r : Nat} (h : r < 9223372036854775808) : wf neg r < 18446744073709551616 := by
  rw [wf_eq]; cases neg
  · simp only [Bool.false_eq_true, if_false]; omega
  · rw [if_pos rfl, topped_eq]; omega
theorem mkF_lt (neg : Bool) (m : Nat) (hm : m < 18446744073709551616) (e : Int) : mkF neg m e < 18446744073709551616 := by
  by_cases h0 : m = 0
  · subst h0; rw [mkF_zero]; exact wf_lt (by omega)
  · by_cases ok : mkOk (od m) (e + tz m)
    · rw [mkF_ok (by omega) ok]
      have := mkR_lt (od_pos (by omega) hm) (Nat.lt_of_le_of_lt od_le hm) ok
      exact wf_lt (by omega)
    · rw [mkF_no (by omega) ok]; omega

/-- What is made has the parts that it was made of. -/
theorem parts_mk {neg : Bool} {m : Nat} {e : Int} (h0 : 0 < m) (hm : m < 18446744073709551616) (ok : mkOk (od m) (e + tz m)) :
    finB (mkF neg m e) = true ∧ sgn (mkF neg m e) = neg ∧ rung (mkF neg m e) ≠ 0 ∧ partM (mkF neg m e) = od m ∧ partE (mkF neg m e) = e + tz m := by
  have hq0 := od_pos h0 hm
  have hq1 : od m < 18446744073709551616 := Nat.lt_of_le_of_lt od_le hm
  have hodd := (tz_spec h0 hm).2.1
  have hlt := mkR_lt hq0 hq1 ok
  obtain ⟨w1, w2⟩ := wf_rung (neg := neg) (r := mkR (od m) (e + tz m)) (by omega)
  rw [mkF_ok h0 ok]
  generalize wf neg (mkR (od m) (e + tz m)) = y at w1 w2
  have hfin : finB y = true := by rw [finB_true, w1]; exact hlt
  obtain ⟨k1, k2, k3⟩ := mkOk_bits ok
  generalize hE : e + (tz m : Int) = E at *
  by_cases c : E + Lib.bitLen (od m) > -1022
  · have n := nor_small hq0 hq1 ok
    rw [mkR_nor c] at w1
    have hz := od_tz_mul hodd (53 - Lib.bitLen (od m)) (by omega)
    generalize od m * 2 ^ (53 - Lib.bitLen (od m)) = z at *
    have hn : ¬ rung y < 4503599627370496 := by rw [w1]; omega
    have hpm : pm y = z := by rw [pm_nor hn, frac_eq, w1]; omega
    have h0' : rung y ≠ 0 := by omega
    refine ⟨hfin, w2, h0', ?_, ?_⟩
    · rw [partM_od h0', hpm, hz.1]
    · rw [partE_eq h0', show (Lib.ctz 64 (pm y) : Int) = tz (pm y) from rfl, hpm, hz.2, pex_nor hn, w1]; omega
  · have n := sub_small hq1 ok c
    rw [mkR_sub c] at w1
    have hz := od_tz_mul hodd (E + 1074).toNat (by omega)
    have hpos : 0 < od m * 2 ^ (E + 1074).toNat := Nat.mul_pos hq0 (Nat.two_pow_pos _)
    generalize od m * 2 ^ (E + 1074).toNat = z at *
    have hn : rung y < 4503599627370496 := by rw [w1]; exact n
    have hpm : pm y = z := by rw [pm_sub hn, w1]
    have h0' : rung y ≠ 0 := by omega
    refine ⟨hfin, w2, h0', ?_, ?_⟩
    · rw [partM_od h0', hpm, hz.1]
    · rw [partE_eq h0', show (Lib.ctz 64 (pm y) : Int) = tz (pm y) from rfl, hpm, hz.2, pex_sub hn]; omega
end Go.Proofs.YtbmfbmepgcbhfaaDoor
