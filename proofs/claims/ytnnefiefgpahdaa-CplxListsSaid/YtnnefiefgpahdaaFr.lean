/- Plain facts: the nearest word of a number that the format has is its own. No program stands here. -/
import Derived.Test.YtnnefiefgpahdaaFf
namespace Go.Proofs.Ytnnefiefgpahdaa.Ff
open Ieee

theorem cut_exact (s : Bool) (n : Nat) : Toward.even.cut s n 0 = n := by
  unfold Toward.cut
  simp [Nat.mod_one]
theorem nearest_mid (f : Format) (s : Bool) (m : Nat) (p : Int) (h0 : m ≠ 0) (hl : max (p + m.log2 - f.fractionBits) f.leastPlace = p) :
    f.nearest s m p = f.word s (min ((p - f.leastPlace).toNat * f.binade + m) f.infRung) := by
  unfold Format.nearest
  rw [if_neg h0]
  simp only [hl, Int.sub_self, Int.toNat_zero, Nat.shiftLeft_zero, cut_exact]
/-- A finite word, read and written, is itself. -/
theorem write_read (f : Format) (hf : f.binade = 2 ^ f.fractionBits) (x : Nat) (hx : x / f.signWeight < 2) (hfin : x % f.signWeight < f.infRung) : f.write (f.read x) = x := by
  have hbp : 0 < f.binade := by rw [hf]; exact Nat.two_pow_pos _
  have hw : x = f.word (x / f.signWeight % 2 == 1) (x % f.signWeight) := by
    unfold Format.word
    have hd := Nat.div_add_mod x f.signWeight
    by_cases h : x / f.signWeight = 1
    · rw [h]; simp; rw [h] at hd; omega
    · have h0 : x / f.signWeight = 0 := by
        clear hd; generalize x / f.signWeight = q at hx h; omega
      rw [h0] at hd ⊢; simp; rw [Nat.mul_zero] at hd; omega
  unfold Format.read
  simp only
  by_cases h : x % f.signWeight < f.binade
  · rw [if_pos h]
    show f.nearest _ _ _ = x
    by_cases z : x % f.signWeight = 0
    · unfold Format.nearest; rw [if_pos z]; conv => rhs; rw [hw]
      rw [z]
    · have hl : (x % f.signWeight).log2 < f.fractionBits := (Nat.log2_lt z).2 (by rw [← hf]; exact h)
      rw [nearest_mid f _ _ _ z (by omega)]
      conv => rhs; rw [hw]
      congr 1
      rw [Int.sub_self]; simp; omega
  · rw [if_neg h, if_pos hfin]
    show f.nearest _ _ _ = x
    have hm := Nat.mod_lt (x % f.signWeight) hbp
    have z : f.binade + x % f.signWeight % f.binade ≠ 0 := by omega
    have hl1 : (f.binade + x % f.signWeight % f.binade).log2 = f.fractionBits := by
      rw [Nat.log2_eq_iff z, ← hf]
      refine ⟨by omega, ?_⟩
      rw [Nat.pow_succ, ← hf]; omega
    rw [nearest_mid f _ _ _ z (by rw [hl1]; omega)]
    conv => rhs; rw [hw]
    congr 1
    have hd := Nat.div_add_mod (x % f.signWeight) f.binade
    have hq : 1 ≤ x % f.signWeight / f.binade := (Nat.one_le_div_iff hbp).2 (by omega)
    have e : (f.leastPlace + ((x % f.signWeight / f.binade - 1 : Nat) : Int) - f.leastPlace).toNat = x % f.signWeight / f.binade - 1 := by omega
    rw [e]
    have e2 : (x % f.signWeight / f.binade - 1) * f.binade + (f.binade + x % f.signWeight % f.binade) = x % f.signWeight := by
      have : (x % f.signWeight / f.binade - 1) * f.binade + f.binade = x % f.signWeight / f.binade * f.binade := by
        rw [← Nat.succ_mul]; congr 1; omega
      rw [Nat.mul_comm] at hd
      omega
    rw [e2]; omega
theorem log2_shl {m : Nat} (h : m ≠ 0) (k : Nat) : (m <<< k).log2 = m.log2 + k := by
  have hp := Nat.two_pow_pos k
  rw [Nat.shiftLeft_eq, Nat.log2_eq_iff (by intro c; rcases Nat.mul_eq_zero.1 c with c | c <;> omega)]
  have h1 := (Nat.log2_eq_iff h).1 rfl
  refine ⟨?_, ?_⟩
  · rw [Nat.pow_add]; exact Nat.mul_le_mul_right _ h1.1
  · rw [show m.log2 + k + 1 = m.log2 + 1 + k by omega, Nat.pow_add]; exact Nat.mul_lt_mul_of_pos_right h1.2 hp
theorem cut_scale (s : Bool) {n : Nat} (h : n ≠ 0) (d k : Nat) : Toward.even.cut s (n <<< k) (d + k) = Toward.even.cut s n d := by
  have hp := Nat.two_pow_pos k
  unfold Toward.cut
  simp only [log2_shl h]
  rw [show min (d + k) (n.log2 + k + 2) = min d (n.log2 + 2) + k by omega]
  generalize min d (n.log2 + 2) = g
  simp only [Nat.shiftLeft_eq, Nat.one_mul, Nat.pow_add]
  have hg := Nat.two_pow_pos g
  rw [Nat.mul_div_mul_right _ _ hp, Nat.mul_mod_mul_right]
  have e1 : decide (2 ^ g * 2 ^ k < 2 * (n % 2 ^ g * 2 ^ k)) = decide (2 ^ g < 2 * (n % 2 ^ g)) := by
    rw [← Nat.mul_assoc, decide_eq_decide]; exact Nat.mul_lt_mul_right hp
  have e2 : (2 ^ g * 2 ^ k == 2 * (n % 2 ^ g * 2 ^ k)) = (2 ^ g == 2 * (n % 2 ^ g)) := by
    rw [← Nat.mul_assoc, Bool.eq_iff_iff, beq_iff_eq, beq_iff_eq]; exact Nat.mul_left_inj (by omega)
  rw [e1, e2]
/-- The same number by another place. -/
theorem nearest_shift (f : Format) (s : Bool) (m k : Nat) (e : Int) : f.nearest s (m <<< k) (e - k) = f.nearest s m e := by
  by_cases h : m = 0
  · subst h; unfold Format.nearest; rw [if_pos (by simp), if_pos rfl]
  · have h' : m <<< k ≠ 0 := by rw [Nat.shiftLeft_eq]; have := Nat.two_pow_pos k; intro c; rcases Nat.mul_eq_zero.1 c with c | c <;> omega
    unfold Format.nearest
    rw [if_neg h, if_neg h']
    simp only [log2_shl h]
    rw [show e - (k : Int) + ((m.log2 + k : Nat) : Int) - (f.fractionBits : Int) = e + (m.log2 : Int) - (f.fractionBits : Int) by omega]
    generalize max (e + (m.log2 : Int) - (f.fractionBits : Int)) f.leastPlace = last
    have key : Toward.even.cut s (m <<< k <<< (e - k - last).toNat) (last - (e - k)).toNat = Toward.even.cut s (m <<< (e - last).toNat) (last - e).toNat := by
      by_cases c1 : last ≤ e - k
      · rw [show (last - (e - k)).toNat = 0 by omega, show (last - e).toNat = 0 by omega, cut_exact, cut_exact, ← Nat.shiftLeft_add]
        congr 1; omega
      · by_cases c2 : last ≤ e
        · rw [show (e - k - last).toNat = 0 by omega, show (last - e).toNat = 0 by omega, cut_exact, Nat.shiftLeft_zero]
          have e3 : k = (e - last).toNat + (last - (e - k)).toNat := by omega
          have hm : m <<< (e - last).toNat ≠ 0 := by rw [Nat.shiftLeft_eq]; have := Nat.two_pow_pos (e - last).toNat; intro c; rcases Nat.mul_eq_zero.1 c with c | c <;> omega
          have q := cut_scale s hm 0 (last - (e - k)).toNat
          rw [Nat.zero_add, cut_exact, ← Nat.shiftLeft_add, ← e3] at q
          exact q
        · rw [show (e - k - last).toNat = 0 by omega, show (e - last).toNat = 0 by omega, Nat.shiftLeft_zero, Nat.shiftLeft_zero]
          rw [show (last - (e - k)).toNat = (last - e).toNat + k by omega]
          exact cut_scale s h _ k
    rw [key]
theorem shl_bd {m : Nat} (h : m ≠ 0) (hl : m.log2 ≤ 52) : 4503599627370496 ≤ m <<< (52 - m.log2) ∧ m <<< (52 - m.log2) < 9007199254740992 := by
  have h1 := (Nat.log2_eq_iff h).1 rfl
  have hp := Nat.two_pow_pos (52 - m.log2)
  rw [Nat.shiftLeft_eq]
  have e1 : 2 ^ m.log2 * 2 ^ (52 - m.log2) = 4503599627370496 := by rw [← Nat.pow_add, show m.log2 + (52 - m.log2) = 52 by omega]
  have e2 : 2 ^ (m.log2 + 1) * 2 ^ (52 - m.log2) = 9007199254740992 := by rw [← Nat.pow_add, show m.log2 + 1 + (52 - m.log2) = 53 by omega]
  refine ⟨?_, ?_⟩
  · rw [← e1]; exact Nat.mul_le_mul_right _ h1.1
  · rw [← e2]; exact Nat.mul_lt_mul_of_pos_right h1.2 hp
theorem word_rs (s : Bool) {r : Nat} (h : r < 9223372036854775808) : rung (double.word s r) = r ∧ sgn (double.word s r) = s := by
  unfold Format.word rung sgn; rw [sw]
  cases s
  · rw [if_neg (by decide)]; exact ⟨by omega, by rw [beq_eq_false_iff_ne]; omega⟩
  · rw [if_pos rfl]; exact ⟨by omega, by rw [beq_iff_eq]; omega⟩
/-- A number that double has, written and read. -/
theorem double_exact (s : Bool) {m : Nat} {e : Int} (h : m ≠ 0) (hl : m.log2 ≤ 52) (h1 : -1022 ≤ e + m.log2) (h2 : e + m.log2 ≤ 1023) :
    double.read (double.nearest s m e) = .number s (m <<< (52 - m.log2)) (e - ((52 - m.log2 : Nat) : Int)) := by
  obtain ⟨b1, b2⟩ := shl_bd h hl
  have hne : m <<< (52 - m.log2) ≠ 0 := by omega
  have hlog : (m <<< (52 - m.log2)).log2 = 52 := by rw [log2_shl h]; omega
  rw [← nearest_shift double s m (52 - m.log2) e]
  rw [nearest_mid double s _ _ hne (by rw [hlog, lp, show double.fractionBits = 52 from rfl]; omega)]
  rw [lp, bin, infr]
  generalize m <<< (52 - m.log2) = M at *
  obtain ⟨q, hq⟩ : ∃ q : Nat, e - ((52 - m.log2 : Nat) : Int) = -1074 + (q : Int) := ⟨(e - ((52 - m.log2 : Nat) : Int) + 1074).toNat, by omega⟩
  have hq2 : q ≤ 2045 := by omega
  rw [hq, show (-1074 + (q : Int) - -1074).toNat = q by omega]
  have hmin : min (q * 4503599627370496 + M) 9218868437227405312 = q * 4503599627370496 + M := by omega
  rw [hmin]
  obtain ⟨r1, r2⟩ := word_rs s (r := q * 4503599627370496 + M) (by omega)
  rw [read_eq, r1, r2, if_neg (by omega), if_pos (by omega)]
  congr 1
  · omega
  · omega
theorem single_facts : single.signWeight = 2147483648 ∧ single.infRung = 2139095040 ∧ single.binade = 8388608 ∧ single.leastPlace = -149 ∧ single.fractionBits = 23 := by decide
/-- A finite word of single, widened and narrowed. -/
theorem widen_fin {y : Nat} (hy : y < 4294967296) (hf : y % 2147483648 < 2139095040) :
    ∃ s m e, single.read y = .number s m e ∧ ∃ M p, double.read (double.write (.number s m e)) = .number s M p ∧ single.write (.number s M p) = y := by
  obtain ⟨f1, f2, f3, f4, f5⟩ := single_facts
  have hwr := write_read single rfl y (by rw [f1]; omega) (by rw [f1, f2]; exact hf)
  have hread : single.read y = if y % 2147483648 < 8388608 then .number (y / 2147483648 % 2 == 1) (y % 2147483648) (-149)
      else .number (y / 2147483648 % 2 == 1) (8388608 + y % 2147483648 % 8388608) (-149 + ((y % 2147483648 / 8388608 - 1 : Nat) : Int)) := by
    unfold Format.read; rw [f1, f2, f3, f4]; simp only
    by_cases h : y % 2147483648 < 8388608
    · rw [if_pos h, if_pos h]
    · rw [if_neg h, if_neg h, if_pos hf]
  rw [hread] at hwr ⊢
  obtain ⟨s, m, e, hn, hm, he1, he2⟩ : ∃ s m e, (if y % 2147483648 < 8388608 then Datum.number (y / 2147483648 % 2 == 1) (y % 2147483648) (-149)
      else .number (y / 2147483648 % 2 == 1) (8388608 + y % 2147483648 % 8388608) (-149 + ((y % 2147483648 / 8388608 - 1 : Nat) : Int))) = .number s m e ∧ m < 16777216 ∧ -149 ≤ e ∧ e ≤ 106 := by
    by_cases h : y % 2147483648 < 8388608
    · rw [if_pos h]; exact ⟨_, _, _, rfl, by omega, by omega, by omega⟩
    · rw [if_neg h]; exact ⟨_, _, _, rfl, by omega, by omega, by omega⟩
  rw [hn] at hwr ⊢
  refine ⟨s, m, e, rfl, ?_⟩
  by_cases z : m = 0
  · subst z
    refine ⟨0, -1074, ?_, ?_⟩
    · show double.read (double.nearest s 0 e) = _
      unfold Format.nearest; rw [if_pos rfl]
      obtain ⟨r1, r2⟩ := word_rs s (r := 0) (by decide)
      rw [read_eq, r1, r2, if_pos (by decide)]
    · rw [← hwr]; show single.nearest s 0 _ = single.nearest s 0 _
      unfold Format.nearest; rw [if_pos rfl, if_pos rfl]
  · have hlog : m.log2 ≤ 23 := by have := (Nat.log2_lt z (k := 24)).2 (by omega); omega
    refine ⟨_, _, double_exact s z (by omega) (by omega) (by omega), ?_⟩
    rw [← hwr]; exact nearest_shift single s m _ e
end Go.Proofs.Ytnnefiefgpahdaa.Ff
