/- Texts put together: N33 N37 N38 N39 N40 N41of N43. -/
import Derived.Test.YtjkonfopajihdaaDoorZb
import Derived.Test.YtjkonfopajihdaaDoorZa
set_option linter.unusedSimpArgs false
set_option linter.unusedVariables false
namespace Go.Proofs.YtjkonfopajihdaaDoor
open Go Go.RowKit Nt

theorem nd_mul_pow {a j : Nat} (ha : a ≠ 0) : nd 2 (a * 2 ^ j) = nd 2 a + j := by
  obtain ⟨m, hm⟩ : ∃ m, nd 2 a = m + 1 := ⟨nd 2 a - 1, by
    rcases Nat.eq_zero_or_pos (nd 2 a) with h | h
    · exact absurd ((nd_eq_zero (by omega)).1 h) ha
    · omega⟩
  have h1 := lt_nd (b := 2) (n := a) (by omega)
  have h2 := (pow_le_iff (b := 2) (by omega) m a).2 (by omega)
  rw [hm] at h1
  rw [hm, show m + 1 + j = m + j + 1 by omega]
  refine nd_unique (by omega) ?_ ?_
  · rw [Nat.pow_add]; exact Nat.mul_le_mul_right _ h2
  · rw [show m + j + 1 = m + 1 + j by omega, Nat.pow_add]; exact (Nat.mul_lt_mul_right (Nat.two_pow_pos j)).2 h1
theorem fits_shift {a j : Nat} (ha : a ≠ 0) : fits (a * 2 ^ j) ↔ nd 2 a + j ≤ 131072 := by
  unfold fits
  rw [← bits_le, nd_mul_pow ha]
set_option maxRecDepth 100000 in
theorem NShift_no (s : ByteArray) (k : Int) (w : World) (h : ¬ May s) :
    Calls Tryd.prog 65 #[.string s, .int .i64 k] w (StrPost ⟨#[]⟩ 2 w) := by
  have H := Lib.hid h
  clear h
  go_enter Tryd.func65, Tryd.ntmps65
  go_wp2_with (go_at_call 58; refine (NLen_no _ _ H.out).mono ?_; rintro e w1 ⟨rfl, hb⟩)
  go_ret2
  exact ⟨rfl, hb⟩
set_option maxRecDepth 100000 in
theorem NShift_zero (k : Int) (w : World) :
    Calls Tryd.prog 65 #[.string (natS 0), .int .i64 k] w (StrPost (natS 0) 0 w) := by
  have hf : fits 0 := by unfold fits; rw [nd_zero]; omega
  have hE := natS_empty (n := 0) rfl
  go_enter Tryd.func65, Tryd.ntmps65
  go_wp2_with (go_at_call 58; refine (NLen_c _ _ hf).mono ?_; rintro e w1 ⟨rfl, hb⟩)
  go_ret2
  exact ⟨rfl, hb⟩
set_option maxRecDepth 100000 in
theorem NShift_stay (a : Nat) (w : World) (hf : fits a) (ha : a ≠ 0) :
    Calls Tryd.prog 65 #[.string (natS a), .int .i64 0] w (StrPost (natS a) 0 w) := by
  have hE := natS_full ha
  have hE2 := natS_full2 ha
  go_enter Tryd.func65, Tryd.ntmps65
  go_wp2_with (go_at_call 58; refine (NLen_c _ _ hf).mono ?_; rintro e w1 ⟨rfl, hb⟩)
  go_ret2
  exact ⟨rfl, hb⟩
theorem bits_131072 {a : Nat} (hf : fits a) : nd 2 a ≤ 131072 := (bits_le a 16384).2 hf
set_option maxRecDepth 100000 in
theorem NShift_far (a : Nat) (k : Int) (w : World) (hf : fits a) (ha : a ≠ 0) (hk : k < 0) (hk2 : k ≤ -(nd 2 a : Int)) :
    Calls Tryd.prog 65 #[.string (natS a), .int .i64 k] w (StrPost ⟨#[]⟩ 0 w) := by
  have hE := natS_full ha
  have hE2 := natS_full2 ha
  have hz : (k == 0) = false := by rw [beq_eq_false_iff_ne]; omega
  have hl := bits_131072 hf
  have hw : wrap64 (-(nd 2 a : Int)) = -(nd 2 a : Int) := IntWalk.wrap64_in _ (by omega)
  go_enter Tryd.func65, Tryd.ntmps65
  go_wp2_with (go_at_call 58; refine (NLen_c _ _ hf).mono ?_; rintro e w1 ⟨rfl, hb⟩)
  go_ret2
  exact ⟨rfl, hb⟩
set_option maxRecDepth 100000 in
set_option maxHeartbeats 1000000 in
theorem NShift_down (a j : Nat) (w : World) (hf : fits a) (ha : a ≠ 0) (hj : 0 < j) (hj2 : j < nd 2 a) :
    Calls Tryd.prog 65 #[.string (natS a), .int .i64 (-(j : Int))] w (StrPost (natS (a / 2 ^ j)) 0 w) := by
  have hE := natS_full ha
  have hE2 := natS_full2 ha
  have hl := bits_131072 hf
  obtain ⟨z, hz⟩ : ∃ z : Int, z = -(j : Int) := ⟨_, rfl⟩
  have z1 : (z == 0) = false := by rw [beq_eq_false_iff_ne]; omega
  have z2 : z < 0 := by omega
  have z3 : ¬ z ≤ -(nd 2 a : Int) := by omega
  have hw : wrap64 (-(nd 2 a : Int)) = -(nd 2 a : Int) := IntWalk.wrap64_in _ (by omega)
  have hw2 : wrap64 (-z) = (j : Int) := by rw [IntWalk.wrap64_in _ (by omega)]; omega
  have hfd := fits_le hf (Nat.div_le_self a (2 ^ j))
  have R1 := Lib.hid (resS_ok hfd)
  have R2 := Lib.hid (resE_ok hfd)
  have hwa := Lib.hid (fits_words hf)
  have hwd := Lib.hid (fits_words hfd)
  have HJ := Lib.hid (show j ≤ 1000000000000 by omega)
  rw [← hz]
  clear hz hj hj2 hl ha hfd
  go_enter Tryd.func65, Tryd.ntmps65
  go_upto_region 9 with (go_at_call 58; refine (NLen_c _ _ hf).mono ?_; rintro e w1 ⟨rfl, hb1⟩)
  go_wp2_with fail
  refine (words_c a _ hf).mono ?_
  intro e w2 hp
  obtain ⟨A1, c1, rfl, hc1, hr1, hb2⟩ := hp.get
  have HR1 := Lib.hid hr1
  clear hr1 hp
  go_wp2_with fail
  refine (Shr_c A1 c1 a j w2.heap.size w2 HJ.out (by have := hwa.out; omega) HR1.out (Nat.le_refl _)).mono ?_
  intro e w3 hp
  obtain ⟨A2, c2, rfl, hc2, hr2, hb3⟩ := hp.get
  have HR2 := Lib.hid hr2
  clear hr2 hp
  go_wp2_with fail
  refine (made_c A2 c2 (a / 2 ^ j) w3.heap.size w3 (by have := hwd.out; omega) HR2.out (Nat.le_refl _)).mono ?_
  rintro e w4 ⟨rfl, hb4⟩
  go_wp2_with fail
  go_ret2
  exact ⟨by rw [R1.out, R2.out]; rfl, below_chain hb1 (below_chain hb2 (below_chain hb3 hb4))⟩
@[irreducible] def overB (k : Nat) (l : Nat) : Bool := decide ((131072 : Int) - (l : Int) < (k : Int))
set_option maxRecDepth 100000 in
set_option maxHeartbeats 1000000 in
theorem NShift_long (a j : Nat) (w : World) (hf : fits a) (ha : a ≠ 0) (hj : 0 < j) (hj2 : ¬ fits (a * 2 ^ j)) (hjm : j ≤ 9223372036854775807) :
    Calls Tryd.prog 65 #[.string (natS a), .int .i64 (j : Nat)] w (StrPost ⟨#[]⟩ 4 w) := by
  have hE := natS_full ha
  have hE2 := natS_full2 ha
  have hl := bits_131072 hf
  rw [fits_shift ha] at hj2
  have z1 : ((j : Int) == 0) = false := by rw [beq_eq_false_iff_ne]; omega
  have z2 : ¬ (j : Int) < 0 := by omega
  have hw : wrap64 (131072 - (nd 2 a : Int)) = 131072 - (nd 2 a : Int) := IntWalk.wrap64_in _ (by omega)
  have hT : decide ((131072 : Int) - (nd 2 a : Int) < (j : Int)) = true := decide_eq_true (by omega)
  have hT2 : (131072 : Int) - (nd 2 a : Int) < (j : Int) := by omega
  clear hj2
  go_enter Tryd.func65, Tryd.ntmps65
  go_wp2_with (go_at_call 58; refine (NLen_c _ _ hf).mono ?_; rintro e w1 ⟨rfl, hb1⟩)
  go_ret2
  exact ⟨rfl, hb1⟩
set_option maxRecDepth 100000 in
set_option maxHeartbeats 1000000 in
theorem NShift_up (a j : Nat) (w : World) (hf : fits a) (ha : a ≠ 0) (hj : 0 < j) (hj2 : fits (a * 2 ^ j)) :
    Calls Tryd.prog 65 #[.string (natS a), .int .i64 (j : Nat)] w (StrPost (natS (a * 2 ^ j)) 0 w) := by
  have hE := natS_full ha
  have hE2 := natS_full2 ha
  have hl := bits_131072 hf
  have R1 := Lib.hid (resS_ok hj2)
  have R2 := Lib.hid (resE_ok hj2)
  have hwm := Lib.hid (fits_words hj2)
  have hwa := Lib.hid (fits_words hf)
  rw [fits_shift ha] at hj2
  have hj3 : j ≤ 131072 := by omega
  have z1 : ((j : Int) == 0) = false := by rw [beq_eq_false_iff_ne]; omega
  have z2 : ¬ (j : Int) < 0 := by omega
  have hw : wrap64 (131072 - (nd 2 a : Int)) = 131072 - (nd 2 a : Int) := IntWalk.wrap64_in _ (by omega)
  have hT2 : ¬ (131072 : Int) - (nd 2 a : Int) < (j : Int) := by omega
  have HJ := Lib.hid (show nd W a + j / 64 ≤ 1000000000 by have := hwa.out; omega)
  clear hj2 hj3
  go_enter Tryd.func65, Tryd.ntmps65
  go_upto_region 12 with (go_at_call 58; refine (NLen_c _ _ hf).mono ?_; rintro e w1 ⟨rfl, hb1⟩)
  go_wp2_with fail
  refine (words_c a _ hf).mono ?_
  intro e w2 hp
  obtain ⟨A1, c1, rfl, hc1, hr1, hb2⟩ := hp.get
  have HR1 := Lib.hid hr1
  clear hr1 hp
  go_wp2_with fail
  refine (Shl_c A1 c1 a j w2.heap.size w2 HJ.out HR1.out (Nat.le_refl _)).mono ?_
  intro e w3 hp
  obtain ⟨A2, c2, rfl, hc2, hr2, hb3⟩ := hp.get
  have HR2 := Lib.hid hr2
  clear hr2 hp
  go_wp2_with fail
  refine (made_c A2 c2 (a * 2 ^ j) w3.heap.size w3 (by have := hwm.out; omega) HR2.out (Nat.le_refl _)).mono ?_
  rintro e w4 ⟨rfl, hb4⟩
  go_wp2_with fail
  go_ret2
  exact ⟨by rw [R1.out, R2.out]; rfl, below_chain hb1 (below_chain hb2 (below_chain hb3 hb4))⟩
end Go.Proofs.YtjkonfopajihdaaDoor
set_option linter.unusedSimpArgs false
set_option linter.unusedVariables false
namespace Go.Proofs.YtjkonfopajihdaaDoor
open Go Go.RowKit Nt

theorem byte_bit (n q r : Nat) (hr : r < 8) : dgt 256 n q / 2 ^ r % 2 = dgt 2 n (8 * q + r) := by
  have := dgt_in (b := 2) (e := 8) (by omega) n q r hr
  rw [show (2 : Nat) ^ 8 = 256 from rfl, dgt_def 2 (dgt 256 n q)] at this
  exact this
theorem and_one_u8 (q : Nat) (hq : q < 256) : bits BinOp.and IntKind.u8 (q : Int) 1 = ((q % 2 : Nat) : Int) := by
  have h1 : (BitVec.ofInt 8 (q : Int)).toNat = q := by
    rw [BitVec.ofInt_natCast, BitVec.toNat_ofNat]; exact Nat.mod_eq_of_lt (by omega)
  have h2 : (BitVec.ofInt 8 (1 : Int)).toNat = 1 := by decide
  show IntKind.u8.wrap ((BitVec.ofInt 8 (q : Int) &&& BitVec.ofInt 8 (1 : Int)).toNat : Int) = _
  rw [BitVec.toNat_and, h1, h2, Nat.and_one_is_mod, wrap_u8]
  omega
/-- The bits of a number. -/
def BitPost (b : Nat) (r : Int) (w : World) (e : Ending) (w' : World) : Prop := e = .returned (.tuple #[.int .u8 (b : Nat), .int .i64 r]) ∧ Below w.heap.size w w'
theorem bit_above {n i : Nat} (h : ¬ i / 8 < nd 256 n) : dgt 2 n i = 0 := by
  refine dgt_big (by omega) ?_
  have := bytes_bits n
  omega
set_option maxRecDepth 100000 in
theorem NBit_no (s : ByteArray) (i : Int) (w : World) (h : ¬ May s) :
    Calls Tryd.prog 130 #[.string s, .int .i64 i] w (BitPost 0 2 w) := by
  have hm := may1_no h
  go_enter Tryd.func130, Tryd.ntmps130
  go_wp2_with (go_at_call 59; refine (Check_c _ _).mono ?_; rintro e w1 ⟨rfl, hb⟩)
  go_ret2
  exact ⟨rfl, hb⟩
set_option maxRecDepth 100000 in
theorem NBit_neg (n : Nat) (i : Int) (w : World) (hf : fits n) (hi : i < 0) :
    Calls Tryd.prog 130 #[.string (natS n), .int .i64 i] w (BitPost 0 2 w) := by
  have hm := may1 hf
  go_enter Tryd.func130, Tryd.ntmps130
  go_wp2_with (go_at_call 59; refine (Check_c _ _).mono ?_; rintro e w1 ⟨rfl, hb⟩)
  go_ret2
  exact ⟨rfl, hb⟩
set_option maxRecDepth 100000 in
theorem NBit_c (n i : Nat) (w : World) (hf : fits n) (hi : i ≤ 9223372036854775807) :
    Calls Tryd.prog 130 #[.string (natS n), .int .i64 (i : Nat)] w (BitPost (dgt 2 n i) 0 w) := by
  have hm := may1 hf
  have hsz := natS_size n
  have hL : nd 256 n ≤ 16384 := hf
  have hi0 : ¬ (i : Int) < 0 := by omega
  by_cases hq : i / 8 < nd 256 n
  · obtain ⟨x, hx⟩ : ∃ x, nd 256 n = x + 1 + i / 8 := ⟨nd 256 n - 1 - i / 8, by omega⟩
    have hxs : x < (natS n).size := by omega
    have hg := natS_get n x hxs
    rw [show nd 256 n - 1 - x = i / 8 by omega] at hg
    have hbb := byte_bit n (i / 8) (i % 8) (by omega)
    rw [show 8 * (i / 8) + i % 8 = i by omega, ← hg] at hbb
    have hb8 := (natS n)[x].toNat_lt
    have HB := Lib.hid hbb
    obtain ⟨v, hv⟩ : ∃ v, v = (natS n)[x].toNat / 2 ^ (i % 8) := ⟨_, rfl⟩
    have hv2 : v < 256 := by rw [hv]; exact Nat.lt_of_le_of_lt (Nat.div_le_self _ _) hb8
    have hvI : ((natS n)[x].toNat : Int) / 2 ^ (i % 8) = (v : Int) := by rw [hv, int_pow2, Int.natCast_ediv]
    have hand := and_one_u8 v hv2
    rw [hv, hbb] at hand
    rw [← hv] at hand
    obtain ⟨q, hq1⟩ : ∃ q, i / 8 = q := ⟨_, rfl⟩
    obtain ⟨r, hr1⟩ : ∃ r, i % 8 = r := ⟨_, rfl⟩
    rw [hq1] at hx hq
    rw [hr1] at hvI
    have hqI : (i : Int) / 8 = (q : Int) := by omega
    have hrI : (i : Int) % 8 = (r : Int) := by omega
    have hr8 : r < 8 := by omega
    have hxI : (nd 256 n : Int) - 1 - (q : Int) = (x : Int) := by omega
    have hqL : ¬ (nd 256 n : Int) ≤ (q : Int) := by omega
    clear hv hbb hg hq1 hr1 hx hf
    go_enter Tryd.func130, Tryd.ntmps130
    go_wp2_with (go_at_call 59; refine (Check_c _ _).mono ?_; rintro e w1 ⟨rfl, hb⟩)
    go_ret2
    exact ⟨rfl, hb⟩
  · have HZ := Lib.hid (bit_above hq)
    have hqI : (nd 256 n : Int) ≤ (i : Int) / 8 := by omega
    go_enter Tryd.func130, Tryd.ntmps130
    go_wp2_with (go_at_call 59; refine (Check_c _ _).mono ?_; rintro e w1 ⟨rfl, hb⟩)
    go_ret2
    exact ⟨by rw [HZ.out]; rfl, hb⟩
end Go.Proofs.YtjkonfopajihdaaDoor
set_option linter.unusedSimpArgs false
set_option linter.unusedVariables false
namespace Go.Proofs.YtjkonfopajihdaaDoor
open Go Go.RowKit Nt

theorem tz8_spec : ∀ n : Fin 256, n.val ≠ 0 → Lib.trailingZeros8 n.val < 8 ∧ n.val / 2 ^ Lib.trailingZeros8 n.val % 2 = 1 ∧ ∀ j : Fin 8, j.val < Lib.trailingZeros8 n.val → n.val / 2 ^ j.val % 2 = 0 := by decide +kernel
/-- The place of the lowest bit that is one. -/
def IsLow (n l : Nat) : Prop := (n = 0 → l = 0) ∧ (n ≠ 0 → dgt 2 n l = 1 ∧ ∀ j, j < l → dgt 2 n j = 0)
theorem low_lt {n l : Nat} (h0 : n ≠ 0) (h : IsLow n l) : l < nd 2 n := by
  rcases Nat.lt_or_ge l (nd 2 n) with h1 | h1
  · exact h1
  · have := dgt_big (b := 2) (by omega) h1; have := (h.2 h0).1; omega
theorem low_unique {n k l : Nat} (hk : IsLow n k) (hl : IsLow n l) : k = l := by
  by_cases h0 : n = 0
  · rw [hk.1 h0, hl.1 h0]
  · obtain ⟨k1, k2⟩ := hk.2 h0
    obtain ⟨l1, l2⟩ := hl.2 h0
    rcases Nat.lt_trichotomy k l with h | h | h
    · have := l2 k h; omega
    · exact h
    · have := k2 l h; omega
theorem first_one (n : Nat) : ∀ m, (∃ l, l < m ∧ dgt 2 n l = 1 ∧ ∀ j, j < l → dgt 2 n j = 0) ∨ ∀ j, j < m → dgt 2 n j = 0 := by
  intro m
  induction m with
  | zero => exact Or.inr fun j h => by omega
  | succ m ih =>
    rcases ih with ⟨l, h1, h2, h3⟩ | h
    · exact Or.inl ⟨l, by omega, h2, h3⟩
    · have hl := dgt_lt (b := 2) (by omega) n m
      by_cases hm : dgt 2 n m = 0
      · refine Or.inr fun j hj => ?_
        by_cases c : j = m
        · rw [c]; exact hm
        · exact h j (by omega)
      · exact Or.inl ⟨m, by omega, by omega, h⟩
theorem low_ex (n : Nat) : ∃ l, IsLow n l := by
  by_cases h0 : n = 0
  · exact ⟨0, fun _ => rfl, fun c => absurd h0 c⟩
  · rcases first_one n (nd 2 n) with ⟨l, _, h2, h3⟩ | h
    · exact ⟨l, fun c => absurd c h0, fun _ => ⟨h2, h3⟩⟩
    · have h1 := dgt_top (b := 2) (by omega) h0
      have h2 : 0 < nd 2 n := by
        rcases Nat.eq_zero_or_pos (nd 2 n) with c | c
        · exact absurd ((nd_eq_zero (by omega)).1 c) h0
        · exact c
      exact absurd (h (nd 2 n - 1) (by omega)) h1
theorem low_byte {n q : Nat} (hz : ∀ j, j < q → dgt 256 n j = 0) (hb : dgt 256 n q ≠ 0) : IsLow n (8 * q + Lib.trailingZeros8 (dgt 256 n q)) := by
  have hlt := dgt_lt (b := 256) (by omega) n q
  obtain ⟨t1, t2, t3⟩ := tz8_spec ⟨dgt 256 n q, hlt⟩ hb
  simp only at t1 t2 t3
  have h0 : n ≠ 0 := fun c => hb (by rw [c, dgt_def, Nat.zero_div])
  refine ⟨fun c => absurd c h0, fun _ => ⟨?_, fun j hj => ?_⟩⟩
  · rw [← byte_bit n q _ t1]; exact t2
  · by_cases h : j / 8 < q
    · have e := byte_bit n (j / 8) (j % 8) (by omega)
      rw [show 8 * (j / 8) + j % 8 = j by omega, hz _ h, Nat.zero_div] at e
      exact e.symm
    · have hq : j / 8 = q := by omega
      have e := byte_bit n q (j % 8) (by omega)
      rw [show 8 * q + j % 8 = j by omega] at e
      rw [← e]
      exact t3 ⟨j % 8, by omega⟩ (by show j % 8 < _; omega)
set_option maxRecDepth 100000 in
theorem NLow_no (s : ByteArray) (w : World) (h : ¬ May s) :
    Calls Tryd.prog 64 #[.string s] w (IntPost 0 2 w) := by
  have hm := may1_no h
  go_enter Tryd.func64, Tryd.ntmps64
  go_wp2_with (go_at_call 59; refine (Check_c _ _).mono ?_; rintro e w1 ⟨rfl, hb⟩)
  go_ret2
  exact ⟨rfl, hb⟩
set_option maxRecDepth 100000 in
theorem NLow_c (n l : Nat) (w : World) (hf : fits n) (hl : IsLow n l) :
    Calls Tryd.prog 64 #[.string (natS n)] w (IntPost (l : Nat) 0 w) := by
  have hm := may1 hf
  have hsz := natS_size n
  have hL : nd 256 n ≤ 16384 := hf
  obtain ⟨N, hN⟩ : ∃ N, N = nd 256 n := ⟨_, rfl⟩
  have hg := fun k (h : k < (natS n).size) => natS_get n k h
  rw [← hN] at hsz hL hg
  have HG := Lib.hid hg
  have HN := Lib.hid hN
  have HL := Lib.hid hl
  clear hN hg hl hf
  go_enter Tryd.func64, Tryd.ntmps64
  go_wp2_with (go_at_call 59; refine (Check_c _ _).mono ?_; rintro e w1 ⟨rfl, hb⟩)
  go_loopw [5] (fun i wr => ∃ (k : Nat) (z : Int), k ≤ N ∧ i = .int .i64 z ∧ Hid (z = (k : Int) - 1) ∧ Hid (∀ j, j < N - k → dgt 256 n j = 0) ∧ Below w.heap.size w wr) (fun i _ => (intOf i + 1).toNat)
  case atStart => exact ⟨N, _, Nat.le_refl _, rfl, Lib.hid (by first | rfl | omega | go_num), Lib.hid (fun j h => by omega), hb⟩
  case round =>
    obtain ⟨k, z, hk, rfl, hz, hj, hbw⟩ := hrel
    by_cases h0 : k = 0
    · subst h0
      obtain rfl : z = -1 := by have := hz.out; omega
      have HZ := Lib.hid (show l = 0 by
        refine HL.out.1 ((nd_eq_zero (b := 256) (by omega)).1 ?_)
        rcases Nat.eq_zero_or_pos (nd 256 n) with c | c
        · exact c
        · have h1 := dgt_top (b := 256) (n := n) (by omega) (fun d => by rw [d, nd_zero] at c; omega)
          exact absurd (hj.out (nd 256 n - 1) (by have := HN.out; omega)) h1)
      go_wp2
      go_ret2
      exact ⟨by rw [HZ.out]; rfl, hbw⟩
    · obtain ⟨m, rfl⟩ : ∃ m, k = m + 1 := ⟨k - 1, by omega⟩
      obtain rfl : z = (m : Int) := by have := hz.out; omega
      have hms : m < (natS n).size := by omega
      have e := HG.out m hms
      have hlt := (natS n)[m].toNat_lt
      have hw : wrap64 ((m : Int) - 1) = (m : Int) - 1 := IntWalk.wrap64_in _ (by omega)
      by_cases h1 : (natS n)[m].toNat = 0
      · have h1' := nne_false h1
        have HJ := Lib.hid (show ∀ j, j < N - m → dgt 256 n j = 0 from fun j hj2 => by
          by_cases c : j = N - 1 - m
          · rw [c, ← e]; exact h1
          · exact hj.out j (by omega))
        clear h1 e
        go_wp2
        go_roundw
        case rel => exact ⟨m, _, by omega, rfl, Lib.hid rfl, HJ, hbw⟩
        case measure => simp [intOf]; try omega
      · have h1' := nne_true h1
        have hlo := low_byte (n := n) (q := N - 1 - m) (fun j h => hj.out j (by omega)) (by rw [← e]; exact h1)
        rw [← e] at hlo
        obtain ⟨t, ht⟩ : ∃ t, t = Lib.trailingZeros8 (natS n)[m].toNat := ⟨_, rfl⟩
        have ht8 : t ≤ 8 := by rw [ht]; exact Lib.trailingZeros8_le8 ⟨(natS n)[m].toNat, hlt⟩
        have ht2 : ∀ w, Calls Tryd.prog 99 #[.int .u8 ((natS n)[m].toNat : Nat)] w fun e w' => e = .returned (.int .i64 (t : Nat)) ∧ w = w' := fun w => by
          refine (Tryd.bits_TrailingZeros8 _ _ (by omega) (by omega)).mono ?_
          rintro e w' ⟨rfl, rfl⟩
          exact ⟨by rw [Int.toNat_natCast, ← ht], rfl⟩
        rw [← ht] at hlo
        have hfin := low_unique HL.out hlo
        obtain ⟨q, hq⟩ : ∃ q, q = N - 1 - m := ⟨_, rfl⟩
        rw [← hq] at hfin
        have hqI : (N : Int) - 1 - (m : Int) = (q : Int) := by omega
        have HF := Lib.hid hfin
        have K := Lib.hid ht2
        have hqN : q ≤ 16384 := by omega
        clear h1 e hlo ht ht2 hfin hq
        go_wp2_with (go_at_call 99; refine (K.out _).mono ?_; rintro e w' ⟨rfl, rfl⟩)
        go_ret2
        exact ⟨by rw [HF.out]; congr 1, hbw⟩
end Go.Proofs.YtjkonfopajihdaaDoor
set_option linter.unusedSimpArgs false
set_option linter.unusedVariables false
namespace Go.Proofs.YtjkonfopajihdaaDoor
open Go Go.RowKit Nt

def madeF (n Z i j : Nat) : Nat := if n - i ≤ j then dgt 256 Z (n - 1 - j) else 0
theorem madeF_step {n Z i x j : Nat} (h : n = i + 1 + x) (hj : j < n) : (if j = x then dgt 256 Z i else madeF n Z i j) = madeF n Z (i + 1) j := by
  unfold madeF
  by_cases h1 : j = x
  · rw [if_pos h1, if_pos (by omega), show n - 1 - j = i by omega]
  · rw [if_neg h1]
    by_cases h2 : n - i ≤ j
    · rw [if_pos h2, if_pos (by omega)]
    · rw [if_neg h2, if_neg (by omega)]
theorem digit_of {l : List Nat} (hl : ∀ x ∈ l, x < 256) {j : Nat} (h : j < l.length) : dgt 256 (of 256 l) j = l[j] := dgt_of (by omega) l hl j h
set_option maxRecDepth 100000 in
set_option maxHeartbeats 1000000 in
theorem rMade_c (B : Nat) (v : Value) (l : List Nat) (w : World) (hl : ∀ x ∈ l, x < 256) (hn : l.length ≤ 1000000000) (hown : Own w B 3 .i64 v l) :
    Calls Tryd.prog 98 #[v] w fun e w' => e = .returned (.string (natS (of 256 l))) ∧ Below w.heap.size w w' := by
  obtain ⟨i0, hi0, hz0, hz1, hz2⟩ := info_parts (P := Tryd.prog) (e := 5) (z := .int .u8 0) (size := 1) (bytes := 1) (by kernel_rfl)
  obtain ⟨A, c, rfl, hc⟩ := hown.len
  obtain ⟨Z, hZ⟩ : ∃ Z, Z = of 256 l := ⟨_, rfl⟩
  obtain ⟨L, hL⟩ : ∃ L, L = l.length := ⟨_, rfl⟩
  have hdl := of_lt (b := 256) (by omega) l hl
  have hcell : ∀ j, j < L → ∃ ga, A = some ⟨ga, 0, none⟩ ∧ ga < w.heap.size ∧ w.cell? ⟨ga, j, none⟩ = some (.int .i64 (dgt 256 Z j : Nat)) := fun j hj => by
    obtain ⟨g, cap, e, _, hg, hcl, _⟩ := hown.cell (by rw [← hL]; exact hj)
    cases e
    exact ⟨g, rfl, hg, by rw [hcl, hZ, digit_of hl]⟩
  rw [← hZ] at hdl ⊢
  rw [← hL] at hn hc hdl ⊢
  have hnd : nd 256 Z ≤ L := nd_le (by omega) hdl
  have HC := Lib.hid hcell
  clear hcell hZ hL hown hl hdl hc
  go_enter Tryd.func98, Tryd.ntmps98
  go_wp2
  go_loopw [3] (fun i wr => ∃ k : Nat, k ≤ L ∧ i = .int .i64 k ∧ Hid (nd 256 Z ≤ k) ∧ w = wr) (fun i _ => (intOf i).toNat)
  case atStart => exact ⟨L, Nat.le_refl _, rfl, Lib.hid hnd, rfl⟩
  case round =>
    obtain ⟨k, hk, rfl, hle, rfl⟩ := hrel
    by_cases hstop : nd 256 Z = k
    · have HS := Lib.hid hstop
      clear hstop hle
      have hcond : k = 0 ∨ ∃ m ga, k = m + 1 ∧ A = some ⟨ga, 0, none⟩ ∧ w.cell? ⟨ga, k - 1, none⟩ = some (.int .i64 (dgt 256 Z m : Nat)) ∧ dgt 256 Z m ≠ 0 := by
        rcases Nat.eq_zero_or_pos k with h | h
        · exact Or.inl h
        · obtain ⟨m, rfl⟩ : ∃ m, k = m + 1 := ⟨k - 1, by omega⟩
          obtain ⟨ga, h1, _, h2⟩ := HC.out m (by omega)
          have h3 := dgt_top (b := 256) (n := Z) (by omega) (fun c => by have := HS.out; rw [c, nd_zero] at this; omega)
          rw [HS.out, Nat.add_sub_cancel] at h3
          exact Or.inr ⟨m, ga, rfl, h1, h2, h3⟩
      rcases hcond with h0 | ⟨m, ga, hm, rfl, hcl, hnz⟩
      case' inr =>
        have hz1' : ((dgt 256 Z m : Nat) : Int) ≠ 0 := by omega
        have hz2' : (((dgt 256 Z m : Nat) : Int) == 0) = false := by rw [beq_eq_false_iff_ne]; exact hz1'
        have hw : wrap64 ((k : Int) - 1) = (m : Int) := by rw [IntWalk.wrap64_in _ (by omega)]; omega
        have hk0 : (0 : Int) < (k : Int) := by omega
        have HM := Lib.hid hm
        clear hm
      case' inl =>
        have hk0 : ¬ (0 : Int) < (k : Int) := by omega
        have HM := Lib.hid h0
        clear h0
      all_goals
        go_wp2_with (at_make; go_loud (refine wpList_make_zero _ rfl _ _ _ rfl 5 i0 _ Tryd.underlying114 hi0 hz0 hz1 .i64 .i64 _ _ k rfl rfl rfl rfl (by rw [hz2]; omega) (by unfold maxLen; omega) ?_))
        rw [fcells_made]
        have HB0 := Lib.hid (Blk.new w 5 (fcells .u8 (fun _ => 0) k))
        have hbl : Below w.heap.size w (w.alloc (.cells (fcells .u8 (fun _ => 0) k) 5)) := (Below.refl _ _).alloc (Nat.le_refl _) _
        generalize w.alloc (.cells (fcells .u8 (fun _ => 0) k) 5) = w1 at *
        obtain ⟨g, hg⟩ : ∃ g, g = w.heap.size := ⟨_, rfl⟩
        rw [← hg] at HB0 hbl ⊢
        have HG := Lib.hid hg
        clear hg
        go_loopw [5] (fun i wr => ∃ q : Nat, q ≤ k ∧ i = .int .i64 q ∧ Hid (Blk wr g 5 (fcells .u8 (madeF k Z q) k)) ∧ Below g w wr) (fun i _ => k - (intOf i).toNat)
        case atStart => exact ⟨0, Nat.zero_le _, rfl, by rw [fcells_congr (f' := fun _ => 0) (fun j hj => by unfold madeF; rw [if_neg (by omega)])]; exact HB0, hbl⟩
        case round =>
          obtain ⟨q, hq, rfl, hblk, hb⟩ := hrel
          by_cases hlt : q < k
          · try exact absurd hlt (by have := HM.out; omega)
            all_goals
              obtain ⟨x, hx⟩ : ∃ x, k = q + 1 + x := ⟨k - q - 1, by omega⟩
              obtain ⟨gb, hA, hgb, hcb⟩ := HC.out q (by omega)
              have hcb2 := (hb.cell (p := ⟨gb, q, none⟩) (by have := HG.out; show gb < g; omega)).trans hcb
              cases hA
              have hfz := hblk.out.frozen x
              have hck := hblk.out.cell x
              rw [fcells_get _ _ _ _ (by omega)] at hck
              have hxI : (k : Int) - 1 - (q : Int) = (x : Int) := by omega
              have hd := dgt_lt (b := 256) (by omega) Z q
              have hwr : IntKind.u8.wrap ((dgt 256 Z q : Nat) : Int) = ((dgt 256 Z q : Nat) : Int) := by rw [wrap_u8, Nat.mod_eq_of_lt hd]
              have HX := Lib.hid hx
              clear hx hcb
              go_wp2
              have HB1 := Lib.hid (hblk.out.set_ x (.int .u8 ((dgt 256 Z q : Nat) : Int)))
              rw [fcells_set, fcells_congr (f' := madeF k Z (q + 1)) (fun j hj => madeF_step HX.out hj)] at HB1
              have hb1 := hb.setCell (p := ⟨g, x, none⟩) (Nat.le_refl _) (.int .u8 ((dgt 256 Z q : Nat) : Int))
              go_roundw
              case rel => exact ⟨q + 1, by omega, by go_num, HB1, hb1⟩
              case measure => simp [intOf]; omega
          · obtain rfl : q = k := by omega
            have hcv : (convert 114 9 (.slice (some ⟨g, 0, none⟩) q q)).run Tryd.prog wr = .ok (.string (natS Z)) wr := by
              have hN := HS.out
              have hl : ((dl 256 Z (nd 256 Z)).reverse.map UInt8.ofNat).length = q := by simp [dl_length, hN]
              have h := run_convert_bytes_back (P := Tryd.prog) wr 114 9 5 ⟨g, 0, none⟩ q ((dl 256 Z (nd 256 Z)).reverse.map UInt8.ofNat) Tryd.underlying114 Tryd.underlying5 Tryd.underlying9 (fun j hj => by
                have hj2 : j < q := by rw [← hl]; exact hj
                rw [add_plain0, hblk.out.cell, fcells_get _ _ _ _ hj2]
                have e := natS_get Z j (by rw [natS_size, hN]; exact hj2)
                rw [ba_get] at e
                simp only [natS_def] at e
                rw [List.getElem_toArray] at e
                rw [e]
                unfold madeF
                rw [if_pos (by omega), hN])
              rw [hl, ← natS_def] at h
              exact h
            go_wp2
            go_ret
            exact ⟨rfl, by rw [← HG.out]; exact hb⟩
    · obtain ⟨m, rfl⟩ : ∃ m, k = m + 1 := ⟨k - 1, by have := hle.out; omega⟩
      obtain ⟨ga, rfl, hga, hcl⟩ := HC.out m (by omega)
      rw [dgt_big (b := 256) (n := Z) (i := m) (by omega) (by have := hle.out; omega)] at hcl
      have H1 := Lib.hid (show nd 256 Z ≤ m by have := hle.out; omega)
      have hw : wrap64 ((m : Int) + 1 - 1) = (m : Int) := by rw [IntWalk.wrap64_in _ (by omega)]; omega
      clear hstop
      go_wp2
      go_roundw
      case rel => exact ⟨m, by omega, rfl, H1, trivial⟩
      case measure => simp [intOf]; try omega
end Go.Proofs.YtjkonfopajihdaaDoor
set_option linter.unusedSimpArgs false
set_option linter.unusedVariables false
namespace Go.Proofs.YtjkonfopajihdaaDoor
open Go Go.RowKit Nt

end Go.Proofs.YtjkonfopajihdaaDoor
set_option linter.unusedSimpArgs false
set_option linter.unusedVariables false
namespace Go.Proofs.YtjkonfopajihdaaDoor
open Go Go.RowKit Nt

theorem dl_lt (n k : Nat) : ∀ x ∈ dl 256 n k, x < 256 := fun x hx => by
  obtain ⟨i, hi, rfl⟩ := List.getElem_of_mem hx
  rw [dl_length] at hi
  have e := dl_get? 256 n k i hi
  rw [List.getElem?_eq_getElem (by rw [dl_length]; exact hi)] at e
  rw [Option.some.inj e]
  exact dgt_lt (by omega) _ _
set_option maxRecDepth 100000 in
set_option maxHeartbeats 1000000 in
theorem rOf_c (n : Nat) (w : World) (hn : n < 18446744073709551616) :
    Calls Tryd.prog 63 #[.int .u64 (n : Nat)] w fun e w' => e = .returned (.string (natS n)) ∧ Below w.heap.size w w' := by
  obtain ⟨i0, hi0, hz0, hj1, hj2⟩ := info_parts (P := Tryd.prog) (e := 3) (z := .int .i64 0) (size := 1) (bytes := 8) (by kernel_rfl)
  have hN8 := br_lt.2 hn
  have H8 := Lib.hid hN8
  have HN := Lib.hid hn
  clear hN8 hn
  go_enter Tryd.func63, Tryd.ntmps63
  go_wp2
  go_loopw [0, 3] (fun x v wr => ∃ (k m : Nat), x = .int .u64 m ∧ Hid (m = n / 256 ^ k) ∧ Hid (k ≤ nd 256 n) ∧ Hid (Own wr w.heap.size 3 .i64 v (dl 256 n k)) ∧ Below w.heap.size w wr) (fun x _ _ => (intOf x).toNat)
  case atStart => exact ⟨0, n, rfl, Lib.hid (by rw [Nat.pow_zero, Nat.div_one]), Lib.hid (Nat.zero_le _), Lib.hid (Own.nil _ _ _ _), Below.refl _ _⟩
  case round =>
    obtain ⟨k, m, rfl, hm, hk, hown, hb⟩ := hrel
    by_cases h0 : m = 0
    · subst h0
      have hof : of 256 (dl 256 n k) = n := by
        rw [of_dl]
        refine Nat.mod_eq_of_lt ?_
        have h := hm.out
        exact (Nat.div_eq_zero_iff_lt (Nat.pow_pos (by omega))).1 h.symm
      have HOF := Lib.hid hof
      have HL := Lib.hid (show (dl 256 n k).length ≤ 1000000000 by rw [dl_length]; have := hk.out; have := H8.out; omega)
      clear hof
      go_wp2_with fail
      refine (rMade_c _ _ _ _ (dl_lt n k) HL.out hown.out).mono ?_
      rintro e w' ⟨rfl, hb'⟩
      go_wp2_with fail
      go_ret
      exact ⟨by rw [HOF.out]; rfl, below_chain hb hb'⟩
    · obtain ⟨d, hd⟩ : ∃ d, d = dgt 256 n k := ⟨_, rfl⟩
      have hdI : (m : Int) % 256 = (d : Int) := by
        rw [hd, dgt_def, ← hm.out]; omega
      have hd256 : d < 256 := by rw [hd]; exact dgt_lt (by omega) _ _
      have hqq : (m : Int).tdiv 256 = ((m / 256 : Nat) : Int) := by rw [Int.tdiv_eq_ediv_of_nonneg (by omega)]; omega
      have hm0 : (0 : Int) < (m : Int) := by omega
      have hlen : Hid ((dl 256 n k).length + 1 ≤ 17592186044416) := Lib.hid (by rw [dl_length]; have := hk.out; have := H8.out; omega)
      have HD := Lib.hid hd
      have hkn : Hid (k + 1 ≤ nd 256 n) := Lib.hid (by
        rcases Nat.lt_or_ge k (nd 256 n) with h | h
        · exact h
        · exact absurd (hm.out.trans (Nat.div_eq_of_lt ((lt_pow_iff (b := 256) (by omega) k n).2 h))) h0)
      have hmn : Hid (m / 256 = n / 256 ^ (k + 1)) := Lib.hid (by rw [hm.out, Nat.pow_succ, Nat.div_div_eq_div_mul])
      have hms : m < 18446744073709551616 := by rw [hm.out]; exact Nat.lt_of_le_of_lt (Nat.div_le_self _ _) HN.out
      have HMS := Lib.hid hms
      clear hd
      go_wp2_with (at_builtin; go_loud (refine wpList_app1 wr rfl (.tmp 6) (.tmp 10) _ rfl w.heap.size 3 3 i0 .i64 8 Tryd.underlying77 hi0 hz0 hj1 hj2 (by omega) _ (dl 256 n k) d rfl rfl hown.out hlen.out hb.size ?_); intro v5 w5 hown5 hb5 hfr5 hnw5)
      rw [HD.out, ← dl_succ] at hown5
      have HO5 := Lib.hid hown5
      clear hown5 hfr5 hnw5
      go_roundw
      case rel => exact ⟨k + 1, m / 256, rfl, hmn, hkn, HO5, hb.trans hb5⟩
      case measure => simp [intOf]; omega
end Go.Proofs.YtjkonfopajihdaaDoor
set_option linter.unusedSimpArgs false
set_option linter.unusedVariables false
namespace Nt

theorem plus_end {x y k : Nat} (hx : nd 256 x ≤ k) (hy : nd 256 y ≤ k) (hc : car 256 x y k = 0) : of 256 (dl 256 (x + y) k) = x + y := by
  have h1 := (lt_pow_iff (b := 256) (by omega) k x).2 hx
  have h2 := (lt_pow_iff (b := 256) (by omega) k y).2 hy
  rw [car_def, Nat.mod_eq_of_lt h1, Nat.mod_eq_of_lt h2] at hc
  rw [of_dl]
  exact Nat.mod_eq_of_lt ((Nat.div_eq_zero_iff_lt (Nat.pow_pos (by omega))).1 hc)
theorem car_far {x y k : Nat} (hx : nd 256 x < k) (hy : nd 256 y < k) : car 256 x y k = 0 := by
  obtain ⟨m, rfl⟩ : ∃ m, k = m + 1 := ⟨k - 1, by omega⟩
  rw [car_succ (by omega), dgt_big (b := 256) (by omega) (show nd 256 x ≤ m by omega), dgt_big (b := 256) (by omega) (show nd 256 y ≤ m by omega)]
  have := car_le (b := 256) (by omega) x y m
  omega
theorem dl_lt256 (n k : Nat) : ∀ x ∈ dl 256 n k, x < 256 := fun x hx => by
  obtain ⟨i, hi, rfl⟩ := List.getElem_of_mem hx
  rw [dl_length] at hi
  have e := dl_get? 256 n k i hi
  rw [List.getElem?_eq_getElem (by rw [dl_length]; exact hi)] at e
  rw [Option.some.inj e]
  exact dgt_lt (by omega) _ _
theorem dl_get (b n L i : Nat) (h : i < (dl b n L).length) : (dl b n L)[i] = dgt b n i := by
  have e := dl_get? b n L i (by rwa [dl_length] at h)
  rw [List.getElem?_eq_getElem h] at e
  exact Option.some.inj e
/-- A digit of a difference, by Go's steps. -/
theorem sub_step (x y k : Nat) (h : y ≤ x) :
    (dgt 256 x k < dgt 256 y k + bor 256 x y k → dgt 256 (x - y) k + dgt 256 y k + bor 256 x y k = dgt 256 x k + 256 ∧ bor 256 x y (k + 1) = 1) ∧
    (¬ dgt 256 x k < dgt 256 y k + bor 256 x y k → dgt 256 (x - y) k + dgt 256 y k + bor 256 x y k = dgt 256 x k ∧ bor 256 x y (k + 1) = 0) := by
  have h1 := dgt_sub (b := 256) (by omega) x y k h
  have h2 := bor_succ (b := 256) (by omega) x y k
  have h3 := bor_le 256 x y k
  have h4 := dgt_lt (b := 256) (by omega) x k
  have h5 := dgt_lt (b := 256) (by omega) y k
  refine ⟨fun c => ?_, fun c => ?_⟩
  · rw [if_pos c] at h2
    exact ⟨by omega, h2⟩
  · rw [if_neg c] at h2
    exact ⟨by omega, h2⟩
theorem sub_end {x y : Nat} (h : y ≤ x) : of 256 (dl 256 (x - y) (nd 256 x)) = x - y := by
  rw [of_dl]
  exact Nat.mod_eq_of_lt (Nat.lt_of_le_of_lt (Nat.sub_le _ _) (lt_nd (by omega)))
/-- The rows of a product so far: Z with what is carried. -/
def tms (x y i k Z more : Nat) : Prop := Z + 256 ^ (i + k) * more = x % 256 ^ i * y + 256 ^ i * (dgt 256 x i * (y % 256 ^ k))
theorem tms_first (x y i : Nat) : tms x y i 0 (x % 256 ^ i * y) 0 := by
  unfold tms; rw [Nat.pow_zero, Nat.mod_one, Nat.mul_zero, Nat.mul_zero, Nat.mul_zero]
theorem tms_step {x y i k Z more s : Nat} (h : tms x y i k Z more) (hs : s = more + dgt 256 Z (i + k) + dgt 256 x i * dgt 256 y k) :
    tms x y i (k + 1) (put 256 Z (i + k) (s % 256)) (s / 256) := by
  unfold tms at h ⊢
  have h1 := put_eq (b := 256) Z (i + k) (s % 256) (by omega)
  have h2 := Nat.mod_add_div s 256
  rw [mod_succ, Nat.mul_add, Nat.mul_add, show i + (k + 1) = (i + k) + 1 by omega, Nat.pow_succ]
  have h3 : 256 ^ (i + k) * s = 256 ^ (i + k) * more + 256 ^ (i + k) * dgt 256 Z (i + k) + 256 ^ (i + k) * (dgt 256 x i * dgt 256 y k) := by rw [hs, Nat.mul_add, Nat.mul_add]
  have h4 : 256 ^ (i + k) * s = 256 ^ (i + k) * (s % 256) + 256 ^ (i + k) * 256 * (s / 256) := by
    rw [Nat.mul_assoc, ← Nat.mul_add, h2]
  have h5 : 256 ^ i * (dgt 256 x i * (256 ^ k * dgt 256 y k)) = 256 ^ (i + k) * (dgt 256 x i * dgt 256 y k) := by
    rw [Nat.pow_add, Nat.mul_left_comm (dgt 256 x i), Nat.mul_assoc]
  rw [h5]
  omega
theorem tms_last {x y i k Z : Nat} (h : tms x y i k Z 0) (hk : nd 256 y ≤ k) : Z = x % 256 ^ (i + 1) * y := by
  unfold tms at h
  rw [Nat.mul_zero, Nat.add_zero, Nat.mod_eq_of_lt ((lt_pow_iff (b := 256) (by omega) k y).2 hk)] at h
  rw [h, mod_succ, Nat.add_mul, Nat.mul_assoc]
theorem tms_more {x y i k Z more : Nat} (h : tms x y i k Z more) (hk : nd 256 y ≤ k) (hm : more ≠ 0) : k ≤ nd 256 y := by
  unfold tms at h
  have hy := (lt_pow_iff (b := 256) (by omega) k y).2 hk
  rw [Nat.mod_eq_of_lt hy] at h
  have h1 : x % 256 ^ i * y + 256 ^ i * (dgt 256 x i * y) = x % 256 ^ (i + 1) * y := by rw [mod_succ, Nat.add_mul, Nat.mul_assoc]
  have h2 : x % 256 ^ (i + 1) < 256 ^ (i + 1) := Nat.mod_lt _ (Nat.pow_pos (by omega))
  have h3 : y < 256 ^ nd 256 y := lt_nd (by omega)
  have h4 : x % 256 ^ (i + 1) * y < 256 ^ (i + 1) * 256 ^ nd 256 y := Nat.mul_lt_mul'' h2 h3
  have h5 : 256 ^ (i + k) * 1 ≤ 256 ^ (i + k) * more := Nat.mul_le_mul_left _ (by omega)
  rw [← Nat.pow_add] at h4
  have h6 : 256 ^ (i + k) < 256 ^ (i + 1 + nd 256 y) := by omega
  have := (Nat.pow_lt_pow_iff_right (by omega : 1 < 256)).1 h6
  omega
theorem tms_next {more d x y : Nat} (hm : more ≤ 255) (hd : d < 256) (hx : x < 256) (hy : y < 256) : more + d + x * y ≤ 65535 ∧ (more + d + x * y) / 256 ≤ 255 ∧ x * y ≤ 65025 := by
  have h : x * y ≤ 255 * 255 := Nat.mul_le_mul (by omega) (by omega)
  omega
theorem tms_all (x y : Nat) : x % 256 ^ nd 256 x * y = x * y := by rw [Nat.mod_eq_of_lt (lt_nd (by omega))]
theorem tms_fits (x y : Nat) : of 256 (dl 256 (x * y) (nd 256 x + nd 256 y + 1)) = x * y := by
  rw [of_dl]
  refine Nat.mod_eq_of_lt ?_
  have h := Nat.mul_lt_mul'' (lt_nd (b := 256) (n := x) (by omega)) (lt_nd (b := 256) (n := y) (by omega))
  rw [← Nat.pow_add] at h
  exact Nat.lt_of_lt_of_le h (Nat.pow_le_pow_right (by omega) (by omega))
theorem two_of (n : Nat) : of 256 ((List.range (n / 8 + 1)).map fun j => if j = n / 8 then 2 ^ (n % 8) else 0) = 2 ^ n := by
  rw [List.range_succ, List.map_append, of_append]
  have h : of 256 ((List.range (n / 8)).map fun j => if j = n / 8 then 2 ^ (n % 8) else 0) = 0 := by
    have : ∀ m, m ≤ n / 8 → of 256 ((List.range m).map fun j => if j = n / 8 then 2 ^ (n % 8) else 0) = 0 := by
      intro m
      induction m with
      | zero => intro _; rfl
      | succ m ih =>
        intro hm
        rw [List.range_succ, List.map_append, of_append, ih (by omega), List.map_singleton]
        rw [show (if m = n / 8 then 2 ^ (n % 8) else 0) = 0 from if_neg (by omega)]
        simp [of_cons, of_nil]
    exact this _ (Nat.le_refl _)
  rw [h, List.length_map, List.length_range]
  simp only [List.map_cons, List.map_nil, if_true, of_cons, of_nil, Nat.mul_zero, Nat.add_zero, Nat.zero_add]
  rw [show (256 : Nat) = 2 ^ 8 by rfl, ← Nat.pow_mul, ← Nat.pow_add]
  congr 1
  omega
end Nt
