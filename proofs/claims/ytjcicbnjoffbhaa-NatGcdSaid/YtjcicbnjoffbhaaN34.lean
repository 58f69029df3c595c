/- Contracts of package nat: Pow. -/
import Derived.Test.YtjcicbnjoffbhaaN33
set_option linter.unusedSimpArgs false
set_option linter.unusedVariables false
namespace Go.Proofs.Ytjcicbnjoffbhaa
open Go Go.RowKit Nt

theorem half_step (n m : Nat) : n / 2 ^ m = 2 * (n / 2 ^ (m + 1)) + n / 2 ^ m % 2 := by
  rw [Nat.pow_succ, ← Nat.div_div_eq_div_mul]; omega
theorem pow_even {a n m : Nat} (h : n / 2 ^ m % 2 = 0) : a ^ (n / 2 ^ (m + 1)) * a ^ (n / 2 ^ (m + 1)) = a ^ (n / 2 ^ m) := by
  rw [← Nat.pow_add]; congr 1; have := half_step n m; omega
theorem pow_odd {a n m : Nat} (h : n / 2 ^ m % 2 = 1) : a ^ (n / 2 ^ (m + 1)) * a ^ (n / 2 ^ (m + 1)) * a = a ^ (n / 2 ^ m) := by
  rw [← Nat.pow_add, ← Nat.pow_succ]; congr 1; have := half_step n m; omega
theorem pow_le_one {a n : Nat} (h : nd 2 a ≤ 1) (hn : n ≠ 0) : a ^ n = a := by
  have := (lt_pow_iff (b := 2) (by omega) 1 a).2 h
  have : a = 0 ∨ a = 1 := by omega
  rcases this with rfl | rfl
  · exact Nat.zero_pow (by omega)
  · exact Nat.one_pow n
theorem pow_big {a n : Nat} (h1 : 2 ≤ nd 2 a) (h2 : 131072 ≤ (nd 2 a - 1) * n) : ¬ fits (a ^ n) := by
  unfold fits
  rw [← bits_le]
  have h3 := (pow_le_iff (b := 2) (by omega) (nd 2 a - 1) a).2 (by omega)
  have h4 : 2 ^ ((nd 2 a - 1) * n) ≤ a ^ n := by rw [Nat.pow_mul]; exact Nat.pow_le_pow_left h3 n
  have h5 := (pow_le_iff (b := 2) (by omega) _ _).1 h4
  omega
theorem pow_words {a n e : Nat} (hn : (nd 2 a - 1) * n < 131072) (h1 : 1 ≤ nd 2 a) (hn2 : n < 131072) (he : e ≤ n) (ha : a ≠ 0) : nd W (a ^ e) ≤ 262144 := by
  have h2 := lt_nd (b := 2) (n := a) (by omega)
  have h3 : a ^ e ≤ (2 ^ nd 2 a) ^ e := Nat.pow_le_pow_left (Nat.le_of_lt h2) e
  rw [← Nat.pow_mul] at h3
  have h4 : nd 2 a * e ≤ nd 2 a * n := Nat.mul_le_mul_left _ he
  have h5 : nd 2 a * n = (nd 2 a - 1) * n + n := by
    obtain ⟨q, hq⟩ : ∃ q, nd 2 a = q + 1 := ⟨nd 2 a - 1, by omega⟩
    rw [hq, Nat.add_sub_cancel, Nat.succ_mul]
  have h6 : nd W (a ^ e) ≤ nd 2 (a ^ e) := by
    refine nd_le W2 (Nat.lt_of_lt_of_le (lt_nd (b := 2) (by omega)) (Nat.pow_le_pow_left ?_ _))
    rw [W_eq]; omega
  have h7 : nd 2 (a ^ e) ≤ nd 2 a * e + 1 := nd_le (by omega) (by rw [Nat.pow_succ]; have := Nat.two_pow_pos (nd 2 a * e); omega)
  omega
theorem and_one_i64 (q : Nat) (hq : q < 9223372036854775808) : bits BinOp.and IntKind.i64 (q : Int) 1 = ((q % 2 : Nat) : Int) := by
  have h1 : (BitVec.ofInt 64 (q : Int)).toNat = q := by
    rw [BitVec.ofInt_natCast, BitVec.toNat_ofNat]; exact Nat.mod_eq_of_lt (by omega)
  have h2 : (BitVec.ofInt 64 (1 : Int)).toNat = 1 := by decide
  show IntKind.i64.wrap ((BitVec.ofInt 64 (q : Int) &&& BitVec.ofInt 64 (1 : Int)).toNat : Int) = _
  rw [BitVec.toNat_and, h1, h2, Nat.and_one_is_mod, IntKind.wrap_i64]
  omega
set_option maxRecDepth 100000 in
theorem NPow_no (s : ByteArray) (k : Int) (w : World) (h : ¬ May s) :
    Calls Try.prog 47 #[.string s, .int .i64 k] w (StrPost ⟨#[]⟩ 2 w) := by
  have H := Lib.hid h
  clear h
  go_enter Try.func47, Try.ntmps47
  go_wp2_with (go_at_call 25; refine (NLen_no _ _ H.out).mono ?_; rintro e w1 ⟨rfl, hb⟩)
  go_ret2
  exact ⟨rfl, hb⟩
set_option maxRecDepth 100000 in
theorem NPow_neg (a : Nat) (k : Int) (w : World) (hf : fits a) (hk : k < 0) :
    Calls Try.prog 47 #[.string (natS a), .int .i64 k] w (StrPost ⟨#[]⟩ 2 w) := by
  go_enter Try.func47, Try.ntmps47
  go_wp2_with (go_at_call 25; refine (NLen_c _ _ hf).mono ?_; rintro e w1 ⟨rfl, hb⟩)
  go_ret2
  exact ⟨rfl, hb⟩
theorem Of_1 (w : World) : Calls Try.prog 23 #[.int .u64 1] w fun e w' => e = .returned (.string (natS 1)) ∧ Below w.heap.size w w' := Of_n 1 w (by decide)
set_option maxRecDepth 100000 in
theorem NPow_zero (a : Nat) (w : World) (hf : fits a) :
    Calls Try.prog 47 #[.string (natS a), .int .i64 0] w (StrPost (natS 1) 0 w) := by
  go_enter Try.func47, Try.ntmps47
  go_wp2_with (first | (go_at_call 25; refine (NLen_c _ _ hf).mono ?_; rintro e w1 ⟨rfl, hb⟩) | (go_at_call 23; refine (Of_1 _).mono ?_; rintro e w2 ⟨rfl, hb2⟩))
  go_ret2
  exact ⟨rfl, below_chain hb hb2⟩
set_option maxRecDepth 100000 in
theorem NPow_same (a n : Nat) (w : World) (hf : fits a) (hn : n ≠ 0) (h : nd 2 a ≤ 1 ∨ n = 1) :
    Calls Try.prog 47 #[.string (natS a), .int .i64 (n : Nat)] w (StrPost (natS a) 0 w) := by
  have z1 := eqz_false hn
  have z2 : ¬ (n : Int) < 0 := by omega
  have hc : nd 2 a ≤ 1 ∨ (¬ nd 2 a ≤ 1 ∧ n = 1) := by omega
  clear h hn
  rcases hc with h | ⟨h, h1⟩
  case' inl => have hI : (nd 2 a : Int) ≤ 1 := by omega
  case' inr =>
    have hI : ¬ (nd 2 a : Int) ≤ 1 := by omega
    have h1' : ((n : Int) == 1) = true := by rw [beq_iff_eq]; omega
    have H1 := Lib.hid h1
    clear h1
  all_goals
    go_enter Try.func47, Try.ntmps47
    go_wp2_with (go_at_call 25; refine (NLen_c _ _ hf).mono ?_; rintro e w1 ⟨rfl, hb⟩)
    go_ret2
    exact ⟨rfl, hb⟩
@[irreducible] def maxB (z : Int) : Bool := decide (131072 ≤ z)
@[local go_sem] theorem ge_maxB (z : Int) : decide ((131072 : Int) ≤ z) = maxB z := by unfold maxB; rfl
set_option maxRecDepth 100000 in
set_option maxHeartbeats 1000000 in
theorem NPow_long (a n : Nat) (w : World) (hf : fits a) (h2 : 2 ≤ nd 2 a) (hn : 2 ≤ n) (hn3 : n ≤ 9223372036854775807) (h : 131072 ≤ n ∨ (n < 131072 ∧ 131072 ≤ (nd 2 a - 1) * n)) :
    Calls Try.prog 47 #[.string (natS a), .int .i64 (n : Nat)] w (StrPost ⟨#[]⟩ 4 w) := by
  have z1 := eqz_false (x := n) (by omega)
  have z2 : ¬ (n : Int) < 0 := by omega
  have z3 : ¬ (nd 2 a : Int) ≤ 1 := by omega
  have z4 : ((n : Int) == 1) = false := by rw [beq_eq_false_iff_ne]; omega
  have hl := bits_131072 hf
  rcases h with h | ⟨h, h'⟩
  case' inl => have hB : maxB (n : Int) = true := by unfold maxB; exact decide_eq_true (by omega)
  case' inr =>
    have hB : maxB (n : Int) = false := by unfold maxB; exact decide_eq_false (by omega)
    obtain ⟨p, hp⟩ : ∃ p, p = (nd 2 a - 1) * n := ⟨_, rfl⟩
    have hp2 : p ≤ 131072 * 131072 := by rw [hp]; exact Nat.mul_le_mul (by omega) (by omega)
    have hw0 : wrap64 ((nd 2 a : Int) - 1) = (nd 2 a : Int) - 1 := IntWalk.wrap64_in _ (by omega)
    have hm : ((nd 2 a : Int) - 1) * (n : Int) = (p : Int) := by rw [hp, Int.natCast_mul]; congr 1; omega
    have hw1 : wrap64 (p : Int) = (p : Int) := IntWalk.wrap64_in _ (by omega)
    have hC : maxB (p : Int) = true := by unfold maxB; exact decide_eq_true (by omega)
    clear hp h' hp2
  all_goals
    clear hn3 hl h2 hn h
    go_enter Try.func47, Try.ntmps47
    go_wp2_with (go_at_call 25; refine (NLen_c _ _ hf).mono ?_; rintro e w1 ⟨rfl, hb⟩)
    go_ret2
    exact ⟨rfl, hb⟩
set_option maxRecDepth 100000 in
set_option maxHeartbeats 2000000 in
theorem NPow_c (a n : Nat) (w : World) (hf : fits a) (h2 : 2 ≤ nd 2 a) (hn : 2 ≤ n) (hn2 : n < 131072) (hs : (nd 2 a - 1) * n < 131072) :
    Calls Try.prog 47 #[.string (natS a), .int .i64 (n : Nat)] w (StrPost (resS (a ^ n)) (resE (a ^ n)) w) := by
  have z1 := eqz_false (x := n) (by omega)
  have z2 : ¬ (n : Int) < 0 := by omega
  have z3 : ¬ (nd 2 a : Int) ≤ 1 := by omega
  have z4 : ((n : Int) == 1) = false := by rw [beq_eq_false_iff_ne]; omega
  have hl := bits_131072 hf
  have ha0 : a ≠ 0 := fun c => by rw [c, nd_zero] at h2; omega
  have hB : maxB (n : Int) = false := by unfold maxB; exact decide_eq_false (by omega)
  obtain ⟨p, hp⟩ : ∃ p, p = (nd 2 a - 1) * n := ⟨_, rfl⟩
  have hw0 : wrap64 ((nd 2 a : Int) - 1) = (nd 2 a : Int) - 1 := IntWalk.wrap64_in _ (by omega)
  have hm : ((nd 2 a : Int) - 1) * (n : Int) = (p : Int) := by rw [hp, Int.natCast_mul]; congr 1; omega
  have hw1 : wrap64 (p : Int) = (p : Int) := IntWalk.wrap64_in _ (by omega)
  have hC : maxB (p : Int) = false := by unfold maxB; exact decide_eq_false (by omega)
  have hwn : IntKind.u64.wrap (n : Int) = (n : Int) := by rw [IntKind.wrap_u64]; omega
  have hbl := bitLen_nd (x := n) (by omega)
  obtain ⟨b, hb⟩ : ∃ b, nd 2 n = b + 2 := ⟨nd 2 n - 2, by have := (pow_le_iff (b := 2) (by omega) 1 n).1 (by omega); omega⟩
  have hb17 : nd 2 n ≤ 17 := nd_le (by omega) (by have : (2 : Nat) ^ 17 = 131072 := by decide
                                                  omega)
  have hlen : ∀ w, Calls Try.prog 83 #[.int .u64 (n : Nat)] w fun e w' => e = .returned (.int .i64 ((b : Int) + 2)) ∧ w = w' := fun w => by
    refine (Try.bits_Len _ _ (by omega) (by omega)).mono ?_
    rintro e w' ⟨rfl, rfl⟩
    refine ⟨ret_int ?_, rfl⟩
    rw [Int.toNat_natCast, hbl, hb]; omega
  have hw2 : wrap64 ((b : Int) + 2 - 2) = (b : Int) := by rw [IntWalk.wrap64_in _ (by omega)]; omega
  have hPW : ∀ e, e ≤ n → nd W (a ^ e) ≤ 262144 := fun e he => pow_words hs (by omega) hn2 he ha0
  have hstart : n / 2 ^ (b + 1) = 1 := by
    have h3 := lt_nd (b := 2) (n := n) (by omega)
    have h4 := (pow_le_iff (b := 2) (by omega) (b + 1) n).2 (by omega)
    rw [hb, show b + 2 = (b + 1) + 1 by omega, Nat.pow_succ] at h3
    exact Nat.div_eq_of_lt_le (by rw [Nat.one_mul]; exact h4) (by omega)
  have KL := Lib.hid hlen
  have KP := Lib.hid hPW
  have KS := Lib.hid hstart
  have hwa := Lib.hid (fits_words hf)
  have HNL := Lib.hid hn2
  have hbI : (b : Int) ≤ 15 := by omega
  clear hp hlen hPW hbl hstart hb17 hs ha0 hl h2 hb
  go_enter Try.func47, Try.ntmps47
  go_upto_region 12 with (go_at_call 25; refine (NLen_c _ _ hf).mono ?_; rintro e w1 ⟨rfl, hb1⟩)
  go_wp2_with fail
  refine (words_c a _ hf).mono ?_
  intro e w2 hp
  obtain ⟨A1, c1, rfl, hc1, hr1, hb2⟩ := hp.get
  have HR1 := Lib.hid hr1
  have HB12 := Lib.hid (below_chain hb1 hb2)
  clear hr1 hp hb1 hb2
  go_wp2_with (go_at_call 83; refine (KL.out _).mono ?_; rintro e w' ⟨rfl, rfl⟩)
  go_loopw [9, 10] (fun x i wr => ∃ (k c : Nat) (z : Int) (A : Option Addr), k ≤ b + 1 ∧ i = .int .i64 z ∧ Hid (z = (k : Int) - 1) ∧ x = .slice A (nd W (a ^ (n / 2 ^ k))) c ∧ nd W (a ^ (n / 2 ^ k)) ≤ c ∧ Hid (Row wr wr.heap.size A (a ^ (n / 2 ^ k)) (nd W (a ^ (n / 2 ^ k)))) ∧ Hid (Row wr wr.heap.size A1 a (nd W a)) ∧ Hid (Below w.heap.size w wr)) (fun _ i _ => (intOf i + 1).toNat)
  case atStart =>
    have e : a ^ (n / 2 ^ (b + 1)) = a := by rw [KS.out, Nat.pow_one]
    exact ⟨b + 1, c1, b, A1, Nat.le_refl _, rfl, Lib.hid (by omega), by rw [e], by rw [e]; exact hc1, by rw [e]; exact HR1, HR1, HB12⟩
  case round =>
    obtain ⟨k, c, z, A, hk, rfl, hz, rfl, hc, hrow, hbase, hbw⟩ := hrel
    by_cases hk0 : k = 0
    · subst hk0
      obtain rfl : z = -1 := by have := hz.out; omega
      have e : a ^ (n / 2 ^ 0) = a ^ n := by rw [Nat.pow_zero, Nat.div_one]
      rw [e] at hc hrow ⊢
      have hpw := Lib.hid (KP.out n (Nat.le_refl _))
      clear e
      go_wp2_with fail
      refine (made_c A c (a ^ n) _ _ (by have := hpw.out; omega) hrow.out (Nat.le_refl _)).mono ?_
      rintro e w' ⟨rfl, hb'⟩
      go_wp2_with fail
      go_ret2
      exact ⟨rfl, below_chain hbw.out hb'⟩
    · obtain ⟨m, rfl⟩ : ∃ m, k = m + 1 := ⟨k - 1, by omega⟩
      obtain rfl : z = (m : Int) := by have := hz.out; omega
      obtain ⟨q, hq⟩ : ∃ q, q = n / 2 ^ m := ⟨_, rfl⟩
      have hqn : q ≤ n := by rw [hq]; exact Nat.div_le_self _ _
      have hqI : (n : Int) / 2 ^ m = (q : Int) := by rw [hq, int_pow2, Int.natCast_ediv]
      have hand := and_one_i64 q (by have := HNL.out; omega)
      have hw3 : wrap64 ((m : Int) - 1) = (m : Int) - 1 := IntWalk.wrap64_in _ (by omega)
      have hm15 : (m : Int) ≤ 16 := by omega
      have e1 := Lib.hid (KP.out (n / 2 ^ (m + 1)) (Nat.div_le_self _ _))
      have e2 := Lib.hid (KP.out (n / 2 ^ m) (Nat.div_le_self _ _))
      rcases Nat.mod_two_eq_zero_or_one q with hb0 | hb0
      · have hpe := pow_even (a := a) (n := n) (m := m) (by rw [← hq]; exact hb0)
        rw [hb0] at hand
        have HPE := Lib.hid hpe
        clear hpe hb0 hq hqn
        go_wp2_with fail
        refine (Mul_c A A c c _ _ _ _ (by have := e1.out; omega) hrow.out hrow.out (Nat.le_refl _)).mono ?_
        rw [HPE.out]
        intro e w3 hp
        obtain ⟨A3, c3, rfl, hc3, hr3, hb3⟩ := hp.get
        have HR3 := Lib.hid hr3
        have HBS := Lib.hid ((hbase.out.below hb3).more hb3.size)
        have HBW := Lib.hid (below_chain hbw.out hb3)
        clear hr3 hp hb3
        go_wp2_with fail
        go_roundw
        case rel => exact ⟨m, c3, _, A3, by omega, rfl, Lib.hid rfl, rfl, hc3, HR3, HBS, HBW⟩
        case measure => simp [intOf]
      · have hpo := pow_odd (a := a) (n := n) (m := m) (by rw [← hq]; exact hb0)
        rw [hb0] at hand
        have HPO := Lib.hid hpo
        have hsq := mul_words (a ^ (n / 2 ^ (m + 1))) (a ^ (n / 2 ^ (m + 1)))
        have HSQ := Lib.hid hsq
        clear hpo hb0 hq hqn hsq
        go_wp2_with fail
        refine (Mul_c A A c c _ _ _ _ (by have := e1.out; omega) hrow.out hrow.out (Nat.le_refl _)).mono ?_
        intro e w3 hp
        obtain ⟨A3, c3, rfl, hc3, hr3, hb3⟩ := hp.get
        have HR3 := Lib.hid hr3
        have HBS := Lib.hid ((hbase.out.below hb3).more hb3.size)
        have HBW := Lib.hid (below_chain hbw.out hb3)
        clear hr3 hp hb3
        go_wp2_with fail
        refine (Mul_c A3 A1 c3 c1 _ a _ _ (by have := HSQ.out; have := e1.out; have := hwa.out; omega) HR3.out HBS.out (Nat.le_refl _)).mono ?_
        rw [HPO.out]
        intro e w4 hp
        obtain ⟨A4, c4, rfl, hc4, hr4, hb4⟩ := hp.get
        have HR4 := Lib.hid hr4
        have HBS4 := Lib.hid ((HBS.out.below hb4).more hb4.size)
        have HBW4 := Lib.hid (below_chain HBW.out hb4)
        clear hr4 hp hb4
        go_wp2_with fail
        go_roundw
        case rel => exact ⟨m, c4, _, A4, by omega, rfl, Lib.hid rfl, rfl, hc4, HR4, HBS4, HBW4⟩
        case measure => simp [intOf]
end Go.Proofs.Ytjcicbnjoffbhaa
