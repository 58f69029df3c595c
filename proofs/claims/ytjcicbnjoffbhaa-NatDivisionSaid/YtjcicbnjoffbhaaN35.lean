/- The law NatShifts: its walks. -/
import Derived.Test.YtjcicbnjoffbhaaN34
import Derived.Test.YtjcicbnjoffbhaaN26
set_option linter.unusedSimpArgs false
set_option linter.unusedVariables false
namespace Go.Proofs.Ytjcicbnjoffbhaa
open Go Go.RowKit Nt

theorem Pow_all (a n : Nat) (w : World) (hf : fits a) (hn : n ≤ 9223372036854775807) :
    Calls Try.prog 47 #[.string (natS a), .int .i64 (n : Nat)] w (StrPost (resS (a ^ n)) (resE (a ^ n)) w) := by
  rcases Nat.eq_zero_or_pos n with rfl | h0
  · have h1 : fits 1 := fits_of_lt 1 (by decide) (by omega)
    rw [Nat.pow_zero, resS_ok h1, resE_ok h1]
    exact NPow_zero a w hf
  · by_cases h1 : nd 2 a ≤ 1 ∨ n = 1
    · have e : a ^ n = a := by
        rcases h1 with h | rfl
        · exact pow_le_one h (by omega)
        · exact Nat.pow_one a
      rw [e, resS_ok hf, resE_ok hf]
      exact NPow_same a n w hf (by omega) h1
    · by_cases h2 : n < 131072 ∧ (nd 2 a - 1) * n < 131072
      · exact NPow_c a n w hf (by omega) (by omega) h2.1 h2.2
      · have h3 : 131072 ≤ (nd 2 a - 1) * n := by
          by_cases c : n < 131072
          · exact Nat.le_of_not_lt fun d => h2 ⟨c, d⟩
          · have : 1 * n ≤ (nd 2 a - 1) * n := Nat.mul_le_mul_right _ (by omega)
            omega
        have h4 := pow_big (a := a) (n := n) (by omega) h3
        rw [resS_no h4, resE_no h4]
        exact NPow_long a n w hf (by omega) (by omega) hn (by omega)
theorem Shift_all (a j : Nat) (w : World) (hf : fits a) (hj : j ≤ 9223372036854775807) :
    Calls Try.prog 45 #[.string (natS a), .int .i64 (j : Nat)] w (StrPost (resS (a * 2 ^ j)) (resE (a * 2 ^ j)) w) := by
  by_cases ha : a = 0
  · subst ha
    rw [Nat.zero_mul, resS_ok hf, resE_ok hf]
    exact NShift_zero _ w
  · rcases Nat.eq_zero_or_pos j with rfl | h0
    · rw [Nat.pow_zero, Nat.mul_one, resS_ok hf, resE_ok hf]
      exact NShift_stay a w hf ha
    · by_cases h : fits (a * 2 ^ j)
      · rw [resS_ok h, resE_ok h]
        exact NShift_up a j w hf ha h0 h
      · rw [resS_no h, resE_no h]
        exact NShift_long a j w hf ha h0 h hj
theorem Shift_neg (a j : Nat) (w : World) (hf : fits a) :
    Calls Try.prog 45 #[.string (natS a), .int .i64 (-(j : Int))] w (StrPost (natS (a / 2 ^ j)) 0 w) := by
  by_cases ha : a = 0
  · subst ha
    rw [Nat.zero_div]
    exact NShift_zero _ w
  · rcases Nat.eq_zero_or_pos j with rfl | h0
    · rw [Nat.pow_zero, Nat.div_one]
      exact NShift_stay a w hf ha
    · by_cases h : j < nd 2 a
      · exact NShift_down a j w hf ha h0 h
      · have e : a / 2 ^ j = 0 := Nat.div_eq_of_lt ((lt_pow_iff (b := 2) (by omega) j a).2 (by omega))
        rw [e, natS_zero]
        exact NShift_far a _ w hf ha (by omega) (by omega)
theorem Shift_back (a j : Nat) (w : World) (hf : fits (a * 2 ^ j)) :
    Calls Try.prog 45 #[.string (natS (a * 2 ^ j)), .int .i64 (-(j : Int))] w (StrPost (natS a) 0 w) := by
  have := Shift_neg (a * 2 ^ j) j w hf
  rwa [Nat.mul_div_cancel _ (Nat.two_pow_pos j)] at this

set_option maxRecDepth 1000000 in
set_option maxHeartbeats 1000000 in
theorem shifts_early (S s : ByteArray) (r n m : Int) (w : World) (hn1 : -9223372036854775808 ≤ n) (hn2 : n ≤ 9223372036854775807)
    (HS : ∀ w : World, Calls Try.prog 45 #[.string S, .int .i64 n] w (StrPost s r w))
    (HB : r = 0 → 0 ≤ n → ∀ w : World, Calls Try.prog 45 #[.string s, .int .i64 (-n)] w (StrPost S 0 w))
    (he : n < 0 ∨ m < 0 ∨ 1048576 < n ∨ 1048576 < m) :
    Calls Try.prog 14 #[.string S, .int .i64 n, .int .i64 m] w fun e w' => e = .returned (.bool true) ∧ Below w.heap.size w w' := by
  have KS := Lib.hid HS
  have hc : (r = 0 ∧ 0 ≤ n) ∨ (r = 0 ∧ ¬ 0 ≤ n) ∨ (¬ r = 0) := by omega
  have hd : n < 0 ∨ (¬ n < 0 ∧ m < 0) ∨ (¬ n < 0 ∧ ¬ m < 0 ∧ 1048576 < n) ∨ (¬ n < 0 ∧ ¬ m < 0 ∧ ¬ 1048576 < n ∧ 1048576 < m) := by omega
  clear HS he
  rcases hc with ⟨rfl, h0⟩ | ⟨rfl, h0⟩ | hr
  · have KB := Lib.hid (HB rfl h0)
    have hw : wrap64 (-n) = -n := IntWalk.wrap64_in _ (by omega)
    have h00 : ¬ n < 0 := by omega
    clear HB hn1 hn2
    rcases hd with h1 | ⟨h1, h2⟩ | ⟨h1, h2, h3⟩ | ⟨h1, h2, h3, h4⟩
    · exact absurd h1 h00
    all_goals
      go_enter Try.func14, Try.ntmps14
      go_wp2_with fail
      refine (KS.out _).mono ?_
      rintro e w1 ⟨rfl, hb1⟩
      go_wp2_with fail
      refine (KB.out _).mono ?_
      rintro e w2 ⟨rfl, hb2⟩
      go_wp2_with fail
      refine (awake_c _).mono ?_
      rintro e w3 ⟨rfl, hb3⟩
      go_wp2_with fail
      go_ret
      exact ⟨rfl, below_chain hb1 (below_chain hb2 hb3)⟩
  · have h00 : n < 0 := by omega
    clear HB hn1 hn2 hd
    go_enter Try.func14, Try.ntmps14
    go_wp2_with fail
    refine (KS.out _).mono ?_
    rintro e w1 ⟨rfl, hb1⟩
    go_wp2_with fail
    refine (awake_c _).mono ?_
    rintro e w3 ⟨rfl, hb3⟩
    go_wp2_with fail
    go_ret
    exact ⟨rfl, below_chain hb1 hb3⟩
  · have hR : (r == 0) = false := by rw [beq_eq_false_iff_ne]; exact hr
    clear HB hn1 hn2 hr
    rcases hd with h1 | ⟨h1, h2⟩ | ⟨h1, h2, h3⟩ | ⟨h1, h2, h3, h4⟩
    all_goals
      go_enter Try.func14, Try.ntmps14
      go_wp2_with fail
      refine (KS.out _).mono ?_
      rintro e w1 ⟨rfl, hb1⟩
      go_wp2_with fail
      refine (awake_c _).mono ?_
      rintro e w3 ⟨rfl, hb3⟩
      go_wp2_with fail
      go_ret
      exact ⟨rfl, below_chain hb1 hb3⟩
set_option maxRecDepth 1000000 in
set_option maxHeartbeats 1000000 in
theorem shifts_nopow (S s x y z p : ByteArray) (r e1 e2 g n m : Int) (w : World) (hn : 0 ≤ n) (hm : 0 ≤ m) (hn2 : n ≤ 1048576) (hm2 : m ≤ 1048576)
    (HS : ∀ w : World, Calls Try.prog 45 #[.string S, .int .i64 n] w (StrPost s r w))
    (HB : r = 0 → ∀ w : World, Calls Try.prog 45 #[.string s, .int .i64 (-n)] w (StrPost S 0 w))
    (H1 : ∀ w : World, Calls Try.prog 47 #[.string S, .int .i64 n] w (StrPost x e1 w))
    (H2 : ∀ w : World, Calls Try.prog 47 #[.string S, .int .i64 m] w (StrPost y e2 w))
    (H3 : ∀ w : World, Calls Try.prog 47 #[.string S, .int .i64 (n + m)] w (StrPost z g w))
    (hS1 : ¬ S.toList = []) (hS2 : S.toList.isEmpty = false) (hg : (g == 0) = false) (he : ¬ e1 = 0 ∨ (e1 = 0 ∧ ¬ e2 = 0)) :
    Calls Try.prog 14 #[.string S, .int .i64 n, .int .i64 m] w fun e w' => e = .returned (.bool true) ∧ Below w.heap.size w w' := by
  have KS := Lib.hid HS
  have K1 := Lib.hid H1
  have K2 := Lib.hid H2
  have K3 := Lib.hid H3
  have hc : (r = 0) ∨ (¬ r = 0) := by omega
  have hw : wrap64 (-n) = -n := IntWalk.wrap64_in _ (by omega)
  have hw2 : wrap64 (n + m) = n + m := IntWalk.wrap64_in _ (by omega)
  have c1 : ¬ n < 0 := by omega
  have hg3 : ¬ g = 0 := by rwa [beq_eq_false_iff_ne] at hg
  have hg2 : (g != 0) = true := by rw [bne, hg]; rfl
  have hg4 : decide (g = 0) = false := decide_eq_false hg3
  have c2 : ¬ m < 0 := by omega
  have c3 : ¬ 1048576 < n := by omega
  have c4 : ¬ 1048576 < m := by omega
  clear HS H1 H2 H3 hn2 hm2
  rcases hc with rfl | hr
  · have KB := Lib.hid (HB rfl)
    clear HB
    rcases he with he | ⟨rfl, he2⟩
    case' inl => have he3 : (e1 == 0) = false := by rw [beq_eq_false_iff_ne]; exact he
    case' inr => have he3 : (e2 == 0) = false := by rw [beq_eq_false_iff_ne]; exact he2
    all_goals
      go_enter Try.func14, Try.ntmps14
      go_wp2_with fail
      refine (KS.out _).mono ?_
      rintro e w0 ⟨rfl, hb0⟩
      go_wp2_with fail
      refine (KB.out _).mono ?_
      rintro e w1 ⟨rfl, hb1⟩
      go_wp2_with fail
      refine (K1.out _).mono ?_
      rintro e w2 ⟨rfl, hb2⟩
      go_wp2_with fail
      refine (K2.out _).mono ?_
      rintro e w3 ⟨rfl, hb3⟩
      go_wp2_with fail
      refine (K3.out _).mono ?_
      rintro e w4 ⟨rfl, hb4⟩
      go_wp2_with fail
      refine (awake_c _).mono ?_
      rintro e w9 ⟨rfl, hb9⟩
      go_wp2_with fail
      go_ret
      exact ⟨rfl, below_chain hb0 (below_chain hb1 (below_chain hb2 (below_chain hb3 (below_chain hb4 (hb9)))))⟩
  · have hR : (r == 0) = false := by rw [beq_eq_false_iff_ne]; exact hr
    clear HB hr
    rcases he with he | ⟨rfl, he2⟩
    case' inl => have he3 : (e1 == 0) = false := by rw [beq_eq_false_iff_ne]; exact he
    case' inr => have he3 : (e2 == 0) = false := by rw [beq_eq_false_iff_ne]; exact he2
    all_goals
      go_enter Try.func14, Try.ntmps14
      go_wp2_with fail
      refine (KS.out _).mono ?_
      rintro e w0 ⟨rfl, hb0⟩
      go_wp2_with fail
      refine (K1.out _).mono ?_
      rintro e w1 ⟨rfl, hb1⟩
      go_wp2_with fail
      refine (K2.out _).mono ?_
      rintro e w2 ⟨rfl, hb2⟩
      go_wp2_with fail
      refine (K3.out _).mono ?_
      rintro e w3 ⟨rfl, hb3⟩
      go_wp2_with fail
      refine (awake_c _).mono ?_
      rintro e w9 ⟨rfl, hb9⟩
      go_wp2_with fail
      go_ret
      exact ⟨rfl, below_chain hb0 (below_chain hb1 (below_chain hb2 (below_chain hb3 (hb9))))⟩
set_option maxRecDepth 1000000 in
set_option maxHeartbeats 1000000 in
theorem shifts_pow (S s x y z p : ByteArray) (r e1 e2 g n m : Int) (w : World) (hn : 0 ≤ n) (hm : 0 ≤ m) (hn2 : n ≤ 1048576) (hm2 : m ≤ 1048576)
    (HS : ∀ w : World, Calls Try.prog 45 #[.string S, .int .i64 n] w (StrPost s r w))
    (HB : r = 0 → ∀ w : World, Calls Try.prog 45 #[.string s, .int .i64 (-n)] w (StrPost S 0 w))
    (H1 : ∀ w : World, Calls Try.prog 47 #[.string S, .int .i64 n] w (StrPost x 0 w))
    (H2 : ∀ w : World, Calls Try.prog 47 #[.string S, .int .i64 m] w (StrPost y 0 w))
    (H3 : ∀ w : World, Calls Try.prog 47 #[.string S, .int .i64 (n + m)] w (StrPost z g w))
    (H4 : ∀ w : World, Calls Try.prog 41 #[.string x, .string y] w (StrPost z g w)) :
    Calls Try.prog 14 #[.string S, .int .i64 n, .int .i64 m] w fun e w' => e = .returned (.bool true) ∧ Below w.heap.size w w' := by
  have KS := Lib.hid HS
  have K1 := Lib.hid H1
  have K2 := Lib.hid H2
  have K3 := Lib.hid H3
  have K4 := Lib.hid H4
  have hc : (r = 0) ∨ (¬ r = 0) := by omega
  have hw : wrap64 (-n) = -n := IntWalk.wrap64_in _ (by omega)
  have hw2 : wrap64 (n + m) = n + m := IntWalk.wrap64_in _ (by omega)
  have c1 : ¬ n < 0 := by omega
  have c2 : ¬ m < 0 := by omega
  have c3 : ¬ 1048576 < n := by omega
  have c4 : ¬ 1048576 < m := by omega
  clear HS H1 H2 H3 H4 hn2 hm2
  rcases hc with rfl | hr
  · have KB := Lib.hid (HB rfl)
    clear HB
    go_enter Try.func14, Try.ntmps14
    go_wp2_with fail
    refine (KS.out _).mono ?_
    rintro e w0 ⟨rfl, hb0⟩
    go_wp2_with fail
    refine (KB.out _).mono ?_
    rintro e w1 ⟨rfl, hb1⟩
    go_wp2_with fail
    refine (K1.out _).mono ?_
    rintro e w2 ⟨rfl, hb2⟩
    go_wp2_with fail
    refine (K2.out _).mono ?_
    rintro e w3 ⟨rfl, hb3⟩
    go_wp2_with fail
    refine (K3.out _).mono ?_
    rintro e w4 ⟨rfl, hb4⟩
    go_wp2_with fail
    refine (K4.out _).mono ?_
    rintro e w5 ⟨rfl, hb5⟩
    go_wp2_with fail
    refine (awake_c _).mono ?_
    rintro e w9 ⟨rfl, hb9⟩
    go_wp2_with fail
    go_ret
    exact ⟨rfl, below_chain hb0 (below_chain hb1 (below_chain hb2 (below_chain hb3 (below_chain hb4 (below_chain hb5 (hb9))))))⟩
  · have hR : (r == 0) = false := by rw [beq_eq_false_iff_ne]; exact hr
    clear HB hr
    go_enter Try.func14, Try.ntmps14
    go_wp2_with fail
    refine (KS.out _).mono ?_
    rintro e w0 ⟨rfl, hb0⟩
    go_wp2_with fail
    refine (K1.out _).mono ?_
    rintro e w1 ⟨rfl, hb1⟩
    go_wp2_with fail
    refine (K2.out _).mono ?_
    rintro e w2 ⟨rfl, hb2⟩
    go_wp2_with fail
    refine (K3.out _).mono ?_
    rintro e w3 ⟨rfl, hb3⟩
    go_wp2_with fail
    refine (K4.out _).mono ?_
    rintro e w4 ⟨rfl, hb4⟩
    go_wp2_with fail
    refine (awake_c _).mono ?_
    rintro e w9 ⟨rfl, hb9⟩
    go_wp2_with fail
    go_ret
    exact ⟨rfl, below_chain hb0 (below_chain hb1 (below_chain hb2 (below_chain hb3 (below_chain hb4 (hb9)))))⟩
theorem eq_false_int {z : Int} (h : z ≠ 0) : (z == 0) = false := by rw [beq_eq_false_iff_ne]; exact h
theorem may_full {s : ByteArray} (h : ¬ May s) : ¬ s.toList = [] := fun c => h (by
  have e : s = natS 0 := by
    rw [natS_zero]
    rw [ba_toList] at c
    exact ByteArray.ext (Array.ext' (by rw [c]))
  rw [e]; exact (may_natS 0).2 (by unfold fits; rw [nd_zero]; omega))
theorem NatShifts_law (s : ByteArray) (n m : Int) (hs : s.size ≤ maxLen) (hn : -9223372036854775808 ≤ n ∧ n ≤ 9223372036854775807) (hm : -9223372036854775808 ≤ m ∧ m ≤ 9223372036854775807) (w : World) :
    Calls Try.prog 14 #[.string s, .int .i64 n, .int .i64 m] w fun e w' => e = .returned (.bool true) ∧ Below w.heap.size w w' := by
  obtain ⟨hn1, hn2⟩ := hn
  obtain ⟨hm1, hm2⟩ := hm
  by_cases hMay : May s
  · obtain ⟨a, ha, rfl⟩ := may_num hMay
    by_cases h0 : n < 0
    · obtain ⟨j, rfl⟩ : ∃ j : Nat, n = -(j : Int) := ⟨n.natAbs, by omega⟩
      exact shifts_early _ _ _ _ _ w hn1 hn2 (fun w => Shift_neg a j w ha) (fun _ c => by omega) (Or.inl h0)
    · obtain ⟨j, rfl⟩ : ∃ j : Nat, n = (j : Int) := ⟨n.natAbs, by omega⟩
      have HS := fun w => Shift_all a j w ha (by omega)
      have HB : resE (a * 2 ^ j) = 0 → ∀ w : World, Calls Try.prog 45 #[.string (resS (a * 2 ^ j)), .int .i64 (-(j : Int))] w (StrPost (natS a) 0 w) := fun h w => by
        have hf : fits (a * 2 ^ j) := Classical.byContradiction fun c => by rw [resE_no c] at h; exact absurd h (by decide)
        rw [resS_ok hf]
        exact Shift_back a j w hf
      by_cases he : m < 0 ∨ 1048576 < (j : Int) ∨ 1048576 < m
      · exact shifts_early _ _ _ _ _ w hn1 hn2 HS (fun h _ => HB h) (Or.inr he)
      · obtain ⟨i, rfl⟩ : ∃ i : Nat, m = (i : Int) := ⟨m.natAbs, by omega⟩
        have H1 := fun w => Pow_all a j w ha (by omega)
        have H2 := fun w => Pow_all a i w ha (by omega)
        have H3 := fun w => Pow_all a (j + i) w ha (by omega)
        rw [Int.natCast_add] at H3
        by_cases hp : fits (a ^ j) ∧ fits (a ^ i)
        · have H4 := fun w => NMul_c (a ^ j) (a ^ i) w hp.1 hp.2
          rw [← Nat.pow_add] at H4
          rw [resS_ok hp.1, resE_ok hp.1] at H1
          rw [resS_ok hp.2, resE_ok hp.2] at H2
          exact shifts_pow _ _ _ _ _ ⟨#[]⟩ _ 0 0 _ _ _ w (by omega) (by omega) (by omega) (by omega) HS HB H1 H2 H3 H4
        · have hz : a ≠ 0 := fun c => by
            subst c
            have hz : ∀ q, fits (0 ^ q) := fun q => fits_le (n := 1) (fits_of_lt 1 (by decide) (by omega)) (by
              rcases Nat.eq_zero_or_pos q with rfl | h
              · exact Nat.le_refl _
              · rw [Nat.zero_pow h]; omega)
            exact hp ⟨hz j, hz i⟩
          have hl : ¬ fits (a ^ (j + i)) := fun c => hp ⟨fits_le c (Nat.pow_le_pow_right (by omega) (by omega)), fits_le c (Nat.pow_le_pow_right (by omega) (by omega))⟩
          refine shifts_nopow _ _ _ _ _ ⟨#[]⟩ _ _ _ _ _ _ w (by omega) (by omega) (by omega) (by omega) HS HB H1 H2 H3 (natS_full hz) (natS_full2 hz) (by rw [resE_no hl]; rfl) ?_
          by_cases h1 : fits (a ^ j)
          · exact Or.inr ⟨resE_ok h1, by rw [resE_no (fun c => hp ⟨h1, c⟩)]; decide⟩
          · exact Or.inl (by rw [resE_no h1]; decide)
  · have hf := may_full hMay
    by_cases he : n < 0 ∨ m < 0 ∨ 1048576 < n ∨ 1048576 < m
    · exact shifts_early _ _ _ _ _ w hn1 hn2 (fun w => NShift_no s n w hMay) (fun c => absurd c (by decide)) he
    · exact shifts_nopow _ _ _ _ _ ⟨#[]⟩ _ _ _ _ _ _ w (by omega) (by omega) (by omega) (by omega) (fun w => NShift_no s n w hMay) (fun c => absurd c (by decide)) (fun w => NPow_no s n w hMay) (fun w => NPow_no s m w hMay) (fun w => NPow_no s (n + m) w hMay) hf (by cases h : s.toList with
        | nil => exact absurd h hf
        | cons a l => rfl) rfl (Or.inl (by decide))
end Go.Proofs.Ytjcicbnjoffbhaa
