/- The law NatPow. -/
import Derived.Test.YtjcicbnjoffbhaaN49
import Derived.Test.YtjcicbnjoffbhaaN50
set_option linter.unusedSimpArgs false
set_option linter.unusedVariables false
namespace Go.Proofs.Ytjcicbnjoffbhaa
open Go Go.RowKit Nt

set_option maxRecDepth 100000 in
set_option maxHeartbeats 2000000 in
theorem pow_no (S : ByteArray) (n : Int) (hA2 : S.size ≤ 9223372036854775807) (hm : ¬ May S) (w : World) :
    Calls Try.prog 9 #[.string S, .int .i64 n] w fun e w' => e = .returned (.bool true) ∧ Below w.heap.size w w' := by
  have hr := fun w => refused1' S (by omega) w
  rw [refB_yes (s := S) (by simp) hm] at hr
  have HR := Lib.hid hr
  have HS := Lib.hid (fun w => NPow_no S n w hm)
  clear hr hm hA2
  go_enter Try.func9, Try.ntmps9
  go_wp2_with fail
  refine (HS.out _).mono ?_
  rintro e w1 ⟨rfl, hb1⟩
  go_wp2_with fail
  refine (HR.out _).mono ?_
  rintro e w2 ⟨rfl, hb2⟩
  go_wp2_with fail
  refine (awake_c _).mono ?_
  rintro e w3 ⟨rfl, hb3⟩
  go_wp2_with fail
  go_ret
  exact ⟨rfl, below_chain hb1 (below_chain hb2 hb3)⟩
set_option maxRecDepth 100000 in
set_option maxHeartbeats 2000000 in
theorem pow_go1 (a : Nat) (s : ByteArray) (r n : Int) (hf : fits a) (w : World)
    (HS : ∀ w, Calls Try.prog 47 #[.string (natS a), .int .i64 n] w (StrPost s r w))
    (HT : ∀ w, Calls Try.prog 48 #[.string (natS a), .int .i64 n] w (StrPost s r w))
    (hc : ¬ 0 < n ∨ (0 < n ∧ ¬ n ≤ 131072) ∨ (0 < n ∧ n ≤ 131072 ∧ a = 0)) :
    Calls Try.prog 9 #[.string (natS a), .int .i64 n] w fun e w' => e = .returned (.bool true) ∧ Below w.heap.size w w' := by
  have hsz := natS_size a
  have hr := fun w => refused1' (natS a) (by rw [hsz]; unfold fits at hf; omega) w
  rw [refB_no (ss := [natS a]) (by simpa using (may_natS a).2 hf)] at hr
  have HR := Lib.hid hr
  have KS := Lib.hid HS
  have KI := Lib.hid (fun w => is_c s r w)
  have KL := Lib.hid (fun w => rLen_c a w hf)
  have KT := Lib.hid HT
  have hc2 : ¬ 0 < n ∨ (0 < n ∧ ¬ n ≤ 131072) ∨ (0 < n ∧ n ≤ 131072 ∧ nd 256 a = 0) := by
    rcases hc with h | h | ⟨h1, h2, rfl⟩
    · exact Or.inl h
    · exact Or.inr (Or.inl h)
    · exact Or.inr (Or.inr ⟨h1, h2, nd_zero _⟩)
  obtain ⟨A, hA⟩ : ∃ A, A = nd 256 a := ⟨_, rfl⟩
  rw [← hA] at hsz hc2
  clear hr hf HS HT hc hA
  rcases hc2 with h1 | ⟨h1, h2⟩ | ⟨h1, h2, rfl⟩
  all_goals
    go_enter Try.func9, Try.ntmps9
    go_wp2_with fail
    refine (KS.out _).mono ?_
    rintro e w1 ⟨rfl, hb1⟩
    go_wp2_with fail
    refine (HR.out _).mono ?_
    rintro e w2 ⟨rfl, hb2⟩
    go_wp2_with fail
    refine (KT.out _).mono ?_
    rintro e w3 ⟨rfl, hb3⟩
    go_wp2_with fail
    refine (KI.out _).mono ?_
    rintro e w4 ⟨rfl, rfl⟩
    go_wp2_with fail
    refine (awake_c _).mono ?_
    rintro e w5 ⟨rfl, hb5⟩
    go_wp2_with fail
    go_ret
    exact ⟨rfl, below_chain hb1 (below_chain hb2 (below_chain hb3 hb5))⟩
set_option maxRecDepth 100000 in
set_option maxHeartbeats 2000000 in
theorem pow_go2 (a : Nat) (s : ByteArray) (r n : Int) (Q1 Q2 : Nat) (hf : fits a) (ha : a ≠ 0) (w : World)
    (HS : ∀ w, Calls Try.prog 47 #[.string (natS a), .int .i64 n] w (StrPost s r w))
    (HT : ∀ w, Calls Try.prog 48 #[.string (natS a), .int .i64 n] w (StrPost s r w))
    (h1 : 0 < n) (h2 : n ≤ 131072) (hQ1 : (Q1 : Int) = 131072 / n) (hQ2 : (Q2 : Int) = 9600 / n) (h3 : ¬ Q1 + 8 < nd 2 a) (h4 : ¬ Q2 + 1 < nd 2 a) :
    Calls Try.prog 9 #[.string (natS a), .int .i64 n] w fun e w' => e = .returned (.bool true) ∧ Below w.heap.size w w' := by
  have hsz := natS_size a
  have hr := fun w => refused1' (natS a) (by rw [hsz]; unfold fits at hf; omega) w
  rw [refB_no (ss := [natS a]) (by simpa using (may_natS a).2 hf)] at hr
  have HR := Lib.hid hr
  have KS := Lib.hid HS
  have KI := Lib.hid (fun w => is_c s r w)
  have KL := Lib.hid (fun w => rLen_c a w hf)
  have KT := Lib.hid HT
  obtain ⟨A, hA⟩ : ∃ A, A = nd 256 a := ⟨_, rfl⟩
  have hA0 : 0 < A := by
    rcases Nat.eq_zero_or_pos A with c | c
    · exact absurd ((nd_eq_zero (by omega)).1 (hA.symm.trans c)) ha
    · exact c
  have hL := bits_131072 hf
  rw [← hA] at hsz
  obtain ⟨L, hL'⟩ : ∃ L, L = nd 2 a := ⟨_, rfl⟩
  rw [← hL'] at KL h3 h4 hL
  have hq1 : (131072 : Int).tdiv n = (Q1 : Int) := by rw [Int.tdiv_eq_ediv_of_nonneg (by omega)]; exact hQ1.symm
  have hq2 : (9600 : Int).tdiv n = (Q2 : Int) := by rw [Int.tdiv_eq_ediv_of_nonneg (by omega)]; exact hQ2.symm
  have hq3 : (131072 : Int) / n = (Q1 : Int) := hQ1.symm
  have hq4 : (9600 : Int) / n = (Q2 : Int) := hQ2.symm
  have b1 : Q1 ≤ 131072 := by
    have := Int.ediv_le_self n (show (0 : Int) ≤ 131072 by omega); omega
  have b2 : Q2 ≤ 9600 := by
    have := Int.ediv_le_self n (show (0 : Int) ≤ 9600 by omega); omega
  have hn0 : ¬ n = 0 := by omega
  have g1 : IntKind.i64.wrap (Q1 : Int) = (Q1 : Int) := IntWalk.i64_in _ (by omega)
  have g2 : IntKind.i64.wrap ((Q1 : Int) + 8) = (Q1 : Int) + 8 := IntWalk.i64_in _ (by omega)
  have d1 : decide ((Q1 : Int) + 8 < (L : Int)) = false := decide_eq_false (by omega)
  have g3 : IntKind.i64.wrap (Q2 : Int) = (Q2 : Int) := IntWalk.i64_in _ (by omega)
  have g4 : IntKind.i64.wrap ((Q2 : Int) + 1) = (Q2 : Int) + 1 := IntWalk.i64_in _ (by omega)
  have d2 : decide ((Q2 : Int) + 1 < (L : Int)) = false := decide_eq_false (by omega)
  have e1 : ¬ ((Q1 : Int) + 8 < (L : Int)) := by omega
  have e2 : ¬ ((Q2 : Int) + 1 < (L : Int)) := by omega
  clear hr hf HS HT hA hL' ha hQ1 hQ2 h3 h4 hL
  go_enter Try.func9, Try.ntmps9
  go_wp2_with fail
  refine (KS.out _).mono ?_
  rintro e w1 ⟨rfl, hb1⟩
  go_wp2_with fail
  refine (HR.out _).mono ?_
  rintro e w2 ⟨rfl, hb2⟩
  go_wp2_with fail
  go_quiet ((go_at_call 29; exact Calls.quiet_of_same ((KL.out _).mono fun _ _ h => ⟨h.1, h.2.symm⟩)))
  have hb3 : Below w2.heap.size w2 (w2.drewN nq) := below_drewN (Below.refl _ _) nq
  generalize w2.drewN nq = w3 at *
  clear nq
  go_wp2_with fail
  go_quiet ((go_at_call 29; exact Calls.quiet_of_same ((KL.out _).mono fun _ _ h => ⟨h.1, h.2.symm⟩)))
  have hb4 : Below w3.heap.size w3 (w3.drewN nq) := below_drewN (Below.refl _ _) nq
  generalize w3.drewN nq = w4 at *
  clear nq
  go_wp2_with fail
  refine (KT.out _).mono ?_
  rintro e w5 ⟨rfl, hb5⟩
  go_wp2_with fail
  refine (KI.out _).mono ?_
  rintro e w6 ⟨rfl, rfl⟩
  go_wp2_with fail
  refine (awake_c _).mono ?_
  rintro e w7 ⟨rfl, hb7⟩
  go_wp2_with fail
  go_ret
  exact ⟨rfl, below_chain hb1 (below_chain hb2 (below_chain hb3 (below_chain hb4 (below_chain hb5 hb7))))⟩
set_option maxRecDepth 100000 in
set_option maxHeartbeats 2000000 in
theorem pow_skip (a : Nat) (s : ByteArray) (r n : Int) (Q1 Q2 : Nat) (hf : fits a) (ha : a ≠ 0) (ha1 : a ≠ 1) (w : World)
    (HS : ∀ w, Calls Try.prog 47 #[.string (natS a), .int .i64 n] w (StrPost s r w))
    (h1 : 0 < n) (h2 : n ≤ 131072) (hQ1 : (Q1 : Int) = 131072 / n) (hQ2 : (Q2 : Int) = 9600 / n) (h3 : ¬ Q1 + 8 < nd 2 a) (h4 : Q2 + 1 < nd 2 a) :
    Calls Try.prog 9 #[.string (natS a), .int .i64 n] w fun e w' => e = .returned (.bool true) ∧ Below w.heap.size w w' := by
  have hsz := natS_size a
  have hr := fun w => refused1' (natS a) (by rw [hsz]; unfold fits at hf; omega) w
  rw [refB_no (ss := [natS a]) (by simpa using (may_natS a).2 hf)] at hr
  have HR := Lib.hid hr
  have KS := Lib.hid HS
  have KI := Lib.hid (fun w => is_c s r w)
  have KL := Lib.hid (fun w => rLen_c a w hf)
  obtain ⟨A, hA⟩ : ∃ A, A = nd 256 a := ⟨_, rfl⟩
  have hA0 : 0 < A := by
    rcases Nat.eq_zero_or_pos A with c | c
    · exact absurd ((nd_eq_zero (by omega)).1 (hA.symm.trans c)) ha
    · exact c
  have hL := bits_131072 hf
  rw [← hA] at hsz
  obtain ⟨L, hL'⟩ : ∃ L, L = nd 2 a := ⟨_, rfl⟩
  rw [← hL'] at KL h3 h4 hL
  have hN1 := natS_ne_one ha1
  have hN2 := natS_ne_one2 ha1
  have hq1 : (131072 : Int).tdiv n = (Q1 : Int) := by rw [Int.tdiv_eq_ediv_of_nonneg (by omega)]; exact hQ1.symm
  have hq2 : (9600 : Int).tdiv n = (Q2 : Int) := by rw [Int.tdiv_eq_ediv_of_nonneg (by omega)]; exact hQ2.symm
  have hq3 : (131072 : Int) / n = (Q1 : Int) := hQ1.symm
  have hq4 : (9600 : Int) / n = (Q2 : Int) := hQ2.symm
  have b1 : Q1 ≤ 131072 := by
    have := Int.ediv_le_self n (show (0 : Int) ≤ 131072 by omega); omega
  have b2 : Q2 ≤ 9600 := by
    have := Int.ediv_le_self n (show (0 : Int) ≤ 9600 by omega); omega
  have hn0 : ¬ n = 0 := by omega
  have g1 : IntKind.i64.wrap (Q1 : Int) = (Q1 : Int) := IntWalk.i64_in _ (by omega)
  have g2 : IntKind.i64.wrap ((Q1 : Int) + 8) = (Q1 : Int) + 8 := IntWalk.i64_in _ (by omega)
  have d1 : decide ((Q1 : Int) + 8 < (L : Int)) = false := decide_eq_false (by omega)
  have g3 : IntKind.i64.wrap (Q2 : Int) = (Q2 : Int) := IntWalk.i64_in _ (by omega)
  have g4 : IntKind.i64.wrap ((Q2 : Int) + 1) = (Q2 : Int) + 1 := IntWalk.i64_in _ (by omega)
  have d2 : decide ((Q2 : Int) + 1 < (L : Int)) = true := decide_eq_true (by omega)
  have e1 : ¬ ((Q1 : Int) + 8 < (L : Int)) := by omega
  have e2 : ((Q2 : Int) + 1 < (L : Int)) := by omega
  clear hr hf HS hA hL' ha ha1 hQ1 hQ2 h3 h4 hL
  go_enter Try.func9, Try.ntmps9
  go_wp2_with fail
  refine (KS.out _).mono ?_
  rintro e w1 ⟨rfl, hb1⟩
  go_wp2_with fail
  refine (HR.out _).mono ?_
  rintro e w2 ⟨rfl, hb2⟩
  go_wp2_with fail
  go_quiet ((go_at_call 29; exact Calls.quiet_of_same ((KL.out _).mono fun _ _ h => ⟨h.1, h.2.symm⟩)))
  have hb3 : Below w2.heap.size w2 (w2.drewN nq) := below_drewN (Below.refl _ _) nq
  generalize w2.drewN nq = w3 at *
  clear nq
  go_wp2_with fail
  go_quiet ((go_at_call 29; exact Calls.quiet_of_same ((KL.out _).mono fun _ _ h => ⟨h.1, h.2.symm⟩)))
  have hb4 : Below w3.heap.size w3 (w3.drewN nq) := below_drewN (Below.refl _ _) nq
  generalize w3.drewN nq = w4 at *
  clear nq
  go_wp2_with fail
  refine (awake_c _).mono ?_
  rintro e w5 ⟨rfl, hb5⟩
  go_wp2_with fail
  go_ret
  exact ⟨rfl, below_chain hb1 (below_chain hb2 (below_chain hb3 (below_chain hb4 hb5)))⟩
set_option maxRecDepth 100000 in
set_option maxHeartbeats 2000000 in
theorem pow_far (a : Nat) (n : Int) (Q1 : Nat) (hf : fits a) (ha : a ≠ 0) (w : World)
    (HS : ∀ w, Calls Try.prog 47 #[.string (natS a), .int .i64 n] w (StrPost ⟨#[]⟩ 4 w))
    (h1 : 0 < n) (h2 : n ≤ 131072) (hQ1 : (Q1 : Int) = 131072 / n) (h3 : Q1 + 8 < nd 2 a) :
    Calls Try.prog 9 #[.string (natS a), .int .i64 n] w fun e w' => e = .returned (.bool true) ∧ Below w.heap.size w w' := by
  have hsz := natS_size a
  have hr := fun w => refused1' (natS a) (by rw [hsz]; unfold fits at hf; omega) w
  rw [refB_no (ss := [natS a]) (by simpa using (may_natS a).2 hf)] at hr
  have HR := Lib.hid hr
  have KS := Lib.hid HS
  have KL := Lib.hid (fun w => rLen_c a w hf)
  obtain ⟨A, hA⟩ : ∃ A, A = nd 256 a := ⟨_, rfl⟩
  have hA0 : 0 < A := by
    rcases Nat.eq_zero_or_pos A with c | c
    · exact absurd ((nd_eq_zero (by omega)).1 (hA.symm.trans c)) ha
    · exact c
  have hL := bits_131072 hf
  rw [← hA] at hsz
  obtain ⟨L, hL'⟩ : ∃ L, L = nd 2 a := ⟨_, rfl⟩
  rw [← hL'] at KL h3 hL
  have hq1 : (131072 : Int).tdiv n = (Q1 : Int) := by rw [Int.tdiv_eq_ediv_of_nonneg (by omega)]; exact hQ1.symm
  have hq3 : (131072 : Int) / n = (Q1 : Int) := hQ1.symm
  have b1 : Q1 ≤ 131072 := by
    have := Int.ediv_le_self n (show (0 : Int) ≤ 131072 by omega); omega
  have hn0 : ¬ n = 0 := by omega
  have g1 : IntKind.i64.wrap (Q1 : Int) = (Q1 : Int) := IntWalk.i64_in _ (by omega)
  have g2 : IntKind.i64.wrap ((Q1 : Int) + 8) = (Q1 : Int) + 8 := IntWalk.i64_in _ (by omega)
  have d1 : decide ((Q1 : Int) + 8 < (L : Int)) = true := decide_eq_true (by omega)
  have e1 : ((Q1 : Int) + 8 < (L : Int)) := by omega
  clear hr hf HS hA hL' ha hQ1 h3 hL
  go_enter Try.func9, Try.ntmps9
  go_wp2_with fail
  refine (KS.out _).mono ?_
  rintro e w1 ⟨rfl, hb1⟩
  go_wp2_with fail
  refine (HR.out _).mono ?_
  rintro e w2 ⟨rfl, hb2⟩
  go_wp2_with fail
  go_quiet ((go_at_call 29; exact Calls.quiet_of_same ((KL.out _).mono fun _ _ h => ⟨h.1, h.2.symm⟩)))
  have hb3 : Below w2.heap.size w2 (w2.drewN nq) := below_drewN (Below.refl _ _) nq
  generalize w2.drewN nq = w3 at *
  clear nq
  go_wp2_with fail
  refine (awake_c _).mono ?_
  rintro e w4 ⟨rfl, hb4⟩
  go_wp2_with fail
  go_ret
  exact ⟨rfl, below_chain hb1 (below_chain hb2 (below_chain hb3 hb4))⟩
theorem pow_far_no {a : Nat} {n : Nat} {Q1 : Nat} (hf : fits a) (h1 : 0 < n) (hQ1 : Q1 = 131072 / n) (h3 : Q1 + 8 < nd 2 a) : ¬ fits (a ^ n) := by
  refine pow_big (by omega) ?_
  have h4 : (Q1 + 8) * n ≤ (nd 2 a - 1) * n := Nat.mul_le_mul_right _ (by omega)
  have h5 := Nat.div_add_mod 131072 n
  have h6 := Nat.mod_lt 131072 h1
  rw [← hQ1, Nat.mul_comm] at h5
  rw [Nat.add_mul] at h4
  omega
theorem NatPow_law (s : ByteArray) (n : Int) (hs : s.size ≤ maxLen) (hn : -9223372036854775808 ≤ n ∧ n ≤ 9223372036854775807) (w : World) :
    Calls Try.prog 9 #[.string s, .int .i64 n] w fun e w' => e = .returned (.bool true) ∧ Below w.heap.size w w' := by
  unfold maxLen at hs
  by_cases hm : May s
  · obtain ⟨a, ha, rfl⟩ := may_num hm
    by_cases h0 : n < 0
    · exact pow_go1 a ⟨#[]⟩ 2 n ha w (fun w => NPow_neg a n w ha h0) (fun w => rPow_neg _ n w h0) (Or.inl (by omega))
    · obtain ⟨j, rfl⟩ : ∃ j : Nat, n = (j : Int) := ⟨n.toNat, by omega⟩
      by_cases hz : j = 0
      · subst hz
        exact pow_go1 a (natS 1) 0 0 ha w (fun w => NPow_zero a w ha) (fun w => rPow_zero _ w) (Or.inl (by omega))
      · have KS := fun w => Pow_all a j w ha (by omega)
        by_cases ha0 : a = 0
        · subst ha0
          rw [Nat.zero_pow (by omega), resS_ok ha, resE_ok ha] at KS
          by_cases hj : j ≤ 131072
          · exact pow_go1 0 _ _ _ ha w KS (fun w => rPow_empty _ w h0 (by omega)) (Or.inr (Or.inr ⟨by omega, by omega, rfl⟩))
          · exact pow_go1 0 _ _ _ ha w KS (fun w => rPow_empty _ w h0 (by omega)) (Or.inr (Or.inl ⟨by omega, by omega⟩))
        · have KT : ∀ w, Calls Try.prog 48 #[.string (natS a), .int .i64 (j : Nat)] w (StrPost (resS (a ^ j)) (resE (a ^ j)) w) := fun w => by
            by_cases ha1 : a = 1
            · subst ha1
              rw [Nat.one_pow, resS_ok ha, resE_ok ha]
              exact rPow_one _ w h0
            · by_cases hj : j ≤ 131072
              · exact rPow_c a j w ha ha0 ha1 hz hj
              · have h2 : 2 ≤ nd 2 a := (pow_le_iff (b := 2) (by omega) 1 a).1 (by omega)
                have h3 : 131072 ≤ (nd 2 a - 1) * j := by
                  have : 1 * j ≤ (nd 2 a - 1) * j := Nat.mul_le_mul_right _ (by omega)
                  omega
                have hno := pow_big h2 h3
                rw [resS_no hno, resE_no hno]
                exact rPow_long a _ w ha0 ha1 (by omega)
          by_cases hj : j ≤ 131072
          · have e1 : (((131072 / j : Nat) : Nat) : Int) = 131072 / (j : Int) := by rw [Int.natCast_ediv]; rfl
            have e2 : (((9600 / j : Nat) : Nat) : Int) = 9600 / (j : Int) := by rw [Int.natCast_ediv]; rfl
            by_cases h3 : 131072 / j + 8 < nd 2 a
            · have hno := pow_far_no ha (by omega) rfl h3
              rw [resS_no hno, resE_no hno] at KS
              exact pow_far a _ _ ha ha0 w KS (by omega) (by omega) e1 h3
            · by_cases h4 : 9600 / j + 1 < nd 2 a
              · have ha1 : a ≠ 1 := fun c => by
                  subst c
                  have h5 : nd 2 1 = 1 := by rw [nd_step (by omega) (by omega), show 1 / 2 = 0 by rfl, nd_zero]
                  rw [h5] at h4
                  exact absurd (Nat.lt_of_succ_lt_succ h4) (Nat.not_lt_zero _)
                exact pow_skip a _ _ _ _ _ ha ha0 ha1 w KS (by omega) (by omega) e1 e2 h3 h4
              · exact pow_go2 a _ _ _ _ _ ha ha0 w KS KT (by omega) (by omega) e1 e2 h3 h4
          · exact pow_go1 a _ _ _ ha w KS KT (Or.inr (Or.inl ⟨by omega, by omega⟩))
  · exact pow_no s n hs hm w
end Go.Proofs.Ytjcicbnjoffbhaa
