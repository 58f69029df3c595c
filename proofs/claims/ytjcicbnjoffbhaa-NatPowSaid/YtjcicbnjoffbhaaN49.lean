/- The law NatShift. -/
import Derived.Test.YtjcicbnjoffbhaaN47
import Derived.Test.YtjcicbnjoffbhaaN48
import Derived.Test.YtjcicbnjoffbhaaN35
set_option linter.unusedSimpArgs false
set_option linter.unusedVariables false
namespace Go.Proofs.Ytjcicbnjoffbhaa
open Go Go.RowKit Nt

theorem refused1' (s : ByteArray) (hz : s.size ≤ 9223372036854775807) (w : World) :
    Calls Try.prog 22 #[.slice (some ⟨w.heap.size, 0, none⟩) 1 1] (w.alloc (.cells #[.string s] 22)) (fun e w' => e = .returned (.bool (refB [s])) ∧ Below w.heap.size w w') := by
  refine (refused_c (some ⟨w.heap.size, 0, none⟩) 1 [s] (w.alloc (.cells ([s].map Value.string).toArray 22)) (by simp) (by simpa using hz) (strs_new w 22 [s])).mono ?_
  rintro e w' ⟨rfl, rfl⟩
  exact ⟨rfl, (Below.refl _ _).alloc (Nat.le_refl _) _⟩
set_option maxRecDepth 100000 in
set_option maxHeartbeats 2000000 in
theorem shift_no (S : ByteArray) (n : Int) (A : Nat) (hA : S.size = A) (hA2 : A ≤ 9223372036854775807) (hm : ¬ May S) (w : World) :
    Calls Try.prog 8 #[.string S, .int .i64 n] w fun e w' => e = .returned (.bool true) ∧ Below w.heap.size w w' := by
  have hr := fun w => refused1' S (by omega) w
  rw [refB_yes (s := S) (by simp) hm] at hr
  have HR := Lib.hid hr
  have HS := Lib.hid (fun w => NShift_no S n w hm)
  have hc : (1200 < A ∧ 0 < n ∧ n ≤ 131072) ∨ (1200 < A ∧ 0 < n ∧ ¬ n ≤ 131072) ∨ (1200 < A ∧ ¬ 0 < n) ∨ (¬ 1200 < A) := by omega
  clear hr hm hA2
  rcases hc with ⟨h1, h2, h3⟩ | hc
  · go_enter Try.func8, Try.ntmps8
    go_wp2_with fail
    refine (awake_c _).mono ?_
    rintro e w1 ⟨rfl, hb1⟩
    go_wp2_with fail
    go_ret
    exact ⟨rfl, hb1⟩
  · rcases hc with ⟨h1, h2, h3⟩ | ⟨h1, h2⟩ | h1
    all_goals
      go_enter Try.func8, Try.ntmps8
      go_wp2_with fail
      refine (HS.out _).mono ?_
      rintro e w1 ⟨rfl, hb1⟩
      go_wp2_with fail
      refine (HR.out _).mono ?_
      rintro e w2 ⟨rfl, hb2⟩
      go_wp2_with fail
      refine (awake_c _).mono ?_
      rintro e w3 ⟨rfl, hb3⟩
      go_wp2_with fail
      go_ret
      exact ⟨rfl, below_chain hb1 (below_chain hb2 hb3)⟩
set_option maxRecDepth 100000 in
set_option maxHeartbeats 2000000 in
theorem shift_yes (S s : ByteArray) (r n : Int) (A : Nat) (hA : S.size = A) (hA2 : A ≤ 16384) (hm : May S) (w : World)
    (HS : ∀ w, Calls Try.prog 45 #[.string S, .int .i64 n] w (StrPost s r w))
    (HT : ∀ w, Calls Try.prog 46 #[.string S, .int .i64 n] w (StrPost s r w)) :
    Calls Try.prog 8 #[.string S, .int .i64 n] w fun e w' => e = .returned (.bool true) ∧ Below w.heap.size w w' := by
  have hr := fun w => refused1' S (by omega) w
  rw [refB_no (ss := [S]) (by simpa using hm)] at hr
  have HR := Lib.hid hr
  have KS := Lib.hid HS
  have KT := Lib.hid HT
  have KI := Lib.hid (fun w => is_c s r w)
  clear hr hm HS HT
  by_cases h0 : 0 < n
  · obtain ⟨q, hq⟩ : ∃ q : Nat, (q : Int) = n / 8 := ⟨(n / 8).toNat, by omega⟩
    obtain ⟨Z, hZ⟩ : ∃ Z, Z = A + q := ⟨_, rfl⟩
    by_cases h131 : (131072 : Int) < n
    · have h3 : ¬ n ≤ 131072 := by omega
      have h4 : ¬ n < 131072 := by omega
      clear hq hZ hA2
      by_cases h1 : 1200 < A
      all_goals
        go_enter Try.func8, Try.ntmps8
        go_wp2_with fail
        refine (KS.out _).mono ?_
        rintro e w1 ⟨rfl, hb1⟩
        go_wp2_with fail
        refine (HR.out _).mono ?_
        rintro e w2 ⟨rfl, hb2⟩
        go_wp2_with fail
        refine (KT.out _).mono ?_
        rintro e w3 ⟨rfl, hb3⟩
        go_wp2_with fail
        refine (KI.out _).mono ?_
        rintro e w4 ⟨rfl, rfl⟩
        go_wp2_with fail
        refine (awake_c _).mono ?_
        rintro e w5 ⟨rfl, hb5⟩
        go_wp2_with fail
        go_ret
        exact ⟨rfl, below_chain hb1 (below_chain hb2 (below_chain hb3 hb5))⟩
    · have h3 : n ≤ 131072 := by omega
      by_cases h1 : 1200 < A
      · clear hq hZ hA2
        go_enter Try.func8, Try.ntmps8
        go_wp2_with fail
        refine (awake_c _).mono ?_
        rintro e w1 ⟨rfl, hb1⟩
        go_wp2_with fail
        go_ret
        exact ⟨rfl, hb1⟩
      · by_cases h5 : n < 131072
        · have hqI : n.tdiv 8 = (q : Int) := by rw [Int.tdiv_eq_ediv_of_nonneg (by omega)]; omega
          have hqJ : n / 8 = (q : Int) := by omega
          have hZI : (A : Int) + (q : Int) = (Z : Int) := by omega
          have hq2 : q ≤ 20000 := by omega
          have hA3 : A ≤ 1200 := by omega
          clear hq hA2 h131
          by_cases h6 : 2400 < (Z : Int)
          · by_cases h7 : (Z : Int) < 16383
            · clear hZ
              go_enter Try.func8, Try.ntmps8
              go_wp2_with fail
              refine (KS.out _).mono ?_
              rintro e w1 ⟨rfl, hb1⟩
              go_wp2_with fail
              refine (HR.out _).mono ?_
              rintro e w2 ⟨rfl, hb2⟩
              go_wp2_with fail
              refine (awake_c _).mono ?_
              rintro e w3 ⟨rfl, hb3⟩
              go_wp2_with fail
              go_ret
              exact ⟨rfl, below_chain hb1 (below_chain hb2 hb3)⟩
            · clear hZ
              go_enter Try.func8, Try.ntmps8
              go_wp2_with fail
              refine (KS.out _).mono ?_
              rintro e w1 ⟨rfl, hb1⟩
              go_wp2_with fail
              refine (HR.out _).mono ?_
              rintro e w2 ⟨rfl, hb2⟩
              go_wp2_with fail
              refine (KT.out _).mono ?_
              rintro e w3 ⟨rfl, hb3⟩
              go_wp2_with fail
              refine (KI.out _).mono ?_
              rintro e w4 ⟨rfl, rfl⟩
              go_wp2_with fail
              refine (awake_c _).mono ?_
              rintro e w5 ⟨rfl, hb5⟩
              go_wp2_with fail
              go_ret
              exact ⟨rfl, below_chain hb1 (below_chain hb2 (below_chain hb3 hb5))⟩
          · clear hZ
            go_enter Try.func8, Try.ntmps8
            go_wp2_with fail
            refine (KS.out _).mono ?_
            rintro e w1 ⟨rfl, hb1⟩
            go_wp2_with fail
            refine (HR.out _).mono ?_
            rintro e w2 ⟨rfl, hb2⟩
            go_wp2_with fail
            refine (KT.out _).mono ?_
            rintro e w3 ⟨rfl, hb3⟩
            go_wp2_with fail
            refine (KI.out _).mono ?_
            rintro e w4 ⟨rfl, rfl⟩
            go_wp2_with fail
            refine (awake_c _).mono ?_
            rintro e w5 ⟨rfl, hb5⟩
            go_wp2_with fail
            go_ret
            exact ⟨rfl, below_chain hb1 (below_chain hb2 (below_chain hb3 hb5))⟩
        · clear hq hZ hA2 h131
          go_enter Try.func8, Try.ntmps8
          go_wp2_with fail
          refine (KS.out _).mono ?_
          rintro e w1 ⟨rfl, hb1⟩
          go_wp2_with fail
          refine (HR.out _).mono ?_
          rintro e w2 ⟨rfl, hb2⟩
          go_wp2_with fail
          refine (KT.out _).mono ?_
          rintro e w3 ⟨rfl, hb3⟩
          go_wp2_with fail
          refine (KI.out _).mono ?_
          rintro e w4 ⟨rfl, rfl⟩
          go_wp2_with fail
          refine (awake_c _).mono ?_
          rintro e w5 ⟨rfl, hb5⟩
          go_wp2_with fail
          go_ret
          exact ⟨rfl, below_chain hb1 (below_chain hb2 (below_chain hb3 hb5))⟩
  · clear hA2
    by_cases h1 : 1200 < A
    all_goals
      go_enter Try.func8, Try.ntmps8
      go_wp2_with fail
      refine (KS.out _).mono ?_
      rintro e w1 ⟨rfl, hb1⟩
      go_wp2_with fail
      refine (HR.out _).mono ?_
      rintro e w2 ⟨rfl, hb2⟩
      go_wp2_with fail
      refine (KT.out _).mono ?_
      rintro e w3 ⟨rfl, hb3⟩
      go_wp2_with fail
      refine (KI.out _).mono ?_
      rintro e w4 ⟨rfl, rfl⟩
      go_wp2_with fail
      refine (awake_c _).mono ?_
      rintro e w5 ⟨rfl, hb5⟩
      go_wp2_with fail
      go_ret
      exact ⟨rfl, below_chain hb1 (below_chain hb2 (below_chain hb3 hb5))⟩
theorem NatShift_law (s : ByteArray) (n : Int) (hs : s.size ≤ maxLen) (hn : -9223372036854775808 ≤ n ∧ n ≤ 9223372036854775807) (w : World) :
    Calls Try.prog 8 #[.string s, .int .i64 n] w fun e w' => e = .returned (.bool true) ∧ Below w.heap.size w w' := by
  unfold maxLen at hs
  by_cases hm : May s
  · obtain ⟨a, ha, rfl⟩ := may_num hm
    have hA2 : nd 256 a ≤ 16384 := ha
    by_cases h0 : 0 ≤ n
    · obtain ⟨j, rfl⟩ : ∃ j : Nat, n = (j : Int) := ⟨n.toNat, by omega⟩
      refine shift_yes _ (resS (a * 2 ^ j)) (resE (a * 2 ^ j)) j _ (natS_size a) hA2 hm w (fun w => Shift_all a j w ha (by omega)) (fun w => ?_)
      by_cases h : a = 0 ∨ j = 0
      · have e : a * 2 ^ j = a := by
          rcases h with rfl | rfl
          · exact Nat.zero_mul _
          · rw [Nat.pow_zero, Nat.mul_one]
        rw [e, resS_ok ha, resE_ok ha]
        exact rShift_same a _ w (by omega)
      · exact rShift_up a j w (by omega) (by omega) ha
    · obtain ⟨j, rfl⟩ : ∃ j : Nat, n = -(j : Int) := ⟨(-n).toNat, by omega⟩
      exact shift_yes _ (natS (a / 2 ^ j)) 0 _ _ (natS_size a) hA2 hm w (fun w => Shift_neg a j w ha) (fun w => rShift_neg a j w ha)
  · exact shift_no s n _ rfl hs hm w
end Go.Proofs.Ytjcicbnjoffbhaa
