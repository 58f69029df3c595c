/- The law NatOne. -/
import Derived.Test.YtjcicbnjoffbhaaN40
import Derived.Test.YtjcicbnjoffbhaaN41of
import Derived.Test.YtjcicbnjoffbhaaN26
set_option linter.unusedSimpArgs false
set_option linter.unusedVariables false
namespace Go.Proofs.Ytjcicbnjoffbhaa
open Go Go.RowKit Nt

theorem refused1 (s : ByteArray) (hz : s.size ≤ 9223372036854775807) (w : World) :
    Calls Try.prog 22 #[.slice (some ⟨w.heap.size, 0, none⟩) 1 1] (w.alloc (.cells #[.string s] 22)) (fun e w' => e = .returned (.bool (refB [s])) ∧ Below w.heap.size w w') := by
  refine (refused_c (some ⟨w.heap.size, 0, none⟩) 1 [s] (w.alloc (.cells ([s].map Value.string).toArray 22)) (by simp) (by simpa using hz) (strs_new w 22 [s])).mono ?_
  rintro e w' ⟨rfl, rfl⟩
  exact ⟨rfl, (Below.refl _ _).alloc (Nat.le_refl _) _⟩
set_option maxRecDepth 1000000 in
set_option maxHeartbeats 1000000 in
theorem one_no (s : ByteArray) (m : Nat) (i : Int) (hz : s.size ≤ 9223372036854775807) (hm : m < 18446744073709551616) (hs : ¬ May s) (w : World) :
    Calls Try.prog 3 #[.string s, .int .u64 (m : Nat), .int .i64 i] w fun e w' => e = .returned (.bool true) ∧ Below w.heap.size w w' := by
  have hr := fun w => refused1 s hz w
  rw [refB_yes (s := s) (by simp) hs] at hr
  have hc := fun w => Check_c s w
  rw [may1_no hs] at hc
  have KR := Lib.hid hr
  have KC := Lib.hid hc
  have KS := Lib.hid (fun w => Small_no s w hs)
  have KT := Lib.hid (fun w => rSmall_no s w hz hs)
  have KO := Lib.hid (fun w => Of_n m w hm)
  have KP := Lib.hid (fun w => rOf_c m w hm)
  have KL := Lib.hid (fun w => NLen_no s w hs)
  have KW := Lib.hid (fun w => NLow_no s w hs)
  have KB := Lib.hid (fun w => NBit_no s i w hs)
  clear hr hc hs hz hm
  go_enter Try.func3, Try.ntmps3
  go_wp2_with fail
  refine (KS.out _).mono ?_
  rintro e w1 ⟨rfl, hb1⟩
  go_wp2_with fail
  refine (KT.out _).mono ?_
  rintro e w2 ⟨rfl, rfl⟩
  go_wp2_with fail
  refine (KC.out _).mono ?_
  rintro e w3 ⟨rfl, hb3⟩
  go_wp2_with fail
  refine (KR.out _).mono ?_
  rintro e w4 ⟨rfl, hb4⟩
  go_wp2_with fail
  refine (KR.out _).mono ?_
  rintro e w5 ⟨rfl, hb5⟩
  go_wp2_with fail
  refine (KC.out _).mono ?_
  rintro e w6 ⟨rfl, hb6⟩
  go_wp2_with fail
  refine (KO.out _).mono ?_
  rintro e w7 ⟨rfl, hb7⟩
  go_wp2_with fail
  refine (KP.out _).mono ?_
  rintro e w8 ⟨rfl, hb8⟩
  go_wp2_with fail
  refine (KL.out _).mono ?_
  rintro e w9 ⟨rfl, hb9⟩
  go_wp2_with fail
  refine (KW.out _).mono ?_
  rintro e w10 ⟨rfl, hb10⟩
  go_wp2_with fail
  refine (KB.out _).mono ?_
  rintro e w11 ⟨rfl, hb11⟩
  go_wp2_with fail
  refine (KR.out _).mono ?_
  rintro e w12 ⟨rfl, hb12⟩
  go_wp2_with fail
  refine (awake_c _).mono ?_
  rintro e w13 ⟨rfl, hb13⟩
  go_wp2_with fail
  go_ret
  exact ⟨rfl, below_chain hb1 (below_chain hb3 (below_chain hb4 (below_chain hb5 (below_chain hb6 (below_chain hb7 (below_chain hb8 (below_chain hb9 (below_chain hb10 (below_chain hb11 (below_chain hb12 hb13))))))))))⟩
set_option maxRecDepth 1000000 in
set_option maxHeartbeats 1000000 in
theorem one_yes (a m l b r : Nat) (g i : Int) (hz : (natS a).size ≤ 9223372036854775807) (hm : m < 18446744073709551616) (ha : fits a) (hl : IsLow a l) (w : World) (hb8 : b < 256)
    (HB : ∀ w, Calls Try.prog 27 #[.string (natS a), .int .i64 i] w (BitPost b g w))
    (hi : (i < 0 ∧ b = 0 ∧ g = 2) ∨ (¬ i < 0 ∧ g = 0 ∧ ∀ w, Calls Try.prog 31 #[.string (natS a), .int .i64 i] w fun e w' => e = .returned (.int .i64 (b : Nat)) ∧ w = w')) :
    Calls Try.prog 3 #[.string (natS a), .int .u64 (m : Nat), .int .i64 i] w fun e w' => e = .returned (.bool true) ∧ Below w.heap.size w w' := by
  have hr := fun w => refused1 (natS a) hz w
  rw [refB_no (ss := [natS a]) (by simpa using (may_natS a).2 ha)] at hr
  have hc := fun w => Check_c (natS a) w
  rw [may1 ha] at hc
  have KR := Lib.hid hr
  have KC := Lib.hid hc
  have KS := Lib.hid (fun w => Small_c a w ha)
  have KT := Lib.hid (fun w => rSmall_c a w ha hz)
  have KO := Lib.hid (fun w => Of_n m w hm)
  have KP := Lib.hid (fun w => rOf_c m w hm)
  have KL := Lib.hid (fun w => NLen_c a w ha)
  have KM := Lib.hid (fun w => rLen_c a w ha)
  have KW := Lib.hid (fun w => NLow_c a l w ha hl)
  have KX := Lib.hid (fun w => rLow_c a l w ha hl)
  have KB := Lib.hid HB
  clear hr hc hz hm HB hl ha
  rcases hi with ⟨hi, rfl, rfl⟩ | ⟨hi, rfl, hB⟩
  case' inr =>
    have KC2 := Lib.hid hB
    clear hB
  all_goals
    go_enter Try.func3, Try.ntmps3
    go_wp2_with fail
    refine (KS.out _).mono ?_
    rintro e w1 ⟨rfl, hb1⟩
    go_wp2_with fail
    refine (KT.out _).mono ?_
    rintro e w2 ⟨rfl, rfl⟩
    go_wp2_with fail
    refine (KC.out _).mono ?_
    rintro e w3 ⟨rfl, hb3⟩
    go_wp2_with fail
    refine (KR.out _).mono ?_
    rintro e w4 ⟨rfl, hb4⟩
    go_wp2_with fail
    refine (KR.out _).mono ?_
    rintro e w5 ⟨rfl, hb5⟩
    go_wp2_with fail
    refine (KO.out _).mono ?_
    rintro e w7 ⟨rfl, hb7⟩
    go_wp2_with fail
    refine (KP.out _).mono ?_
    rintro e w8 ⟨rfl, hb8⟩
    go_wp2_with fail
    refine (KL.out _).mono ?_
    rintro e w9 ⟨rfl, hb9⟩
    go_wp2_with fail
    refine (KW.out _).mono ?_
    rintro e w10 ⟨rfl, hb10⟩
    go_wp2_with fail
    refine (KB.out _).mono ?_
    rintro e w11 ⟨rfl, hb11⟩
    go_wp2_with fail
    refine (KR.out _).mono ?_
    rintro e w12 ⟨rfl, hb12⟩
    go_wp2_with fail
    refine (KM.out _).mono ?_
    rintro e w14 ⟨rfl, rfl⟩
    go_wp2_with fail
    refine (KX.out _).mono ?_
    rintro e w15 ⟨rfl, rfl⟩
    go_wp2_with fail
    try (refine (KC2.out _).mono ?_; rintro e w16 ⟨rfl, rfl⟩; go_wp2_with fail)
    refine (awake_c _).mono ?_
    rintro e w13 ⟨rfl, hb13⟩
    go_wp2_with fail
    go_ret
    exact ⟨rfl, below_chain hb1 (below_chain hb3 (below_chain hb4 (below_chain hb5 (below_chain hb7 (below_chain hb8 (below_chain hb9 (below_chain hb10 (below_chain hb11 (below_chain hb12 hb13)))))))))⟩
theorem NatOne_law (s : ByteArray) (m : Nat) (i : Int) (hs : s.size ≤ maxLen) (hm : m < 18446744073709551616) (hi : -9223372036854775808 ≤ i ∧ i ≤ 9223372036854775807) (w : World) :
    Calls Try.prog 3 #[.string s, .int .u64 (m : Nat), .int .i64 i] w fun e w' => e = .returned (.bool true) ∧ Below w.heap.size w w' := by
  unfold maxLen at hs
  by_cases hMay : May s
  · obtain ⟨a, ha, rfl⟩ := may_num hMay
    obtain ⟨l, hl⟩ := low_ex a
    by_cases h0 : i < 0
    · exact one_yes a m l 0 0 2 i hs hm ha hl w (by omega) (fun w => NBit_neg a i w ha h0) (Or.inl ⟨h0, rfl, rfl⟩)
    · obtain ⟨j, rfl⟩ : ∃ j : Nat, i = (j : Int) := ⟨i.natAbs, by omega⟩
      have hd := dgt_lt (b := 2) (by omega) a j
      exact one_yes a m l (dgt 2 a j) 0 0 j hs hm ha hl w (by omega) (fun w => NBit_c a j w ha (by omega)) (Or.inr ⟨h0, rfl, fun w => rBit_c a j w ha (by omega)⟩)
  · exact one_no s m i hs hm hMay w
end Go.Proofs.Ytjcicbnjoffbhaa
