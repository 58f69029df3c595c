/- The law NatDiv. -/
import Derived.Test.YtjcicbnjoffbhaaN62
import Derived.Test.YtjcicbnjoffbhaaN47
set_option linter.unusedSimpArgs false
set_option linter.unusedVariables false
namespace Go.Proofs.Ytjcicbnjoffbhaa
open Go Go.RowKit Nt

set_option maxRecDepth 100000 in
theorem NDiv_zero (a : Nat) (w : World) (ha : fits a) :
    Calls Try.prog 43 #[.string (natS a), .string ⟨#[]⟩] w (Str2Post ⟨#[]⟩ ⟨#[]⟩ 21 w) := by
  have hm : _ := may2 ha (show fits 0 by unfold fits; rw [nd_zero]; omega)
  rw [natS_zero] at hm
  go_enter Try.func43, Try.ntmps43
  go_wp2_with (first | (go_at_call 60; refine (all_c _ 2 [natS a, ⟨#[]⟩] _ (by simp) (strs_new w 22 [natS a, ⟨#[]⟩])).mono ?_; rintro e w' ⟨rfl, rfl⟩))
  have hfin : Below w.heap.size w (w.alloc (.cells #[.string (natS a), .string ⟨#[]⟩] 22)) := (Below.refl _ _).alloc (Nat.le_refl _) _
  first
    | (go_ret3; exact ⟨rfl, hfin⟩)
    | exact bodyPost_ret (v := .tuple #[.string ⟨#[]⟩, .string ⟨#[]⟩, .int .i64 21]) (by simp [results, Try.results43, go_sem]) rfl ⟨rfl, hfin⟩
set_option maxRecDepth 100000 in
set_option maxHeartbeats 1000000 in
theorem NatDiv_law (s t : ByteArray) (hs : s.size ≤ maxLen) (ht : t.size ≤ maxLen) (w : World) :
    Calls Try.prog 7 #[.string s, .string t] w fun e w' => e = .returned (.bool true) ∧ Below w.heap.size w w' := by
  unfold maxLen at hs ht
  have hr := fun w => refused2 s t hs ht w
  by_cases hm : May s ∧ May t
  · rw [refB2_no hm.1 hm.2] at hr
    obtain ⟨a, ha, rfl⟩ := may_num hm.1
    obtain ⟨b, hb, rfl⟩ := may_num hm.2
    have hsa := natS_size a
    have hsb := natS_size b
    have HRF := Lib.hid hr
    by_cases hb0 : b = 0
    · subst hb0
      have KM := Lib.hid (fun w => NDiv_zero a w ha)
      have KR := Lib.hid (fun w => rDiv_zero a w)
      rw [natS_zero] at HRF ⊢
      have hA : nd 256 a ≤ 16384 := ha
      obtain ⟨A, hA2⟩ : ∃ A, A = nd 256 a := ⟨_, rfl⟩
      rw [← hA2] at hsa hA
      clear hr hm hs ht hsb hA2
      by_cases h1 : 1200 < A
      all_goals
        have h1' : decide ((1200 : Int) < (A : Int)) = decide (1200 < A) := by
          rw [Bool.eq_iff_iff, decide_eq_true_iff, decide_eq_true_iff]; omega
        clear h1'
        go_enter Try.func7, Try.ntmps7
        go_wp2_with fail
        refine (KM.out _).mono ?_
        rintro e w1 ⟨rfl, hb1⟩
        go_wp2_with fail
        refine (HRF.out _).mono ?_
        rintro e w2 ⟨rfl, hb2⟩
        go_wp2_with fail
        refine (KR.out _).mono ?_
        rintro e w3 ⟨rfl, hb3⟩
        go_wp2_with fail
        refine (awake_c _).mono ?_
        rintro e w4 ⟨rfl, hb4⟩
        go_wp2_with fail
        go_ret
        exact ⟨rfl, below_chain hb1 (below_chain hb2 (below_chain hb3 hb4))⟩
    · have KM := Lib.hid (fun w => NDiv_c a b w ha hb hb0)
      have hE := natS_full hb0
      have hE2 := natS_full2 hb0
      unfold fits at ha hb
      obtain ⟨A, hA⟩ : ∃ A, A = nd 256 a := ⟨_, rfl⟩
      obtain ⟨B, hB⟩ : ∃ B, B = nd 256 b := ⟨_, rfl⟩
      have HA := Lib.hid hA
      have HB := Lib.hid hB
      rw [← hA] at hsa ha
      rw [← hB] at hsb hb
      obtain ⟨Z, hZ⟩ : ∃ Z, Z = A + B := ⟨_, rfl⟩
      have hZI : (A : Int) + (B : Int) = (Z : Int) := by omega
      have HB0 := Lib.hid hb0
      have HZ := Lib.hid hZ
      clear hr hm hs ht hA hB hZ hb0
      by_cases h1 : 1200 < Z
      · go_enter Try.func7, Try.ntmps7
        go_wp2_with fail
        refine (KM.out _).mono ?_
        rintro e w1 ⟨rfl, hb1⟩
        go_wp2_with fail
        refine (HRF.out _).mono ?_
        rintro e w2 ⟨rfl, hb2⟩
        go_wp2_with fail
        refine (awake_c _).mono ?_
        rintro e w4 ⟨rfl, hb4⟩
        go_wp2_with fail
        go_ret
        exact ⟨rfl, below_chain hb1 (below_chain hb2 hb4)⟩
      · have KR := Lib.hid (fun w => rDiv_c a b w HB0.out (by have := HZ.out; have := HA.out; omega) (by have := HZ.out; have := HB.out; omega))
        have h1' : ¬ (1200 : Int) < (Z : Int) := by omega
        go_enter Try.func7, Try.ntmps7
        go_wp2_with fail
        refine (KM.out _).mono ?_
        rintro e w1 ⟨rfl, hb1⟩
        go_wp2_with fail
        refine (HRF.out _).mono ?_
        rintro e w2 ⟨rfl, hb2⟩
        go_wp2_with fail
        refine (KR.out _).mono ?_
        rintro e w3 ⟨rfl, hb3⟩
        go_wp2_with fail
        refine (awake_c _).mono ?_
        rintro e w4 ⟨rfl, hb4⟩
        go_wp2_with fail
        go_ret
        exact ⟨rfl, below_chain hb1 (below_chain hb2 (below_chain hb3 hb4))⟩
  · rw [refB2_yes hm] at hr
    have KM := Lib.hid (fun w => NDiv_no s t w hm)
    have HRF := Lib.hid hr
    clear hr hm hs ht
    go_enter Try.func7, Try.ntmps7
    go_wp2_with fail
    refine (KM.out _).mono ?_
    rintro e w1 ⟨rfl, hb1⟩
    go_wp2_with fail
    refine (HRF.out _).mono ?_
    rintro e w2 ⟨rfl, hb2⟩
    go_wp2_with fail
    refine (awake_c _).mono ?_
    rintro e w4 ⟨rfl, hb4⟩
    go_wp2_with fail
    go_ret
    exact ⟨rfl, below_chain hb1 (below_chain hb2 hb4)⟩
end Go.Proofs.Ytjcicbnjoffbhaa
